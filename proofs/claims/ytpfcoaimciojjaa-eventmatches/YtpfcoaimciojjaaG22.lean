/-
  Plain facts on matches and items: there and back. Decode of a match, walked.
  Plain facts: how the document's DecodeMatch reads stages by their places in the list, and what matchOf's plain twin says of it.
  The document's answer for names (Named) is the plain function's.
-/
import Derived.Test.YtpfcoaimciojjaaG20
import Derived.Test.YtpfcoaimciojjaaG21
import Derived.Test.YtpfcoaimciojjaaG19
import Derived.Test.YtpfcoaimciojjaaG02
namespace Go.Proofs.Ytpfcoaimciojjaa
open Go.RowKit

theorem nu_of {y : It} (hm : y.may = true) (ht : y.t = false) : y = nu y.n := by
  obtain ⟨t, n, s⟩ := y
  dsimp only at ht
  subst ht
  unfold It.may mayB at hm
  rw [if_neg (by simp)] at hm
  have hs : s = ⟨#[]⟩ := by
    have e : s.data.toList = [] := by rw [← ByteArray.toList_eq]; simpa using hm
    rw [← ba_eta s, e]
  rw [hs]; rfl
theorem tx_of {y : It} (hm : y.may = true) (ht : y.t = true) : y = tx y.s := by
  obtain ⟨t, n, s⟩ := y
  dsimp only at ht
  subst ht
  unfold It.may mayB at hm
  rw [if_pos rfl] at hm
  have hn : n = 0 := by simpa using hm
  rw [hn]; rfl
theorem nupB_parts {y : It} {m : Int} (h : nupB y m = true) : y.t = false ∧ 0 ≤ y.n ∧ y.n ≤ m := by
  unfold nupB at h
  simp only [Bool.and_eq_true, decide_eq_true_eq, Bool.not_eq_true'] at h
  exact ⟨h.1.1, h.1.2, h.2⟩
theorem rdS_inv {l : List It} {p : List Int} {rest : List It} (hm : ∀ y ∈ l, y.may = true) (h : rdS l = some (p, rest)) : l = stL p ++ rest := by
  cases l with
  | nil => cases h
  | cons x r =>
    rw [rdS] at h
    split at h
    · rename_i hx
      split at h
      · rename_i hall
        simp only [Option.some.injEq, Prod.mk.injEq] at h
        obtain ⟨rfl, rfl⟩ := h
        obtain ⟨xt, x0, x1⟩ := nupB_parts hx
        have e1 : x = nu x.n := nu_of (hm x List.mem_cons_self) xt
        have hlen : ((r.take x.n.toNat).map It.n).length = x.n.toNat := by rw [List.length_map, List.length_take]; omega
        have e2 : ((r.take x.n.toNat).map It.n).map nu = r.take x.n.toNat := by
          rw [List.map_map]
          have : ∀ y ∈ r.take x.n.toNat, (nu ∘ It.n) y = y := fun y hy => by
            have hy' := List.mem_of_mem_take hy
            exact (nu_of (hm y (List.mem_cons_of_mem _ hy')) (nupB_parts (List.all_eq_true.1 hall y hy)).1).symm
          exact (List.map_congr_left this).trans (List.map_id _)
        unfold stL
        rw [hlen, e2, List.cons_append, List.take_append_drop, Int.toNat_of_nonneg x0, ← e1]
      · cases h
    · cases h
theorem rdSs_inv : ∀ (n : Nat) (l : List It) (ss : List (List Int)) (rest : List It), (∀ y ∈ l, y.may = true) → rdSs n l = some (ss, rest) → l = ss.flatMap stL ++ rest ∧ ss.length = n
  | 0, l, ss, rest, _, h => by
    simp only [rdSs, Option.some.injEq, Prod.mk.injEq] at h
    obtain ⟨rfl, rfl⟩ := h
    exact ⟨rfl, rfl⟩
  | n + 1, l, ss, rest, hm, h => by
    rw [rdSs] at h
    cases hs : rdS l with
    | none => rw [hs] at h; cases h
    | some q =>
      rw [hs] at h
      simp only [Option.bind_some] at h
      obtain ⟨p, r1⟩ := q
      have hl := rdS_inv hm hs
      dsimp only at h
      cases h2 : rdSs n r1 with
      | none => rw [h2] at h; cases h
      | some z =>
        rw [h2] at h
        simp only [Option.bind_some, Option.some.injEq, Prod.mk.injEq] at h
        obtain ⟨rfl, rfl⟩ := h
        obtain ⟨zs, zr⟩ := z
        obtain ⟨e1, e2⟩ := rdSs_inv n r1 zs zr (fun y hy => hm y (by rw [hl]; exact List.mem_append_right _ hy)) h2
        refine ⟨?_, by rw [List.length_cons, e2]⟩
        rw [hl, e1, List.flatMap_cons, List.append_assoc]
theorem mtOf_inv {l : List It} {k : ByteArray} {ss : List (List Int)} (hm : ∀ y ∈ l, y.may = true) (h : mtOf l = some (k, ss)) : l = mtL k ss := by
  match l, h with
  | [], h => cases h
  | [_], h => cases h
  | x :: y :: r, h =>
    rw [mtOf] at h
    split at h
    · rename_i hxy
      obtain ⟨yt, y0, y8⟩ := nupB_parts hxy.2
      cases h2 : rdSs y.n.toNat r with
      | none => rw [h2] at h; cases h
      | some z =>
        rw [h2] at h
        simp only [Option.bind_some] at h
        split at h
        · rename_i hz
          simp only [Option.some.injEq, Prod.mk.injEq] at h
          obtain ⟨rfl, rfl⟩ := h
          obtain ⟨zs, zr⟩ := z
          obtain ⟨e1, e2⟩ := rdSs_inv _ r zs zr (fun y hy => hm y (by simp [hy])) h2
          dsimp only at hz e1 e2 ⊢
          subst hz
          have ex := tx_of (hm x (by simp)) hxy.1
          have ey := nu_of (hm y (by simp)) yt
          unfold mtL
          rw [e2, Int.toNat_of_nonneg y0, ← ex, ← ey, e1, List.append_nil]
          rfl
        · cases h
    · cases h
theorem rdS_stL {p : List Int} (rest : List It) (hp : ∀ y ∈ p, 0 ≤ y ∧ y ≤ 1073741824) : rdS (stL p ++ rest) = some (p, rest) := by
  unfold stL
  rw [List.cons_append, rdS]
  have h1 : nupB (nu (p.length : Int)) ((p.map nu ++ rest).length : Int) = true := by
    unfold nupB nu
    simp
    omega
  have hn : (nu (p.length : Int)).n.toNat = (p.map nu).length := by rw [List.length_map]; exact Int.toNat_natCast _
  rw [if_pos h1, hn, List.take_left, List.drop_left, if_pos]
  · congr 2
    rw [List.map_map]
    exact List.map_id p
  · rw [List.all_eq_true]
    intro y hy
    obtain ⟨n, hn, rfl⟩ := List.mem_map.1 hy
    have := hp n hn
    unfold nupB nu
    simp
    omega
theorem rdSs_flat : ∀ (ss : List (List Int)) (rest : List It), (∀ p ∈ ss, ∀ y ∈ p, 0 ≤ y ∧ y ≤ 1073741824) → rdSs ss.length (ss.flatMap stL ++ rest) = some (ss, rest)
  | [], rest, _ => rfl
  | p :: ss, rest, h => by
    rw [List.length_cons, rdSs, List.flatMap_cons, List.append_assoc, rdS_stL _ (h p List.mem_cons_self)]
    simp only [Option.bind_some]
    rw [rdSs_flat ss rest (fun q hq => h q (List.mem_cons_of_mem _ hq))]
    rfl
theorem mtOf_mtL {k : ByteArray} {ss : List (List Int)} (h : mayM k ss = true) : mtOf (mtL k ss) = some (k, ss) := by
  obtain ⟨_, h0, h8, hs⟩ := mayM_parts h
  have hin := stagesB_in _ _ ss hs
  have hfl := rdSs_flat ss [] (fun p hp y hy => by have := hin p hp y hy; omega)
  rw [List.append_nil] at hfl
  unfold mtL
  rw [List.cons_append, List.cons_append, List.nil_append, mtOf, if_pos]
  · have hn : (nu (ss.length : Int)).n.toNat = ss.length := Int.toNat_natCast _
    rw [hn, hfl]
    simp [tx]
  · refine ⟨rfl, ?_⟩
    unfold nupB nu
    simp
    omega
theorem itL_may (b : ByteArray) (hc : itC b = 0) : (∀ y ∈ itL b, y.may = true) ∧ listB (itL b) = b.data.toList := by
  have hL : itL b = (decS b.data.toList).1 := if_pos hc
  have h22 : (decS b.data.toList).2.2 = 0 := by
    unfold itC at hc
    split at hc
    · cases hc
    · split at hc
      · cases hc
      · rename_i h; simpa using h
  have he : decS b.data.toList = ((decS b.data.toList).1, 0, 0) := Prod.ext rfl (Prod.ext (decS_at _ h22) h22)
  obtain ⟨e0, e1, _, _⟩ := enc_dec _ _ he
  rw [← hL] at e0 e1
  have hmay : (itL b).all It.may = true := by
    unfold encE at e0
    split at e0
    · cases e0
    · split at e0
      · cases e0
      · rename_i h; simpa using h
  refine ⟨List.all_eq_true.1 hmay, ?_⟩
  unfold encS at e1
  rw [if_pos e0] at e1
  exact e1
theorem mtOf_ok {l : List It} {k : ByteArray} {ss : List (List Int)} (hm : ∀ y ∈ l, y.may = true) (hok : ∀ y ∈ l, y.ok) (h4 : l.length ≤ 4096) (h : mtOf l = some (k, ss)) : MtOk k ss := by
  have hl := mtOf_inv hm h
  subst hl
  have hlen : (mtL k ss).length = 2 + (ss.flatMap stL).length := by unfold mtL; rw [List.length_append]; rfl
  have hpl : ∀ p ∈ ss, p.length ≤ (ss.flatMap stL).length := fun p hp => by
    obtain ⟨a, b, rfl⟩ := List.append_of_mem hp
    have e1 : (stL p).length = p.length + 1 := by simp [stL]
    rw [List.flatMap_append, List.flatMap_cons, List.length_append, List.length_append]
    omega
  have hss : ss.length ≤ (ss.flatMap stL).length := by
    clear hlen hpl h hok hm h4
    induction ss with
    | nil => simp
    | cons p r ih =>
      rw [List.flatMap_cons, List.length_append, List.length_cons]
      have e1 : (stL p).length = p.length + 1 := by simp [stL]
      omega
  have hk := (hok (tx k) (by unfold mtL; simp)).2.2
  exact ⟨hk, by omega, fun p hp => by have := hpl p hp; omega⟩
def dmC (b : ByteArray) : Int := if itC b ≠ 0 then itC b else match mtOf (itL b) with
  | some z => if mayM z.1 z.2 = true then 0 else 20
  | none => 20
end Go.Proofs.Ytpfcoaimciojjaa
namespace Go.Proofs.Ytpfcoaimciojjaa
open Go.RowKit

theorem nupB_iff (y : It) (m : Int) : nupB y m = true ↔ y.t = false ∧ 0 ≤ y.n ∧ y.n ≤ m := by
  unfold nupB
  simp [and_assoc]
theorem numR_cases (l : List It) (at_ : Nat) : numR l at_ = -1 ∨ ∃ (h : at_ < l.length) (N : Nat), numR l at_ = (N : Int) ∧ l[at_].n = (N : Int) ∧ l[at_].t = false ∧ N ≤ 1073741824 := by
  unfold numR
  by_cases h : at_ < l.length
  · rw [List.getElem?_eq_getElem h]
    dsimp only
    by_cases hn : nupB l[at_] 1073741824 = true
    · obtain ⟨h1, h2, h3⟩ := (nupB_iff _ _).1 hn
      rw [if_pos hn]
      obtain ⟨N, hN⟩ := Int.eq_ofNat_of_zero_le h2
      exact Or.inr ⟨h, N, hN, hN, h1, by omega⟩
    · rw [if_neg hn]; exact Or.inl rfl
  · rw [List.getElem?_eq_none (by omega)]; exact Or.inl rfl
theorem numR_none {l : List It} {at_ : Nat} (h : numR l at_ = -1) (hl : at_ < l.length) : nupB l[at_] 1073741824 = false := by
  unfold numR at h
  rw [List.getElem?_eq_getElem hl] at h
  dsimp only at h
  by_cases hn : nupB l[at_] 1073741824 = true
  · rw [if_pos hn] at h
    have := ((nupB_iff _ _).1 hn).2.1
    omega
  · simpa using hn
/-- No stage: there is no number, or too great a one. -/
theorem rdS_at_none {l : List It} {at_ : Nat} (h4 : l.length ≤ 4096) (h : numR l at_ = -1 ∨ ∃ N : Nat, numR l at_ = (N : Int) ∧ l.length < at_ + 1 + N) : rdS (l.drop at_) = none := by
  by_cases hl : at_ < l.length
  · rw [List.drop_eq_getElem_cons hl, rdS, if_neg]
    intro hn
    obtain ⟨h1, h2, h3⟩ := (nupB_iff _ _).1 hn
    rw [List.length_drop] at h3
    rcases h with h | ⟨N, hN, hlt⟩
    · have := numR_none h hl
      rw [(nupB_iff _ _).2 ⟨h1, h2, by omega⟩] at this
      cases this
    · rcases numR_cases l at_ with h' | ⟨_, M, hM, hM2, _, _⟩
      · omega
      · omega
  · rw [List.drop_eq_nil_of_le (by omega)]; rfl
/-- A place that is none. -/
theorem rdS_at_bad {l : List It} {at_ N q : Nat} (hN : numR l at_ = (N : Int)) (hle : at_ + 1 + N ≤ l.length) (hq : q < N) (hb : numR l (at_ + 1 + q) = -1) : rdS (l.drop at_) = none := by
  have hl : at_ < l.length := by omega
  have hq' : at_ + 1 + q < l.length := by omega
  have hbad := numR_none hb hq'
  rcases numR_cases l at_ with h' | ⟨_, M, hM, hM2, hM3, _⟩
  · omega
  · obtain rfl : M = N := by omega
    rw [List.drop_eq_getElem_cons hl, rdS, hM2, Int.toNat_natCast]
    by_cases hn : nupB l[at_] ((l.drop (at_ + 1)).length : Int) = true
    · rw [if_pos hn, if_neg]
      intro hall
      rw [List.all_eq_true] at hall
      have hm : l[at_ + 1 + q] ∈ (l.drop (at_ + 1)).take M := by
        rw [List.mem_take_iff_getElem]
        exact ⟨q, by rw [List.length_drop]; omega, by rw [List.getElem_drop]⟩
      rw [hall _ hm] at hbad
      cases hbad
    · rw [if_neg hn]
/-- A stage, whole. -/
theorem rdS_at_some {l : List It} {at_ N : Nat} (hN : numR l at_ = (N : Int)) (hle : at_ + 1 + N ≤ l.length) (hall : ∀ y ∈ (l.drop (at_ + 1)).take N, nupB y 1073741824 = true) : rdS (l.drop at_) = some (((l.drop (at_ + 1)).take N).map It.n, l.drop (at_ + 1 + N)) := by
  have hl : at_ < l.length := by omega
  rcases numR_cases l at_ with h' | ⟨_, M, hM, hM2, hM3, _⟩
  · omega
  · obtain rfl : M = N := by omega
    rw [List.drop_eq_getElem_cons hl, rdS, hM2, Int.toNat_natCast, if_pos, if_pos, List.drop_drop]
    · rw [List.all_eq_true]; exact hall
    · rw [nupB_iff]
      refine ⟨hM3, by omega, ?_⟩
      rw [List.length_drop]; omega
theorem take_at {l : List It} {at_ q : Nat} (h : at_ + q < l.length) : (l.drop at_).take (q + 1) = (l.drop at_).take q ++ [l[at_ + q]] := by
  have hq : q < (l.drop at_).length := by rw [List.length_drop]; omega
  rw [List.take_succ_eq_append_getElem hq, List.getElem_drop]
theorem rdSs_len : ∀ (n : Nat) (l : List It) (ss : List (List Int)) (rest : List It), rdSs n l = some (ss, rest) → ss.length = n
  | 0, l, ss, rest, h => by
    simp only [rdSs, Option.some.injEq, Prod.mk.injEq] at h
    obtain ⟨rfl, rfl⟩ := h
    rfl
  | n + 1, l, ss, rest, h => by
    rw [rdSs] at h
    cases hp : rdS l with
    | none => rw [hp] at h; cases h
    | some z =>
      rw [hp] at h
      simp only [Option.bind_some] at h
      cases hq : rdSs n z.2 with
      | none => rw [hq] at h; cases h
      | some u =>
        rw [hq] at h
        simp only [Option.bind_some, Option.some.injEq, Prod.mk.injEq] at h
        obtain ⟨rfl, rfl⟩ := h
        have := rdSs_len n z.2 u.1 u.2 hq
        simp [this]
/-- What the plain twin says where reading fails, and where it comes to its end. -/
theorem mtOf_fail {x y : It} {r : List It} {N : Nat} (hN : numR (x :: y :: r) 1 = (N : Int)) (h : rdSs N r = none) : mtOf (x :: y :: r) = none := by
  rcases numR_cases (x :: y :: r) 1 with h' | ⟨_, M, hM, hM2, hM3, _⟩
  · omega
  · obtain rfl : M = N := by omega
    have e : y.n = (M : Int) := hM2
    rw [mtOf]
    by_cases hc : x.t = true ∧ nupB y 8 = true
    · rw [if_pos hc, e, Int.toNat_natCast, h]; rfl
    · rw [if_neg hc]
theorem mtOf_neg {x y : It} {r : List It} (h : numR (x :: y :: r) 1 = -1) : mtOf (x :: y :: r) = none := by
  have h1 : nupB y 1073741824 = false := numR_none (l := x :: y :: r) h (by simp)
  rw [mtOf, if_neg]
  rintro ⟨_, h2⟩
  obtain ⟨a, b, c⟩ := (nupB_iff _ _).1 h2
  rw [(nupB_iff _ _).2 ⟨a, b, by omega⟩] at h1
  cases h1
theorem mtOf_end {x y : It} {r rest : List It} {N : Nat} {ss : List (List Int)} (hx : x.t = true) (hN : numR (x :: y :: r) 1 = (N : Int)) (h : rdSs N r = some (ss, rest)) :
    (rest = [] ∧ mayM x.s ss = true → mtOf (x :: y :: r) = some (x.s, ss)) ∧ (¬ (rest = [] ∧ mayM x.s ss = true) → ∀ z, mtOf (x :: y :: r) = some z → mayM z.1 z.2 = false) := by
  rcases numR_cases (x :: y :: r) 1 with h' | ⟨_, M, hM, hM2, hM3, _⟩
  · omega
  · obtain rfl : M = N := by omega
    have e : y.n = (M : Int) := hM2
    have et : y.t = false := hM3
    have hlen := rdSs_len _ _ _ _ h
    constructor
    · rintro ⟨rfl, hm⟩
      have h8 := (mayM_ne hm).2.1
      have hn : nupB y 8 = true := (nupB_iff _ _).2 ⟨et, by omega, by omega⟩
      rw [mtOf, if_pos ⟨hx, hn⟩, e, Int.toNat_natCast, h]
      simp
    · intro hno z hz
      rw [mtOf] at hz
      by_cases hc : x.t = true ∧ nupB y 8 = true
      · rw [if_pos hc, e, Int.toNat_natCast, h] at hz
        simp only [Option.bind_some] at hz
        by_cases hr : rest = []
        · rw [if_pos hr, Option.some.injEq] at hz
          subst hz
          have : ¬ mayM x.s ss = true := fun hm => hno ⟨hr, hm⟩
          simpa using this
        · rw [if_neg hr] at hz; cases hz
      · rw [if_neg hc] at hz; cases hz
end Go.Proofs.Ytpfcoaimciojjaa
namespace Go.Proofs.Ytpfcoaimciojjaa
open Go.RowKit

set_option maxHeartbeats 1000000 in
theorem refNamed_any (s : ByteArray) (w : World) (hs : s.size ≤ 9223372036854775807) :
    Calls Try.prog 41 #[.string s] w fun e w' => e = .returned (.bool (nameB s)) ∧ w' = w := by
  by_cases h1 : 1 ≤ s.size
  · have hse : s.toList ≠ [] := fun e => by
      rw [ByteArray.toList_eq] at e
      have e4 := congrArg List.length e
      have e3 : s.data.toList.length = s.size := Array.length_toList
      rw [e3] at e4
      have : s.size = 0 := e4
      omega
    have hne : (s.toList == (⟨#[]⟩ : ByteArray).toList) = false := by
      rw [beq_eq_false_iff_ne]
      intro e
      refine hse ?_
      rw [e, ByteArray.toList_eq]
    have hne2 : s.toList.isEmpty = false := by
      cases hl : s.toList with
      | nil => exact absurd hl hse
      | cons a r => rfl
    clear hse
    by_cases h2 : s.size ≤ 32
    · have hn : nameB s = s.data.toList.all nb := by unfold nameB; simp [h1, h2]
      rw [hn]
      clear hn
      generalize hR : s.data.toList.all nb = R
      have HR := hide hR
      clear hR
      have hlen : s.data.toList.length = s.size := Array.length_toList
      go_enter Try.func41, Try.ntmps41
      go_wp2
      go_loop [3] (fun i => ∃ k : Nat, k ≤ s.size ∧ i = .int .i64 (k : Int) ∧ Hid (∀ c ∈ s.data.toList.take k, nb c = true)) (fun i => s.size - (intOf i).toNat)
      case atStart => exact ⟨0, Nat.zero_le _, rfl, hide (by simp)⟩
      case round =>
        obtain ⟨k, hk, rfl, HK⟩ := hrel
        by_cases hlt : k < s.size
        · have hget : s[k] ∈ s.data.toList := by
            have : s[k] = s.data.toList[k]'(by omega) := rfl
            rw [this]; exact List.getElem_mem _
          have hsn : s.data.toList.take (k + 1) = s.data.toList.take k ++ [s[k]] := by
            rw [List.take_succ_eq_append_getElem (by omega)]; rfl
          have hnb : nb s[k] = true ↔ ((97 ≤ (s[k]).toNat ∧ (s[k]).toNat ≤ 122) ∨ (48 ≤ (s[k]).toNat ∧ (s[k]).toNat ≤ 57)) := by
            unfold nb
            simp only [Bool.or_eq_true, Bool.and_eq_true, decide_eq_true_eq]
            omega
          have HG := hide hget
          have HS := hide hsn
          have hb256 := (s[k]).toNat_lt
          clear hget hsn hlen
          by_cases hb : nb s[k] = true
          · have hor := hnb.1 hb
            have HB := hide hb
            clear hnb hb
            rcases hor with ⟨g1, g2⟩ | ⟨g3, g4⟩
            · have d2 : decide (((s[k]).toNat : Int) ≤ 122) = true := decide_eq_true (by omega)
              go_wp2
              go_round
              case rel => exact ⟨k + 1, by omega, by go_num, hide (fun c hc => by
                rw [unhide HS, List.mem_append] at hc
                rcases hc with hc | hc
                · exact unhide HK c hc
                · rw [List.mem_singleton] at hc; rw [hc]; exact unhide HB)⟩
              case measure => simp [intOf]; omega
            · have g1 : ¬ 97 ≤ (s[k]).toNat := by omega
              have d4 : decide (((s[k]).toNat : Int) ≤ 57) = true := decide_eq_true (by omega)
              go_wp2
              go_round
              case rel => exact ⟨k + 1, by omega, by go_num, hide (fun c hc => by
                rw [unhide HS, List.mem_append] at hc
                rcases hc with hc | hc
                · exact unhide HK c hc
                · rw [List.mem_singleton] at hc; rw [hc]; exact unhide HB)⟩
              case measure => simp [intOf]; omega
          · have hb' : nb s[k] = false := by simpa using hb
            have hall : s.data.toList.all nb = false := List.all_eq_false.2 ⟨_, unhide HG, by rw [hb']; simp⟩
            have hR := unhide HR
            rw [hall] at hR
            subst hR
            have hnot := fun h => hb (hnb.2 h)
            clear hb hb' hall HR hnb HG HS HK
            rcases (by omega : (s[k]).toNat < 48 ∨ (57 < (s[k]).toNat ∧ (s[k]).toNat < 97) ∨ 122 < (s[k]).toNat ∨ ((97 ≤ (s[k]).toNat ∧ (s[k]).toNat ≤ 122) ∨ (48 ≤ (s[k]).toNat ∧ (s[k]).toNat ≤ 57))) with g | ⟨g, g'⟩ | g | g
            · clear hnot
              have g1 : ¬ 97 ≤ (s[k]).toNat := by omega
              have g2 : ¬ 48 ≤ (s[k]).toNat := by omega
              go_wp2
              go_ret
              exact ⟨rfl, rfl⟩
            · clear hnot
              have g1 : ¬ 97 ≤ (s[k]).toNat := by omega
              have g2 : 48 ≤ (s[k]).toNat := by omega
              have g3 : decide (((s[k]).toNat : Int) ≤ 57) = false := decide_eq_false (by omega)
              go_wp2
              go_ret
              exact ⟨rfl, rfl⟩
            · clear hnot
              have g1 : 97 ≤ (s[k]).toNat := by omega
              have g2 : decide (((s[k]).toNat : Int) ≤ 122) = false := decide_eq_false (by omega)
              have g3 : 48 ≤ (s[k]).toNat := by omega
              have g4 : decide (((s[k]).toNat : Int) ≤ 57) = false := decide_eq_false (by omega)
              go_wp2
              go_ret
              exact ⟨rfl, rfl⟩
            · exact absurd g hnot
        · have hall : s.data.toList.all nb = true := List.all_eq_true.2 (fun c hc => unhide HK c (by rw [List.take_of_length_le (by omega)]; exact hc))
          have hR := unhide HR
          rw [hall] at hR
          subst hR
          clear hall HR HK
          go_wp2
          go_ret
          exact ⟨rfl, rfl⟩
    · have hn : nameB s = false := by unfold nameB; simp [h2]
      rw [hn]
      go_enter Try.func41, Try.ntmps41
      go_wp2
      all_goals go_ret
      all_goals exact ⟨rfl, rfl⟩
  · have hn : nameB s = false := by unfold nameB; simp [h1]
    rw [hn]
    have hse : s = ⟨#[]⟩ := ByteArray.ext (Array.eq_empty_of_size_eq_zero (by show s.size = 0; omega))
    subst hse
    go_enter Try.func41, Try.ntmps41
    go_wp2
    all_goals go_ret
    all_goals exact ⟨rfl, rfl⟩
end Go.Proofs.Ytpfcoaimciojjaa
