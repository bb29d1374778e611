/-
  Plain facts on matches and items: there and back. Decode of a match, walked.
-/
import Derived.Test.YtijckimjcogfjaaEvJ
import Derived.Test.YtijckimjcogfjaaEvF
namespace Go.Proofs.Ytijckimjcogfjaa
open Go.RowKit

theorem nu_of {y : It} (hm : y.may = true) (ht : y.t = false) : y = nu y.n := by
  obtain ⟨t, n, s⟩ := y
  dsimp only at ht
  subst ht
  unfold It.may mayB at hm
  rw [if_neg (by simp)] at hm
  have hs : s = ⟨#[]⟩ := by
    have e : s.data.toList = [] := by rw [← ByteArray.toList_eq]; simpa using hm
    rw [← ba_eta s, e]
  rw [hs]; rfl
theorem tx_of {y : It} (hm : y.may = true) (ht : y.t = true) : y = tx y.s := by
  obtain ⟨t, n, s⟩ := y
  dsimp only at ht
  subst ht
  unfold It.may mayB at hm
  rw [if_pos rfl] at hm
  have hn : n = 0 := by simpa using hm
  rw [hn]; rfl
theorem nupB_parts {y : It} {m : Int} (h : nupB y m = true) : y.t = false ∧ 0 ≤ y.n ∧ y.n ≤ m := by
  unfold nupB at h
  simp only [Bool.and_eq_true, decide_eq_true_eq, Bool.not_eq_true'] at h
  exact ⟨h.1.1, h.1.2, h.2⟩
theorem rdS_inv {l : List It} {p : List Int} {rest : List It} (hm : ∀ y ∈ l, y.may = true) (h : rdS l = some (p, rest)) : l = stL p ++ rest := by
  cases l with
  | nil => cases h
  | cons x r =>
    rw [rdS] at h
    split at h
    · rename_i hx
      split at h
      · rename_i hall
        simp only [Option.some.injEq, Prod.mk.injEq] at h
        obtain ⟨rfl, rfl⟩ := h
        obtain ⟨xt, x0, x1⟩ := nupB_parts hx
        have e1 : x = nu x.n := nu_of (hm x List.mem_cons_self) xt
        have hlen : ((r.take x.n.toNat).map It.n).length = x.n.toNat := by rw [List.length_map, List.length_take]; omega
        have e2 : ((r.take x.n.toNat).map It.n).map nu = r.take x.n.toNat := by
          rw [List.map_map]
          have : ∀ y ∈ r.take x.n.toNat, (nu ∘ It.n) y = y := fun y hy => by
            have hy' := List.mem_of_mem_take hy
            exact (nu_of (hm y (List.mem_cons_of_mem _ hy')) (nupB_parts (List.all_eq_true.1 hall y hy)).1).symm
          exact (List.map_congr_left this).trans (List.map_id _)
        unfold stL
        rw [hlen, e2, List.cons_append, List.take_append_drop, Int.toNat_of_nonneg x0, ← e1]
      · cases h
    · cases h
theorem rdSs_inv : ∀ (n : Nat) (l : List It) (ss : List (List Int)) (rest : List It), (∀ y ∈ l, y.may = true) → rdSs n l = some (ss, rest) → l = ss.flatMap stL ++ rest ∧ ss.length = n
  | 0, l, ss, rest, _, h => by
    simp only [rdSs, Option.some.injEq, Prod.mk.injEq] at h
    obtain ⟨rfl, rfl⟩ := h
    exact ⟨rfl, rfl⟩
  | n + 1, l, ss, rest, hm, h => by
    rw [rdSs] at h
    cases hs : rdS l with
    | none => rw [hs] at h; cases h
    | some q =>
      rw [hs] at h
      simp only [Option.bind_some] at h
      obtain ⟨p, r1⟩ := q
      have hl := rdS_inv hm hs
      dsimp only at h
      cases h2 : rdSs n r1 with
      | none => rw [h2] at h; cases h
      | some z =>
        rw [h2] at h
        simp only [Option.bind_some, Option.some.injEq, Prod.mk.injEq] at h
        obtain ⟨rfl, rfl⟩ := h
        obtain ⟨zs, zr⟩ := z
        obtain ⟨e1, e2⟩ := rdSs_inv n r1 zs zr (fun y hy => hm y (by rw [hl]; exact List.mem_append_right _ hy)) h2
        refine ⟨?_, by rw [List.length_cons, e2]⟩
        rw [hl, e1, List.flatMap_cons, List.append_assoc]
theorem mtOf_inv {l : List It} {k : ByteArray} {ss : List (List Int)} (hm : ∀ y ∈ l, y.may = true) (h : mtOf l = some (k, ss)) : l = mtL k ss := by
  match l, h with
  | [], h => cases h
  | [_], h => cases h
  | x :: y :: r, h =>
    rw [mtOf] at h
    split at h
    · rename_i hxy
      obtain ⟨yt, y0, y8⟩ := nupB_parts hxy.2
      cases h2 : rdSs y.n.toNat r with
      | none => rw [h2] at h; cases h
      | some z =>
        rw [h2] at h
        simp only [Option.bind_some] at h
        split at h
        · rename_i hz
          simp only [Option.some.injEq, Prod.mk.injEq] at h
          obtain ⟨rfl, rfl⟩ := h
          obtain ⟨zs, zr⟩ := z
          obtain ⟨e1, e2⟩ := rdSs_inv _ r zs zr (fun y hy => hm y (by simp [hy])) h2
          dsimp only at hz e1 e2 ⊢
          subst hz
          have ex := tx_of (hm x (by simp)) hxy.1
          have ey := nu_of (hm y (by simp)) yt
          unfold mtL
          rw [e2, Int.toNat_of_nonneg y0, ← ex, ← ey, e1, List.append_nil]
          rfl
        · cases h
    · cases h
theorem rdS_stL {p : List Int} (rest : List It) (hp : ∀ y ∈ p, 0 ≤ y ∧ y ≤ 1073741824) : rdS (stL p ++ rest) = some (p, rest) := by
  unfold stL
  rw [List.cons_append, rdS]
  have h1 : nupB (nu (p.length : Int)) ((p.map nu ++ rest).length : Int) = true := by
    unfold nupB nu
    simp
    omega
  have hn : (nu (p.length : Int)).n.toNat = (p.map nu).length := by rw [List.length_map]; exact Int.toNat_natCast _
  rw [if_pos h1, hn, List.take_left, List.drop_left, if_pos]
  · congr 2
    rw [List.map_map]
    exact List.map_id p
  · rw [List.all_eq_true]
    intro y hy
    obtain ⟨n, hn, rfl⟩ := List.mem_map.1 hy
    have := hp n hn
    unfold nupB nu
    simp
    omega
theorem rdSs_flat : ∀ (ss : List (List Int)) (rest : List It), (∀ p ∈ ss, ∀ y ∈ p, 0 ≤ y ∧ y ≤ 1073741824) → rdSs ss.length (ss.flatMap stL ++ rest) = some (ss, rest)
  | [], rest, _ => rfl
  | p :: ss, rest, h => by
    rw [List.length_cons, rdSs, List.flatMap_cons, List.append_assoc, rdS_stL _ (h p List.mem_cons_self)]
    simp only [Option.bind_some]
    rw [rdSs_flat ss rest (fun q hq => h q (List.mem_cons_of_mem _ hq))]
    rfl
theorem mtOf_mtL {k : ByteArray} {ss : List (List Int)} (h : mayM k ss = true) : mtOf (mtL k ss) = some (k, ss) := by
  obtain ⟨_, h0, h8, hs⟩ := mayM_parts h
  have hin := stagesB_in _ _ ss hs
  have hfl := rdSs_flat ss [] (fun p hp y hy => by have := hin p hp y hy; omega)
  rw [List.append_nil] at hfl
  unfold mtL
  rw [List.cons_append, List.cons_append, List.nil_append, mtOf, if_pos]
  · have hn : (nu (ss.length : Int)).n.toNat = ss.length := Int.toNat_natCast _
    rw [hn, hfl]
    simp [tx]
  · refine ⟨rfl, ?_⟩
    unfold nupB nu
    simp
    omega
theorem itL_may (b : ByteArray) (hc : itC b = 0) : (∀ y ∈ itL b, y.may = true) ∧ listB (itL b) = b.data.toList := by
  have hL : itL b = (decS b.data.toList).1 := if_pos hc
  have h22 : (decS b.data.toList).2.2 = 0 := by
    unfold itC at hc
    split at hc
    · cases hc
    · split at hc
      · cases hc
      · rename_i h; simpa using h
  have he : decS b.data.toList = ((decS b.data.toList).1, 0, 0) := Prod.ext rfl (Prod.ext (decS_at _ h22) h22)
  obtain ⟨e0, e1, _, _⟩ := enc_dec _ _ he
  rw [← hL] at e0 e1
  have hmay : (itL b).all It.may = true := by
    unfold encE at e0
    split at e0
    · cases e0
    · split at e0
      · cases e0
      · rename_i h; simpa using h
  refine ⟨List.all_eq_true.1 hmay, ?_⟩
  unfold encS at e1
  rw [if_pos e0] at e1
  exact e1
theorem mtOf_ok {l : List It} {k : ByteArray} {ss : List (List Int)} (hm : ∀ y ∈ l, y.may = true) (hok : ∀ y ∈ l, y.ok) (h4 : l.length ≤ 4096) (h : mtOf l = some (k, ss)) : MtOk k ss := by
  have hl := mtOf_inv hm h
  subst hl
  have hlen : (mtL k ss).length = 2 + (ss.flatMap stL).length := by unfold mtL; rw [List.length_append]; rfl
  have hpl : ∀ p ∈ ss, p.length ≤ (ss.flatMap stL).length := fun p hp => by
    obtain ⟨a, b, rfl⟩ := List.append_of_mem hp
    have e1 : (stL p).length = p.length + 1 := by simp [stL]
    rw [List.flatMap_append, List.flatMap_cons, List.length_append, List.length_append]
    omega
  have hss : ss.length ≤ (ss.flatMap stL).length := by
    clear hlen hpl h hok hm h4
    induction ss with
    | nil => simp
    | cons p r ih =>
      rw [List.flatMap_cons, List.length_append, List.length_cons]
      have e1 : (stL p).length = p.length + 1 := by simp [stL]
      omega
  have hk := (hok (tx k) (by unfold mtL; simp)).2.2
  exact ⟨hk, by omega, fun p hp => by have := hpl p hp; omega⟩
def dmC (b : ByteArray) : Int := if itC b ≠ 0 then itC b else match mtOf (itL b) with
  | some z => if mayM z.1 z.2 = true then 0 else 20
  | none => 20
end Go.Proofs.Ytijckimjcogfjaa
