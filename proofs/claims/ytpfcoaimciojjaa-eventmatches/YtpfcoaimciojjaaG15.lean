/-
  Encode of a match: its bytes, as the plain function has them.
-/
import Derived.Test.YtpfcoaimciojjaaG14
import Derived.Test.YtpfcoaimciojjaaG03
namespace Go.Proofs.Ytpfcoaimciojjaa
open Go.RowKit

/-- A stage's items. -/
def stL (p : List Int) : List It := nu (p.length : Int) :: p.map nu
/-- A match's items. -/
def mtL (k : ByteArray) (ss : List (List Int)) : List It := [tx k, nu (ss.length : Int)] ++ ss.flatMap stL
def mtS (k : ByteArray) (ss : List (List Int)) : ByteArray := if mayM k ss = true then ⟨(listB (mtL k ss)).toArray⟩ else ⟨#[]⟩
theorem riseB_in : ∀ (a : Int) (p : List Int), riseB a p = true → ∀ y ∈ p, a < y ∧ y ≤ 1073741824
  | _, [], _, y, hy => by cases hy
  | a, q :: r, h, y, hy => by
    rw [riseB] at h
    split at h
    · cases h
    · rcases List.mem_cons.1 hy with rfl | hy
      · omega
      · have := riseB_in q r h y hy
        omega
theorem riseB_last : ∀ (a : Int) (p : List Int), riseB a p = true → 0 < p.length → a < lastI p := fun a p h h0 => by
  have := riseB_in a p h (lastI p) (by rw [lastI_get h0]; exact List.getElem_mem _)
  exact this.1
theorem stagesB_in : ∀ (x a : Int) (ss : List (List Int)), stagesB x a ss = true → ∀ p ∈ ss, ∀ y ∈ p, a < y ∧ y ≤ 1073741824
  | _, _, [], _, p, hp => by cases hp
  | x, a, q :: r, h, p, hp => by
    rw [stagesB] at h
    split at h
    · cases h
    · rename_i hn
      have hr : riseB a q = true := by cases hq : riseB a q with
        | true => rfl
        | false => exact absurd (Or.inr (Or.inr hq)) hn
      have h0 : 0 < q.length := by
        rcases Nat.eq_zero_or_pos q.length with e | e
        · exact absurd (Or.inl (by omega)) hn
        · exact e
      rcases List.mem_cons.1 hp with rfl | hp
      · exact riseB_in a p hr
      · intro y hy
        have h1 := stagesB_in _ _ r h p hp y hy
        have h2 := riseB_last a q hr h0
        omega
theorem stagesB_sum : ∀ (x a : Int) (ss : List (List Int)), stagesB x a ss = true → 0 ≤ x → ((ss.flatMap stL).length : Int) ≤ x + ss.length
  | _, _, [], _, h0 => by simpa using h0
  | x, a, q :: r, h, h0 => by
    rw [stagesB] at h
    split at h
    · cases h
    · rename_i hn
      have hx : (q.length : Int) ≤ x := by
        rcases Int.lt_or_le x q.length with e | e
        · exact absurd (Or.inr (Or.inl e)) hn
        · exact e
      have := stagesB_sum _ _ r h (by omega)
      rw [List.flatMap_cons, List.length_append, List.length_cons]
      have e1 : (stL q).length = q.length + 1 := by simp [stL]
      rw [e1]
      omega
theorem mayM_parts {k : ByteArray} {ss : List (List Int)} (h : mayM k ss = true) : k.size ≤ 32 ∧ 0 < ss.length ∧ ss.length ≤ 8 ∧ stagesB 256 (-1) ss = true := by
  unfold mayM nameB at h
  simp only [Bool.and_eq_true, decide_eq_true_eq] at h
  exact ⟨by omega, by omega, by omega, h.2⟩
theorem mtL_len {k : ByteArray} {ss : List (List Int)} (h : mayM k ss = true) : (mtL k ss).length ≤ 300 ∧ (ss.flatMap stL).length ≤ 264 := by
  obtain ⟨_, _, h8, hs⟩ := mayM_parts h
  have := stagesB_sum _ _ ss hs (by omega)
  refine ⟨?_, by omega⟩
  unfold mtL
  rw [List.length_append]
  simp only [List.length_cons, List.length_nil]
  omega
theorem mtL_mem {k : ByteArray} {ss : List (List Int)} (h : mayM k ss = true) : ∀ y ∈ mtL k ss, y = tx k ∨ ∃ n, y = nu n ∧ 0 ≤ n ∧ n ≤ 1073741824 := by
  obtain ⟨_, _, h8, hs⟩ := mayM_parts h
  have hin := stagesB_in _ _ ss hs
  have hsum := stagesB_sum _ _ ss hs (by omega)
  intro y hy
  unfold mtL at hy
  rcases List.mem_append.1 hy with hy | hy
  · simp only [List.mem_cons, List.not_mem_nil, or_false] at hy
    rcases hy with rfl | rfl
    · exact Or.inl rfl
    · exact Or.inr ⟨_, rfl, by omega, by omega⟩
  · obtain ⟨p, hp, hy⟩ := List.mem_flatMap.1 hy
    have hpl : (stL p).length ≤ (ss.flatMap stL).length := by
      obtain ⟨a, b, rfl⟩ := List.append_of_mem hp
      rw [List.flatMap_append, List.flatMap_cons, List.length_append, List.length_append]
      omega
    have e1 : (stL p).length = p.length + 1 := by simp [stL]
    unfold stL at hy
    rcases List.mem_cons.1 hy with rfl | hy
    · exact Or.inr ⟨_, rfl, by omega, by omega⟩
    · obtain ⟨n, hn, rfl⟩ := List.mem_map.1 hy
      have := hin p hp n hn
      exact Or.inr ⟨n, rfl, by omega, by omega⟩
theorem mtL_ok {k : ByteArray} {ss : List (List Int)} (h : mayM k ss = true) : ∀ y ∈ mtL k ss, y.ok ∧ y.may = true ∧ y.b.length ≤ 300 := by
  intro y hy
  have hk := (mayM_parts h).1
  rcases mtL_mem h y hy with rfl | ⟨n, rfl, h0, h1⟩
  · exact ⟨⟨(by decide : (-9223372036854775808 : Int) ≤ 0), (by decide : (0 : Int) < 9223372036854775808), by show k.size ≤ _; omega⟩, rfl, tx_len k (by omega)⟩
  · exact ⟨⟨by show -9223372036854775808 ≤ n; omega, by show n < 9223372036854775808; omega, Nat.zero_le _⟩, nu_may n, nu_len n ⟨by omega, by omega⟩⟩
theorem listB_le : ∀ (l : List It), (∀ y ∈ l, y.b.length ≤ 300) → (listB l).length ≤ 300 * l.length
  | [], _ => by simp [listB]
  | y :: r, h => by
    have := listB_le r (fun z hz => h z (List.mem_cons_of_mem _ hz))
    have h1 := h y List.mem_cons_self
    have e : listB (y :: r) = y.b ++ listB r := by unfold listB; rw [List.flatMap_cons]
    rw [e, List.length_append, List.length_cons]
    omega
theorem mtL_enc {k : ByteArray} {ss : List (List Int)} (h : mayM k ss = true) : encE (mtL k ss) = 0 ∧ encS (mtL k ss) = mtS k ss := by
  have hl := (mtL_len h).1
  have hb := listB_le (mtL k ss) (fun y hy => (mtL_ok h y hy).2.2)
  have h0 : encE (mtL k ss) = 0 := by
    unfold encE
    rw [if_neg (by omega), if_neg (by rw [List.all_eq_true.2 (fun y hy => (mtL_ok h y hy).2.1)]; simp), if_neg (by omega)]
  refine ⟨h0, ?_⟩
  unfold encS mtS
  rw [if_pos h0, if_pos h]
set_option maxHeartbeats 400000 in
theorem numberItem_any (n : Int) (w : World) :
    Calls Try.prog 31 #[.int .i64 n] w fun e w' => e = .returned (.agg #[.bool false, .int .i64 n, .string ⟨#[]⟩]) ∧ Below w.heap.size w w' := by
  go_enter Try.func31, Try.ntmps31
  go_wp2
  exact bodyPost_ret (v := .agg #[.bool false, .int .i64 n, .string ⟨#[]⟩]) (by simp [results, Try.results31, go_sem]) rfl ⟨rfl, (Below.refl _ _).alloc (Nat.le_refl _) _⟩
theorem OwnsI.builtM (B : Nat) (W : World) (k : ByteArray) (n : Int) (hB : B ≤ W.heap.size) : OwnsI B (W.alloc (.cells #[.bool true, .int .i64 0, .string k, .bool false, .int .i64 n, .string ⟨#[]⟩] 47)) (.slice (some ⟨W.heap.size, 0, none⟩) 2 2) [tx k, nu n] :=
  ⟨rfl, .inr ⟨W.heap.size, 2, _, rfl, hB, heap_alloc_new W _, Nat.le_refl _, by unfold maxLen; omega, rfl, rfl⟩⟩
/-- What stays while a match's list is made. -/
structure MS (w : World) (k : ByteArray) (ad : Option Addr) (n cap : Nat) (W : World) : Prop where
  bel : Below w.heap.size w W
  bx : MBox w.heap.size k ad n cap W
section
variable {w : World} {k : ByteArray} {ad : Option Addr} {n cap : Nat} {W W' : World}
theorem MS.drew (h : MS w k ad n cap W) : MS w k ad n cap W.drew := ⟨h.bel.drew, h.bx⟩
theorem MS.alloc (h : MS w k ad n cap W) (o : Obj) : MS w k ad n cap (W.alloc o) := ⟨h.bel.alloc h.bel.size o, h.bx.alloc o⟩
theorem MS.next (h : MS w k ad n cap W) (hb : Below W.heap.size W W') : MS w k ad n cap W' := ⟨h.bel.trans (hb.mono h.bel.size), h.bx.below hb h.bx.lt⟩
theorem MS.fr (h : MS w k ad n cap W) (hf : Fr w.heap.size 47 W W') : MS w k ad n cap W' := ⟨h.bel.trans hf.below, hf.keep h.bx (by decide)⟩
theorem MS.full (h : MS w k ad n cap W) : MS w k ad n cap W ∧ W.cell? ⟨w.heap.size, 0, none⟩ = some (.string k) ∧ W.cell? ⟨w.heap.size, 1, none⟩ = some (.slice ad n cap) := ⟨h, h.bx.cells⟩
end
theorem flat_take {ss : List (List Int)} {j : Nat} (h : j < ss.length) : (ss.take (j + 1)).flatMap stL = (ss.take j).flatMap stL ++ stL ss[j] := by
  rw [List.take_succ_eq_append_getElem h, List.flatMap_append]; simp
theorem flat_le (ss : List (List Int)) (j : Nat) : ((ss.take j).flatMap stL).length ≤ (ss.flatMap stL).length := by
  have : ss.flatMap stL = (ss.take j).flatMap stL ++ (ss.drop j).flatMap stL := by rw [← List.flatMap_append, List.take_append_drop]
  rw [this, List.length_append]; omega
set_option maxHeartbeats 8000000 in
set_option maxRecDepth 100000 in
theorem encodeMatch_any (k : ByteArray) (ad : Option Addr) (cap : Nat) (ss : List (List Int)) (w : World) (hok : MtOk k ss) (hA : StagesAt w ad ss) :
    Calls Try.prog 14 #[.agg #[.string k, .slice ad ss.length cap]] w fun r w' => r = .returned (.tuple #[.string (mtS k ss), .int .i64 (chkM k ss)]) ∧ Below w.heap.size w w' := by
  have s0 : MS w k ad ss.length cap (w.alloc (.cells #[.string k, .slice ad ss.length cap] 35)) := ⟨(Below.refl _ _).alloc (Nat.le_refl _) _, heap_alloc_new w _⟩
  have ck := fun W (hW : Below w.heap.size w W) => checkMatch_any k ad cap ss W hok (hA.below hW (Nat.le_refl _))
  have CK := hide ck
  clear ck
  by_cases hm : mayM k ss = true
  · have hc : chkM k ss = 0 := if_pos hm
    rw [hc] at CK ⊢
    obtain ⟨q1, q2⟩ := mtL_enc hm
    have hlen := mtL_len hm
    have lok := fun y hy => (mtL_ok hm y hy).1
    have hpl : ∀ p ∈ ss, p.length ≤ 9223372036854775807 := hok.2.2
    have Q := hide (And.intro q1 q2)
    have LEN := hide hlen
    have LOK := hide lok
    have HPL := hide hpl
    have HA := hide hA
    have h8 : ss.length ≤ 9223372036854775807 := hok.2.1
    clear q1 q2 hlen lok hpl hA hm hc hok
    go_enter Try.func14, Try.ntmps14
    go_wp2_with fail
    generalize w.alloc (.cells #[.string k, .slice ad ss.length cap] 35) = W0 at *
    refine (unhide CK W0 s0.bel).mono ?_
    rintro r w1 ⟨rfl, rfl⟩
    have s1 := s0.alloc (.cells #[.string k, .slice ad ss.length cap] 35)
    generalize W0.alloc (.cells #[.string k, .slice ad ss.length cap] 35) = W1 at *
    clear s0
    have f1 := s1.full.2
    go_wp2_with fail
    go_region_held3 (fun W => MS w k ad ss.length cap W ∧ W.cell? ⟨w.heap.size, 0, none⟩ = some (.string k) ∧ W.cell? ⟨w.heap.size, 1, none⟩ = some (.slice ad ss.length cap)) (first | exact (s3.alloc _).full | exact s3.full | exact s2.full | exact s1.drew.full | exact s1.full)
      (first
        | (go_at_call 31; refine (numberItem_any _ w2).mono ?_; rintro r w3 ⟨rfl, hb3⟩; have s3 := s2.next hb3)
        | (go_at_call 22; refine (textItem_any _ _).mono ?_; rintro r w2 ⟨rfl, hb2⟩; have s2 := s1.drew.next hb2))
    have s4 := s3.alloc (.cells #[.bool true, .int .i64 0, .string k, .bool false, .int .i64 (ss.length : Int), .string ⟨#[]⟩] 47)
    have ow := OwnsI.builtM w.heap.size w3 k (ss.length : Int) s3.bel.size
    have f4 := s4.full.2
    clear s1 f1 s2 s3 hb2 hb3 CK
    go_wp2_with fail
    generalize w3.alloc (.cells #[.bool true, .int .i64 0, .string k, .bool false, .int .i64 (ss.length : Int), .string ⟨#[]⟩] 47) = W4 at *
    go_loopw [5, 26] (fun v i wr => ∃ j : Nat, j ≤ ss.length ∧ i = .int .i64 (j : Int) ∧ MS w k ad ss.length cap wr ∧ OwnsI w.heap.size wr v ([tx k, nu (ss.length : Int)] ++ (ss.take j).flatMap stL)) (fun _ i _ => ss.length - (intOf i).toNat)
    case atStart => exact ⟨0, Nat.zero_le _, rfl, s4, by simpa using ow⟩
    case round =>
      clear s4 ow f4
      obtain ⟨j, hj, rfl, s4, ow⟩ := hrel
      by_cases hlt : j < ss.length
      · obtain ⟨b, off, rfl, _, hc⟩ := (unhide HA).below s4.bel (Nat.le_refl _) (fun e => by rw [e] at hlt; simp at hlt)
        obtain ⟨pa, pc, hcell, _⟩ := hc j hlt
        have hpl := unhide HPL ss[j] (List.getElem_mem hlt)
        have hfl := flat_take hlt
        have hle := flat_le ss (j + 1)
        have hle0 := flat_le ss j
        have hL := (unhide LEN).2
        have hst : ∀ W, Below w.heap.size w W → IntsAt W pa ss[j] := fun W hW => by
          obtain ⟨b', off', e, _, hc'⟩ := (unhide HA).below hW (Nat.le_refl _) (fun e => by rw [e] at hlt; simp at hlt)
          simp only [Option.some.injEq, Addr.mk.injEq, and_true] at e
          obtain ⟨rfl, rfl⟩ := e
          obtain ⟨pa', pc', hcell', hI'⟩ := hc' j hlt
          have h1 := (unhide HA) (fun e => by rw [e] at hlt; simp at hlt)
          obtain ⟨b1, o1, e1, hb1, hc1⟩ := h1
          simp only [Option.some.injEq, Addr.mk.injEq, and_true] at e1
          obtain ⟨rfl, rfl⟩ := e1
          have k1 := hW.cell (p := ⟨b, off + j, none⟩) hb1
          have k2 := s4.bel.cell (p := ⟨b, off + j, none⟩) hb1
          rw [hcell'] at k1
          rw [hcell] at k2
          rw [← k1] at k2
          simp only [Option.some.injEq, Value.slice.injEq] at k2
          rw [k2.1]
          exact hI'
        rw [hfl, List.length_append] at hle
        have HST := hide hst
        have HFL := hide hfl
        clear hc hst hfl HA HPL
        generalize ss[j] = p at *
        generalize hB : (ss.take j).flatMap stL = base at *
        clear hB
        have hpn : (stL p).length = p.length + 1 := by simp [stL]
        go_wp2_with fail
        refine (numberItem_any (p.length : Int) _).mono ?_
        rintro r w5 ⟨rfl, hb5⟩
        have s5 := s4.next hb5
        have ow5 := ow.below hb5 (Nat.le_refl _)
        have hz5 := s5.bel.size
        have cc := cell3_new w5 false (p.length : Int) ⟨#[]⟩ 47
        have CC := hide cc
        clear cc s4 ow hb5
        go_wp2_with (at_builtin; refine wpList_item rfl _ _ rfl w.heap.size _ _ rfl (ow5.alloc _) (nu (p.length : Int)) w5.heap.size rfl (unhide CC).1 (unhide CC).2.1 (unhide CC).2.2 (by simp; omega) (by simp; omega) ?_)
        intro v6 w6 ow6 hf6
        have s6 := (s5.alloc _).fr hf6
        clear s5 ow5 hf6 CC
        go_wp2_with fail
        go_loopw [5, 38] (fun v i wr => ∃ q : Nat, q ≤ p.length ∧ i = .int .i64 (q : Int) ∧ MS w k (some ⟨b, off, none⟩) ss.length cap wr ∧ OwnsI w.heap.size wr v ([tx k, nu (ss.length : Int)] ++ base ++ [nu (p.length : Int)] ++ (p.take q).map nu)) (fun _ i _ => p.length - (intOf i).toNat)
        case atStart => exact ⟨0, Nat.zero_le _, rfl, s6, by simpa using ow6⟩
        case round =>
          clear s6 ow6
          obtain ⟨q, hq, rfl, s6, ow6⟩ := hrel
          by_cases hql : q < p.length
          · obtain ⟨pb, po, rfl, _, hpc⟩ := unhide HST _ s6.bel (fun e => by rw [e] at hql; simp at hql)
            have x1 := hpc q hql
            have htk : (p.take (q + 1)).map nu = (p.take q).map nu ++ [nu p[q]] := by rw [List.take_succ_eq_append_getElem hql, List.map_append]; rfl
            have HTK := hide htk
            have hqi : (q : Int) < (p.length : Int) := by omega
            have hql2 : ((p.take q).map nu).length ≤ p.length := by rw [List.length_map, List.length_take]; omega
            clear hpc htk HST
            generalize p[q] = y at *
            go_wp2_with fail
            refine (numberItem_any y _).mono ?_
            rintro r w7 ⟨rfl, hb7⟩
            have s7 := s6.next hb7
            have ow7 := ow6.below hb7 (Nat.le_refl _)
            have hz7 := s7.bel.size
            have cc := cell3_new w7 false y ⟨#[]⟩ 47
            have CC := hide cc
            clear cc s6 ow6 hb7
            go_wp2_with (at_builtin; refine wpList_item rfl _ _ rfl w.heap.size _ _ rfl (ow7.alloc _) (nu y) w7.heap.size rfl (unhide CC).1 (unhide CC).2.1 (unhide CC).2.2 (by simp only [List.length_append, List.length_cons, List.length_nil]; omega) (by simp; omega) ?_)
            intro v8 w8 ow8 hf8
            have s8 := (s7.alloc _).fr hf8
            have ow9 : OwnsI w.heap.size w8 v8 ([tx k, nu (ss.length : Int)] ++ base ++ [nu (p.length : Int)] ++ (p.take (q + 1)).map nu) := by
              rw [unhide HTK]
              simpa using ow8
            clear s7 ow7 hf8 CC ow8
            go_wp2
            go_roundw
            case rel => exact ⟨q + 1, by omega, by go_num, s8, ow9⟩
            case measure => simp [intOf]; omega
          · obtain rfl : q = p.length := by omega
            have conv : [tx k, nu (ss.length : Int)] ++ base ++ [nu (p.length : Int)] ++ (p.take p.length).map nu = [tx k, nu (ss.length : Int)] ++ (ss.take (j + 1)).flatMap stL := by
              rw [unhide HFL, List.take_length]
              simp [stL]
            rw [conv] at ow6
            have ow7 := ow6
            clear ow6 conv
            go_wp2
            go_roundw
            case rel => exact ⟨j + 1, by omega, by go_num, s6, ow7⟩
            case measure => simp [intOf]; omega
      · obtain rfl : j = ss.length := by omega
        rw [List.take_length] at ow
        obtain ⟨a6, c6, rfl, hi6⟩ := OwnsI.items (l := mtL k ss) ow
        have en := encode_any a6 c6 (mtL k ss) wr (by have := (unhide LEN).1; omega) hi6 (unhide LOK)
        rw [(unhide Q).1, (unhide Q).2] at en
        have EN := hide en
        clear en ow hi6
        generalize (mtL k ss).length = ml at *
        go_wp2_with fail
        refine (unhide EN).mono ?_
        rintro r w7 ⟨rfl, hb7⟩
        have hb8 := s4.bel.trans (hb7.mono s4.bel.size)
        clear s4 hb7
        go_wp2
        go_ret2
        exact ⟨rfl, hb8⟩
  · have hc : chkM k ss = 20 := if_neg hm
    have hsn : mtS k ss = ⟨#[]⟩ := if_neg hm
    rw [hc] at CK ⊢
    rw [hsn]
    clear hc hsn hm hok hA
    generalize ss.length = n at *
    go_enter Try.func14, Try.ntmps14
    go_wp2_with fail
    generalize w.alloc (.cells #[.string k, .slice ad n cap] 35) = W0 at *
    refine (unhide CK W0 s0.bel).mono ?_
    rintro r w1 ⟨rfl, rfl⟩
    go_wp2
    go_ret2
    exact ⟨rfl, (s0.alloc _).bel⟩
end Go.Proofs.Ytpfcoaimciojjaa
