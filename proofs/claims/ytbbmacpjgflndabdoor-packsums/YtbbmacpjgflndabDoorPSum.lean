/-
  PackSums: whatever the bytes and numbers, the law returns true; nothing that was there has changed.
-/
import Derived.Test.YtbbmacpjgflndabDoorWorks
import Derived.Deep.RegionWith
import Derived.Deep.DeepCutAuto
namespace Go.Proofs.YtbbmacpjgflndabDoor
open Go.RowKit

theorem TabW.alloc {w : World} (h : TabW w) (o : Obj) : TabW (w.alloc o) := h.below ((Below.refl w.heap.size w).alloc (Nat.le_refl _) o) h.1
theorem TabW.drew {w : World} (h : TabW w) : TabW w.drew := h
/-- So many noughts. -/
def nought (n : Nat) : ByteArray := ⟨(List.replicate n (0 : UInt8)).toArray⟩
theorem nought_size (n : Nat) : (nought n).size = n := by unfold nought; show (List.toArray _).size = _; simp
theorem nought_sum (n : Nat) : sumOf (nought n).data.toList ≠ sumOf (nought (n + 1)).data.toList := fun h => sumL_noughts n (sumOf_inj h)
/-- The row that make lays. -/
def noughtC (n : Nat) : Array Value := madeCells #[Value.int .u8 0] n
theorem make_noughts (n : Nat) (hn : n ≤ 1000) (W : World) : (Instr.makeSlice 34 (.int .i64 (n : Int)) (.int .i64 (n : Int))).run Tryd.prog W = .ok (.slice (some ⟨W.heap.size, 0, none⟩) n n) (W.alloc (.cells (noughtC n) 5)) := by
  obtain ⟨i0, hi, hz0, hz1, hz2⟩ := info_parts info_u8
  have h := run_make (P := Tryd.prog) W 34 5 i0 (.int .u8 0) Tryd.underlying34 hi hz0 .i64 .i64 (n : Int) (n : Int) (by omega) (by omega) (by rw [hz2]; omega) (by omega)
  rw [hz1, Int.toNat_natCast, Nat.mul_one] at h
  exact h
theorem noughts_string (n g : Nat) (W : World) (hg : W.heap[g]? = some (.cells (noughtC n) 5 (0, 0))) : (convert 34 9 (.slice (some ⟨g, 0, none⟩) n n)).run Tryd.prog W = .ok (.string (nought n)) W := by
  have h := run_convert_bytes_arg (P := Tryd.prog) W 34 5 Tryd.underlying34 Tryd.underlying5 g 0 n n (List.replicate n 0) (by simp) (fun i hi => by
    have e : (noughtC n)[i]? = some (.int .u8 0) := by
      rw [← Array.getElem?_toList]
      unfold noughtC
      rw [toList_madeCells_one, List.getElem?_replicate, if_pos hi]
    simp [World.cell?, hg, e, List.getD, hi]) 9 Tryd.underlying9
  rw [h]
  congr 2
  unfold strOfNums nought
  simp
/-- A string's bytes in a new row. -/
theorem bytes_of (b : ByteArray) (w : World) : ∃ (W : World) (cap : Nat), (convert 9 34 (.string b)).run Tryd.prog w = .ok (.slice (some ⟨w.heap.size, 0, none⟩) b.size cap) W ∧ b.size ≤ cap ∧ Below w.heap.size w W ∧ w.heap.size < W.heap.size ∧
    (∀ i (h : i < b.size), W.cell? ⟨w.heap.size, i, none⟩ = some (.int .u8 (b[i].toNat : Int))) ∧ (∀ i, i < b.size → W.frozen? ⟨w.heap.size, i, none⟩ = false) := by
  have h := run_bytes_of_string (P := Tryd.prog) w 9 34 5 b Tryd.underlying9 Tryd.underlying34 Tryd.underlying5
  have hcap := grownCap_ge w b.size 0 5
  generalize hC : grownCap w b.size 0 5 = cap at *
  refine ⟨_, cap, h, hcap, ((Below.refl _ w).drew.alloc (Nat.le_refl _) _), by simp, fun i hi => ?_, fun i hi => ?_⟩
  · have e : (w.drew.alloc (.cells (bytesRow b cap) 5 ((bytesRow b cap).size, (bytesRow b cap).size + 1))).heap[w.heap.size]? = some (.cells (bytesRow b cap) 5 ((bytesRow b cap).size, (bytesRow b cap).size + 1)) := heap_alloc_new w.drew _
    have e2 := bytesRow_at b cap i hi
    unfold World.cell?
    rw [e]
    exact e2
  · have e : (w.drew.alloc (.cells (bytesRow b cap) 5 ((bytesRow b cap).size, (bytesRow b cap).size + 1))).heap[w.heap.size]? = some (.cells (bytesRow b cap) 5 ((bytesRow b cap).size, (bytesRow b cap).size + 1)) := heap_alloc_new w.drew _
    have hs : b.size ≤ (bytesRow b cap).size := by unfold bytesRow; rw [Array.size_append, Array.size_map]; exact Nat.le_add_right _ _
    unfold World.frozen?
    rw [e]
    simp
    omega
/-- Bytes with one of them another one. -/
def setB (b : ByteArray) (J : Nat) (c : UInt8) : ByteArray := ⟨(b.data.toList.set J c).toArray⟩
theorem setB_size (b : ByteArray) (J : Nat) (c : UInt8) : (setB b J c).size = b.size := by
  unfold setB; show (List.toArray _).size = _; rw [List.size_toArray, List.length_set, Array.length_toList]; rfl
theorem setB_sum (b : ByteArray) (J : Nat) (hJ : J < b.size) (c : UInt8) (hc : c ≠ b[J]) : sumOf (setB b J c).data.toList ≠ sumOf b.data.toList := by
  intro h
  have h := sumOf_inj h
  have hl : J < b.data.toList.length := by rw [Array.length_toList]; exact hJ
  have e1 : (setB b J c).data.toList = b.data.toList.take J ++ c :: b.data.toList.drop (J + 1) := by
    show b.data.toList.set J c = _
    rw [List.set_eq_take_append_cons_drop, if_pos hl]
  have e2 : b.data.toList = b.data.toList.take J ++ b[J] :: b.data.toList.drop (J + 1) := by
    rw [← drop_get b J hJ, List.take_append_drop]
  rw [e1] at h
  exact sumL_byte (s := 4294967295) (b.data.toList.take J) (b.data.toList.drop (J + 1)) (by omega) hc (h.trans (congrArg _ e2))
/-- A row of a string's bytes, one of them another one, as a string. -/
theorem setB_string (b : ByteArray) (J g cap : Nat) (c : UInt8) (W : World) (h : ∀ i (hi : i < b.size), W.cell? ⟨g, i, none⟩ = some (.int .u8 (if i = J then (c.toNat : Int) else (b[i].toNat : Int)))) :
    (convert 34 9 (.slice (some ⟨g, 0, none⟩) b.size cap)).run Tryd.prog W = .ok (.string (setB b J c)) W := by
  have k := run_convert_bytes_arg (P := Tryd.prog) W 34 5 Tryd.underlying34 Tryd.underlying5 g 0 b.size cap ((b.data.toList.set J c).map fun x => (x.toNat : Int)) (by rw [List.length_map, List.length_set, Array.length_toList]; rfl) (fun i hi => by
    rw [Nat.zero_add, h i hi]
    have hl : i < b.data.toList.length := by rw [Array.length_toList]; exact hi
    rw [List.getD_eq_getElem?_getD, List.getElem?_map, List.getElem?_set]
    by_cases e : J = i
    · subst e; rw [if_pos rfl, if_pos rfl, if_pos hl]; rfl
    · rw [if_neg (fun q => e q.symm), if_neg e, List.getElem?_eq_getElem hl]; rfl) 9 Tryd.underlying9
  rw [strOf_bytes] at k
  exact k
theorem u8_of (C : Nat) (h : C < 256) : (UInt8.ofNat C).toNat = C := by rw [UInt8.toNat_ofNat']; omega
theorem flip_byte (x T : Nat) (hx : x < 256) (hT : T < 8) : ∃ C : Nat, C < 256 ∧ C ≠ x ∧ bits .xor .u8 (x : Int) (2 ^ T % 256) = (C : Int) := by
  have hp : 2 ^ T < 256 := Nat.pow_lt_pow_right (by omega) hT
  refine ⟨x ^^^ 2 ^ T, Nat.xor_lt_two_pow (n := 8) hx hp, fun h => ?_, ?_⟩
  · have : x ^^^ 2 ^ T = x ^^^ 0 := by rw [h, Nat.xor_zero]
    have := xor_cancel_l this
    have := Nat.two_pow_pos T
    omega
  · have := u8_xor_nat x (2 ^ T) hx hp
    rw [← this]
    congr 1
    rw [Int.natCast_pow]
    have : ((2 ^ T : Nat) : Int) < 256 := by omega
    rw [Int.natCast_pow] at this
    exact Int.emod_eq_of_lt (Int.pow_nonneg (by decide)) this
theorem wrapU (q : Int) : ∃ Q : Nat, Q < 18446744073709551616 ∧ IntKind.u64.wrap q = (Q : Int) :=
  ⟨(q % 18446744073709551616).toNat, by omega, by rw [IntKind.wrap_u64]; omega⟩
set_option maxHeartbeats 2000000 in
theorem packSums_walk (b : ByteArray) (p q : Int) (w : World) (hb : b.size ≤ 9223372036854775807) (hT : TabW w) :
    Calls Tryd.prog 4 #[.string b, .int .i64 p, .int .i64 q] w fun e w' => e = .returned (.bool true) ∧ Below w.heap.size w w' := by
  have hw := works_any w hT
  have HW := hide hw
  have HT := hide hT
  have h0 := hT.1
  clear hw hT
  obtain ⟨Q, hQ, eQ⟩ := wrapU q
  obtain ⟨R, hR, eR⟩ := wrapU p
  obtain ⟨m, hm, em⟩ : ∃ m : Nat, m < 300 ∧ (Q : Int) % 300 = (m : Int) := ⟨Q % 300, by omega, by omega⟩
  go_enter Tryd.func4, Tryd.ntmps4
  go_wp2_with fail
  refine (unhide HW).mono ?_
  rintro e w1 ⟨rfl, hb1⟩
  go_upto_region 4 with fail
  have hT1 : TabW w1 := (unhide HT).below hb1 h0
  have h01 := hb1.size
  have mA := make_noughts m (by omega)
  have mB := make_noughts (m + 1) (by omega)
  rw [show (((m + 1 : Nat)) : Int) = (m : Int) + 1 by omega] at mB
  have sA := fun W hW => sum_any (nought m) W (by rw [nought_size]; unfold maxLen; omega) hW
  have sB := fun W hW => sum_any (nought (m + 1)) W (by rw [nought_size]; unfold maxLen; omega) hW
  have hne := nought_sum m
  have cA := fun g W hg => noughts_string m g W hg
  have cB := fun g W hg => noughts_string (m + 1) g W hg
  have lA := sumOf_lt (nought m).data.toList
  have lB := sumOf_lt (nought (m + 1)).data.toList
  generalize sumOf (nought m).data.toList = a at *
  generalize sumOf (nought (m + 1)).data.toList = c at *
  have hab : ((a : Int) == (c : Int)) = false := beq_eq_false_iff_ne.2 (by omega)
  generalize nought m = ZA at *
  generalize nought (m + 1) = ZB at *
  generalize noughtC m = MA at *
  generalize noughtC (m + 1) = MB at *
  have SA := hide sA
  have SB := hide sB
  have HT1 := hide hT1
  clear sA sB hne hT1 lA lB
  have sz := fun X : Obj => (show (w1.alloc X).heap.size = w1.heap.size + 1 by simp)
  have n1 := fun X : Obj => (show (w1.alloc X).drew.heap[w1.heap.size]? = some X from heap_alloc_new w1 X)
  have n2 := fun X Y : Obj => (show ((w1.alloc X).alloc Y).drew.heap[w1.heap.size]? = some X from (Below.heap_alloc (w1.alloc X) Y w1.heap.size (by rw [sz]; omega)).trans (heap_alloc_new w1 X))
  have n3 := fun X Y : Obj => (show ((w1.alloc X).alloc Y).drew.heap[w1.heap.size + 1]? = some Y from by have h := heap_alloc_new (w1.alloc X) Y; rw [sz] at h; exact h)
  have a1 := cA _ _ (n1 (.cells MA 5))
  have a2 := cA _ _ (n2 (.cells MA 5) (.cells MB 5))
  have a3 := cA _ _ (n3 (.cells MB 5) (.cells MA 5))
  have b1 := cB _ _ (n1 (.cells MB 5))
  have b2 := cB _ _ (n2 (.cells MB 5) (.cells MA 5))
  have b3 := cB _ _ (n3 (.cells MA 5) (.cells MB 5))
  have ew : IntKind.i64.wrap ((m : Int) + 1) = (m : Int) + 1 := by rw [IntKind.wrap_i64]; omega
  have hAB := fun X Y : Obj => ((hb1.alloc h01 X).alloc (by rw [sz]; omega) Y).drew
  have HAB := hide hAB
  clear n1 n2 n3 sz hAB
  clear cA cB
  go_cut [24] (fun x wc => x = .bool false ∧ Below w.heap.size w wc)
  case first =>
    clear eQ eR hQ hR HW HT h0 hb hb1 h01 hm
    go_region_with (first
      | (go_at_call_of 7 ZA; refine (unhide SA _ ?_).mono ?_; (repeat (first | exact unhide HT1 | apply TabW.drew | apply TabW.alloc)); rintro e w2 ⟨rfl, rfl⟩)
      | (go_at_call_of 7 ZB; refine (unhide SB _ ?_).mono ?_; (repeat (first | exact unhide HT1 | apply TabW.drew | apply TabW.alloc)); rintro e w2 ⟨rfl, rfl⟩))
    all_goals (go_wp2_with fail; go_meet; exact ⟨rfl, unhide HAB _ _⟩)
  case rest =>
    obtain ⟨rfl, hbc⟩ := hcut
    have hTc : TabW wc := (unhide HT).below hbc h0
    have HTc := hide hTc
    have hcs := hbc.size
    clear hTc a1 a2 a3 b1 b2 b3 mA mB SA SB HT1 HAB hab ew
    by_cases hb0 : b.size = 0
    · have e0 : ((b.size : Int) == 0) = true := beq_iff_eq.2 (by omega)
      clear hb0
      go_wp2
      go_ret
      exact ⟨rfl, hbc⟩
    · have e0 : ((b.size : Int) == 0) = false := beq_eq_false_iff_ne.2 (by omega)
      by_cases hbig : 20000 < b.size
      · go_wp2
        go_ret
        exact ⟨rfl, hbc⟩
      · obtain ⟨W2, cap, hcv, hcap, hb2, hg2, hcell, hfrz⟩ := bytes_of b wc
        obtain ⟨K, hK, eK⟩ : ∃ K : Nat, K < 8 * b.size ∧ (R : Int) % (8 * (b.size : Int)) = (K : Int) := ⟨R % (8 * b.size), Nat.mod_lt _ (by omega), by simp⟩
        obtain ⟨J, T, hJ, hT8, eJ, eT⟩ : ∃ J T : Nat, J < b.size ∧ T < 8 ∧ (K : Int) / 8 = (J : Int) ∧ (K : Int) % 8 = (T : Int) := ⟨K / 8, K % 8, by omega, by omega, by omega, by omega⟩
        have cJ := hcell J hJ
        have fJ := hfrz J hJ
        have HC := hide hcell
        clear hcell hfrz
        obtain ⟨C, hC, hCne, eC⟩ := flip_byte (b[J]).toNat T (b[J]).toNat_lt hT8
        go_upto_region 10 with fail
        clear eK hcv
        go_region
        have h3 : ∀ i (hi : i < b.size), ((W2.setCell ⟨wc.heap.size, J, none⟩ (.int .u8 (C : Int))).drew).cell? ⟨wc.heap.size, i, none⟩ = some (.int .u8 (if i = J then ((UInt8.ofNat C).toNat : Int) else (b[i].toNat : Int))) := fun i hi => by
          rw [u8_of C hC]
          by_cases e : i = J
          · subst e; rw [if_pos rfl]; simp [go_sem, cJ]
          · rw [if_neg e]
            have := unhide HC i hi
            simp [go_sem, this]
        have hs3 := setB_string b J wc.heap.size cap (UInt8.ofNat C) _ h3
        have hb3 : Below w.heap.size w ((W2.setCell ⟨wc.heap.size, J, none⟩ (.int .u8 (C : Int))).drew) := ((hbc.trans (hb2.mono hcs)).setCell hcs _).drew
        have hsum := setB_sum b J hJ (UInt8.ofNat C) (fun h => hCne (by rw [← h, u8_of C hC]))
        have hsz := setB_size b J (UInt8.ofNat C)
        have hT3 := (unhide HT).below hb3 h0
        generalize ((W2.setCell ⟨wc.heap.size, J, none⟩ (.int .u8 (C : Int))).drew) = W3 at *
        generalize setB b J (UInt8.ofNat C) = B2 at *
        have s1 := sum_any B2 W3 (by unfold maxLen; omega) hT3
        have s2 := sum_any b W3 (by unfold maxLen; omega) hT3
        generalize sumOf B2.data.toList = x1 at *
        generalize sumOf b.data.toList = x2 at *
        have hne : ((x1 : Int) != (x2 : Int)) = true := by rw [bne_iff_ne]; omega
        have S1 := hide s1
        have S2 := hide s2
        clear s1 s2 h3 hT3 hsum hsz cJ fJ HC eJ eT eC hb2 hbc
        go_wp2_with fail
        refine (unhide S1).mono ?_
        rintro e w4 ⟨rfl, rfl⟩
        go_wp2_with fail
        refine (unhide S2).mono ?_
        rintro e w5 ⟨rfl, rfl⟩
        go_wp2
        go_ret
        exact ⟨rfl, hb3⟩
end Go.Proofs.YtbbmacpjgflndabDoor
