/-
  readWord, readNumber, readText, readSign and read: what bytes begin with, as the plain function has it.
-/
import Derived.Test.YtgcmfcidmmjfiaaGreatDoorQ05
import Derived.Lib.AtoiErrMem
import Derived.Shelf.Strconv.ErrVarParseInt
namespace Go.Proofs.YtgcmfcidmmjfiaaGreatDoor
open Go.RowKit

def Tk.v (t : Tk) : Value := .agg #[.int .i64 t.kd, .string t.s, .int .i64 t.n, .int .i64 t.pl]
/-- What read tells. -/
def rdV : Option (Tk × Nat) → Value
  | none => .tuple #[.agg #[.int .i64 0, .string ⟨#[]⟩, .int .i64 0, .int .i64 0], .int .i64 0]
  | some (t, n) => .tuple #[t.v, .int .i64 n]
theorem ext_to (s : ByteArray) (n : Nat) : s.extract 0 n = txt (s.data.toList.take n) := by
  apply ByteArray.ext
  apply Array.ext'
  rw [ByteArray.data_extract, Array.toList_extract, List.extract_eq_take_drop]
  simp [txt]
theorem ext_from (s : ByteArray) (n : Nat) : s.extract n s.size = txt (s.data.toList.drop n) := by
  apply ByteArray.ext
  apply Array.ext'
  rw [ByteArray.data_extract, Array.toList_extract, List.extract_eq_take_drop, List.take_of_length_le (by rw [List.length_drop, Array.length_toList]; exact Nat.le_refl _)]
  simp [txt]
theorem size_list (s : ByteArray) : s.data.toList.length = s.size := Array.length_toList
set_option maxHeartbeats 1000000 in
theorem readWord_any (s : ByteArray) (w : World) (hT : TbW w) (hs : s.size ≤ 9223372036854775807) :
    Calls Tryz.prog 100 #[.string s] w fun e w' => e = .returned (rdV (tkW s.data.toList)) ∧ Below w.heap.size w w' := by
  have hle := spn_le isAln s.data.toList
  rw [size_list] at hle
  have HQ : Hid (tkW s.data.toList = if 32 < spn isAln s.data.toList then none else some (⟨1, s.extract 0 (spn isAln s.data.toList), 0, 0⟩, spn isAln s.data.toList)) := by
    refine hide ?_
    rw [ext_to]
    rfl
  have SP := fun W hW => span_any s 12 isAln cls_aln W hW hs
  generalize spn isAln s.data.toList = n at *
  generalize tkW s.data.toList = Q at *
  have HSP := hide SP
  clear SP
  by_cases h : 32 < n
  · have hq := unhide HQ
    rw [if_pos h] at hq
    subst hq
    clear HQ
    go_enter Tryz.func100, Tryz.ntmps100
    go_wp2_with fail
    refine (unhide HSP _ (hT.alloc _)).mono ?_
    rintro e w1 ⟨rfl, rfl⟩
    go_wp2
    exact bodyPost_ret (v := rdV none) (by simp [results, Tryz.results100, go_sem, rdV]) rfl ⟨rfl, (Below.refl _ _).alloc (Nat.le_refl _) _⟩
  · have hq := unhide HQ
    rw [if_neg h] at hq
    subst hq
    clear HQ
    go_enter Tryz.func100, Tryz.ntmps100
    go_wp2_with fail
    refine (unhide HSP _ (hT.alloc _)).mono ?_
    rintro e w1 ⟨rfl, rfl⟩
    go_wp2
    exact bodyPost_ret (v := rdV (some (⟨1, s.extract 0 n, 0, 0⟩, n))) (by simp [results, Tryz.results100, go_sem, rdV, Tk.v]) rfl ⟨rfl, (Below.refl _ _).alloc (Nat.le_refl _) _⟩
set_option maxHeartbeats 1000000 in
theorem readNumber_none (s : ByteArray) (w : World) (hT : TbW w) (h0 : 0 < s.size) (hs : s.size ≤ 9223372036854775807) (hz : s[0].toNat = 48) (hn : 1 < spn isDig s.data.toList) :
    Calls Tryz.prog 101 #[.string s] w fun e w' => e = .returned (rdV none) ∧ Below w.heap.size w w' := by
  have SP := fun W hW => span_any s 8 isDig cls_dig W hW hs
  generalize spn isDig s.data.toList = n at *
  have HSP := hide SP
  have g : ((s[0].toNat : Int) == 48) = true := by simp [hz]
  clear SP
  go_enter Tryz.func101, Tryz.ntmps101
  go_wp2_with fail
  refine (unhide HSP _ (hT.alloc _)).mono ?_
  rintro e w1 ⟨rfl, rfl⟩
  go_wp2
  exact bodyPost_ret (v := rdV none) (by simp [results, Tryz.results101, go_sem, rdV]) rfl ⟨rfl, (Below.refl _ _).alloc (Nat.le_refl _) _⟩
theorem parse_ok (s : ByteArray) (w : World) (hd : ∀ x ∈ s.data.toList, isDig x = true) (h0 : s.data.toList ≠ []) (hs : s.size ≤ 281474976710656) (h : ¬ 9223372036854775807 < dvl 0 s.data.toList) :
    Calls Tryz.prog 118 #[.string s, .int .i64 10, .int .i64 64] w fun e w' => e = .returned (.tuple #[.int .i64 (dvl 0 s.data.toList : Nat), .nilIface]) ∧ Below w.heap.size w w' := by
  have e := dvl_int _ hd h0
  rw [if_neg h] at e
  refine (Tryz.strconv_ParseInt_10_at64_ok s (by omega) _ e w).mono ?_
  rintro e w' ⟨rfl, rfl | ⟨t, rfl⟩⟩
  · exact ⟨rfl, Below.refl _ _⟩
  · exact ⟨rfl, Lib.bytesWorld_below _ _ _⟩
theorem parse_big (s : ByteArray) (w : World) (hT : TbW w) (hd : ∀ x ∈ s.data.toList, isDig x = true) (h0 : s.data.toList ≠ []) (hs : s.size ≤ 281474976710656) (h : 9223372036854775807 < dvl 0 s.data.toList) :
    Calls Tryz.prog 118 #[.string s, .int .i64 10, .int .i64 64] w fun e w' => ∃ x tp p, e = .returned (.tuple #[.int .i64 x, .iface tp p]) ∧ Below w.heap.size w w' := by
  have e := dvl_int _ hd h0
  rw [if_pos h] at e
  obtain ⟨tp, p, hc⟩ := hT.rng
  refine (Tryz.strconv_ParseInt_10_at64_range s hs e _ w hc (Or.inr ⟨_, _, rfl⟩)).mono ?_
  rintro e w' ⟨N, rfl, _, _, hb⟩
  exact ⟨_, _, _, rfl, hb⟩
set_option maxHeartbeats 2000000 in
theorem readNumber_some (s : ByteArray) (w : World) (hT : TbW w) (h0 : 0 < s.size) (hs : s.size ≤ 140737488351232) (hz : ¬ (s[0].toNat = 48 ∧ 1 < spn isDig s.data.toList)) (h1 : 1 ≤ spn isDig s.data.toList) :
    Calls Tryz.prog 101 #[.string s] w fun e w' => e = .returned (rdV (if 9223372036854775807 < dvl 0 (s.data.toList.take (spn isDig s.data.toList)) then none else some (⟨2, txt [], (dvl 0 (s.data.toList.take (spn isDig s.data.toList)) : Nat), 0⟩, spn isDig s.data.toList))) ∧ Below w.heap.size w w' := by
  have SP := fun W hW => span_any s 8 isDig cls_dig W hW (by omega)
  have hle := spn_le isDig s.data.toList
  rw [size_list] at hle
  have hd : ∀ x ∈ s.data.toList.take (spn isDig s.data.toList), isDig x = true := spn_mem
  generalize spn isDig s.data.toList = n at *
  have he : (s.extract 0 n).data.toList = s.data.toList.take n := by rw [ext_to]; rfl
  have hne : s.data.toList.take n ≠ [] := by
    intro e
    have := congrArg List.length e
    rw [List.length_take, size_list] at this
    simp only [List.length_nil] at this
    omega
  have hsz : (s.extract 0 n).size ≤ 281474976710656 := by rw [ByteArray.size_extract]; omega
  rw [← he] at hd hne ⊢
  have HSP := hide SP
  have HD := hide hd
  have HNE := hide hne
  clear SP hd hne he
  have HZ : Hid (((s[0].toNat : Int) == 48) = false ∨ (((s[0].toNat : Int) == 48) = true ∧ n ≤ 1)) := by
    refine hide ?_
    by_cases h : s[0].toNat = 48
    · exact Or.inr ⟨by simp [h], by omega⟩
    · exact Or.inl (by simp; omega)
  have HS := hide hsz
  clear hz hsz
  by_cases hv : 9223372036854775807 < dvl 0 (s.extract 0 n).data.toList
  · rw [if_pos hv]
    have HV := hide hv
    clear hv
    rcases unhide HZ with hz | ⟨hz, hn1⟩
    · go_enter Tryz.func101, Tryz.ntmps101
      go_wp2_with fail
      refine (unhide HSP _ (hT.alloc _)).mono ?_
      rintro e w1 ⟨rfl, rfl⟩
      go_wp2_with fail
      refine (parse_big (s.extract 0 n) _ (hT.alloc _) (unhide HD) (unhide HNE) (unhide HS) (unhide HV)).mono ?_
      rintro e w1 ⟨x, tp, p, rfl, hb⟩
      have hb0 : Below w.heap.size w w1 := ((Below.refl _ _).alloc (Nat.le_refl _) _).trans (hb.mono (by simp))
      have q : w1.heap[w.heap.size]? = some (.cells #[.int .i64 0, .string ⟨#[]⟩, .int .i64 0, .int .i64 0] 75 (0, 0)) := by rw [hb.block _ (by simp)]; exact heap_alloc_new w _
      have q0 := CBox.cell (i := 0) (v := .int .i64 0) q rfl
      have q1 := CBox.cell (i := 1) (v := .string ⟨#[]⟩) q rfl
      have q2 := CBox.cell (i := 2) (v := .int .i64 0) q rfl
      have q3 := CBox.cell (i := 3) (v := .int .i64 0) q rfl
      have f0 := CBox.froz q 0
      have f1 := CBox.froz q 1
      have f2 := CBox.froz q 2
      have f3 := CBox.froz q 3
      have HB0 := hide hb0
      clear hb hb0 q
      go_wp2
      exact bodyPost_ret (v := rdV none) (by simp [results, Tryz.results101, go_sem, rdV, q0, q1, q2, q3]) rfl ⟨rfl, ((((unhide HB0).setCell (Nat.le_refl _) _).setCell (Nat.le_refl _) _).setCell (Nat.le_refl _) _).setCell (Nat.le_refl _) _⟩
    · go_enter Tryz.func101, Tryz.ntmps101
      go_wp2_with fail
      refine (unhide HSP _ (hT.alloc _)).mono ?_
      rintro e w1 ⟨rfl, rfl⟩
      go_wp2_with fail
      refine (parse_big (s.extract 0 n) _ (hT.alloc _) (unhide HD) (unhide HNE) (unhide HS) (unhide HV)).mono ?_
      rintro e w1 ⟨x, tp, p, rfl, hb⟩
      have hb0 : Below w.heap.size w w1 := ((Below.refl _ _).alloc (Nat.le_refl _) _).trans (hb.mono (by simp))
      have q : w1.heap[w.heap.size]? = some (.cells #[.int .i64 0, .string ⟨#[]⟩, .int .i64 0, .int .i64 0] 75 (0, 0)) := by rw [hb.block _ (by simp)]; exact heap_alloc_new w _
      have q0 := CBox.cell (i := 0) (v := .int .i64 0) q rfl
      have q1 := CBox.cell (i := 1) (v := .string ⟨#[]⟩) q rfl
      have q2 := CBox.cell (i := 2) (v := .int .i64 0) q rfl
      have q3 := CBox.cell (i := 3) (v := .int .i64 0) q rfl
      have f0 := CBox.froz q 0
      have f1 := CBox.froz q 1
      have f2 := CBox.froz q 2
      have f3 := CBox.froz q 3
      have HB0 := hide hb0
      clear hb hb0 q
      go_wp2
      exact bodyPost_ret (v := rdV none) (by simp [results, Tryz.results101, go_sem, rdV, q0, q1, q2, q3]) rfl ⟨rfl, ((((unhide HB0).setCell (Nat.le_refl _) _).setCell (Nat.le_refl _) _).setCell (Nat.le_refl _) _).setCell (Nat.le_refl _) _⟩
  · rw [if_neg hv]
    have HV := hide hv
    have PO := fun W => parse_ok (s.extract 0 n) W (unhide HD) (unhide HNE) (unhide HS) hv
    generalize dvl 0 (s.extract 0 n).data.toList = V at PO ⊢
    have HPO := hide PO
    clear hv HV PO
    rcases unhide HZ with hz | ⟨hz, hn1⟩
    · go_enter Tryz.func101, Tryz.ntmps101
      go_wp2_with fail
      refine (unhide HSP _ (hT.alloc _)).mono ?_
      rintro e w1 ⟨rfl, rfl⟩
      go_wp2_with fail
      refine (unhide HPO _).mono ?_
      rintro e w1 ⟨rfl, hb⟩
      have hb0 : Below w.heap.size w w1 := ((Below.refl _ _).alloc (Nat.le_refl _) _).trans (hb.mono (by simp))
      have q : w1.heap[w.heap.size]? = some (.cells #[.int .i64 0, .string ⟨#[]⟩, .int .i64 0, .int .i64 0] 75 (0, 0)) := by rw [hb.block _ (by simp)]; exact heap_alloc_new w _
      have q0 := CBox.cell (i := 0) (v := .int .i64 0) q rfl
      have q1 := CBox.cell (i := 1) (v := .string ⟨#[]⟩) q rfl
      have q2 := CBox.cell (i := 2) (v := .int .i64 0) q rfl
      have q3 := CBox.cell (i := 3) (v := .int .i64 0) q rfl
      have f0 := CBox.froz q 0
      have f1 := CBox.froz q 1
      have f2 := CBox.froz q 2
      have f3 := CBox.froz q 3
      have HB0 := hide hb0
      clear hb hb0 q
      go_wp2
      exact bodyPost_ret (v := rdV (some (⟨2, txt [], (V : Int), 0⟩, n))) (by simp [results, Tryz.results101, go_sem, rdV, Tk.v, txt, q0, q1, q2, q3]) rfl ⟨rfl, ((((unhide HB0).setCell (Nat.le_refl _) _).setCell (Nat.le_refl _) _).setCell (Nat.le_refl _) _).setCell (Nat.le_refl _) _⟩
    · go_enter Tryz.func101, Tryz.ntmps101
      go_wp2_with fail
      refine (unhide HSP _ (hT.alloc _)).mono ?_
      rintro e w1 ⟨rfl, rfl⟩
      go_wp2_with fail
      refine (unhide HPO _).mono ?_
      rintro e w1 ⟨rfl, hb⟩
      have hb0 : Below w.heap.size w w1 := ((Below.refl _ _).alloc (Nat.le_refl _) _).trans (hb.mono (by simp))
      have q : w1.heap[w.heap.size]? = some (.cells #[.int .i64 0, .string ⟨#[]⟩, .int .i64 0, .int .i64 0] 75 (0, 0)) := by rw [hb.block _ (by simp)]; exact heap_alloc_new w _
      have q0 := CBox.cell (i := 0) (v := .int .i64 0) q rfl
      have q1 := CBox.cell (i := 1) (v := .string ⟨#[]⟩) q rfl
      have q2 := CBox.cell (i := 2) (v := .int .i64 0) q rfl
      have q3 := CBox.cell (i := 3) (v := .int .i64 0) q rfl
      have f0 := CBox.froz q 0
      have f1 := CBox.froz q 1
      have f2 := CBox.froz q 2
      have f3 := CBox.froz q 3
      have HB0 := hide hb0
      clear hb hb0 q
      go_wp2
      exact bodyPost_ret (v := rdV (some (⟨2, txt [], (V : Int), 0⟩, n))) (by simp [results, Tryz.results101, go_sem, rdV, Tk.v, txt, q0, q1, q2, q3]) rfl ⟨rfl, ((((unhide HB0).setCell (Nat.le_refl _) _).setCell (Nat.le_refl _) _).setCell (Nat.le_refl _) _).setCell (Nat.le_refl _) _⟩
end Go.Proofs.YtgcmfcidmmjfiaaGreatDoor
