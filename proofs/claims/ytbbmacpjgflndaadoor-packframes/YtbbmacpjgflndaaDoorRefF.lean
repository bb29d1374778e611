/-
  The document's answer for sums and frames (four, unfour, Of, Frame) is the plain functions'.
-/
import Derived.Test.YtbbmacpjgflndaaDoorFrs
import Derived.Test.YtbbmacpjgflndaaDoorRefS
import Derived.Lib.SmallJoins
namespace Go.Proofs.YtbbmacpjgflndaaDoor
open Go.RowKit

set_option maxHeartbeats 400000 in
theorem four_any (n : Nat) (w : World) (hn : n < 4294967296) :
    Calls Tryd.prog 45 #[.int .u32 (n : Int)] w fun e w' => e = .returned (.string ⟨(w4 n).toArray⟩) ∧ Below w.heap.size w w' := by
  obtain ⟨a, ha, ea⟩ : ∃ a : Nat, n / 16777216 % 256 = a ∧ (n : Int) / 16777216 = (a : Int) := ⟨_, rfl, by omega⟩
  obtain ⟨b, hb, eb⟩ : ∃ a : Nat, n / 65536 % 256 = a ∧ (n : Int) / 65536 % 256 = (a : Int) := ⟨_, rfl, by omega⟩
  obtain ⟨c, hc, ec⟩ : ∃ a : Nat, n / 256 % 256 = a ∧ (n : Int) / 256 % 256 = (a : Int) := ⟨_, rfl, by omega⟩
  obtain ⟨d, hd, ed⟩ : ∃ a : Nat, n % 256 = a ∧ (n : Int) % 256 = (a : Int) := ⟨_, rfl, by omega⟩
  have hs : (⟨(w4 n).toArray⟩ : ByteArray) = strOfNums [(a : Int), (b : Int), (c : Int), (d : Int)] := by
    unfold w4 strOfNums
    rw [ha, hb, hc, hd]
    simp
  have hcv := run_convert_bytes_arg (P := Tryd.prog) (w.alloc (.cells #[.int .u8 (a : Int), .int .u8 (b : Int), .int .u8 (c : Int), .int .u8 (d : Int)] 5)) 47 5 Tryd.underlying47 Tryd.underlying5 w.heap.size 0 4 4 [(a : Int), (b : Int), (c : Int), (d : Int)] rfl (fun i hi => by
    match i, hi with
    | 0, _ => simp
    | 1, _ => simp
    | 2, _ => simp
    | 3, _ => simp) 9 Tryd.underlying9
  rw [← hs] at hcv
  generalize (⟨(w4 n).toArray⟩ : ByteArray) = Z at *
  clear hs ha hb hc hd
  go_enter Tryd.func45, Tryd.ntmps45
  go_wp2
  go_ret
  exact ⟨rfl, (Below.refl _ _).alloc (Nat.le_refl _) _⟩
set_option maxHeartbeats 400000 in
theorem unfour_any (s : ByteArray) (w : World) (h : 4 ≤ s.size) :
    Calls Tryd.prog 39 #[.string s] w fun e w' => e = .returned (.int .u32 (unw4 s.data.toList : Nat)) ∧ ∃ n, w' = w.drewN n := by
  have k0 : 0 < s.size := by omega
  have k1 : 1 < s.size := by omega
  have k2 : 2 < s.size := by omega
  have k3 : 3 < s.size := by omega
  have hv := unw4_get s k0 k1 k2 k3
  have HV := hide hv
  clear hv
  have h0 : (0 : Int) < (s.size : Int) := by omega
  have h1 : (1 : Int) < (s.size : Int) := by omega
  have h2 : (2 : Int) < (s.size : Int) := by omega
  have h3 : (3 : Int) < (s.size : Int) := by omega
  go_enter Tryd.func39, Tryd.ntmps39
  go_wp2
  go_quiet (fail)
  go_wp2
  go_ret
  refine ⟨ret_int ?_, _, rfl⟩
  rw [unhide HV]
  have := (s[0]).toNat_lt; have := (s[1]).toNat_lt; have := (s[2]).toNat_lt; have := (s[3]).toNat_lt
  omega
set_option maxHeartbeats 1000000 in
theorem of_any (b : ByteArray) (w : World) (hb : b.size ≤ 65536) :
    Calls Tryd.prog 36 #[.string b] w fun e w' => e = .returned (.string ⟨(frameL b.data.toList).toArray⟩) ∧ Below w.heap.size w w' := by
  have hlen : b.data.toList.length = b.size := Array.length_toList
  have f1 := fun w => four_any b.size w (by omega)
  have hd1 : (⟨#[87, 70]⟩ : ByteArray) ++ ⟨(w4 b.size).toArray⟩ = ⟨(headL b.size).toArray⟩ := by
    apply ByteArray.ext
    apply Array.ext'
    rw [Joins.data_append]
    rfl
  have hs4 : (⟨(w4 b.size).toArray⟩ : ByteArray).size = 4 := rfl
  have hs6 : (⟨(headL b.size).toArray⟩ : ByteArray).size = 6 := rfl
  have su := fun w => refSum_any (⟨(headL b.size).toArray⟩ ++ b) w (by rw [ByteArray.size_append, hs6]; omega)
  rw [Joins.data_append, show ({ data := (headL b.size).toArray } : ByteArray).data.toList = headL b.size from rfl] at su
  have hsl := sumOf_lt (headL b.size ++ b.data.toList)
  have hfin : (⟨(headL b.size).toArray⟩ : ByteArray) ++ ⟨(w4 (sumOf (headL b.size ++ b.data.toList))).toArray⟩ ++ b = ⟨(frameL b.data.toList).toArray⟩ := by
    apply ByteArray.ext
    apply Array.ext'
    rw [Joins.data_append, Joins.data_append]
    show headL b.size ++ w4 (sumOf (headL b.size ++ b.data.toList)) ++ b.data.toList = frameL b.data.toList
    unfold frameL
    rw [hlen]
  have f2 := fun w => four_any (sumOf (headL b.size ++ b.data.toList)) w hsl
  generalize sumOf (headL b.size ++ b.data.toList) = x at *
  have hs4x : (⟨(w4 x).toArray⟩ : ByteArray).size = 4 := rfl
  generalize (⟨(w4 x).toArray⟩ : ByteArray) = W4x at *
  generalize (⟨(w4 b.size).toArray⟩ : ByteArray) = W4b at *
  generalize (⟨(headL b.size).toArray⟩ : ByteArray) = Hd at *
  have F1 := hide f1
  have F2 := hide f2
  have SU := hide su
  have HFIN := hide hfin
  have q1 : ({ data := #[87, 70] } : ByteArray).size + W4b.size ≤ 9223372036854775807 := by rw [hs4]; decide
  have q1' : 2 + W4b.size ≤ 9223372036854775807 := by rw [hs4]; decide
  have q2 : Hd.size + b.size ≤ 9223372036854775807 := by omega
  have q3 : Hd.size + W4x.size ≤ 9223372036854775807 := by omega
  have q4 : (Hd ++ W4x).size + b.size ≤ 9223372036854775807 := by rw [ByteArray.size_append]; omega
  clear f1 f2 su hfin hs4 hs6 hs4x hlen hsl
  go_enter Tryd.func36, Tryd.ntmps36
  go_wp2_with fail
  refine (unhide F1 w).mono ?_
  rintro e w1 ⟨rfl, hb1⟩
  go_wp2_with fail
  refine (unhide SU w1).mono ?_
  rintro e w2 ⟨rfl, rfl⟩
  go_wp2_with fail
  refine (unhide F2 _).mono ?_
  rintro e w3 ⟨rfl, hb3⟩
  have hb4 := hb1.trans (hb3.mono hb1.size)
  clear hb1 hb3
  go_wp2
  go_ret
  exact ⟨by rw [← unhide HFIN]; rfl, hb4⟩
set_option maxHeartbeats 400000 in
theorem refFrame_any (b : ByteArray) (w : World) (hb : b.size ≤ 9223372036854775807) :
    Calls Tryd.prog 19 #[.string b] w fun e w' => e = .returned (.tuple #[.string (frS b), .int .i64 (frE b)]) ∧ Below w.heap.size w w' := by
  by_cases hbig : 65536 < b.size
  · have e1 : frE b = 2 := if_pos hbig
    have e2 : frS b = ⟨#[]⟩ := if_pos hbig
    rw [e1, e2]
    clear e1 e2
    go_enter Tryd.func19, Tryd.ntmps19
    go_wp2
    go_ret2
    exact ⟨rfl, Below.refl _ _⟩
  · have e1 : frE b = 0 := if_neg hbig
    have e2 : frS b = ⟨(frameL b.data.toList).toArray⟩ := if_neg hbig
    rw [e1, e2]
    have c := of_any b w (by omega)
    generalize (⟨(frameL b.data.toList).toArray⟩ : ByteArray) = Z at *
    have C := hide c
    clear e1 e2 c
    go_enter Tryd.func19, Tryd.ntmps19
    go_wp2_with fail
    refine (unhide C).mono ?_
    rintro e w1 ⟨rfl, hb1⟩
    go_wp2
    go_ret2
    exact ⟨rfl, hb1⟩
set_option maxHeartbeats 400000 in
theorem fault_any (p c : Int) (w : World) :
    Calls Tryd.prog 32 #[.int .i64 p, .int .i64 c] w fun e w' => e = .returned (.agg #[.int .i64 p, .int .i64 c]) ∧ w' = w.alloc (.cells #[.int .i64 p, .int .i64 c] 28) := by
  go_enter Tryd.func32, Tryd.ntmps32
  go_wp2
  exact bodyPost_ret (v := .agg #[.int .i64 p, .int .i64 c]) (by simp [results, Tryd.results32, go_sem]) rfl ⟨rfl, rfl⟩
end Go.Proofs.YtbbmacpjgflndaaDoor
