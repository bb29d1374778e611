/-
  The document's answer for sums and frames (four, unfour, Of, Frame) is the plain functions'.
  The document's answer for a frame at a place, and for all frames, is the plain functions'.
  The document's answer for all frames from the front on is the plain function's.
-/
import Derived.Test.YtboffmbaaokbnaaGreatDoorG19
import Derived.Lib.SmallJoins
import Derived.Test.YtboffmbaaokbnaaGreatDoorG10
namespace Go.Proofs.YtboffmbaaokbnaaGreatDoor
open Go.RowKit

set_option maxHeartbeats 400000 in
theorem four_any (n : Nat) (w : World) (hn : n < 4294967296) :
    Calls Tryz.prog 87 #[.int .u32 (n : Int)] w fun e w' => e = .returned (.string ⟨(w4 n).toArray⟩) ∧ Below w.heap.size w w' := by
  obtain ⟨a, ha, ea⟩ : ∃ a : Nat, n / 16777216 % 256 = a ∧ (n : Int) / 16777216 = (a : Int) := ⟨_, rfl, by omega⟩
  obtain ⟨b, hb, eb⟩ : ∃ a : Nat, n / 65536 % 256 = a ∧ (n : Int) / 65536 % 256 = (a : Int) := ⟨_, rfl, by omega⟩
  obtain ⟨c, hc, ec⟩ : ∃ a : Nat, n / 256 % 256 = a ∧ (n : Int) / 256 % 256 = (a : Int) := ⟨_, rfl, by omega⟩
  obtain ⟨d, hd, ed⟩ : ∃ a : Nat, n % 256 = a ∧ (n : Int) % 256 = (a : Int) := ⟨_, rfl, by omega⟩
  have hs : (⟨(w4 n).toArray⟩ : ByteArray) = strOfNums [(a : Int), (b : Int), (c : Int), (d : Int)] := by
    unfold w4 strOfNums
    rw [ha, hb, hc, hd]
    simp
  have hcv := run_convert_bytes_arg (P := Tryz.prog) (w.alloc (.cells #[.int .u8 (a : Int), .int .u8 (b : Int), .int .u8 (c : Int), .int .u8 (d : Int)] 5)) 98 5 Tryz.underlying98 Tryz.underlying5 w.heap.size 0 4 4 [(a : Int), (b : Int), (c : Int), (d : Int)] rfl (fun i hi => by
    match i, hi with
    | 0, _ => simp
    | 1, _ => simp
    | 2, _ => simp
    | 3, _ => simp) 9 Tryz.underlying9
  rw [← hs] at hcv
  generalize (⟨(w4 n).toArray⟩ : ByteArray) = Z at *
  clear hs ha hb hc hd
  go_enter Tryz.func87, Tryz.ntmps87
  go_wp2
  go_ret
  exact ⟨rfl, (Below.refl _ _).alloc (Nat.le_refl _) _⟩
set_option maxHeartbeats 400000 in
theorem unfour_any (s : ByteArray) (w : World) (h : 4 ≤ s.size) :
    Calls Tryz.prog 72 #[.string s] w fun e w' => e = .returned (.int .u32 (unw4 s.data.toList : Nat)) ∧ ∃ n, w' = w.drewN n := by
  have k0 : 0 < s.size := by omega
  have k1 : 1 < s.size := by omega
  have k2 : 2 < s.size := by omega
  have k3 : 3 < s.size := by omega
  have hv := unw4_get s k0 k1 k2 k3
  have HV := hide hv
  clear hv
  have h0 : (0 : Int) < (s.size : Int) := by omega
  have h1 : (1 : Int) < (s.size : Int) := by omega
  have h2 : (2 : Int) < (s.size : Int) := by omega
  have h3 : (3 : Int) < (s.size : Int) := by omega
  go_enter Tryz.func72, Tryz.ntmps72
  go_wp2
  go_quiet (fail)
  go_wp2
  go_ret
  refine ⟨ret_int ?_, _, rfl⟩
  rw [unhide HV]
  have := (s[0]).toNat_lt; have := (s[1]).toNat_lt; have := (s[2]).toNat_lt; have := (s[3]).toNat_lt
  omega
set_option maxHeartbeats 1000000 in
theorem of_any (b : ByteArray) (w : World) (hb : b.size ≤ 65536) :
    Calls Tryz.prog 75 #[.string b] w fun e w' => e = .returned (.string ⟨(frameL b.data.toList).toArray⟩) ∧ Below w.heap.size w w' := by
  have hlen : b.data.toList.length = b.size := Array.length_toList
  have f1 := fun w => four_any b.size w (by omega)
  have hd1 : (⟨#[87, 70]⟩ : ByteArray) ++ ⟨(w4 b.size).toArray⟩ = ⟨(headL b.size).toArray⟩ := by
    apply ByteArray.ext
    apply Array.ext'
    rw [Joins.data_append]
    rfl
  have hs4 : (⟨(w4 b.size).toArray⟩ : ByteArray).size = 4 := rfl
  have hs6 : (⟨(headL b.size).toArray⟩ : ByteArray).size = 6 := rfl
  have su := fun w => refSum_any (⟨(headL b.size).toArray⟩ ++ b) w (by rw [ByteArray.size_append, hs6]; omega)
  rw [Joins.data_append, show ({ data := (headL b.size).toArray } : ByteArray).data.toList = headL b.size from rfl] at su
  have hsl := sumOf_lt (headL b.size ++ b.data.toList)
  have hfin : (⟨(headL b.size).toArray⟩ : ByteArray) ++ ⟨(w4 (sumOf (headL b.size ++ b.data.toList))).toArray⟩ ++ b = ⟨(frameL b.data.toList).toArray⟩ := by
    apply ByteArray.ext
    apply Array.ext'
    rw [Joins.data_append, Joins.data_append]
    show headL b.size ++ w4 (sumOf (headL b.size ++ b.data.toList)) ++ b.data.toList = frameL b.data.toList
    unfold frameL
    rw [hlen]
  have f2 := fun w => four_any (sumOf (headL b.size ++ b.data.toList)) w hsl
  generalize sumOf (headL b.size ++ b.data.toList) = x at *
  have hs4x : (⟨(w4 x).toArray⟩ : ByteArray).size = 4 := rfl
  generalize (⟨(w4 x).toArray⟩ : ByteArray) = W4x at *
  generalize (⟨(w4 b.size).toArray⟩ : ByteArray) = W4b at *
  generalize (⟨(headL b.size).toArray⟩ : ByteArray) = Hd at *
  have F1 := hide f1
  have F2 := hide f2
  have SU := hide su
  have HFIN := hide hfin
  have q1 : ({ data := #[87, 70] } : ByteArray).size + W4b.size ≤ 9223372036854775807 := by rw [hs4]; decide
  have q1' : 2 + W4b.size ≤ 9223372036854775807 := by rw [hs4]; decide
  have q2 : Hd.size + b.size ≤ 9223372036854775807 := by omega
  have q3 : Hd.size + W4x.size ≤ 9223372036854775807 := by omega
  have q4 : (Hd ++ W4x).size + b.size ≤ 9223372036854775807 := by rw [ByteArray.size_append]; omega
  clear f1 f2 su hfin hs4 hs6 hs4x hlen hsl
  go_enter Tryz.func75, Tryz.ntmps75
  go_wp2_with fail
  refine (unhide F1 w).mono ?_
  rintro e w1 ⟨rfl, hb1⟩
  go_wp2_with fail
  refine (unhide SU w1).mono ?_
  rintro e w2 ⟨rfl, rfl⟩
  go_wp2_with fail
  refine (unhide F2 _).mono ?_
  rintro e w3 ⟨rfl, hb3⟩
  have hb4 := hb1.trans (hb3.mono hb1.size)
  clear hb1 hb3
  go_wp2
  go_ret
  exact ⟨by rw [← unhide HFIN]; rfl, hb4⟩
set_option maxHeartbeats 400000 in
theorem refFrame_any (b : ByteArray) (w : World) (hb : b.size ≤ 9223372036854775807) :
    Calls Tryz.prog 49 #[.string b] w fun e w' => e = .returned (.tuple #[.string (frS b), .int .i64 (frE b)]) ∧ Below w.heap.size w w' := by
  by_cases hbig : 65536 < b.size
  · have e1 : frE b = 2 := if_pos hbig
    have e2 : frS b = ⟨#[]⟩ := if_pos hbig
    rw [e1, e2]
    clear e1 e2
    go_enter Tryz.func49, Tryz.ntmps49
    go_wp2
    go_ret2
    exact ⟨rfl, Below.refl _ _⟩
  · have e1 : frE b = 0 := if_neg hbig
    have e2 : frS b = ⟨(frameL b.data.toList).toArray⟩ := if_neg hbig
    rw [e1, e2]
    have c := of_any b w (by omega)
    generalize (⟨(frameL b.data.toList).toArray⟩ : ByteArray) = Z at *
    have C := hide c
    clear e1 e2 c
    go_enter Tryz.func49, Tryz.ntmps49
    go_wp2_with fail
    refine (unhide C).mono ?_
    rintro e w1 ⟨rfl, hb1⟩
    go_wp2
    go_ret2
    exact ⟨rfl, hb1⟩
set_option maxHeartbeats 400000 in
theorem fault_any (p c : Int) (w : World) :
    Calls Tryz.prog 71 #[.int .i64 p, .int .i64 c] w fun e w' => e = .returned (.agg #[.int .i64 p, .int .i64 c]) ∧ w' = w.alloc (.cells #[.int .i64 p, .int .i64 c] 84) := by
  go_enter Tryz.func71, Tryz.ntmps71
  go_wp2
  exact bodyPost_ret (v := .agg #[.int .i64 p, .int .i64 c]) (by simp [results, Tryz.results71, go_sem]) rfl ⟨rfl, rfl⟩
end Go.Proofs.YtboffmbaaokbnaaGreatDoor
namespace Go.Proofs.YtboffmbaaokbnaaGreatDoor
open Go.RowKit

theorem hasPre2 (x y : UInt8) (r : List UInt8) : Lib.hasPrefix (x :: y :: r) [87, 70] = (x == 87 && y == 70) := by
  unfold Lib.hasPrefix
  simp only [List.isPrefixOf]
  rw [show (87 == x) = (x == 87) from Bool.beq_comm, show (70 == y) = (y == 70) from Bool.beq_comm, Bool.and_true]
theorem body_s0 : bodyS [] = ([], 11) := rfl
theorem body_s1 (r : List UInt8) : r.length = 0 → bodyS (87 :: r) = ([], 11) := fun h => by
  obtain rfl := List.eq_nil_of_length_eq_zero h
  rfl
theorem body_f1 (x : UInt8) (r : List UInt8) (h : x ≠ 87) : bodyS (x :: r) = ([], 3) := by
  unfold bodyS
  have h1 : Lib.hasPrefix [87, 70] (x :: r) = false := by
    unfold Lib.hasPrefix
    simp [List.isPrefixOf, h]
  have h2 : Lib.hasPrefix (x :: r) [87, 70] = false := by
    unfold Lib.hasPrefix
    simp only [List.isPrefixOf]
    rw [show (87 == x) = false from by simp; exact fun e => h e.symm]
    rfl
  rw [if_neg (by rw [h1]; simp), if_pos h2]
theorem body_f2 (x y : UInt8) (r : List UInt8) (h : y ≠ 70) : bodyS (x :: y :: r) = ([], 3) := by
  unfold bodyS
  have h2 : Lib.hasPrefix (x :: y :: r) [87, 70] = false := by rw [hasPre2]; simp [h]
  rw [if_neg (fun h => by have := h.1; simp only [List.length_cons] at this; omega), if_pos h2]
/-- Behind the mark. -/
def bodyR (l : List UInt8) : List UInt8 × Int :=
  if l.length < 10 then ([], 11) else if 65536 < unw4 (l.drop 2) then ([], 2) else if (l.drop 10).length < unw4 (l.drop 2) then ([], 11) else
  if sumOf (l.take 6 ++ (l.drop 10).take (unw4 (l.drop 2))) ≠ unw4 (l.drop 6) then ([], 10) else ((l.drop 10).take (unw4 (l.drop 2)), 0)
theorem body_r (r : List UInt8) : bodyS (87 :: 70 :: r) = bodyR (87 :: 70 :: r) := by
  unfold bodyS bodyR
  rw [if_neg (fun h => by have := h.1; simp only [List.length_cons] at this; omega), if_neg (by rw [hasPre2]; simp)]
theorem get0 (s : ByteArray) (h : 0 < s.size) : s.data.toList = s[0] :: s.data.toList.drop 1 := by
  have := drop_get s 0 h; rwa [List.drop_zero] at this
theorem get01 (s : ByteArray) (h : 1 < s.size) : s.data.toList = s[0] :: s[1] :: s.data.toList.drop 2 := by
  have := get0 s (by omega)
  rw [drop_get s 1 h] at this
  exact this
theorem rsT (T : ByteArray) (n : Nat) (w : World) (h : 10 + n ≤ T.size) (hT : T.size ≤ 9223372036854775807) :
    Calls Tryz.prog 73 #[.string (T.extract 0 6 ++ T.extract 10 (10 + n))] w fun e w' => e = .returned (.int .u32 (sumOf (T.data.toList.take 6 ++ (T.data.toList.drop 10).take n) : Nat)) ∧ w' = w := by
  have k := refSum_any (T.extract 0 6 ++ T.extract 10 (10 + n)) w (by rw [ByteArray.size_append, ByteArray.size_extract, ByteArray.size_extract]; omega)
  rw [Joins.data_append, ext_pre, Lib.extract_data T 10 (10 + n), Nat.add_sub_cancel_left] at k
  exact k
theorem bodyT (T : ByteArray) (n : Nat) : T.extract 10 (10 + n) = ⟨((T.data.toList.drop 10).take n).toArray⟩ := by
  apply ByteArray.ext
  apply Array.ext'
  rw [Lib.extract_data, Nat.add_sub_cancel_left]
theorem ufT2 (T : ByteArray) (w : World) (h : 10 ≤ T.size) : Calls Tryz.prog 72 #[.string (T.extract 2 6)] w fun e w' => e = .returned (.int .u32 (unw4 (T.data.toList.drop 2) : Nat)) ∧ ∃ n, w' = w.drewN n := by
  have k := unfour_any (T.extract 2 6) w (by rw [ByteArray.size_extract]; omega)
  rw [Lib.extract_data, show 6 - 2 = 4 from rfl, ← take4_unw4] at k
  exact k
theorem ufT6 (T : ByteArray) (w : World) (h : 10 ≤ T.size) : Calls Tryz.prog 72 #[.string (T.extract 6 10)] w fun e w' => e = .returned (.int .u32 (unw4 (T.data.toList.drop 6) : Nat)) ∧ ∃ n, w' = w.drewN n := by
  have k := unfour_any (T.extract 6 10) w (by rw [ByteArray.size_extract]; omega)
  rw [Lib.extract_data, show 10 - 6 = 4 from rfl, ← take4_unw4] at k
  exact k
theorem szT (T : ByteArray) (n : Nat) (h : 10 + n ≤ T.size) : (T.extract 0 6).size + (T.extract 10 (10 + n)).size ≤ 6 + n ∧ (T.extract 10 (10 + n)).size = n := by
  rw [ByteArray.size_extract, ByteArray.size_extract]; omega
set_option maxHeartbeats 4000000 in
theorem refUnframe_any (b : ByteArray) (p : Int) (w : World) (hb : b.size ≤ 9223372036854775807) :
    Calls Tryz.prog 45 #[.string b, .int .i64 p] w fun e w' =>
      e = .returned (.tuple #[.string ⟨(unfS b.data.toList p).1.toArray⟩, .int .i64 (unfS b.data.toList p).2.1, .agg #[.int .i64 (unfS b.data.toList p).2.2.1, .int .i64 (unfS b.data.toList p).2.2.2]]) ∧ Below w.heap.size w w' := by
  have hlen : b.data.toList.length = b.size := Array.length_toList
  generalize hR : unfS b.data.toList p = R
  unfold unfS at hR
  rw [hlen] at hR
  by_cases hout : p < 0 ∨ (b.size : Int) < p
  · rw [if_pos hout] at hR
    subst hR
    clear hlen
    rcases Int.lt_or_le p 0 with hp | hp
    · clear hout
      go_enter Tryz.func45, Tryz.ntmps45
      go_wp2_with fail
      refine (fault_any _ _ _).mono ?_
      rintro e w1 ⟨rfl, rfl⟩
      go_wp2
      all_goals exact bodyPost_ret (v := .tuple #[.string ⟨#[]⟩, .int .i64 0, .agg #[.int .i64 0, .int .i64 1]]) (by simp [results, Tryz.results45, go_sem]) rfl ⟨rfl, ((Below.refl _ _).alloc (Nat.le_refl _) _).alloc (by simp) _⟩
    · have hp2 : (b.size : Int) < p := by omega
      clear hout
      go_enter Tryz.func45, Tryz.ntmps45
      go_wp2_with fail
      refine (fault_any _ _ _).mono ?_
      rintro e w1 ⟨rfl, rfl⟩
      go_wp2
      all_goals exact bodyPost_ret (v := .tuple #[.string ⟨#[]⟩, .int .i64 0, .agg #[.int .i64 0, .int .i64 1]]) (by simp [results, Tryz.results45, go_sem]) rfl ⟨rfl, ((Below.refl _ _).alloc (Nat.le_refl _) _).alloc (by simp) _⟩
  · rw [if_neg hout] at hR
    have hp0 : 0 ≤ p := by omega
    have hp1 : p ≤ (b.size : Int) := by omega
    clear hout
    obtain ⟨P, rfl⟩ := Int.eq_ofNat_of_zero_le hp0
    rw [Int.toNat_natCast, ← ext_drop] at hR
    have hTs : (b.extract P b.size).size = b.size - P := by rw [ByteArray.size_extract]; omega
    rcases Nat.eq_zero_or_pos (b.size - P) with h0 | h0
    · have e : (b.extract P b.size).data.toList = [] := List.eq_nil_of_length_eq_zero (by rw [Array.length_toList]; show (b.extract P b.size).size = 0; omega)
      rw [e, body_s0] at hR
      dsimp only at hR
      rw [if_pos (by decide)] at hR
      subst hR
      have hPb : b.size ≤ P := by omega
      clear e hTs h0 hlen
      go_enter Tryz.func45, Tryz.ntmps45
      go_wp2_with fail
      refine (fault_any _ _ _).mono ?_
      rintro e w1 ⟨rfl, rfl⟩
      go_wp2
      all_goals exact bodyPost_ret (v := .tuple #[.string ⟨#[]⟩, .int .i64 0, .agg #[.int .i64 (P : Int), .int .i64 11]]) (by simp [results, Tryz.results45, go_sem]) rfl ⟨rfl, ((Below.refl _ _).alloc (Nat.le_refl _) _).alloc (by simp) _⟩
    · have g0 := get0 (b.extract P b.size) (by omega)
      by_cases c0 : (b.extract P b.size)[0]'(by omega) = 87
      · have k0 : 0 < (b.extract P b.size).size := by omega
        have gb : ((((b.extract P b.size)[0]'k0).toNat : Int) != 87) = false := by rw [c0]; rfl
        have k1 : (0 : Int) < ((b.size - P : Nat) : Int) := by omega
        by_cases h1 : b.size - P = 1
        · rw [g0, c0, body_s1 _ (by rw [List.length_drop, Array.length_toList]; show (b.extract P b.size).size - 1 = 0; omega)] at hR
          dsimp only at hR
          rw [if_pos (by decide)] at hR
          subst hR
          have k2 : ¬ (1 : Int) < ((b.size - P : Nat) : Int) := by omega
          have k3 : b.size - P < 2 := by omega
          clear g0 c0 hlen h1
          go_enter Tryz.func45, Tryz.ntmps45
          go_wp2_with fail
          refine (fault_any _ _ _).mono ?_
          rintro e w1 ⟨rfl, rfl⟩
          go_wp2
          all_goals exact bodyPost_ret (v := .tuple #[.string ⟨#[]⟩, .int .i64 0, .agg #[.int .i64 (P : Int), .int .i64 11]]) (by simp [results, Tryz.results45, go_sem]) rfl ⟨rfl, ((Below.refl _ _).alloc (Nat.le_refl _) _).alloc (by simp) _⟩
        · have g1 := get01 (b.extract P b.size) (by omega)
          have k2 : 1 < (b.extract P b.size).size := by omega
          have k3 : (1 : Int) < ((b.size - P : Nat) : Int) := by omega
          by_cases c1 : (b.extract P b.size)[1]'(by omega) = 70
          · have gb2 : ((((b.extract P b.size)[1]'k2).toNat : Int) != 70) = false := by rw [c1]; rfl
            rw [g1, c0, c1, body_r, ← c0, ← c1, ← g1] at hR
            unfold bodyR at hR
            have hTl : (b.extract P b.size).data.toList.length = b.size - P := by rw [Array.length_toList]; exact hTs
            rw [List.length_drop, hTl] at hR
            clear g0 g1 c0 c1 hlen h1
            by_cases h10 : b.size - P < 10
            · rw [if_pos h10] at hR
              dsimp only at hR
              rw [if_pos (by decide)] at hR
              subst hR
              go_enter Tryz.func45, Tryz.ntmps45
              go_wp2_with fail
              refine (fault_any _ _ _).mono ?_
              rintro e w1 ⟨rfl, rfl⟩
              go_wp2
              all_goals exact bodyPost_ret (v := .tuple #[.string ⟨#[]⟩, .int .i64 0, .agg #[.int .i64 (P : Int), .int .i64 11]]) (by simp [results, Tryz.results45, go_sem]) rfl ⟨rfl, ((Below.refl _ _).alloc (Nat.le_refl _) _).alloc (by simp) _⟩
            · rw [if_neg h10] at hR
              have k6 : 6 ≤ (b.extract P b.size).size := by omega
              have kten : 10 ≤ (b.extract P b.size).size := by omega
              have uf := fun w => ufT2 (b.extract P b.size) w (by omega)
              have hnl := unw4_lt ((b.extract P b.size).data.toList.drop 2)
              have uf2 := fun w => ufT6 (b.extract P b.size) w (by omega)
              have rs := fun n w hn => rsT (b.extract P b.size) n w hn (by omega)
              have rs := rs (unw4 ((b.extract P b.size).data.toList.drop 2))
              have hbody := bodyT (b.extract P b.size) (unw4 ((b.extract P b.size).data.toList.drop 2))
              generalize unw4 ((b.extract P b.size).data.toList.drop 2) = n at *
              generalize hy : unw4 ((b.extract P b.size).data.toList.drop 6) = y at *
              generalize sumOf ((b.extract P b.size).data.toList.take 6 ++ ((b.extract P b.size).data.toList.drop 10).take n) = x at *
              have UF := hide uf
              have UF2 := hide uf2
              have RS := hide rs
              have HR := hide hR
              have HBD := hide hbody
              clear uf uf2 rs hR hbody hy hTl
              go_enter Tryz.func45, Tryz.ntmps45
              go_wp2_with fail
              refine (unhide UF _).mono ?_
              rintro e w1 ⟨rfl, n1, rfl⟩
              have hfb : FBox w.heap.size ((w.alloc (.cells #[.int .i64 0, .int .i64 0] 84)).drewN n1) := heap_alloc_new w _
              have hbel : Below w.heap.size w ((w.alloc (.cells #[.int .i64 0, .int .i64 0] 84)).drewN n1) := below_drewN ((Below.refl _ _).alloc (Nat.le_refl _) _) n1
              generalize ((w.alloc (.cells #[.int .i64 0, .int .i64 0] 84)).drewN n1) = W1 at *
              have hfc := hfb.cells
              by_cases hbig : 65536 < n
              · have hR := unhide HR
                rw [if_pos hbig] at hR
                dsimp only at hR
                rw [if_pos (by decide)] at hR
                subst hR
                go_wp2_with fail
                refine (fault_any _ _ _).mono ?_
                rintro e w2 ⟨rfl, rfl⟩
                have hf2 : FBox w.heap.size (W1.alloc (.cells #[.int .i64 (P : Int), .int .i64 2] 84)) := hfb.below ((Below.refl W1.heap.size W1).alloc (Nat.le_refl _) _) hfb.lt
                have hb2 : Below w.heap.size w (W1.alloc (.cells #[.int .i64 (P : Int), .int .i64 2] 84)) := hbel.alloc (Nat.le_of_lt hfb.lt) _
                generalize (W1.alloc (.cells #[.int .i64 (P : Int), .int .i64 2] 84)) = W2 at *
                have hc2 := hf2.cells
                clear hfb hfc hf2 hbel
                go_wp2
                exact bodyPost_ret (v := .tuple #[.string ⟨#[]⟩, .int .i64 0, .agg #[.int .i64 (P : Int), .int .i64 2]]) (by simp [results, Tryz.results45, go_sem, hc2]) rfl ⟨rfl, (hb2.setCell (Nat.le_refl _) _).setCell (Nat.le_refl _) _⟩
              · have hR := unhide HR
                rw [if_neg hbig] at hR
                by_cases hsh : b.size - P - 10 < n
                · rw [if_pos hsh] at hR
                  dsimp only at hR
                  rw [if_pos (by decide)] at hR
                  subst hR
                  go_wp2_with fail
                  refine (fault_any _ _ _).mono ?_
                  rintro e w2 ⟨rfl, rfl⟩
                  have hf2 : FBox w.heap.size (W1.alloc (.cells #[.int .i64 (P : Int), .int .i64 11] 84)) := hfb.below ((Below.refl W1.heap.size W1).alloc (Nat.le_refl _) _) hfb.lt
                  have hb2 : Below w.heap.size w (W1.alloc (.cells #[.int .i64 (P : Int), .int .i64 11] 84)) := hbel.alloc (Nat.le_of_lt hfb.lt) _
                  generalize (W1.alloc (.cells #[.int .i64 (P : Int), .int .i64 11] 84)) = W2 at *
                  have hc2 := hf2.cells
                  clear hfb hfc hf2 hbel
                  go_wp2
                  exact bodyPost_ret (v := .tuple #[.string ⟨#[]⟩, .int .i64 0, .agg #[.int .i64 (P : Int), .int .i64 11]]) (by simp [results, Tryz.results45, go_sem, hc2]) rfl ⟨rfl, (hb2.setCell (Nat.le_refl _) _).setCell (Nat.le_refl _) _⟩
                · rw [if_neg hsh] at hR
                  have rs := fun w => unhide RS w (by omega)
                  have RS2 := hide rs
                  have HFB := hide hfb
                  have HBE := hide hbel
                  have q6 : (6 : Int) ≤ ((b.size - P : Nat) : Int) := by omega
                  have q10 : (10 : Int) ≤ ((b.size - P : Nat) : Int) := by omega
                  have qz := szT (b.extract P b.size) n (by omega)
                  have qs : ((b.extract P b.size).extract 0 6).size + ((b.extract P b.size).extract 10 (10 + n)).size ≤ 9223372036854775807 := by omega
                  have qn : 10 + n ≤ (b.extract P b.size).size := by omega
                  clear rs RS HR UF
                  by_cases hxy : x = y
                  · have hq : ¬ (x ≠ y) := fun h => h hxy
                    rw [if_neg hq] at hR
                    dsimp only at hR
                    rw [if_neg (by simp)] at hR
                    have g : ((x : Int) != (y : Int)) = false := by simp; omega
                    have hbl : (((b.extract P b.size).data.toList.drop 10).take n).length = n := by rw [List.length_take, List.length_drop, Array.length_toList]; show min n ((b.extract P b.size).size - 10) = n; omega
                    rw [hbl] at hR
                    have HR2 := hide hR
                    clear hR
                    have hbs : ((b.extract P b.size).extract 10 (10 + n)).size = n := qz.2
                    have HBS := hide hbs
                    clear hxy hq hfb hbel hbl hbs qz
                    go_wp2_with fail
                    go_quiet ((first | (go_at_call 73; exact Calls.quiet_of_same (unhide RS2 _)) | (go_at_call 72; exact Calls.quiet_of (unhide UF2 _))))
                    have hf3 : FBox w.heap.size (W1.drewN nq) := unhide HFB
                    have hb3 : Below w.heap.size w (W1.drewN nq) := below_drewN (unhide HBE) nq
                    generalize W1.drewN nq = W3 at *
                    have hc3 := hf3.cells
                    have HBS2 : ((b.extract P b.size).extract 10 (10 + n)).size ≤ 65536 := by rw [unhide HBS]; omega
                    clear hfc hf3
                    go_wp2
                    exact bodyPost_ret (v := .tuple #[.string ((b.extract P b.size).extract 10 (10 + n)), .int .i64 ((P : Int) + 10 + (n : Int)), .agg #[.int .i64 0, .int .i64 0]]) (by simp [results, Tryz.results45, go_sem, hc3]) rfl
                      ⟨by rw [← unhide HR2, unhide HBD], (hb3.setCell (Nat.le_refl _) _).setCell (Nat.le_refl _) _⟩
                  · rw [if_pos hxy] at hR
                    have g : ((x : Int) != (y : Int)) = true := by rw [bne_iff_ne]; omega
                    dsimp only at hR
                    rw [if_pos (by decide)] at hR
                    subst hR
                    clear hxy hfb hbel
                    go_wp2_with fail
                    go_quiet ((first | (go_at_call 73; exact Calls.quiet_of_same (unhide RS2 _)) | (go_at_call 72; exact Calls.quiet_of (unhide UF2 _))))
                    have hfb : FBox w.heap.size (W1.drewN nq) := unhide HFB
                    have hbel : Below w.heap.size w (W1.drewN nq) := below_drewN (unhide HBE) nq
                    generalize W1.drewN nq = W1 at *
                    clear hfc
                    have hfc := hfb.cells
                    go_wp2_with fail
                    refine (fault_any _ _ _).mono ?_
                    rintro e w2 ⟨rfl, rfl⟩
                    have hf2 : FBox w.heap.size (W1.alloc (.cells #[.int .i64 (P : Int), .int .i64 10] 84)) := hfb.below ((Below.refl W1.heap.size W1).alloc (Nat.le_refl _) _) hfb.lt
                    have hb2 : Below w.heap.size w (W1.alloc (.cells #[.int .i64 (P : Int), .int .i64 10] 84)) := hbel.alloc (Nat.le_of_lt hfb.lt) _
                    generalize (W1.alloc (.cells #[.int .i64 (P : Int), .int .i64 10] 84)) = W2 at *
                    have hc2 := hf2.cells
                    clear hfb hfc hf2 hbel
                    go_wp2
                    exact bodyPost_ret (v := .tuple #[.string ⟨#[]⟩, .int .i64 0, .agg #[.int .i64 (P : Int), .int .i64 10]]) (by simp [results, Tryz.results45, go_sem, hc2]) rfl ⟨rfl, (hb2.setCell (Nat.le_refl _) _).setCell (Nat.le_refl _) _⟩
          · rw [g1, body_f2 _ _ _ c1] at hR
            dsimp only at hR
            rw [if_pos (by decide)] at hR
            subst hR
            have gb2 : ((((b.extract P b.size)[1]'k2).toNat : Int) != 70) = true := by
              rw [bne_iff_ne]
              intro h
              exact c1 (UInt8.toNat_inj.1 (by show _ = 70; omega))
            clear g0 g1 c0 c1 hlen h1
            go_enter Tryz.func45, Tryz.ntmps45
            go_wp2_with fail
            refine (fault_any _ _ _).mono ?_
            rintro e w1 ⟨rfl, rfl⟩
            go_wp2
            all_goals exact bodyPost_ret (v := .tuple #[.string ⟨#[]⟩, .int .i64 0, .agg #[.int .i64 (P : Int), .int .i64 3]]) (by simp [results, Tryz.results45, go_sem]) rfl ⟨rfl, ((Below.refl _ _).alloc (Nat.le_refl _) _).alloc (by simp) _⟩
      · rw [g0, body_f1 _ _ c0] at hR
        dsimp only at hR
        rw [if_pos (by decide)] at hR
        subst hR
        have k0 : 0 < (b.extract P b.size).size := by omega
        have gb : ((((b.extract P b.size)[0]'k0).toNat : Int) != 87) = true := by
          rw [bne_iff_ne]
          intro h
          exact c0 (UInt8.toNat_inj.1 (by show _ = 87; omega))
        have k1 : (0 : Int) < ((b.size - P : Nat) : Int) := by omega
        clear g0 c0 hlen
        go_enter Tryz.func45, Tryz.ntmps45
        go_wp2_with fail
        refine (fault_any _ _ _).mono ?_
        rintro e w1 ⟨rfl, rfl⟩
        go_wp2
        all_goals exact bodyPost_ret (v := .tuple #[.string ⟨#[]⟩, .int .i64 0, .agg #[.int .i64 (P : Int), .int .i64 3]]) (by simp [results, Tryz.results45, go_sem]) rfl ⟨rfl, ((Below.refl _ _).alloc (Nat.le_refl _) _).alloc (by simp) _⟩

end Go.Proofs.YtboffmbaaokbnaaGreatDoor
namespace Go.Proofs.YtboffmbaaokbnaaGreatDoor
open Go.RowKit

set_option maxHeartbeats 2000000 in
theorem refFrames_any (b : ByteArray) (w : World) (hb : b.size ≤ 140737488351232) :
    Calls Tryz.prog 44 #[.string b] w fun e w' => ∃ v, e = .returned (.tuple #[v, .int .i64 ((frsS b.data.toList).2 : Nat)]) ∧ OwnsS w.heap.size w' v (frsS b.data.toList).1 ∧ Below w.heap.size w w' := by
  generalize hR : frsS b.data.toList = R
  have hlen : b.data.toList.length = b.size := Array.length_toList
  unfold frsS at hR
  rw [hlen] at hR
  have HR := hide hR
  have unf := fun p w => refUnframe_any b p w (by omega)
  have UNF := hide unf
  obtain ⟨i0, hi, hz0, hz1, hz2⟩ := info_parts info_string
  clear hR unf
  go_enter Tryz.func44, Tryz.ntmps44
  go_wp2_with fail
  go_loopw [4, 5] (fun v p wr => ∃ (e f : Nat) (acc : List (List UInt8)), e ≤ b.size ∧ p = .int .i64 (e : Int) ∧ OwnsS w.heap.size wr v acc ∧ Below w.heap.size w wr ∧ acc.length * 10 ≤ e ∧ b.size - e < f ∧ Hid (R = (acc ++ (frsF f b.data.toList e).1, (frsF f b.data.toList e).2))) (fun _ p _ => b.size - (intOf p).toNat)
  case atStart => exact ⟨0, b.size + 1, [], Nat.zero_le _, rfl, OwnsS.nil _ _, Below.refl _ _, by simp, by omega, hide (by rw [← unhide HR]; simp)⟩
  case round =>
    obtain ⟨p, f, acc, hp, rfl, hown, hbel, hacc, hf, HD⟩ := hrel
    obtain ⟨f, rfl⟩ : ∃ g, f = g + 1 := ⟨f - 1, by omega⟩
    have hd := unhide HD
    rw [frsF] at hd
    have hu := unhide UNF (p : Int) wr
    unfold unfS at hu
    rw [if_neg (by rw [hlen]; omega), Int.toNat_natCast] at hu
    have hok := bodyS_ok (b.data.toList.drop p)
    rw [List.length_drop, hlen] at hok
    generalize bodyS (b.data.toList.drop p) = Q at *
    obtain ⟨body, code⟩ := Q
    dsimp only at hu hok hd
    clear HD
    by_cases hc : code = 0
    · subst hc
      rw [if_neg (by simp)] at hd hu
      have hk := hok rfl
      have hz := hbel.size
      have HU := hide hu
      have HD := hide hd
      clear hok hu hd
      go_wp2_with fail
      refine (unhide HU).mono ?_
      rintro e w1 ⟨rfl, hb1⟩
      dsimp only
      have hbel1 := hbel.trans (hb1.mono hz)
      have hown1 := hown.below hb1 (Nat.le_refl _)
      have hz1' := hbel1.size
      clear hown hbel hb1
      go_wp2_with (at_builtin; refine wpList_append_own_wide _ rfl _ _ 62 rfl w.heap.size 9 i0 (.string ⟨#[]⟩) 1 16 Tryz.underlying62 hi hz0 hz1 hz2 rfl (by decide) _ _ _ rfl ((hown1.alloc _).alloc _) ⟨w1.heap.size + 1, 0, none⟩ 1 1 [.string ⟨body.toArray⟩] rfl rfl ?c1 ?c2 ?c3 ?c4 ?c5 ?_)
      case c1 =>
        intro q u hq
        match q, hq with
        | 0, hq => simp at hq; subst hq; simp [Addr.add]
      case c2 => intro u hu; simp at hu; subst hu; rfl
      case c3 => unfold maxLen; omega
      case c4 => omega
      case c5 => simp; omega
      intro v' w2 hown2 hgrow _
      have hfr : Fr w.heap.size 9 w1 w2 := (((Fr.refl _ _ w1).alloc hz1' _).alloc (by simp; omega) _).grown ((hown1.alloc _).alloc _) hgrow (by simp; omega)
      have hown3 : OwnsS w.heap.size w2 v' (acc ++ [body]) := by
        unfold OwnsS
        rw [textC_append, List.length_append]
        exact hown2
      have hbel2 := hbel1.trans hfr.below
      clear hown2 hgrow hown1 hfr hbel1
      go_wp2
      go_roundw
      case rel => exact ⟨p + 10 + body.length, f, acc ++ [body], by omega, by go_num, hown3, hbel2, by simp; omega, by omega, hide (by rw [unhide HD]; simp)⟩
      case measure => simp [intOf]; omega
    · rw [if_pos hc] at hd hu
      subst hd
      have gc : (code != 0) = true := by rw [bne_iff_ne]; exact hc
      have hz := hbel.size
      have HU := hide hu
      clear hok hu hc HR
      go_wp2_with fail
      refine (unhide HU).mono ?_
      rintro e w1 ⟨rfl, hb1⟩
      dsimp only
      have hbel1 := hbel.trans (hb1.mono hz)
      have hown1 := hown.below hb1 (Nat.le_refl _)
      have hz1' := hbel1.size
      clear hown hbel hb1
      go_wp2
      go_ret2
      exact ⟨_, rfl, hown1.alloc _, hbel1.alloc hz1' _⟩
end Go.Proofs.YtboffmbaaokbnaaGreatDoor
