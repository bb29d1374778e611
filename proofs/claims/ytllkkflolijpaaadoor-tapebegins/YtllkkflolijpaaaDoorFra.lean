/-
  Frames: word, appendWord, frameSum and Frame return what the plain functions say.
-/
import Derived.Test.YtllkkflolijpaaaDoorLeafS
import Derived.Deep.QuietTactic
import Derived.BigQuiet
namespace Go.Proofs.YtllkkflolijpaaaDoor
open Go.RowKit

/-- A number as four bytes, the highest first. -/
def w4 (n : Nat) : List UInt8 := [UInt8.ofNat (n / 16777216 % 256), UInt8.ofNat (n / 65536 % 256), UInt8.ofNat (n / 256 % 256), UInt8.ofNat (n % 256)]
/-- Four bytes as a number. -/
def unw4 : List UInt8 → Nat
  | a :: b :: c :: d :: _ => a.toNat * 16777216 + b.toNat * 65536 + c.toNat * 256 + d.toNat
  | _ => 0
theorem u8_of (C : Nat) (h : C < 256) : (UInt8.ofNat C).toNat = C := by rw [UInt8.toNat_ofNat']; omega
theorem unw4_w4 (n : Nat) (r : List UInt8) (h : n < 4294967296) : unw4 (w4 n ++ r) = n := by
  unfold w4 unw4
  simp only [List.cons_append, List.nil_append]
  rw [u8_of _ (by omega), u8_of _ (by omega), u8_of _ (by omega), u8_of _ (by omega)]
  omega
theorem word_val (a b c d : Nat) (ha : a < 256) (hb : b < 256) (hc : c < 256) (hd : d < 256) :
    bits .or .u32 (bits .or .u32 (bits .or .u32 ((a : Int) % 4294967296 * 16777216 % 4294967296) ((b : Int) % 4294967296 * 65536 % 4294967296)) ((c : Int) % 4294967296 * 256 % 4294967296)) ((d : Int) % 4294967296) = ((a * 16777216 + b * 65536 + c * 256 + d : Nat) : Int) := by
  have e1 := u32_or_nat (a * 16777216) (b * 65536) (by omega) (by omega)
  rw [nat_join 24 (a * 16777216) (b * 65536) (by omega) (by omega)] at e1
  have e2 := u32_or_nat (a * 16777216 + b * 65536) (c * 256) (by omega) (by omega)
  rw [nat_join 16 _ (c * 256) (by omega) (by omega)] at e2
  have e3 := u32_or_nat (a * 16777216 + b * 65536 + c * 256) d (by omega) (by omega)
  rw [nat_join 8 _ d (by omega) (by omega)] at e3
  rw [show ((a : Int) % 4294967296 * 16777216 % 4294967296) = ((a * 16777216 : Nat) : Int) by omega, show ((b : Int) % 4294967296 * 65536 % 4294967296) = ((b * 65536 : Nat) : Int) by omega, e1,
    show ((c : Int) % 4294967296 * 256 % 4294967296) = ((c * 256 : Nat) : Int) by omega, e2, show ((d : Int) % 4294967296) = (d : Int) by omega, e3]
theorem unw4_get (s : ByteArray) (h0 : 0 < s.size) (h1 : 1 < s.size) (h2 : 2 < s.size) (h3 : 3 < s.size) : unw4 s.data.toList = s[0].toNat * 16777216 + s[1].toNat * 65536 + s[2].toNat * 256 + s[3].toNat := by
  have e := drop_get s 0 h0
  rw [drop_get s 1 h1, drop_get s 2 h2, drop_get s 3 h3, List.drop_zero] at e
  rw [e]; rfl
set_option maxHeartbeats 400000 in
theorem word_any (s : ByteArray) (w : World) (h : 4 ≤ s.size) :
    Calls Tryd.prog 54 #[.string s] w fun e w' => e = .returned (.int .u32 (unw4 s.data.toList : Nat)) ∧ ∃ n, w' = w.drewN n := by
  have k0 : 0 < s.size := by omega
  have k1 : 1 < s.size := by omega
  have k2 : 2 < s.size := by omega
  have k3 : 3 < s.size := by omega
  have hv := word_val (s[0]).toNat (s[1]).toNat (s[2]).toNat (s[3]).toNat (s[0]).toNat_lt (s[1]).toNat_lt (s[2]).toNat_lt (s[3]).toNat_lt
  rw [← unw4_get s k0 k1 k2 k3] at hv
  have HV := hide hv
  clear hv
  have h0 : (0 : Int) < (s.size : Int) := by omega
  have h1 : (1 : Int) < (s.size : Int) := by omega
  have h2 : (2 : Int) < (s.size : Int) := by omega
  have h3 : (3 : Int) < (s.size : Int) := by omega
  go_enter Tryd.func54, Tryd.ntmps54
  go_wp2
  go_quiet (fail)
  go_wp2
  go_ret
  exact ⟨ret_int (unhide HV), _, rfl⟩
set_option maxHeartbeats 1000000 in
theorem appendWord_any (B : Nat) (v : Value) (l : List UInt8) (n : Nat) (w : World) (hB : B ≤ w.heap.size) (ho : Owns B w v l) (hn : n < 4294967296) (hl : l.length ≤ 140737488355000) :
    Calls Tryd.prog 49 #[v, .int .u32 (n : Int)] w fun e w' => ∃ v', e = .returned v' ∧ Owns B w' v' (l ++ w4 n) ∧ Fr B 5 w w' := by
  obtain ⟨i0, hi, hz0, hz1, hz2⟩ := info_parts info_u8
  obtain ⟨a, ha, ea⟩ : ∃ a : Nat, n / 16777216 % 256 = a ∧ (n : Int) / 16777216 = (a : Int) := ⟨_, rfl, by omega⟩
  obtain ⟨b, hb, eb⟩ : ∃ a : Nat, n / 65536 % 256 = a ∧ (n : Int) / 65536 % 256 = (a : Int) := ⟨_, rfl, by omega⟩
  obtain ⟨c, hc, ec⟩ : ∃ a : Nat, n / 256 % 256 = a ∧ (n : Int) / 256 % 256 = (a : Int) := ⟨_, rfl, by omega⟩
  obtain ⟨d, hd, ed⟩ : ∃ a : Nat, n % 256 = a ∧ (n : Int) % 256 = (a : Int) := ⟨_, rfl, by omega⟩
  have hw : byteC (w4 n) = [.int .u8 (a : Int), .int .u8 (b : Int), .int .u8 (c : Int), .int .u8 (d : Int)] := by
    unfold w4 byteC
    rw [ha, hb, hc, hd]
    simp only [List.map_cons, List.map_nil]
    rw [u8_of a (by omega), u8_of b (by omega), u8_of c (by omega), u8_of d (by omega)]
  have HW := hide hw
  clear hw ha hb hc hd
  go_enter Tryd.func49, Tryd.ntmps49
  go_wp2_with (at_builtin; refine wpList_append_own _ rfl _ _ 45 rfl B 5 i0 (.int .u8 0) 1 1 Tryd.underlying45 hi hz0 hz1 hz2 rfl (by decide) _ _ _ rfl (ho.alloc _) ⟨w.heap.size, 0, none⟩ 4 4 [.int .u8 (a : Int), .int .u8 (b : Int), .int .u8 (c : Int), .int .u8 (d : Int)] rfl rfl ?c1 ?c2 ?c3 ?c4 ?c5 ?_)
  case c1 =>
    intro q u hq
    match q, hq with
    | 0, hq => simp at hq; subst hq; simp [Addr.add]
    | 1, hq => simp at hq; subst hq; simp [Addr.add]
    | 2, hq => simp at hq; subst hq; simp [Addr.add]
    | 3, hq => simp at hq; subst hq; simp [Addr.add]
  case c2 => intro u hu; simp at hu; rcases hu with rfl | rfl | rfl | rfl <;> rfl
  case c3 => unfold maxLen; omega
  case c4 => omega
  case c5 => simp; omega
  intro v' w2 hown2 hgrow _
  have hfr : Fr B 5 w w2 := ((Fr.refl _ _ w).alloc hB _).grown (ho.alloc _) hgrow (by simp; omega)
  have hown3 : Owns B w2 v' (l ++ w4 n) := by
    unfold Owns
    rw [byteC_append, unhide HW, List.length_append]
    exact hown2
  clear hown2 hgrow ho
  go_wp2
  go_ret
  exact ⟨_, rfl, hown3, hfr⟩
set_option maxHeartbeats 400000 in
theorem frameSum_any (a b : ByteArray) (w : World) (ha : a.size ≤ maxLen) (hb : b.size ≤ maxLen) (hT : TabW w) :
    Calls Tryd.prog 50 #[.string a, .string b] w fun e w' => e = .returned (.int .u32 (sumOf (a.data.toList ++ b.data.toList) : Nat)) ∧ w' = w := by
  have c1 := sumOn_any 4294967295 a w (by omega) ha hT
  rw [show ((4294967295 : Nat) : Int) = 4294967295 from rfl] at c1
  have l1 := sumL_lt (s := 4294967295) a.data.toList (by omega)
  have c2 := sumOn_any (sumL 4294967295 a.data.toList) b w l1 hb hT
  have hx : sumOf (a.data.toList ++ b.data.toList) = 4294967295 - sumL (sumL 4294967295 a.data.toList) b.data.toList := by unfold sumOf; rw [sumL_append]
  have l2 := sumL_lt b.data.toList l1
  rw [hx]
  clear hx hT
  generalize sumL 4294967295 a.data.toList = x at *
  generalize sumL x b.data.toList = y at *
  have hn := u32_not y l2
  have C1 := hide c1
  have C2 := hide c2
  clear c1 c2
  go_enter Tryd.func50, Tryd.ntmps50
  go_wp2_with fail
  refine (unhide C1).mono ?_
  rintro e w1 ⟨rfl, rfl⟩
  go_wp2_with fail
  refine (unhide C2).mono ?_
  rintro e w2 ⟨rfl, rfl⟩
  go_wp2
  all_goals go_ret
  all_goals exact ⟨ret_int hn, rfl⟩
/-- A frame of bytes. -/
def headL (n : Nat) : List UInt8 := [87, 70] ++ w4 n
def frameL (b : List UInt8) : List UInt8 := headL b.length ++ w4 (sumOf (headL b.length ++ b)) ++ b
theorem headL_len (n : Nat) : (headL n).length = 6 := rfl
theorem frameL_len (b : List UInt8) : (frameL b).length = b.length + 10 := by
  unfold frameL; rw [List.length_append, List.length_append, headL_len]; show 6 + 4 + b.length = _; omega
def frE (b : ByteArray) : Int := if 65536 < b.size then 2 else 0
def frS (b : ByteArray) : ByteArray := if 65536 < b.size then ⟨#[]⟩ else ⟨(frameL b.data.toList).toArray⟩
theorem make_room (n : Nat) (hn : n ≤ 100000) (W : World) : (Instr.makeSlice 45 (.int .i64 0) (.int .i64 (n : Int))).run Tryd.prog W = .ok (.slice (some ⟨W.heap.size, 0, none⟩) 0 n) (W.alloc (.cells (madeCells #[Value.int .u8 0] n) 5)) := by
  obtain ⟨i0, hi, hz0, hz1, hz2⟩ := info_parts info_u8
  have h := run_make (P := Tryd.prog) W 45 5 i0 (.int .u8 0) Tryd.underlying45 hi hz0 .i64 .i64 0 (n : Int) (by omega) (by omega) (by rw [hz2]; omega) (by omega)
  rw [hz1, Int.toNat_natCast, Nat.mul_one] at h
  exact h
set_option maxHeartbeats 1000000 in
set_option maxRecDepth 100000 in
theorem frame_any (b : ByteArray) (w : World) (hb : b.size ≤ 9223372036854775807) (hT : TabW w) :
    Calls Tryd.prog 43 #[.string b] w fun e w' => e = .returned (.tuple #[.string (frS b), .int .i64 (frE b)]) ∧ Below w.heap.size w w' := by
  by_cases hbig : 65536 < b.size
  · have e1 : frE b = 2 := if_pos hbig
    have e2 : frS b = ⟨#[]⟩ := if_pos hbig
    rw [e1, e2]
    clear e1 e2 hT
    go_enter Tryd.func43, Tryd.ntmps43
    go_wp2
    go_ret2
    exact ⟨rfl, Below.refl _ _⟩
  · have e1 : frE b = 0 := if_neg hbig
    have e2 : frS b = ⟨(frameL b.data.toList).toArray⟩ := if_neg hbig
    rw [e1, e2]
    have h0 := hT.1
    have HT := hide hT
    clear e1 e2 hT
    obtain ⟨i0, hi, hz0, hz1, hz2⟩ := info_parts info_u8
    have hmk := fun W => make_room (10 + b.size) (by omega) W
    rw [show ((10 + b.size : Nat) : Int) = 10 + (b.size : Int) by omega] at hmk
    have ho : Owns w.heap.size (w.alloc (.cells (madeCells #[Value.int .u8 0] (10 + b.size)) 5)) (.slice (some ⟨w.heap.size, 0, none⟩) 0 (10 + b.size)) [] :=
      World.ownsRow_made w _ (10 + b.size) (Nat.le_refl _) (by unfold maxLen; omega) (by rw [size_madeCells]; omega)
    have hf : Fr w.heap.size 5 w (w.alloc (.cells (madeCells #[Value.int .u8 0] (10 + b.size)) 5)) := (Fr.refl _ _ w).alloc (Nat.le_refl _) _
    generalize madeCells #[Value.int .u8 0] (10 + b.size) = M at *
    go_enter Tryd.func43, Tryd.ntmps43
    go_wp2_with (at_builtin; refine Lib.wpList_append_own_string _ rfl _ _ 45 9 rfl w.heap.size 5 i0 Tryd.underlying45 Tryd.underlying9 hi hz0 hz1 hz2 _ _ _ rfl ho ⟨#[87, 70]⟩ rfl ?a1 ?a2 ?a3 ?_)
    case a1 => decide
    case a2 => decide
    case a3 => simp
    intro v1 w1 ho1 hg1 _
    have hf1 := hf.grown ho hg1 (by simp)
    have hq1 : Owns w.heap.size w1 v1 [87, 70] := ho1
    clear ho1 hg1 ho hf hmk
    go_wp2_with fail
    refine (appendWord_any w.heap.size v1 [87, 70] b.size w1 hf1.size hq1 (by omega) (by decide)).mono ?_
    rintro e w2 ⟨v2, rfl, hq2, hf2⟩
    have hf12 := hf1.trans hf2
    have hT2 : TabW w2 := (unhide HT).below hf12.below h0
    have hs2 := hq2.string
    have hh : [87, 70] ++ w4 b.size = headL b.size := rfl
    rw [hh] at hq2 hs2
    clear hf1 hf2 hh hq1
    have hhs : ({ data := (headL b.size).toArray } : ByteArray).size = 6 := rfl
    have c3 := frameSum_any ⟨(headL b.size).toArray⟩ b w2 (by rw [hhs]; decide) (by unfold maxLen; omega) hT2
    have hdl : ({ data := (headL b.size).toArray } : ByteArray).data.toList = headL b.size := rfl
    rw [hdl] at c3
    have hsl := sumOf_lt (headL b.size ++ b.data.toList)
    have hfin : frameL b.data.toList = headL b.size ++ w4 (sumOf (headL b.size ++ b.data.toList)) ++ b.data.toList := by unfold frameL; rw [show b.data.toList.length = b.size from Array.length_toList]
    generalize sumOf (headL b.size ++ b.data.toList) = x at *
    generalize hH : headL b.size = H at *
    have hHl : H.length = 6 := by rw [← hH]; rfl
    have HFIN := hide hfin
    have HHL := hide hHl
    have C3 := hide c3
    clear hfin hHl c3 hH hT2 hhs hdl
    go_wp2_with fail
    refine (unhide C3).mono ?_
    rintro e w3 ⟨rfl, rfl⟩
    go_wp2_with fail
    refine (appendWord_any w.heap.size v2 H x w3 hf12.size hq2 hsl (by rw [unhide HHL]; decide)).mono ?_
    rintro e w4' ⟨v4, rfl, hq4, hf4⟩
    have hf14 := hf12.trans hf4
    have hl4 : (H ++ w4 x).length = 10 := by rw [List.length_append, unhide HHL]; rfl
    generalize hL4 : H ++ w4 x = L4 at *
    have HL := hide hl4
    clear hL4 hl4 hf12 hf4 hq2 hs2
    go_wp2_with (at_builtin; refine Lib.wpList_append_own_string _ rfl _ _ 45 9 rfl w.heap.size 5 i0 Tryd.underlying45 Tryd.underlying9 hi hz0 hz1 hz2 _ _ _ rfl hq4 b rfl ?b1 ?b2 ?b3 ?_)
    case b1 => unfold maxLen; rw [unhide HL]; omega
    case b2 => rw [unhide HL]; omega
    case b3 => exact hf14.size
    intro v5 w5 ho5 hg5 _
    have hf5 := hf14.grown hq4 hg5 hf14.size
    have hq5 : Owns w.heap.size w5 v5 (frameL b.data.toList) := by
      rw [unhide HFIN]
      unfold Owns
      rw [byteC_append, List.length_append, ← byteC_str, Array.length_toList]
      exact ho5
    have hs5 := hq5.string
    clear ho5 hg5 hq4 hf14
    go_wp2
    go_ret2
    exact ⟨rfl, hf5.below⟩
end Go.Proofs.YtllkkflolijpaaaDoor
