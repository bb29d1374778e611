/-
  Frames: word, appendWord, frameSum and Frame return what the plain functions say.
  bodyOf and Unframe: what stands at a place is found to be a frame, or what is wrong is told, as the plain functions have it.
-/
import Derived.Test.YtdmckgcbmbhmmaaGreatDoorRw03
import Derived.Deep.QuietTactic
import Derived.BigQuiet
import Derived.Test.YtdmckgcbmbhmmaaGreatDoorRw05
namespace Go.Proofs.YtdmckgcbmbhmmaaGreatDoor
open Go.RowKit

/-- A number as four bytes, the highest first. -/
def w4 (n : Nat) : List UInt8 := [UInt8.ofNat (n / 16777216 % 256), UInt8.ofNat (n / 65536 % 256), UInt8.ofNat (n / 256 % 256), UInt8.ofNat (n % 256)]
/-- Four bytes as a number. -/
def unw4 : List UInt8 → Nat
  | a :: b :: c :: d :: _ => a.toNat * 16777216 + b.toNat * 65536 + c.toNat * 256 + d.toNat
  | _ => 0
theorem u8_of (C : Nat) (h : C < 256) : (UInt8.ofNat C).toNat = C := by rw [UInt8.toNat_ofNat']; omega
theorem unw4_w4 (n : Nat) (r : List UInt8) (h : n < 4294967296) : unw4 (w4 n ++ r) = n := by
  unfold w4 unw4
  simp only [List.cons_append, List.nil_append]
  rw [u8_of _ (by omega), u8_of _ (by omega), u8_of _ (by omega), u8_of _ (by omega)]
  omega
theorem word_val (a b c d : Nat) (ha : a < 256) (hb : b < 256) (hc : c < 256) (hd : d < 256) :
    bits .or .u32 (bits .or .u32 (bits .or .u32 ((a : Int) % 4294967296 * 16777216 % 4294967296) ((b : Int) % 4294967296 * 65536 % 4294967296)) ((c : Int) % 4294967296 * 256 % 4294967296)) ((d : Int) % 4294967296) = ((a * 16777216 + b * 65536 + c * 256 + d : Nat) : Int) := by
  have e1 := u32_or_nat (a * 16777216) (b * 65536) (by omega) (by omega)
  rw [nat_join 24 (a * 16777216) (b * 65536) (by omega) (by omega)] at e1
  have e2 := u32_or_nat (a * 16777216 + b * 65536) (c * 256) (by omega) (by omega)
  rw [nat_join 16 _ (c * 256) (by omega) (by omega)] at e2
  have e3 := u32_or_nat (a * 16777216 + b * 65536 + c * 256) d (by omega) (by omega)
  rw [nat_join 8 _ d (by omega) (by omega)] at e3
  rw [show ((a : Int) % 4294967296 * 16777216 % 4294967296) = ((a * 16777216 : Nat) : Int) by omega, show ((b : Int) % 4294967296 * 65536 % 4294967296) = ((b * 65536 : Nat) : Int) by omega, e1,
    show ((c : Int) % 4294967296 * 256 % 4294967296) = ((c * 256 : Nat) : Int) by omega, e2, show ((d : Int) % 4294967296) = (d : Int) by omega, e3]
theorem unw4_get (s : ByteArray) (h0 : 0 < s.size) (h1 : 1 < s.size) (h2 : 2 < s.size) (h3 : 3 < s.size) : unw4 s.data.toList = s[0].toNat * 16777216 + s[1].toNat * 65536 + s[2].toNat * 256 + s[3].toNat := by
  have e := drop_get s 0 h0
  rw [drop_get s 1 h1, drop_get s 2 h2, drop_get s 3 h3, List.drop_zero] at e
  rw [e]; rfl
set_option maxHeartbeats 400000 in
theorem word_any (s : ByteArray) (w : World) (h : 4 ≤ s.size) :
    Calls Tryz.prog 111 #[.string s] w fun e w' => e = .returned (.int .u32 (unw4 s.data.toList : Nat)) ∧ ∃ n, w' = w.drewN n := by
  have k0 : 0 < s.size := by omega
  have k1 : 1 < s.size := by omega
  have k2 : 2 < s.size := by omega
  have k3 : 3 < s.size := by omega
  have hv := word_val (s[0]).toNat (s[1]).toNat (s[2]).toNat (s[3]).toNat (s[0]).toNat_lt (s[1]).toNat_lt (s[2]).toNat_lt (s[3]).toNat_lt
  rw [← unw4_get s k0 k1 k2 k3] at hv
  have HV := hide hv
  clear hv
  have h0 : (0 : Int) < (s.size : Int) := by omega
  have h1 : (1 : Int) < (s.size : Int) := by omega
  have h2 : (2 : Int) < (s.size : Int) := by omega
  have h3 : (3 : Int) < (s.size : Int) := by omega
  go_enter Tryz.func111, Tryz.ntmps111
  go_wp2
  go_quiet (fail)
  go_wp2
  go_ret
  exact ⟨ret_int (unhide HV), _, rfl⟩
set_option maxHeartbeats 1000000 in
theorem appendWord_any (B : Nat) (v : Value) (l : List UInt8) (n : Nat) (w : World) (hB : B ≤ w.heap.size) (ho : Owns B w v l) (hn : n < 4294967296) (hl : l.length ≤ 140737488355000) :
    Calls Tryz.prog 61 #[v, .int .u32 (n : Int)] w fun e w' => ∃ v', e = .returned v' ∧ Owns B w' v' (l ++ w4 n) ∧ Fr B 5 w w' := by
  obtain ⟨i0, hi, hz0, hz1, hz2⟩ := info_parts info_u8
  obtain ⟨a, ha, ea⟩ : ∃ a : Nat, n / 16777216 % 256 = a ∧ (n : Int) / 16777216 = (a : Int) := ⟨_, rfl, by omega⟩
  obtain ⟨b, hb, eb⟩ : ∃ a : Nat, n / 65536 % 256 = a ∧ (n : Int) / 65536 % 256 = (a : Int) := ⟨_, rfl, by omega⟩
  obtain ⟨c, hc, ec⟩ : ∃ a : Nat, n / 256 % 256 = a ∧ (n : Int) / 256 % 256 = (a : Int) := ⟨_, rfl, by omega⟩
  obtain ⟨d, hd, ed⟩ : ∃ a : Nat, n % 256 = a ∧ (n : Int) % 256 = (a : Int) := ⟨_, rfl, by omega⟩
  have hw : byteC (w4 n) = [.int .u8 (a : Int), .int .u8 (b : Int), .int .u8 (c : Int), .int .u8 (d : Int)] := by
    unfold w4 byteC
    rw [ha, hb, hc, hd]
    simp only [List.map_cons, List.map_nil]
    rw [u8_of a (by omega), u8_of b (by omega), u8_of c (by omega), u8_of d (by omega)]
  have HW := hide hw
  clear hw ha hb hc hd
  go_enter Tryz.func61, Tryz.ntmps61
  go_wp2_with (at_builtin; refine wpList_append_own _ rfl _ _ 91 rfl B 5 i0 (.int .u8 0) 1 1 Tryz.underlying91 hi hz0 hz1 hz2 rfl (by decide) _ _ _ rfl (ho.alloc _) ⟨w.heap.size, 0, none⟩ 4 4 [.int .u8 (a : Int), .int .u8 (b : Int), .int .u8 (c : Int), .int .u8 (d : Int)] rfl rfl ?c1 ?c2 ?c3 ?c4 ?c5 ?_)
  case c1 =>
    intro q u hq
    match q, hq with
    | 0, hq => simp at hq; subst hq; simp [Addr.add]
    | 1, hq => simp at hq; subst hq; simp [Addr.add]
    | 2, hq => simp at hq; subst hq; simp [Addr.add]
    | 3, hq => simp at hq; subst hq; simp [Addr.add]
  case c2 => intro u hu; simp at hu; rcases hu with rfl | rfl | rfl | rfl <;> rfl
  case c3 => unfold maxLen; omega
  case c4 => omega
  case c5 => simp; omega
  intro v' w2 hown2 hgrow _
  have hfr : Fr B 5 w w2 := ((Fr.refl _ _ w).alloc hB _).grown (ho.alloc _) hgrow (by simp; omega)
  have hown3 : Owns B w2 v' (l ++ w4 n) := by
    unfold Owns
    rw [byteC_append, unhide HW, List.length_append]
    exact hown2
  clear hown2 hgrow ho
  go_wp2
  go_ret
  exact ⟨_, rfl, hown3, hfr⟩
set_option maxHeartbeats 400000 in
theorem frameSum_any (a b : ByteArray) (w : World) (ha : a.size ≤ maxLen) (hb : b.size ≤ maxLen) (hT : TabW w) :
    Calls Tryz.prog 62 #[.string a, .string b] w fun e w' => e = .returned (.int .u32 (sumOf (a.data.toList ++ b.data.toList) : Nat)) ∧ w' = w := by
  have c1 := sumOn_any 4294967295 a w (by omega) ha hT
  rw [show ((4294967295 : Nat) : Int) = 4294967295 from rfl] at c1
  have l1 := sumL_lt (s := 4294967295) a.data.toList (by omega)
  have c2 := sumOn_any (sumL 4294967295 a.data.toList) b w l1 hb hT
  have hx : sumOf (a.data.toList ++ b.data.toList) = 4294967295 - sumL (sumL 4294967295 a.data.toList) b.data.toList := by unfold sumOf; rw [sumL_append]
  have l2 := sumL_lt b.data.toList l1
  rw [hx]
  clear hx hT
  generalize sumL 4294967295 a.data.toList = x at *
  generalize sumL x b.data.toList = y at *
  have hn := u32_not y l2
  have C1 := hide c1
  have C2 := hide c2
  clear c1 c2
  go_enter Tryz.func62, Tryz.ntmps62
  go_wp2_with fail
  refine (unhide C1).mono ?_
  rintro e w1 ⟨rfl, rfl⟩
  go_wp2_with fail
  refine (unhide C2).mono ?_
  rintro e w2 ⟨rfl, rfl⟩
  go_wp2
  all_goals go_ret
  all_goals exact ⟨ret_int hn, rfl⟩
/-- A frame of bytes. -/
def headL (n : Nat) : List UInt8 := [87, 70] ++ w4 n
def frameL (b : List UInt8) : List UInt8 := headL b.length ++ w4 (sumOf (headL b.length ++ b)) ++ b
theorem headL_len (n : Nat) : (headL n).length = 6 := rfl
theorem frameL_len (b : List UInt8) : (frameL b).length = b.length + 10 := by
  unfold frameL; rw [List.length_append, List.length_append, headL_len]; show 6 + 4 + b.length = _; omega
def frE (b : ByteArray) : Int := if 65536 < b.size then 2 else 0
def frS (b : ByteArray) : ByteArray := if 65536 < b.size then ⟨#[]⟩ else ⟨(frameL b.data.toList).toArray⟩
theorem make_room (n : Nat) (hn : n ≤ 100000) (W : World) : (Instr.makeSlice 91 (.int .i64 0) (.int .i64 (n : Int))).run Tryz.prog W = .ok (.slice (some ⟨W.heap.size, 0, none⟩) 0 n) (W.alloc (.cells (madeCells #[Value.int .u8 0] n) 5)) := by
  obtain ⟨i0, hi, hz0, hz1, hz2⟩ := info_parts info_u8
  have h := run_make (P := Tryz.prog) W 91 5 i0 (.int .u8 0) Tryz.underlying91 hi hz0 .i64 .i64 0 (n : Int) (by omega) (by omega) (by rw [hz2]; omega) (by omega)
  rw [hz1, Int.toNat_natCast, Nat.mul_one] at h
  exact h
set_option maxHeartbeats 1000000 in
set_option maxRecDepth 100000 in
theorem frame_any (b : ByteArray) (w : World) (hb : b.size ≤ 9223372036854775807) (hT : TabW w) :
    Calls Tryz.prog 28 #[.string b] w fun e w' => e = .returned (.tuple #[.string (frS b), .int .i64 (frE b)]) ∧ Below w.heap.size w w' := by
  by_cases hbig : 65536 < b.size
  · have e1 : frE b = 2 := if_pos hbig
    have e2 : frS b = ⟨#[]⟩ := if_pos hbig
    rw [e1, e2]
    clear e1 e2 hT
    go_enter Tryz.func28, Tryz.ntmps28
    go_wp2
    go_ret2
    exact ⟨rfl, Below.refl _ _⟩
  · have e1 : frE b = 0 := if_neg hbig
    have e2 : frS b = ⟨(frameL b.data.toList).toArray⟩ := if_neg hbig
    rw [e1, e2]
    have h0 := hT.1
    have HT := hide hT
    clear e1 e2 hT
    obtain ⟨i0, hi, hz0, hz1, hz2⟩ := info_parts info_u8
    have hmk := fun W => make_room (10 + b.size) (by omega) W
    rw [show ((10 + b.size : Nat) : Int) = 10 + (b.size : Int) by omega] at hmk
    have ho : Owns w.heap.size (w.alloc (.cells (madeCells #[Value.int .u8 0] (10 + b.size)) 5)) (.slice (some ⟨w.heap.size, 0, none⟩) 0 (10 + b.size)) [] :=
      World.ownsRow_made w _ (10 + b.size) (Nat.le_refl _) (by unfold maxLen; omega) (by rw [size_madeCells]; omega)
    have hf : Fr w.heap.size 5 w (w.alloc (.cells (madeCells #[Value.int .u8 0] (10 + b.size)) 5)) := (Fr.refl _ _ w).alloc (Nat.le_refl _) _
    generalize madeCells #[Value.int .u8 0] (10 + b.size) = M at *
    go_enter Tryz.func28, Tryz.ntmps28
    go_wp2_with (at_builtin; refine Lib.wpList_append_own_string _ rfl _ _ 91 9 rfl w.heap.size 5 i0 Tryz.underlying91 Tryz.underlying9 hi hz0 hz1 hz2 _ _ _ rfl ho ⟨#[87, 70]⟩ rfl ?a1 ?a2 ?a3 ?_)
    case a1 => decide
    case a2 => decide
    case a3 => simp
    intro v1 w1 ho1 hg1 _
    have hf1 := hf.grown ho hg1 (by simp)
    have hq1 : Owns w.heap.size w1 v1 [87, 70] := ho1
    clear ho1 hg1 ho hf hmk
    go_wp2_with fail
    refine (appendWord_any w.heap.size v1 [87, 70] b.size w1 hf1.size hq1 (by omega) (by decide)).mono ?_
    rintro e w2 ⟨v2, rfl, hq2, hf2⟩
    have hf12 := hf1.trans hf2
    have hT2 : TabW w2 := (unhide HT).below hf12.below h0
    have hs2 := hq2.string
    have hh : [87, 70] ++ w4 b.size = headL b.size := rfl
    rw [hh] at hq2 hs2
    clear hf1 hf2 hh hq1
    have hhs : ({ data := (headL b.size).toArray } : ByteArray).size = 6 := rfl
    have c3 := frameSum_any ⟨(headL b.size).toArray⟩ b w2 (by rw [hhs]; decide) (by unfold maxLen; omega) hT2
    have hdl : ({ data := (headL b.size).toArray } : ByteArray).data.toList = headL b.size := rfl
    rw [hdl] at c3
    have hsl := sumOf_lt (headL b.size ++ b.data.toList)
    have hfin : frameL b.data.toList = headL b.size ++ w4 (sumOf (headL b.size ++ b.data.toList)) ++ b.data.toList := by unfold frameL; rw [show b.data.toList.length = b.size from Array.length_toList]
    generalize sumOf (headL b.size ++ b.data.toList) = x at *
    generalize hH : headL b.size = H at *
    have hHl : H.length = 6 := by rw [← hH]; rfl
    have HFIN := hide hfin
    have HHL := hide hHl
    have C3 := hide c3
    clear hfin hHl c3 hH hT2 hhs hdl
    go_wp2_with fail
    refine (unhide C3).mono ?_
    rintro e w3 ⟨rfl, rfl⟩
    go_wp2_with fail
    refine (appendWord_any w.heap.size v2 H x w3 hf12.size hq2 hsl (by rw [unhide HHL]; decide)).mono ?_
    rintro e w4' ⟨v4, rfl, hq4, hf4⟩
    have hf14 := hf12.trans hf4
    have hl4 : (H ++ w4 x).length = 10 := by rw [List.length_append, unhide HHL]; rfl
    generalize hL4 : H ++ w4 x = L4 at *
    have HL := hide hl4
    clear hL4 hl4 hf12 hf4 hq2 hs2
    go_wp2_with (at_builtin; refine Lib.wpList_append_own_string _ rfl _ _ 91 9 rfl w.heap.size 5 i0 Tryz.underlying91 Tryz.underlying9 hi hz0 hz1 hz2 _ _ _ rfl hq4 b rfl ?b1 ?b2 ?b3 ?_)
    case b1 => unfold maxLen; rw [unhide HL]; omega
    case b2 => rw [unhide HL]; omega
    case b3 => exact hf14.size
    intro v5 w5 ho5 hg5 _
    have hf5 := hf14.grown hq4 hg5 hf14.size
    have hq5 : Owns w.heap.size w5 v5 (frameL b.data.toList) := by
      rw [unhide HFIN]
      unfold Owns
      rw [byteC_append, List.length_append, ← byteC_str, Array.length_toList]
      exact ho5
    have hs5 := hq5.string
    clear ho5 hg5 hq4 hf14
    go_wp2
    go_ret2
    exact ⟨rfl, hf5.below⟩
end Go.Proofs.YtdmckgcbmbhmmaaGreatDoor
namespace Go.Proofs.YtdmckgcbmbhmmaaGreatDoor
open Go.RowKit

/-- The body of the frame that bytes begin with, and what is wrong. -/
def bodyS (l : List UInt8) : List UInt8 × Int :=
  if l.length < 2 ∧ Lib.hasPrefix [87, 70] l = true then ([], 11) else if Lib.hasPrefix l [87, 70] = false then ([], 3) else if l.length < 10 then ([], 11) else
  if 65536 < unw4 (l.drop 2) then ([], 2) else if (l.drop 10).length < unw4 (l.drop 2) then ([], 11) else
  if sumOf (l.take 6 ++ (l.drop 10).take (unw4 (l.drop 2))) ≠ unw4 (l.drop 6) then ([], 10) else ((l.drop 10).take (unw4 (l.drop 2)), 0)
theorem unw4_lt (l : List UInt8) : unw4 l < 4294967296 := by
  unfold unw4
  split
  · rename_i a b c d _
    have := a.toNat_lt; have := b.toNat_lt; have := c.toNat_lt; have := d.toNat_lt
    omega
  · decide
theorem ext_drop (b : ByteArray) (k : Nat) : (b.extract k b.size).data.toList = b.data.toList.drop k := by
  rw [Lib.extract_data, List.take_of_length_le]
  rw [List.length_drop, Array.length_toList]; exact Nat.le_refl _
theorem ext_pre (b : ByteArray) (k : Nat) : (b.extract 0 k).data.toList = b.data.toList.take k := by
  rw [Lib.extract_data, List.drop_zero]; rfl
theorem TabW.alloc {w : World} (h : TabW w) (o : Obj) : TabW (w.alloc o) := h.below ((Below.refl w.heap.size w).alloc (Nat.le_refl _) o) h.1
theorem TabW.drewN {w : World} (h : TabW w) (n : Nat) : TabW (w.drewN n) := h
set_option maxHeartbeats 2000000 in
theorem bodyOf_any (b : ByteArray) (w : World) (hb : b.size ≤ 9223372036854775807) (hT : TabW w) :
    Calls Tryz.prog 89 #[.string b] w fun e w' => e = .returned (.tuple #[.string ⟨(bodyS b.data.toList).1.toArray⟩, .int .i64 (bodyS b.data.toList).2]) ∧ ∃ n, w' = w.drewN n := by
  have hlen : b.data.toList.length = b.size := Array.length_toList
  generalize hR : bodyS b.data.toList = R
  unfold bodyS at hR
  rw [List.length_drop, hlen] at hR
  have p1 := fun w => Tryz.strings_HasPrefix ⟨#[87, 70]⟩ b w
  have p2 := fun w => Tryz.strings_HasPrefix b ⟨#[87, 70]⟩ w
  rw [show ({ data := #[87, 70] } : ByteArray).data.toList = [87, 70] from rfl] at p1 p2
  have P1 := hide p1
  have P2 := hide p2
  clear p1 p2
  by_cases h2 : b.size < 2
  · have hno : Lib.hasPrefix b.data.toList [87, 70] = false := by
      unfold Lib.hasPrefix
      rw [Bool.eq_false_iff]
      intro h
      have := (List.isPrefixOf_iff_prefix.1 h).length_le
      rw [hlen] at this
      simp at this
      omega
    by_cases hp : Lib.hasPrefix [87, 70] b.data.toList = true
    · rw [if_pos ⟨h2, hp⟩] at hR
      subst hR
      clear hT hno hlen P2
      go_enter Tryz.func89, Tryz.ntmps89
      go_wp2_with (go_at_call 110; refine (unhide P1 _).mono ?_; rintro e w1 ⟨rfl, rfl⟩)
      go_ret2
      exact ⟨rfl, 0, rfl⟩
    · have hp' : Lib.hasPrefix [87, 70] b.data.toList = false := by simpa using hp
      rw [if_neg (fun h => hp h.2), if_pos hno] at hR
      subst hR
      clear hT hlen hp
      go_enter Tryz.func89, Tryz.ntmps89
      go_wp2_with fail
      refine (unhide P1 _).mono ?_
      rintro e w1 ⟨rfl, rfl⟩
      go_wp2_with fail
      refine (unhide P2 _).mono ?_
      rintro e w2 ⟨rfl, rfl⟩
      go_wp2
      go_ret2
      exact ⟨rfl, 0, rfl⟩
  · rw [if_neg (fun h => h2 h.1)] at hR
    by_cases hp : Lib.hasPrefix b.data.toList [87, 70] = false
    · rw [if_pos hp] at hR
      subst hR
      clear hT hlen P1
      go_enter Tryz.func89, Tryz.ntmps89
      go_wp2_with fail
      refine (unhide P2 _).mono ?_
      rintro e w2 ⟨rfl, rfl⟩
      go_wp2
      go_ret2
      exact ⟨rfl, 0, rfl⟩
    · rw [if_neg hp] at hR
      have hp' : Lib.hasPrefix b.data.toList [87, 70] = true := by simpa using hp
      clear hp P1
      by_cases h10 : b.size < 10
      · rw [if_pos h10] at hR
        subst hR
        clear hT hlen
        go_enter Tryz.func89, Tryz.ntmps89
        go_wp2_with fail
        refine (unhide P2 _).mono ?_
        rintro e w2 ⟨rfl, rfl⟩
        go_wp2
        go_ret2
        exact ⟨rfl, 0, rfl⟩
      · rw [if_neg h10] at hR
        have c2 := fun w => word_any (b.extract 2 b.size) w (by rw [ByteArray.size_extract]; omega)
        rw [ext_drop] at c2
        have hn := unw4_lt (b.data.toList.drop 2)
        generalize unw4 (b.data.toList.drop 2) = n at *
        have C2 := hide c2
        clear c2
        go_enter Tryz.func89, Tryz.ntmps89
        go_wp2_with fail
        refine (unhide P2 _).mono ?_
        rintro e w2 ⟨rfl, rfl⟩
        go_wp2_with fail
        refine (unhide C2 _).mono ?_
        rintro e w3 ⟨rfl, n3, rfl⟩
        by_cases hbig : 65536 < n
        · rw [if_pos hbig] at hR
          subst hR
          go_wp2
          go_ret2
          exact ⟨rfl, _, rfl⟩
        · rw [if_neg hbig] at hR
          by_cases hsh : b.size - 10 < n
          · rw [if_pos hsh] at hR
            subst hR
            go_wp2
            go_ret2
            exact ⟨rfl, _, rfl⟩
          · rw [if_neg hsh] at hR
            have h6 : (6 : Int) ≤ (b.size : Int) := by omega
            have h6n : 6 ≤ b.size := by omega
            have fs := fun w hw => frameSum_any (b.extract 0 6) ((b.extract 10 b.size).extract 0 n) w (by rw [ByteArray.size_extract]; unfold maxLen; omega) (by rw [ByteArray.size_extract, ByteArray.size_extract]; unfold maxLen; omega) hw
            rw [ext_pre, ext_pre, ext_drop] at fs
            have wd := fun w => word_any (b.extract 6 b.size) w (by rw [ByteArray.size_extract]; omega)
            rw [ext_drop] at wd
            have hbody : (b.extract 10 b.size).extract 0 n = ⟨((b.data.toList.drop 10).take n).toArray⟩ := by
              apply ByteArray.ext
              apply Array.ext'
              rw [ext_pre, ext_drop]
            generalize sumOf (b.data.toList.take 6 ++ (b.data.toList.drop 10).take n) = x at *
            generalize unw4 (b.data.toList.drop 6) = y at *
            have FS := hide fs
            have WD := hide wd
            have HT := hide hT
            have HB := hide hbody
            clear fs wd hT hbody
            by_cases hxy : x = y
            · rw [if_neg (by simpa using hxy)] at hR
              subst hR
              have g : ((x : Int) != (y : Int)) = false := by simp; omega
              clear hxy
              go_wp2_with fail
              have hTW : TabW (w2.drewN n3) := (unhide HT).drewN _
              generalize hW : w2.drewN n3 = W at *
              have HTW := hide hTW
              have HWe := hide hW
              clear hTW hW
              go_quiet ((first | (go_at_call 62; exact Calls.quiet_of_same (unhide FS _ ((unhide HTW).drewN _))) | (go_at_call 111; exact Calls.quiet_of (unhide WD _))))
              go_wp2
              go_ret2
              exact ⟨by rw [← unhide HB]; rfl, _, by rw [← unhide HWe, World.drewN_drewN]⟩
            · rw [if_pos hxy] at hR
              subst hR
              have g : ((x : Int) != (y : Int)) = true := by rw [bne_iff_ne]; omega
              clear hxy
              go_wp2_with fail
              have hTW : TabW (w2.drewN n3) := (unhide HT).drewN _
              generalize hW : w2.drewN n3 = W at *
              have HTW := hide hTW
              have HWe := hide hW
              clear hTW hW
              go_quiet ((first | (go_at_call 62; exact Calls.quiet_of_same (unhide FS _ ((unhide HTW).drewN _))) | (go_at_call 111; exact Calls.quiet_of (unhide WD _))))
              go_wp2
              go_ret2
              exact ⟨rfl, _, by rw [← unhide HWe, World.drewN_drewN]⟩
theorem bodyS_ok (l : List UInt8) (h : (bodyS l).2 = 0) : 10 + (bodyS l).1.length ≤ l.length ∧ (bodyS l).1.length ≤ 65536 := by
  unfold bodyS at h ⊢
  by_cases a : l.length < 2 ∧ Lib.hasPrefix [87, 70] l = true
  · rw [if_pos a] at h; simp at h
  · rw [if_neg a] at h ⊢
    by_cases b : Lib.hasPrefix l [87, 70] = false
    · rw [if_pos b] at h; simp at h
    · rw [if_neg b] at h ⊢
      by_cases c : l.length < 10
      · rw [if_pos c] at h; simp at h
      · rw [if_neg c] at h ⊢
        by_cases d : 65536 < unw4 (l.drop 2)
        · rw [if_pos d] at h; simp at h
        · rw [if_neg d] at h ⊢
          by_cases e : (l.drop 10).length < unw4 (l.drop 2)
          · rw [if_pos e] at h; simp at h
          · rw [if_neg e] at h ⊢
            by_cases f : sumOf (l.take 6 ++ (l.drop 10).take (unw4 (l.drop 2))) ≠ unw4 (l.drop 6)
            · rw [if_pos f] at h; simp at h
            · rw [if_neg f]
              dsimp only
              rw [List.length_take, List.length_drop]
              omega
/-- The frame at a place: its body, the place behind, the place and the number of what is wrong. -/
def unfS (l : List UInt8) (p : Int) : List UInt8 × Int × Int × Int :=
  if p < 0 ∨ (l.length : Int) < p then ([], 0, 0, 1) else if (bodyS (l.drop p.toNat)).2 ≠ 0 then ([], 0, p, (bodyS (l.drop p.toNat)).2) else ((bodyS (l.drop p.toNat)).1, p + 10 + (bodyS (l.drop p.toNat)).1.length, 0, 0)
set_option maxHeartbeats 2000000 in
theorem unframe_any (b : ByteArray) (p : Int) (w : World) (hb : b.size ≤ 9223372036854775807) (hT : TabW w) :
    Calls Tryz.prog 57 #[.string b, .int .i64 p] w fun e w' =>
      e = .returned (.tuple #[.string ⟨(unfS b.data.toList p).1.toArray⟩, .int .i64 (unfS b.data.toList p).2.1, .agg #[.int .i64 (unfS b.data.toList p).2.2.1, .int .i64 (unfS b.data.toList p).2.2.2]]) ∧ Below w.heap.size w w' := by
  have hlen : b.data.toList.length = b.size := Array.length_toList
  generalize hR : unfS b.data.toList p = R
  unfold unfS at hR
  rw [hlen] at hR
  have h0 := hT.1
  by_cases hout : p < 0 ∨ (b.size : Int) < p
  · rw [if_pos hout] at hR
    subst hR
    clear hT hlen
    rcases Int.lt_or_le p 0 with hp | hp
    · clear hout
      go_enter Tryz.func57, Tryz.ntmps57
      go_wp2
      all_goals exact bodyPost_ret (v := .tuple #[.string ⟨#[]⟩, .int .i64 0, .agg #[.int .i64 0, .int .i64 1]]) (by simp [results, Tryz.results57, go_sem]) rfl ⟨rfl, (Below.refl _ _).alloc (Nat.le_refl _) _⟩
    · have hp2 : (b.size : Int) < p := by omega
      clear hout
      go_enter Tryz.func57, Tryz.ntmps57
      go_wp2
      all_goals exact bodyPost_ret (v := .tuple #[.string ⟨#[]⟩, .int .i64 0, .agg #[.int .i64 0, .int .i64 1]]) (by simp [results, Tryz.results57, go_sem]) rfl ⟨rfl, (Below.refl _ _).alloc (Nat.le_refl _) _⟩
  · rw [if_neg hout] at hR
    have hp0 : 0 ≤ p := by omega
    have hp1 : p ≤ (b.size : Int) := by omega
    clear hout
    obtain ⟨P, rfl⟩ := Int.eq_ofNat_of_zero_le hp0
    rw [Int.toNat_natCast] at hR
    have hbo := fun w hw => bodyOf_any (b.extract P b.size) w (by rw [ByteArray.size_extract]; omega) hw
    rw [ext_drop] at hbo
    have hok := bodyS_ok (b.data.toList.drop P)
    rw [List.length_drop, hlen] at hok
    generalize bodyS (b.data.toList.drop P) = Q at *
    obtain ⟨body, code⟩ := Q
    dsimp only at hbo hok hR
    have HB := hide hbo
    have HT := hide hT
    clear hbo hT
    by_cases hc : code = 0
    · subst hc
      rw [if_neg (by simp)] at hR
      subst hR
      have hk := hok rfl
      have hbs : ({ data := body.toArray } : ByteArray).size = body.length := by show (List.toArray _).size = _; rw [List.size_toArray]
      clear hok
      generalize hBA : ({ data := body.toArray } : ByteArray) = BA at *
      have hcl := fun w => clone_any BA w (by omega)
      have HCL := hide hcl
      have HBS := hide hbs
      clear hcl hlen hBA hbs
      go_enter Tryz.func57, Tryz.ntmps57
      go_wp2_with fail
      refine (unhide HB _ ((unhide HT).alloc _)).mono ?_
      rintro e w1 ⟨rfl, n1, rfl⟩
      go_wp2_with fail
      refine (unhide HCL _).mono ?_
      rintro e w2 ⟨rfl, hb2⟩
      have hz : ((w.alloc (.cells #[.int .i64 0, .int .i64 0] 100)).drewN n1).heap.size = w.heap.size + 1 := by show (w.alloc _).heap.size = _; simp
      have hf1 : FBox w.heap.size ((w.alloc (.cells #[.int .i64 0, .int .i64 0] 100)).drewN n1) := heap_alloc_new w _
      have hf2 := hf1.below hb2 (by rw [hz]; omega)
      have hc2 := hf2.cells
      have hl2 := hf2.lt
      have hbel : Below w.heap.size w w2 := (below_drewN ((Below.refl _ _).alloc (Nat.le_refl _) _) n1).trans (hb2.mono (by rw [hz]; omega))
      have HBel := hide hbel
      have HF := hide hf2
      clear hf1 hb2 hz hbel hf2
      have hend : (P : Int) + 10 + (BA.size : Int) = (P : Int) + 10 + (body.length : Int) := by rw [unhide HBS]
      have HEND := hide hend
      have hbs2 : BA.size ≤ 65536 ∧ P + 10 + BA.size ≤ b.size := by rw [unhide HBS]; omega
      clear hend
      go_wp2
      exact bodyPost_ret (v := .tuple #[.string BA, .int .i64 ((P : Int) + 10 + (BA.size : Int)), .agg #[.int .i64 0, .int .i64 0]]) (by simp [results, Tryz.results57, go_sem, hc2]) rfl
        ⟨by rw [unhide HEND], ((unhide HBel).setCell (Nat.le_refl _) _).setCell (Nat.le_refl _) _⟩
    · rw [if_pos hc] at hR
      subst hR
      have gc : (code != 0) = true := by rw [bne_iff_ne]; exact hc
      clear hok hc hlen
      go_enter Tryz.func57, Tryz.ntmps57
      go_wp2_with fail
      refine (unhide HB _ ((unhide HT).alloc _)).mono ?_
      rintro e w1 ⟨rfl, n1, rfl⟩
      go_wp2
      exact bodyPost_ret (v := .tuple #[.string ⟨#[]⟩, .int .i64 0, .agg #[.int .i64 (P : Int), .int .i64 code]]) (by simp [results, Tryz.results57, go_sem]) rfl ⟨rfl, ((below_drewN ((Below.refl _ _).alloc (Nat.le_refl _) _) _).setCell (Nat.le_refl _) _).setCell (Nat.le_refl _) _⟩
end Go.Proofs.YtdmckgcbmbhmmaaGreatDoor
