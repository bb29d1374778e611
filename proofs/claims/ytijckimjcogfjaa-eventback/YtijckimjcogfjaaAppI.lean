/-
  mayBe and appendItem: an item's bytes are put at the end of a row of bytes that the call itself made.
-/
import Derived.Test.YtijckimjcogfjaaAppN
import Derived.Deep.RegionHeld3
import Derived.BigQuiet
namespace Go.Proofs.Ytijckimjcogfjaa
open Go.RowKit

/-- An item's bytes. -/
def itemB (t : Bool) (n : Int) (s : ByteArray) : List UInt8 := if t then 2 :: (numB (zig s.size) ++ s.data.toList) else 1 :: numB (zig n)
/-- May an item be? -/
def mayB (t : Bool) (n : Int) (s : ByteArray) : Bool := if t then n == 0 else s.toList.isEmpty
set_option maxHeartbeats 400000 in
theorem mayBe_any (t : Bool) (n : Int) (s : ByteArray) (w : World) :
    Calls Try.prog 49 #[.agg #[.bool t, .int .i64 n, .string s]] w fun e w' => e = .returned (.bool (mayB t n s)) ∧ w' = w.alloc (.cells #[.bool t, .int .i64 n, .string s] 50) := by
  cases t
  · go_enter Try.func49, Try.ntmps49
    go_wp2
    go_ret
    exact ⟨rfl, rfl⟩
  · go_enter Try.func49, Try.ntmps49
    go_wp2
    go_ret
    exact ⟨rfl, rfl⟩
/-- The box of an item lies there. -/
def BoxAt (k : Nat) (t : Bool) (n : Int) (s : ByteArray) (w : World) : Prop :=
  w.heap[k]? = some (.cells #[.bool t, .int .i64 n, .string s] 50 (0, 0))
theorem BoxAt.cells {k : Nat} {t : Bool} {n : Int} {s : ByteArray} {w : World} (h : BoxAt k t n s w) :
    w.cell? ⟨k, 0, none⟩ = some (.bool t) ∧ w.cell? ⟨k, 1, none⟩ = some (.int .i64 n) ∧ w.cell? ⟨k, 2, none⟩ = some (.string s) := by
  unfold BoxAt at h
  simp [World.cell?, h]
theorem BoxAt.fr {k B : Nat} {t : Bool} {n : Int} {s : ByteArray} {w w' : World} (h : BoxAt k t n s w) (hf : Fr B 5 w w') : BoxAt k t n s w' := hf.keep h (by decide)
def HoldS (k : Nat) (t : Bool) (n : Int) (s : ByteArray) (w : World) : Prop := BoxAt k t n s w ∧ w.cell? ⟨k, 1, none⟩ = some (.int .i64 n) ∧ w.cell? ⟨k, 2, none⟩ = some (.string s)
theorem HoldS.of {k : Nat} {t : Bool} {n : Int} {s : ByteArray} {w : World} (h : BoxAt k t n s w) : BoxAt k t n s w ∧ w.cell? ⟨k, 1, none⟩ = some (.int .i64 n) ∧ w.cell? ⟨k, 2, none⟩ = some (.string s) := ⟨h, h.cells.2.1, h.cells.2.2⟩
set_option maxHeartbeats 1000000 in
theorem appendItem_num (B : Nat) (v : Value) (l : List UInt8) (n : Int) (s : ByteArray) (w : World) (hB : B ≤ w.heap.size) (ho : Owns B w v l) (h0 : -9223372036854775808 ≤ n) (h1 : n < 9223372036854775808) (hl : l.length ≤ 140737488354000) :
    Calls Try.prog 50 #[v, .agg #[.bool false, .int .i64 n, .string s]] w fun e w' => ∃ v', e = .returned v' ∧ Owns B w' v' (l ++ itemB false n s) ∧ Fr B 5 w w' := by
  go_enter Try.func50, Try.ntmps50
  go_wp2_with fail
  have hblk : BoxAt w.heap.size false n s (w.alloc (.cells #[.bool false, .int .i64 n, .string s] 50)) := heap_alloc_new w _
  generalize hW : w.alloc (.cells #[.bool false, .int .i64 n, .string s] 50) = W at *
  have hoW : Owns B W v l := hW ▸ ho.alloc _
  have hsz : w.heap.size < W.heap.size := by rw [← hW]; simp
  have hfW : Fr B 5 w W := hW ▸ (Fr.refl B _ w).alloc hB _
  clear hW ho
  generalize w.heap.size = k at *
  have hcW := hblk.cells
  have hf0 : Fr B 5 W (W.alloc (.cells #[.int .u8 1] 5)).drew := ((Fr.refl B _ W).alloc (by omega) _).drew
  have hs1 : B ≤ (W.alloc (.cells #[.int .u8 1] 5)).drew.heap.size := by simp; omega
  have hc1 : (W.alloc (.cells #[.int .u8 1] 5)).drew.cell? ⟨W.heap.size, 0, none⟩ = some (.int .u8 ((1 : Nat) : Int)) := by simp
  have HF0 := hide hf0
  have HC1 := hide hc1
  clear hf0 hc1
  go_region_held3 (fun w' => BoxAt k false n s w' ∧ w'.cell? ⟨k, 1, none⟩ = some (.int .i64 n) ∧ w'.cell? ⟨k, 2, none⟩ = some (.string s)) (first | exact HoldS.of hblk | exact HoldS.of (hblk.fr (unhide HF0)) | exact HoldS.of (hblk.fr ((unhide HF0).trans hf1)) | exact HoldS.of (hblk.fr (((unhide HF0).trans hf1).trans hf2)))
    (first
      | (refine step_byte rfl (.tmp 8) (.tmp 9) rfl B v l 1 rfl (hoW.alloc _).drew W.heap.size rfl (unhide HC1) (by omega) (by omega) hs1 ?_; intro v1 w1 ho1 hf1)
      | (go_at_call 64; refine (appendNumber_any B v1 (l ++ [UInt8.ofNat 1]) n w1 ?_ ho1 h0 h1 ?_).mono ?_; exact Nat.le_trans hs1 hf1.size; (rw [List.length_append]; simp; omega); rintro e w2 ⟨v2, rfl, ho2, hf2⟩))
  go_wp2
  go_ret
  exact ⟨_, rfl, by unfold itemB; simpa using ho2, ((hfW.trans (unhide HF0)).trans hf1).trans hf2⟩
set_option maxHeartbeats 1000000 in
theorem appendItem_text (B : Nat) (v : Value) (l : List UInt8) (n : Int) (s : ByteArray) (w : World) (hB : B ≤ w.heap.size) (ho : Owns B w v l) (hl : l.length + s.size ≤ 140737488354000) :
    Calls Try.prog 50 #[v, .agg #[.bool true, .int .i64 n, .string s]] w fun e w' => ∃ v', e = .returned v' ∧ Owns B w' v' (l ++ itemB true n s) ∧ Fr B 5 w w' := by
  obtain ⟨i0, hi, hz0, hz1, hz2⟩ := info_parts info_u8
  go_enter Try.func50, Try.ntmps50
  go_wp2_with fail
  have hblk : BoxAt w.heap.size true n s (w.alloc (.cells #[.bool true, .int .i64 n, .string s] 50)) := heap_alloc_new w _
  generalize hW : w.alloc (.cells #[.bool true, .int .i64 n, .string s] 50) = W at *
  have hoW : Owns B W v l := hW ▸ ho.alloc _
  have hsz : w.heap.size < W.heap.size := by rw [← hW]; simp
  have hfW : Fr B 5 w W := hW ▸ (Fr.refl B _ w).alloc hB _
  clear hW ho
  generalize w.heap.size = k at *
  have hcW := hblk.cells
  have hf0 : Fr B 5 W (W.alloc (.cells #[.int .u8 2] 5)).drew := ((Fr.refl B _ W).alloc (by omega) _).drew
  have hs1 : B ≤ (W.alloc (.cells #[.int .u8 2] 5)).drew.heap.size := by simp; omega
  have hc1 : (W.alloc (.cells #[.int .u8 2] 5)).drew.cell? ⟨W.heap.size, 0, none⟩ = some (.int .u8 ((2 : Nat) : Int)) := by simp
  have HF0 := hide hf0
  have HC1 := hide hc1
  clear hf0 hc1
  go_region_held3 (fun w' => BoxAt k true n s w' ∧ w'.cell? ⟨k, 1, none⟩ = some (.int .i64 n) ∧ w'.cell? ⟨k, 2, none⟩ = some (.string s)) (first | exact HoldS.of hblk | exact HoldS.of (hblk.fr (unhide HF0)) | exact HoldS.of (hblk.fr ((unhide HF0).trans hf1)) | exact HoldS.of (hblk.fr (((unhide HF0).trans hf1).trans hf2)))
    (first
      | (refine step_byte rfl (.tmp 14) (.tmp 15) rfl B v l 2 rfl (hoW.alloc _).drew W.heap.size rfl (unhide HC1) (by omega) (by omega) hs1 ?_; intro v1 w1 ho1 hf1)
      | (go_at_call 64; refine (appendNumber_any B v1 (l ++ [UInt8.ofNat 2]) (s.size : Int) w1 ?_ ho1 (by omega) (by omega) ?_).mono ?_; exact Nat.le_trans hs1 hf1.size; (rw [List.length_append]; simp; omega); rintro e w2 ⟨v2, rfl, ho2, hf2⟩))
  have hfin := ((hfW.trans (unhide HF0)).trans hf1).trans hf2
  have hb2 : BoxAt k true n s w2 := hblk.fr (((unhide HF0).trans hf1).trans hf2)
  have hc2 := hb2.cells
  have hB2 : B ≤ w2.heap.size := Nat.le_trans (Nat.le_trans hs1 hf1.size) hf2.size
  have hnl := (numB_length (u := zig (s.size : Int)) (zig_lt (by omega) (by omega))).2
  have hl2 : (l ++ [UInt8.ofNat 2] ++ numB (zig (s.size : Int))).length = l.length + 1 + (numB (zig (s.size : Int))).length := by simp; omega
  generalize hL : l ++ [UInt8.ofNat 2] ++ numB (zig (s.size : Int)) = L at *
  have HL := hide hL
  clear hL
  have Hl2 := hide hl2
  have HB := hide hblk
  have Hb2 := hide hb2
  clear hblk hb2 hl2 hf1 hf2 ho1 hoW hcW hs1
  go_wp2_with (at_builtin; refine Lib.wpList_append_own_string _ rfl _ _ 82 9 rfl B 5 i0 Try.underlying82 Try.underlying9 hi hz0 hz1 hz2 v2 _ _ rfl ho2 s rfl ?a1 ?a2 ?a3 ?_)
  case a1 => unfold maxLen; rw [unhide Hl2]; omega
  case a2 => rw [unhide Hl2]; omega
  case a3 => exact hB2
  intro v3 w3 ho3 hg3 _
  have hf3 := hfin.grown ho2 hg3 hB2
  have ho4 : Owns B w3 v3 (l ++ itemB true n s) := by
    have e : l ++ itemB true n s = L ++ s.data.toList := by rw [← unhide HL]; simp [itemB]
    rw [e]
    unfold Owns
    rw [byteC_append, List.length_append, ← byteC_str, Array.length_toList]
    exact ho3
  clear ho3 hg3 ho2
  go_wp2
  go_ret
  exact ⟨_, rfl, ho4, hf3⟩
theorem appendItem_any (B : Nat) (v : Value) (l : List UInt8) (t : Bool) (n : Int) (s : ByteArray) (w : World) (hB : B ≤ w.heap.size) (ho : Owns B w v l) (h0 : -9223372036854775808 ≤ n) (h1 : n < 9223372036854775808) (hl : l.length + s.size ≤ 140737488354000) :
    Calls Try.prog 50 #[v, .agg #[.bool t, .int .i64 n, .string s]] w fun e w' => ∃ v', e = .returned v' ∧ Owns B w' v' (l ++ itemB t n s) ∧ Fr B 5 w w' := by
  cases t
  · exact appendItem_num B v l n s w hB ho h0 h1 (by omega)
  · exact appendItem_text B v l n s w hB ho hl
end Go.Proofs.Ytijckimjcogfjaa
