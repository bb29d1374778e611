/-
  A table of strings that a row lists: the variable's cells are these strings. Of no program.
  What the row's list of package variables gives, with the words of fields: they hold what their own texts lay.
  Which texts may be: strings.ContainsAny of a quote and a line feed, at any bytes; isText, isFree, isStage.
  A rune that is no byte of ASCII is none of a quote and a line feed: strings.IndexRune.
  strings.ContainsAny of a quote and a line feed, at any bytes; isText, isFree, isStage.
-/
import Derived.Lib.LaidTab
import Derived.Test.YthipclehhcfahabGreatDoorRows
import Derived.Test.YthipclehhcfahabGreatDoorGb07
import Derived.Stop.LaidErr
import Derived.Test.YthipclehhcfahabGreatDoorGb06
import Derived.Laws.RangeAny
import Derived.Lib.MapLaws
import Derived.Deep.LoopGhost
import Derived.Lib.IndexAny
import Derived.WalkMore
import Derived.Deep.RegionHeld3
import Derived.Lib.OthersKept
namespace Go.Proofs.YthipclehhcfahabGreatDoor
open Go

def strData {H : Type} (zs : List (List UInt8)) : DataW H := .agg (zs.map fun z => .lit (.string z))
theorem cells_of_strs {H : Type} {enc : TypeId × Value → H} {P : Program} {w : World} {base : Nat} {sp : Nat → Bool} {held : Bool} {fuel : Nat} {t e : TypeId} {n : Nat} {cs : List Value} {zs : List (List UInt8)} {p : List MemPlace}
    (ht : P.underlying t = some (.array n e)) (he : P.underlying e = some .string) (hce : P.cellsOf e = 1) (hct : P.cellsOf t = n)
    (h : DataW.trod enc P w base sp held fuel t cs = some (strData zs, p)) : cs = zs.map fun z => Value.string ⟨z.toArray⟩ := by
  cases fuel with
  | zero => simp [DataW.trod] at h
  | succ fuel =>
    simp only [DataW.trod, ht, hce, hct, Nat.mul_one] at h
    split at h
    · rename_i hl
      obtain ⟨xs, hm, hx⟩ := Option.map_eq_some_iff.1 h
      have hxs : xs.map (·.1) = zs.map fun z => (DataW.lit (.string z) : DataW H) := by
        have := congrArg Prod.fst hx
        simpa [strData] using this
      have hxl : xs.length = n := by simpa using Lib.mapM_length hm
      have hzl : zs.length = n := by
        have := congrArg List.length hxs
        simp at this
        omega
      apply List.ext_getElem?
      intro i
      by_cases hi : i < n
      · obtain ⟨b, hb, hf⟩ := Lib.mapM_at hm i i (by simp [hi])
        obtain ⟨s, hc, rfl, _⟩ := DataW.trod_string he hf
        have h1 : cs[i]? = some (.string s) := by
          have := congrArg (·[0]?) hc
          simpa [List.getElem?_take, List.getElem?_drop] using this
        have h2 : (xs.map (·.1))[i]? = some (DataW.lit (.string s.data.toList) : DataW H) := by simp [hb]
        rw [hxs] at h2
        simp only [List.getElem?_map, Option.map_eq_some_iff, DataW.lit.injEq, Lit.string.injEq] at h2
        obtain ⟨z', hz', rfl⟩ := h2
        simp [h1, hz']
      · rw [List.getElem?_eq_none (by omega), List.getElem?_eq_none (by simp; omega)]
    · cases h
/-- The table of strings stands first on the list. -/
theorem strs_of_head {P : Program} {W : World} {name : String} {zs : List (List UInt8)} {rest : List (String × DataW Unit)} {g : Nat} {t e : TypeId} {n : Nat}
    (hg : P.globalNamed name = some g) (hty : (P.globals[g]?).map (·.type) = some t) (ht : P.underlying t = some (.array n e)) (he : P.underlying e = some .string) (hce : P.cellsOf e = 1) (hct : P.cellsOf t = n)
    (h : laidMet P ((name, strData zs) :: rest) W) (i : Nat) : W.cell? ⟨g, i, none⟩ = (zs.map fun z => Value.string ⟨z.toArray⟩)[i]? := by
  obtain ⟨ps, ⟨g', t', cs, fuel, p, q, hg', ht', hvar, hd, _, _⟩, _⟩ := h
  obtain rfl := Option.some.inj (hg.symm.trans hg')
  obtain rfl := Option.some.inj (hty.symm.trans ht')
  rw [World.var?_cell hg hvar i, ← cells_of_strs ht he hce hct hd]
  simp
end Go.Proofs.YthipclehhcfahabGreatDoor
namespace Go.Proofs.YthipclehhcfahabGreatDoor
open Go.RowKit

theorem gSets : Tryz.prog.globalNamed "weaver/token.sets" = some 2 := by kernel_rfl
theorem gSetsT : (Tryz.prog.globals[2]?).map (·.type) = some 189 := by kernel_rfl
theorem gRng : Tryz.prog.globalNamed "strconv.ErrRange" = some 5 := by kernel_rfl
theorem gRngT : (Tryz.prog.globals[5]?).map (·.type) = some 148 := by kernel_rfl
theorem gPowT : (Tryz.prog.globals[3]?).map (·.type) = some 216 := by kernel_rfl
theorem gDb : Tryz.prog.globalNamed "math/bits.deBruijn64tab" = some 7 := by kernel_rfl
theorem gDbT : (Tryz.prog.globals[7]?).map (·.type) = some 243 := by kernel_rfl
theorem gFds : Tryz.prog.globalNamed "weaver/expr.fields" = some 1 := by kernel_rfl
theorem gFdsT : (Tryz.prog.globals[1]?).map (·.type) = some 188 := by kernel_rfl
theorem cells6 : Tryz.prog.cellsOf 188 = 6 := by kernel_rfl
theorem cellsU8 : Tryz.prog.cellsOf 5 = 1 := by kernel_rfl
theorem cellsU64 : Tryz.prog.cellsOf 58 = 1 := by kernel_rfl
theorem cells128 : Tryz.prog.cellsOf 189 = 128 := by kernel_rfl
theorem cells20 : Tryz.prog.cellsOf 216 = 20 := by kernel_rfl
theorem cells64 : Tryz.prog.cellsOf 243 = 64 := by kernel_rfl
theorem cellsErr : Tryz.prog.cellsOf 234 = 1 := by kernel_rfl
theorem cellsStr : Tryz.prog.cellsOf 9 = 1 := by kernel_rfl
theorem errStar : "*" ++ "errors.errorString" = "*errors.errorString" := by decide
theorem errRow (u : TypeId) (h : Tryz.prog.typeName? 3 u = some "*errors.errorString") : u = 232 :=
  typeName_ptr_named (nm := "errors.errorString") (by rw [errStar]; kernel_rfl) (by kernel_rfl) (by decide) u (by rw [errStar]; exact h)
/-- The row's list. -/
def laidL : List (String × DataW Unit) := [("math/bits.deBruijn32tab", Rows.laid_math_bits_deBruijn32tab), ("math/bits.deBruijn64tab", Rows.laid_math_bits_deBruijn64tab), ("internal/strconv.uint64pow10", Rows.laid_internal_strconv_uint64pow10), ("strconv.ErrRange", Rows.laid_strconv_ErrRange), ("strconv.ErrSyntax", Rows.laid_strconv_ErrSyntax), ("weaver/token.sets", Rows.laid_weaver_token_sets), ("weaver/expr.fields", Rows.laid_weaver_expr_fields)]
def setsI : List Int := [0, 0, 0, 0, 0, 0, 0, 0, 0, 0, 3, 0, 0, 0, 0, 0, 0, 0, 0, 0, 0, 0, 0, 0, 0, 0, 0, 0, 0, 0, 0, 0, 1, 128, 0, 0, 0, 0, 0, 16, 32, 32, 32, 32, 0, 32, 32, 0, 8, 8, 8, 8, 8, 8, 8, 8, 8, 8, 32, 32, 64, 64, 0, 0, 0, 0, 0, 0, 0, 0, 0, 0, 0, 0, 0, 0, 0, 0, 0, 0, 0, 0, 0, 0, 0, 0, 0, 0, 0, 0, 0, 0, 0, 0, 0, 0, 0, 4, 4, 4, 4, 4, 4, 4, 4, 4, 4, 4, 4, 4, 4, 4, 4, 4, 4, 4, 4, 4, 4, 4, 4, 4, 4, 0, 0, 0, 0, 0]
def dbI : List Int := [0, 1, 56, 2, 57, 49, 28, 3, 61, 58, 42, 50, 38, 29, 17, 4, 62, 47, 59, 36, 45, 43, 51, 22, 53, 39, 33, 30, 24, 18, 12, 5, 63, 55, 48, 27, 60, 41, 37, 16, 46, 35, 44, 21, 52, 32, 23, 11, 54, 26, 40, 15, 34, 20, 31, 10, 25, 14, 19, 9, 13, 8, 7, 6]
theorem setsI_get : ∀ i : Fin 128, setsI.getD i.val 0 = ((cls i.val : Nat) : Int) := by decide +kernel
theorem tbE {W : World} (h0 : laidMetH Tryz.prog laidL W) : TbE W := by
  have h : laidMet Tryz.prog laidL W := h0
  have t1 := h.tail
  have hdb : Lib.TabIs Tryz.prog W "math/bits.deBruijn64tab" .u8 dbI := Lib.tabIs_of_head gDb gDbT Tryz.underlying243 Tryz.underlying5 cellsU8 cells64 t1
  have hlow : 8 ≤ W.heap.size := World.block_lt_of_cell? _ _ (hdb.cell gDb 0 (by decide))
  have t2 := t1.tail
  have t3 := t2.tail
  have t5 := t3.tail.tail
  have t6 := t5.tail
  have hpow : Lib.TabIs Tryz.prog W "internal/strconv.uint64pow10" .u64 Lib.pow10Tab := Lib.tabIs_of_head gPow gPowT Tryz.underlying216 Tryz.underlying58 cellsU64 cells20 t2
  have hset : Lib.TabIs Tryz.prog W "weaver/token.sets" .u8 setsI := Lib.tabIs_of_head gSets gSetsT Tryz.underlying189 Tryz.underlying5 cellsU8 cells128 t5
  obtain ⟨a, s, hv, _⟩ := laid_sentinel t3 gRng gRngT Tryz.underlying148 errRow Tryz.underlying232 Tryz.underlying234 rfl rfl Tryz.underlying9 cellsErr cellsStr
  have fd := fun i => strs_of_head (zs := fldW) gFds gFdsT Tryz.underlying188 Tryz.underlying9 cellsStr cells6 t6 i
  refine ⟨⟨hlow, fun i hi => ?_, hpow, ⟨_, _, by simpa using World.var?_cell gRng hv 0⟩⟩, fd 0, fd 1, fd 2, fd 3, fd 4, fd 5⟩
  rw [hset.cell gSets i (by simpa [setsI] using hi), setsI_get ⟨i, hi⟩]
/-! The settled world: the variables hold what their initialisers lay. -/
def cellsPut (cs : Array Value) : Obj → Obj
  | .cells _ t f => .cells cs t f
  | o => o
def db32V : Array Value := #[.int .u8 0, .int .u8 1, .int .u8 28, .int .u8 2, .int .u8 29, .int .u8 14, .int .u8 24, .int .u8 3, .int .u8 30, .int .u8 22, .int .u8 20, .int .u8 15, .int .u8 25, .int .u8 17, .int .u8 4, .int .u8 8, .int .u8 31, .int .u8 27, .int .u8 13, .int .u8 23, .int .u8 21, .int .u8 19, .int .u8 16, .int .u8 7, .int .u8 26, .int .u8 12, .int .u8 18, .int .u8 6, .int .u8 11, .int .u8 5, .int .u8 10, .int .u8 9]
def db64V : Array Value := (dbI.map fun z => Value.int .u8 z).toArray
def setsV : Array Value := (setsI.map fun z => Value.int .u8 z).toArray
def powV : Array Value := (Lib.pow10Tab.map fun z => Value.int .u64 z).toArray
def fdsV : Array Value := (fldW.map fun z => Value.string ⟨z.toArray⟩).toArray
def errBlks : Array Obj := #[.cells #[.string ⟨#[118, 97, 108, 117, 101, 32, 111, 117, 116, 32, 111, 102, 32, 114, 97, 110, 103, 101]⟩] 234, .cells #[.string ⟨#[105, 110, 118, 97, 108, 105, 100, 32, 115, 121, 110, 116, 97, 120]⟩] 234]
def putL (h : Array Obj) : Array Obj :=
  ((((((h.modify 2 (cellsPut setsV)).modify 4 (cellsPut #[.iface 232 (.pointer (some ⟨15, 0, none⟩))])).modify 5 (cellsPut #[.iface 232 (.pointer (some ⟨14, 0, none⟩))])).modify 3 (cellsPut powV)).modify 6 (cellsPut db32V)).modify 7 (cellsPut db64V)).modify 1 (cellsPut fdsV)
theorem held_size (os : Os) : (World.holding Tryz.prog os ⟨#[], #[], []⟩).heap.size = 14 := by kernel_rfl
end Go.Proofs.YthipclehhcfahabGreatDoor
namespace Go.Proofs.YthipclehhcfahabGreatDoor
open Go.RowKit

theorem enc_two (r : Nat) (h1 : 128 ≤ r) (h2 : r < 2048) : Utf8.encode (r : Int) = ⟨#[UInt8.ofNat (192 + r / 64), UInt8.ofNat (128 + r % 64)]⟩ := by
  have hv : Utf8.valid (r : Int) = true := by unfold Utf8.valid; simp; omega
  simp only [Utf8.encode, hv, if_true, Int.toNat_natCast]
  rw [if_neg (by omega), if_pos (by omega)]
theorem enc_more (r : Nat) (h2 : 2048 ≤ r) : 3 ≤ (Utf8.encode (r : Int)).size ∧ (Utf8.encode (r : Int)).size ≤ 4 := by
  have hb : 2048 ≤ (if Utf8.valid (r : Int) = true then ((r : Int)).toNat else Utf8.runeError) := by
    split
    · omega
    · unfold Utf8.runeError; omega
  simp only [Utf8.encode]
  generalize (if Utf8.valid (r : Int) = true then ((r : Int)).toNat else Utf8.runeError) = c at hb
  rw [if_neg (by omega), if_neg (by omega)]
  split
  · exact ⟨Nat.le_refl 3, by show 3 ≤ 4; omega⟩
  · exact ⟨by show 3 ≤ 4; omega, Nat.le_refl 4⟩
theorem validRune_any (r : Int) (w : World) : Calls Tryz.prog 196 #[.int .i32 r] w fun e w' => Hid (∃ b, e = .returned (.bool b)) ∧ w' = w := by
  go_enter Tryz.func196, Tryz.ntmps196
  go_wp2
  all_goals go_ret
  all_goals (refine ⟨?_, rfl⟩; first | exact Or.inl rfl | exact Or.inr rfl | exact hide ⟨_, rfl⟩)
end Go.Proofs.YthipclehhcfahabGreatDoor
namespace Go.Proofs.YthipclehhcfahabGreatDoor
open Go.RowKit
set_option maxHeartbeats 4000000 in
set_option maxRecDepth 100000 in
theorem indexRune_err (w : World) : Calls Tryz.prog 184 #[.string ⟨#[39, 10]⟩, .int .i32 65533] w fun e w' => e = .returned (.int .i64 (-1)) ∧ Kp [] w w' := by
  go_enter Tryz.func184, Tryz.ntmps184
  go_wp2
  go_loopg [5, 6] 2 (fun g _ _ wx => ∃ i : Nat, i + g = 2 ∧ wx = w.iter ⟨#[39, 10]⟩ i)
  case atStart => exact ⟨0, by omega, rfl⟩
  case round =>
    obtain ⟨i, hig, rfl⟩ := hrel
    rcases (show i = 0 ∨ i = 1 ∨ i = 2 by omega) with rfl | rfl | rfl
    · obtain rfl : gk = 2 := by omega
      have hnx := fun ty => run_next_ascii (P := Tryz.prog) w ⟨#[39, 10]⟩ 0 ty (by decide) (by decide)
      go_wp2
      go_roundg 1
      case measure => omega
      case rel => exact ⟨1, by omega, rfl⟩
    · obtain rfl : gk = 1 := by omega
      have hnx := fun ty => run_next_ascii (P := Tryz.prog) w ⟨#[39, 10]⟩ 1 ty (by decide) (by decide)
      go_wp2
      go_roundg 0
      case measure => omega
      case rel => exact ⟨2, by omega, rfl⟩
    · obtain rfl : gk = 0 := by omega
      have hnx := fun ty => run_next_end (P := Tryz.prog) w ⟨#[39, 10]⟩ 2 ty (by decide)
      go_wp2
      go_ret
      exact ⟨rfl, Kp.alloc _ _⟩
set_option maxHeartbeats 400000 in
set_option maxRecDepth 100000 in
theorem indexRune_more (r : Nat) (h1 : 2048 ≤ r) (hE : r ≠ 65533) (w : World) : Calls Tryz.prog 184 #[.string ⟨#[39, 10]⟩, .int .i32 (r : Int)] w fun e w' => e = .returned (.int .i64 (-1)) ∧ Kp [] w w' := by
  have g1 : ((r : Int) == 65533) = false := by simp; omega
  have g2 : ¬ ((r : Int) = 65533) := by omega
  have g3 : ¬ ((r : Int) < 128) := by omega
  obtain ⟨k1, k2⟩ := enc_more r h1
  obtain ⟨B, hB⟩ : ∃ B, Utf8.encode (r : Int) = B := ⟨_, rfl⟩
  rw [hB] at k1 k2
  have gL : ¬ ((B.size : Int) - 1 < 2) := by omega
  go_enter Tryz.func184, Tryz.ntmps184
  go_wp2_with fail
  refine (validRune_any _ _).mono ?_
  rintro e w1 ⟨hb, rfl⟩
  obtain ⟨b, rfl⟩ := unhide hb
  clear hb
  cases b with
  | false =>
    go_wp2
    go_ret
    exact ⟨rfl, Kp.refl _ _⟩
  | true =>
    go_wp2
    go_step3
    go_wp2
    clear hB
    go_loopw [9] (fun i wr => wr = w1 ∧ i = .int .i64 ((B.size : Int) - 1)) (fun _ _ => 0)
    case atStart => exact ⟨rfl, by go_num⟩
    case round =>
      obtain ⟨rfl, rfl⟩ := hrel
      go_wp2
      rw [Exit.noGoto_ret]
      go_ret
      exact ⟨rfl, Kp.refl _ _⟩
theorem ib_nil (s : ByteArray) (c : Int) (w : World) (h : s.data.toList = []) : Calls Tryz.prog 195 #[.string s, .int .u8 c] w fun e w' => e = .returned (.int .i64 (-1)) ∧ w' = w := by
  have := Tryz.strings_IndexByte s c w
  rw [h] at this
  exact this
set_option maxHeartbeats 400000 in
set_option maxRecDepth 100000 in
theorem indexRune_two (r : Nat) (h1 : 128 ≤ r) (h3 : r < 2048) (w : World) : Calls Tryz.prog 184 #[.string ⟨#[39, 10]⟩, .int .i32 (r : Int)] w fun e w' => e = .returned (.int .i64 (-1)) ∧ Kp [] w w' := by
  have g1 : ((r : Int) == 65533) = false := by simp; omega
  have g2 : ¬ ((r : Int) = 65533) := by omega
  have g3 : ¬ ((r : Int) < 128) := by omega
  have he := enc_two r h1 h3
  have hb : (UInt8.ofNat (128 + r % 64)).toNat = 128 + r % 64 := by simp; omega
  generalize UInt8.ofNat (128 + r % 64) = b2 at *
  generalize UInt8.ofNat (192 + r / 64) = b1 at *
  have hb2 : 128 ≤ b2.toNat := by omega
  have gn : ((10 : Int) != (b2.toNat : Int)) = true := by simp; omega
  clear hb
  go_enter Tryz.func184, Tryz.ntmps184
  go_wp2_with fail
  refine (validRune_any _ _).mono ?_
  rintro e w1 ⟨hb, rfl⟩
  obtain ⟨b, rfl⟩ := unhide hb
  clear hb
  cases b with
  | false =>
    go_wp2
    go_ret
    exact ⟨rfl, Kp.refl _ _⟩
  | true =>
    go_wp2
    go_step3
    go_wp2
    clear he
    go_loopw [9] (fun i wr => wr = w1 ∧ i = .int .i64 1) (fun _ _ => 0)
    case atStart => exact ⟨rfl, rfl⟩
    case round =>
      obtain ⟨rfl, rfl⟩ := hrel
      have IB := fun (s : ByteArray) (c : Int) W (h : s.data.toList = []) => ib_nil s c W h
      go_wp2
      go_step3
      go_wp2
      go_quiet (fail)
      have e1 : (⟨#[39, 10]⟩ : ByteArray)[1].toNat = 10 := rfl
      have e2 : ((⟨#[b1, b2]⟩ : ByteArray)[1]'(by show 1 < 2; omega)).toNat = b2.toNat := rfl
      have e3 : (((10 : Nat) : Int) != (b2.toNat : Int)) = true := gn
      have hk := Kp.drewQ wr nq
      simp only [e1, e2, e3]
      generalize wr.drewN nq = W2 at *
      have w2 : IntKind.i64.wrap 2 = 2 := by decide
      go_wp2
      go_quiet (first | (go_at_call 195; exact Calls.quiet_of_same (IB _ _ _ (by decide))))
      go_wp2
      rw [Exit.noGoto_ret]
      go_wp2
      rw [Exit.noGoto_ret]
      go_ret
      exact ⟨rfl, hk.trans (Kp.drewQ _ _) (by simp)⟩
/-- A rune that is no byte of ASCII is none of the two. -/
theorem indexRune_hi (r : Nat) (h1 : 128 ≤ r) (w : World) : Calls Tryz.prog 184 #[.string ⟨#[39, 10]⟩, .int .i32 (r : Int)] w fun e w' => e = .returned (.int .i64 (-1)) ∧ Kp [] w w' := by
  by_cases hE : r = 65533
  · subst hE
    exact indexRune_err w
  · rcases Nat.lt_or_ge r 2048 with h | h
    · exact indexRune_two r h1 h w
    · exact indexRune_more r h hE w
end Go.Proofs.YthipclehhcfahabGreatDoor
namespace Go.Proofs.YthipclehhcfahabGreatDoor
open Go.RowKit

/-- What is decoded at a byte that is none of ASCII. -/
theorem dec_hi (s : ByteArray) (pos : Nat) (h : pos < s.size) (ha : 128 ≤ s[pos].toNat) : 128 ≤ (Utf8.decode s pos).1 ∧ (Utf8.decode s pos).1 ≤ 2147483647 ∧ 1 ≤ (Utf8.decode s pos).2 ∧ ∀ j, pos ≤ j → j < pos + (Utf8.decode s pos).2 → ∃ b, s.data.toList[j]? = some b ∧ 128 ≤ b.toNat := by
  obtain ⟨d1, d2⟩ := decode_high s pos h ha
  refine ⟨d1, decode_le s pos, d2, ?_⟩
  have hl : s.data.toList.length = s.size := rfl
  have at' : ∀ j, j < s.size → s.data.toList[j]? = some (s.data.toList.getD j 0) := fun j hj => by
    rw [List.getD_eq_getElem?_getD, List.getElem?_eq_getElem (by omega)]
    rfl
  have e0 : s.data.toList.getD pos 0 = s[pos] := by
    rw [List.getD_eq_getElem?_getD, List.getElem?_eq_getElem (by omega)]
    rfl
  have hN := Lib.decode_N s pos
  rcases Lib.decodeN_shape (s.data.toList.length - pos) (s.data.toList.getD pos 0).toNat (s.data.toList.getD (pos + 1) 0).toNat (s.data.toList.getD (pos + 2) 0).toNat (s.data.toList.getD (pos + 3) 0).toNat with ⟨c, e⟩ | ⟨c1, c2, c3, cv, e⟩ | ⟨c1, c2, c3, c4, cv, cs, e⟩ | ⟨c1, c2, c3, c4, c5, cv, cw, e⟩ | e
  · rw [e0] at c; omega
  · rw [hN, e]
    intro j h1 h2
    rcases (show j = pos ∨ j = pos + 1 by simp at h2; omega) with rfl | rfl
    · exact ⟨_, at' _ h, by rw [e0]; exact ha⟩
    · exact ⟨_, at' _ (by omega), by omega⟩
  · rw [hN, e]
    intro j h1 h2
    rcases (show j = pos ∨ j = pos + 1 ∨ j = pos + 2 by simp at h2; omega) with rfl | rfl | rfl
    · exact ⟨_, at' _ h, by rw [e0]; exact ha⟩
    · exact ⟨_, at' _ (by omega), by omega⟩
    · exact ⟨_, at' _ (by omega), by omega⟩
  · rw [hN, e]
    intro j h1 h2
    rcases (show j = pos ∨ j = pos + 1 ∨ j = pos + 2 ∨ j = pos + 3 by simp at h2; omega) with rfl | rfl | rfl | rfl
    · exact ⟨_, at' _ h, by rw [e0]; exact ha⟩
    · exact ⟨_, at' _ (by omega), by omega⟩
    · exact ⟨_, at' _ (by omega), by omega⟩
    · exact ⟨_, at' _ (by omega), by omega⟩
  · rw [hN, e]
    intro j h1 h2
    obtain rfl : j = pos := by simp at h2; omega
    exact ⟨_, at' _ h, by rw [e0]; exact ha⟩
theorem spn_far {p : UInt8 → Bool} {l : List UInt8} {i : Nat} (k : Nat) (h : i ≤ spn p l) (hk : ∀ j, i ≤ j → j < i + k → ∃ b, l[j]? = some b ∧ p b = true) : i + k ≤ spn p l := by
  induction k with
  | zero => exact h
  | succ k ih =>
    have h1 := ih (fun j a b => hk j a (by omega))
    obtain ⟨b, hb, hp⟩ := hk (i + k) (by omega) (by omega)
    obtain ⟨hlt, rfl⟩ := List.getElem?_eq_some_iff.1 hb
    exact spn_more h1 hlt hp
theorem in_hi {b : UInt8} (h : 128 ≤ b.toNat) : isIn b = true := by unfold isIn; simp; omega
theorem in_has (b : UInt8) : isIn b = !([39, 10] : List UInt8).contains b := by
  unfold isIn
  have e1 : decide (b.toNat = 39) = (b == 39) := by
    rw [Bool.eq_iff_iff]; simp [← UInt8.toNat_inj]
  have e2 : decide (b.toNat = 10) = (b == 10) := by
    rw [Bool.eq_iff_iff]; simp [← UInt8.toNat_inj]
  rw [e1, e2, List.contains_cons, List.contains_cons, List.contains_nil, Bool.or_false]
theorem idx_in (l : List UInt8) : (0 ≤ Lib.indexAny l [39, 10]) ↔ spn isIn l < l.length := by
  induction l with
  | nil => simp [Lib.indexAny, spn]
  | cons b r ih =>
    have hge := Lib.indexAny_ge [39, 10] r
    rw [Lib.indexAny, spn, in_has]
    cases hc : ([39, 10] : List UInt8).contains b with
    | true => simp
    | false =>
      rw [if_neg Bool.false_ne_true, show (if (!false) = true then spn isIn r + 1 else 0) = spn isIn r + 1 from rfl]
      by_cases hm : Lib.indexAny r [39, 10] = -1
      · rw [if_pos (beq_iff_eq.2 hm)]
        rw [hm] at ih
        have : ¬ spn isIn r < r.length := fun h => by have := ih.2 h; omega
        simp only [List.length_cons]
        constructor
        · intro h; omega
        · intro h; omega
      · rw [if_neg (fun e => hm (beq_iff_eq.1 e))]
        have : 0 ≤ Lib.indexAny r [39, 10] := by omega
        have h2 := ih.1 this
        simp only [List.length_cons]
        constructor
        · intro _; omega
        · intro _; omega
set_option maxHeartbeats 1000000 in
set_option maxRecDepth 100000 in
theorem indexAny_short (s : ByteArray) (h8 : s.size ≤ 8) (w : World) : Calls Tryz.prog 171 #[.string s, .string ⟨#[39, 10]⟩] w fun e w' => (∃ i : Int, e = .returned (.int .i64 i) ∧ (0 ≤ i ↔ spn isIn s.data.toList < s.size)) ∧ Kp [] w w' := by
  have hus := fun W => Tryz.strings_shouldUseASCIISet (s.size : Int) W
  have h8z : decide ((8 : Int) < (s.size : Int)) = false := decide_eq_false (by omega)
  rw [h8z] at hus
  have HUS := hide hus
  clear hus h8z
  go_enter Tryz.func171, Tryz.ntmps171
  go_wp2_with fail
  refine (unhide HUS _).mono ?_
  rintro e w1 ⟨rfl, rfl⟩
  go_wp2
  go_loopg [9, 10] s.size (fun g _ _ wx => ∃ i : Nat, i + g = s.size ∧ wx.heap[w1.heap.size]? = some (.stringIter s i) ∧ Hid (Below w1.heap.size w1 wx) ∧ Hid (i ≤ spn isIn s.data.toList))
  case atStart => exact ⟨0, by omega, World.iter_heap _ _ _, hide ((Below.refl _ _).alloc (Nat.le_refl _) _), hide (Nat.zero_le _)⟩
  case round =>
    obtain ⟨i, hig, hit, HB, HN⟩ := hrel
    cases gk with
    | zero =>
      obtain rfl : i = s.size := by omega
      have hnx := fun ty => Lib.run_next_end_at (P := Tryz.prog) wr w1.heap.size s s.size ty hit (by omega)
      clear hit
      go_wp2
      go_ret
      exact ⟨⟨_, rfl, by constructor <;> intro h <;> (have := unhide HN; omega)⟩, Kp.ofBelow (unhide HB)⟩
    | succ g =>
      have hi : i < s.size := by omega
      by_cases ha : s[i].toNat < 128
      · have hnx := fun ty => Lib.run_next_ascii_at (P := Tryz.prog) wr w1.heap.size s i ty hit hi ha
        have hiA := Lib.iterAt_heap wr w1.heap.size s i (i + 1) hit
        have HB2 : Hid (Below w1.heap.size w1 (wr.iterAt w1.heap.size s (i + 1))) := hide (Lib.below_iterAt (unhide HB) (Nat.le_refl _) s (i + 1))
        have IR := fun W => Tryz.strings_IndexRune_ascii ⟨#[39, 10]⟩ (s[i].toNat : Int) W (by omega) (by omega)
        rw [show ((s[i].toNat : Int)).toNat.toUInt8 = s[i] by simp] at IR
        have hcon := Lib.contains_iff_indexByte [39, 10] s[i]
        have IR2 : Hid (∀ W, Calls Tryz.prog 184 #[.string ⟨#[39, 10]⟩, .int .i32 (s[i].toNat : Int)] W fun e w' => e = .returned (.int .i64 (Lib.indexByte [39, 10] s[i])) ∧ w' = W) := hide IR
        clear IR hit
        have hmo : isIn s[i] = true → i + 1 ≤ spn isIn s.data.toList := fun hin => spn_more (unhide HN) (by simpa using hi) hin
        have hst : isIn s[i] = false → i = spn isIn s.data.toList := fun hin => spn_stop (unhide HN) (fun _ => hin)
        rw [in_has, hcon] at hmo hst
        generalize Lib.indexByte [39, 10] s[i] = q at *
        clear hcon
        generalize wr.iterAt w1.heap.size s (i + 1) = W2 at *
        by_cases hq : (0 : Int) ≤ q
        · have HS : Hid (i = spn isIn s.data.toList) := hide (hst (by rw [decide_eq_true hq]; rfl))
          clear hmo hst
          go_wp2_with fail
          refine (unhide IR2 _).mono ?_
          rintro e w3 ⟨rfl, rfl⟩
          go_wp2
          go_ret
          exact ⟨⟨_, rfl, by have := unhide HS; constructor <;> intro h <;> omega⟩, Kp.ofBelow (unhide HB2)⟩
        · have HN2 : Hid (i + 1 ≤ spn isIn s.data.toList) := hide (hmo (by rw [decide_eq_false hq]; rfl))
          clear hmo hst
          go_wp2_with fail
          refine (unhide IR2 _).mono ?_
          rintro e w3 ⟨rfl, rfl⟩
          go_wp2
          go_roundg g
          case measure => omega
          case rel => exact ⟨i + 1, by omega, hiA, HB2, HN2⟩
      · obtain ⟨d1, d2, d3, d4⟩ := dec_hi s i hi (by omega)
        have hnx := fun ty => Lib.run_next_any_at (P := Tryz.prog) wr w1.heap.size s i ty hit hi
        have HN2 : Hid (i + (Utf8.decode s i).2 ≤ spn isIn s.data.toList) := hide (spn_far _ (unhide HN) (fun j a b => by
          obtain ⟨x, hx, hx2⟩ := d4 j a b
          exact ⟨x, hx, in_hi hx2⟩))
        have hle : spn isIn s.data.toList ≤ s.size := spn_le isIn s.data.toList
        have hk2 : i + (Utf8.decode s i).2 ≤ s.size := Nat.le_trans (unhide HN2) hle
        have hiA := Lib.iterAt_heap wr w1.heap.size s i (i + (Utf8.decode s i).2) hit
        have HB2 : Hid (Below w1.heap.size w1 (wr.iterAt w1.heap.size s (i + (Utf8.decode s i).2))) := hide (Lib.below_iterAt (unhide HB) (Nat.le_refl _) s _)
        generalize (Utf8.decode s i).2 = k at *
        generalize (Utf8.decode s i).1 = c at *
        have IR2 := hide (fun W => indexRune_hi c d1 W)
        clear d4 hit hle ha
        generalize wr.iterAt w1.heap.size s (i + k) = W2 at *
        go_wp2_with fail
        refine (unhide IR2 _).mono ?_
        rintro e w3 ⟨rfl, hk3⟩
        have hiB : w3.heap[w1.heap.size]? = some (.stringIter s (i + k)) := by rw [hk3.block _ (Array.getElem?_eq_some_iff.1 hiA).1 (by simp)]; exact hiA
        have HB3 : Hid (Below w1.heap.size w1 w3) := hide ((unhide HB2).trans (hk3.below (unhide HB2).size (by simp)))
        clear hk3 hiA
        go_wp2
        go_roundg (s.size - (i + k))
        case measure => omega
        case rel => exact ⟨i + k, by omega, hiB, HB3, HN2⟩
theorem set256 : ∀ w, (zeroValue 224).run Tryz.prog w = .ok (.agg (Array.replicate 256 (.bool false))) w := fun w => by
  have e : (Tryz.prog.info? 224).map (fun i => (i.zero, i.size)) = some (some (.agg (Array.replicate 256 (.bool false))), 256) := by kernel_rfl
  cases h : Tryz.prog.info? 224 with
  | none => rw [h] at e; cases e
  | some i =>
    rw [h] at e
    simp at e
    simp [zeroValue, typeInfo, h, e.1]
theorem quote_ascii : ∀ (j : Nat) b, (⟨#[39, 10]⟩ : ByteArray).data.toList[j]? = some b → b.toNat < 128 := fun j b h => by
  have hm := List.mem_of_getElem? h
  simp at hm
  rcases hm with rfl | rfl <;> decide
set_option maxRecDepth 100000 in
/-- Is one of the two among bytes? -/
theorem containsAny_any (s : ByteArray) (hs : s.size ≤ 256) (w : World) : Calls Tryz.prog 156 #[.string s, .string ⟨#[39, 10]⟩] w fun e w' => e = .returned (.bool (!decide (spn isIn s.data.toList = s.size))) ∧ Kp [] w w' := by
  have hle : spn isIn s.data.toList ≤ s.size := spn_le isIn s.data.toList
  have IA : Calls Tryz.prog 171 #[.string s, .string ⟨#[39, 10]⟩] w fun e w' => (∃ i : Int, e = .returned (.int .i64 i) ∧ (0 ≤ i ↔ spn isIn s.data.toList < s.size)) ∧ Kp [] w w' := by
    rcases Nat.lt_or_ge 8 s.size with h8 | h8
    · refine (Tryz.strings_IndexAny_long set256 s ⟨#[39, 10]⟩ w (by decide) h8 (by omega) (by decide) quote_ascii).mono ?_
      rintro e w' ⟨rfl, rfl⟩
      exact ⟨⟨_, rfl, idx_in _⟩, (Kp.alloc _ _).trans (Kp.alloc _ _) (by simp)⟩
    · exact indexAny_short s h8 w
  have HI := hide IA
  clear IA
  go_enter Tryz.func156, Tryz.ntmps156
  go_wp2_with fail
  refine (unhide HI).mono ?_
  rintro e w1 ⟨⟨i, rfl, hi⟩, hk⟩
  have HK := hide hk
  have HB : Hid (decide (0 ≤ i) = !decide (spn isIn s.data.toList = s.size)) := hide (by
    by_cases h : 0 ≤ i
    · have := hi.1 h
      rw [decide_eq_true h, decide_eq_false (by omega)]
      rfl
    · have : ¬ spn isIn s.data.toList < s.size := fun h2 => h (hi.2 h2)
      rw [decide_eq_false h, decide_eq_true (by omega)]
      rfl)
  clear hk hi HI
  go_wp2
  go_ret
  exact ⟨ret_bool (unhide HB), unhide HK⟩
theorem isText_any (s : ByteArray) (w : World) : Calls Tryz.prog 140 #[.string s] w fun e w' => e = .returned (.bool (isTx s)) ∧ Kp [] w w' := by
  unfold isTx
  by_cases h : s.size ≤ 256
  · rw [decide_eq_true h, Bool.true_and]
    have HC := hide (containsAny_any s h w)
    generalize decide (spn isIn s.data.toList = s.size) = b at *
    go_enter Tryz.func140, Tryz.ntmps140
    go_wp2_with fail
    refine (unhide HC).mono ?_
    rintro e w1 ⟨rfl, hk⟩
    have HK := hide hk
    clear hk
    go_wp2
    go_ret
    exact ⟨ret_bool (by simp), unhide HK⟩
  · rw [decide_eq_false h, Bool.false_and]
    go_enter Tryz.func140, Tryz.ntmps140
    go_wp2
    go_ret
    exact ⟨rfl, Kp.refl _ _⟩
end Go.Proofs.YthipclehhcfahabGreatDoor
