/-
  What the row's list of package variables gives: they hold what their own texts lay.
-/
import Derived.Test.YtglfjgnbfligoaaDoorRows
import Derived.Test.YtglfjgnbfligoaaDoorTkA
import Derived.Stop.LaidErr
import Derived.Lib.LaidTab
namespace Go.Proofs.YtglfjgnbfligoaaDoor
open Go.RowKit

theorem gSets : Tryd.prog.globalNamed "weaver/token.sets" = some 0 := by kernel_rfl
theorem gSetsT : (Tryd.prog.globals[0]?).map (·.type) = some 67 := by kernel_rfl
theorem gRng : Tryd.prog.globalNamed "strconv.ErrRange" = some 2 := by kernel_rfl
theorem gRngT : (Tryd.prog.globals[2]?).map (·.type) = some 56 := by kernel_rfl
theorem gPowT : (Tryd.prog.globals[3]?).map (·.type) = some 92 := by kernel_rfl
theorem gDb : Tryd.prog.globalNamed "math/bits.deBruijn64tab" = some 5 := by kernel_rfl
theorem gDbT : (Tryd.prog.globals[5]?).map (·.type) = some 102 := by kernel_rfl
theorem cellsU8 : Tryd.prog.cellsOf 5 = 1 := by kernel_rfl
theorem cellsU64 : Tryd.prog.cellsOf 37 = 1 := by kernel_rfl
theorem cells128 : Tryd.prog.cellsOf 67 = 128 := by kernel_rfl
theorem cells20 : Tryd.prog.cellsOf 92 = 20 := by kernel_rfl
theorem cells64 : Tryd.prog.cellsOf 102 = 64 := by kernel_rfl
theorem cellsErr : Tryd.prog.cellsOf 99 = 1 := by kernel_rfl
theorem cellsStr : Tryd.prog.cellsOf 9 = 1 := by kernel_rfl
theorem errStar : "*" ++ "errors.errorString" = "*errors.errorString" := by decide
theorem errRow (u : TypeId) (h : Tryd.prog.typeName? 3 u = some "*errors.errorString") : u = 97 :=
  typeName_ptr_named (nm := "errors.errorString") (by rw [errStar]; kernel_rfl) (by kernel_rfl) (by decide) u (by rw [errStar]; exact h)
/-- The row's list. -/
def laidL : List (String × DataW Unit) := [("math/bits.deBruijn32tab", Rows.laid_math_bits_deBruijn32tab), ("math/bits.deBruijn64tab", Rows.laid_math_bits_deBruijn64tab), ("internal/strconv.uint64pow10", Rows.laid_internal_strconv_uint64pow10), ("strconv.ErrRange", Rows.laid_strconv_ErrRange), ("strconv.ErrSyntax", Rows.laid_strconv_ErrSyntax), ("weaver/token.sets", Rows.laid_weaver_token_sets)]
def setsI : List Int := [0, 0, 0, 0, 0, 0, 0, 0, 0, 0, 3, 0, 0, 0, 0, 0, 0, 0, 0, 0, 0, 0, 0, 0, 0, 0, 0, 0, 0, 0, 0, 0, 1, 128, 0, 0, 0, 0, 0, 16, 32, 32, 32, 32, 0, 32, 32, 0, 8, 8, 8, 8, 8, 8, 8, 8, 8, 8, 32, 32, 64, 64, 0, 0, 0, 0, 0, 0, 0, 0, 0, 0, 0, 0, 0, 0, 0, 0, 0, 0, 0, 0, 0, 0, 0, 0, 0, 0, 0, 0, 0, 0, 0, 0, 0, 0, 0, 4, 4, 4, 4, 4, 4, 4, 4, 4, 4, 4, 4, 4, 4, 4, 4, 4, 4, 4, 4, 4, 4, 4, 4, 4, 4, 0, 0, 0, 0, 0]
def dbI : List Int := [0, 1, 56, 2, 57, 49, 28, 3, 61, 58, 42, 50, 38, 29, 17, 4, 62, 47, 59, 36, 45, 43, 51, 22, 53, 39, 33, 30, 24, 18, 12, 5, 63, 55, 48, 27, 60, 41, 37, 16, 46, 35, 44, 21, 52, 32, 23, 11, 54, 26, 40, 15, 34, 20, 31, 10, 25, 14, 19, 9, 13, 8, 7, 6]
theorem setsI_get : ∀ i : Fin 128, setsI.getD i.val 0 = ((cls i.val : Nat) : Int) := by decide +kernel
theorem tbW {W : World} (h0 : laidMetH Tryd.prog laidL W) : TbW W := by
  have h : laidMet Tryd.prog laidL W := h0
  have t1 := h.tail
  have t2 := t1.tail
  have t3 := t2.tail
  have t5 := t3.tail.tail
  have hdb : Lib.TabIs Tryd.prog W "math/bits.deBruijn64tab" .u8 dbI := Lib.tabIs_of_head gDb gDbT Tryd.underlying102 Tryd.underlying5 cellsU8 cells64 t1
  have hpow : Lib.TabIs Tryd.prog W "internal/strconv.uint64pow10" .u64 Lib.pow10Tab := Lib.tabIs_of_head gPow gPowT Tryd.underlying92 Tryd.underlying37 cellsU64 cells20 t2
  have hset : Lib.TabIs Tryd.prog W "weaver/token.sets" .u8 setsI := Lib.tabIs_of_head gSets gSetsT Tryd.underlying67 Tryd.underlying5 cellsU8 cells128 t5
  obtain ⟨a, s, hv, _⟩ := laid_sentinel t3 gRng gRngT Tryd.underlying56 errRow Tryd.underlying97 Tryd.underlying99 rfl rfl Tryd.underlying9 cellsErr cellsStr
  refine ⟨?_, fun i hi => ?_, hpow, ⟨_, _, by simpa using World.var?_cell gRng hv 0⟩⟩
  · have := World.block_lt_of_cell? _ _ (hdb.cell gDb 0 (by decide))
    exact this
  · rw [hset.cell gSets i (by simpa [setsI] using hi), setsI_get ⟨i, hi⟩]
/-! The settled world: the variables hold what their initialisers lay. -/
def cellsPut (cs : Array Value) : Obj → Obj
  | .cells _ t f => .cells cs t f
  | o => o
def db32V : Array Value := #[.int .u8 0, .int .u8 1, .int .u8 28, .int .u8 2, .int .u8 29, .int .u8 14, .int .u8 24, .int .u8 3, .int .u8 30, .int .u8 22, .int .u8 20, .int .u8 15, .int .u8 25, .int .u8 17, .int .u8 4, .int .u8 8, .int .u8 31, .int .u8 27, .int .u8 13, .int .u8 23, .int .u8 21, .int .u8 19, .int .u8 16, .int .u8 7, .int .u8 26, .int .u8 12, .int .u8 18, .int .u8 6, .int .u8 11, .int .u8 5, .int .u8 10, .int .u8 9]
def db64V : Array Value := (dbI.map fun z => Value.int .u8 z).toArray
def setsV : Array Value := (setsI.map fun z => Value.int .u8 z).toArray
def powV : Array Value := (Lib.pow10Tab.map fun z => Value.int .u64 z).toArray
def errBlks : Array Obj := #[.cells #[.string ⟨#[118, 97, 108, 117, 101, 32, 111, 117, 116, 32, 111, 102, 32, 114, 97, 110, 103, 101]⟩] 99, .cells #[.string ⟨#[105, 110, 118, 97, 108, 105, 100, 32, 115, 121, 110, 116, 97, 120]⟩] 99]
def putL (h : Array Obj) : Array Obj :=
  (((((h.modify 0 (cellsPut setsV)).modify 1 (cellsPut #[.iface 97 (.pointer (some ⟨12, 0, none⟩))])).modify 2 (cellsPut #[.iface 97 (.pointer (some ⟨11, 0, none⟩))])).modify 3 (cellsPut powV)).modify 4 (cellsPut db32V)).modify 5 (cellsPut db64V)
end Go.Proofs.YtglfjgnbfligoaaDoor
