/-
  A table of strings that a row lists: the variable's cells are these strings. Of no program.
  What the row's list of package variables gives, with the words of fields: they hold what their own texts lay.
  Events as cells, plainly.
  Events as cells: of no layer.
  Events that lie somewhere.
  What an expression's value is, plainly: numbers, texts, truths; of an event, and of stages' last events.
  Names that lie somewhere; whether one is among them, and its first place.
  Which texts may be: strings.ContainsAny of a quote and a line feed, at any bytes; isText, isFree, isStage.
  A rune that is no byte of ASCII is none of a quote and a line feed: strings.IndexRune.
-/
import Derived.Lib.LaidTab
import Derived.Test.YtogklmljllocbabGreatDoorRows
import Derived.Test.YtogklmljllocbabGreatDoorF07
import Derived.Stop.LaidErr
import Derived.Test.YtogklmljllocbabGreatDoorF01
import Derived.Test.YtogklmljllocbabGreatDoorF03
import Derived.Test.YtogklmljllocbabGreatDoorF06
import Derived.Lib.SlicesS
import Derived.Laws.RangeAny
import Derived.Lib.MapLaws
import Derived.Deep.LoopGhost
import Derived.Lib.IndexAny
import Derived.WalkMore
import Derived.Deep.RegionHeld3
namespace Go.Proofs.YtogklmljllocbabGreatDoor
open Go

def strData {H : Type} (zs : List (List UInt8)) : DataW H := .agg (zs.map fun z => .lit (.string z))
theorem cells_of_strs {H : Type} {enc : TypeId × Value → H} {P : Program} {w : World} {base : Nat} {sp : Nat → Bool} {held : Bool} {fuel : Nat} {t e : TypeId} {n : Nat} {cs : List Value} {zs : List (List UInt8)} {p : List MemPlace}
    (ht : P.underlying t = some (.array n e)) (he : P.underlying e = some .string) (hce : P.cellsOf e = 1) (hct : P.cellsOf t = n)
    (h : DataW.trod enc P w base sp held fuel t cs = some (strData zs, p)) : cs = zs.map fun z => Value.string ⟨z.toArray⟩ := by
  cases fuel with
  | zero => simp [DataW.trod] at h
  | succ fuel =>
    simp only [DataW.trod, ht, hce, hct, Nat.mul_one] at h
    split at h
    · rename_i hl
      obtain ⟨xs, hm, hx⟩ := Option.map_eq_some_iff.1 h
      have hxs : xs.map (·.1) = zs.map fun z => (DataW.lit (.string z) : DataW H) := by
        have := congrArg Prod.fst hx
        simpa [strData] using this
      have hxl : xs.length = n := by simpa using Lib.mapM_length hm
      have hzl : zs.length = n := by
        have := congrArg List.length hxs
        simp at this
        omega
      apply List.ext_getElem?
      intro i
      by_cases hi : i < n
      · obtain ⟨b, hb, hf⟩ := Lib.mapM_at hm i i (by simp [hi])
        obtain ⟨s, hc, rfl, _⟩ := DataW.trod_string he hf
        have h1 : cs[i]? = some (.string s) := by
          have := congrArg (·[0]?) hc
          simpa [List.getElem?_take, List.getElem?_drop] using this
        have h2 : (xs.map (·.1))[i]? = some (DataW.lit (.string s.data.toList) : DataW H) := by simp [hb]
        rw [hxs] at h2
        simp only [List.getElem?_map, Option.map_eq_some_iff, DataW.lit.injEq, Lit.string.injEq] at h2
        obtain ⟨z', hz', rfl⟩ := h2
        simp [h1, hz']
      · rw [List.getElem?_eq_none (by omega), List.getElem?_eq_none (by simp; omega)]
    · cases h
/-- The table of strings stands first on the list. -/
theorem strs_of_head {P : Program} {W : World} {name : String} {zs : List (List UInt8)} {rest : List (String × DataW Unit)} {g : Nat} {t e : TypeId} {n : Nat}
    (hg : P.globalNamed name = some g) (hty : (P.globals[g]?).map (·.type) = some t) (ht : P.underlying t = some (.array n e)) (he : P.underlying e = some .string) (hce : P.cellsOf e = 1) (hct : P.cellsOf t = n)
    (h : laidMet P ((name, strData zs) :: rest) W) (i : Nat) : W.cell? ⟨g, i, none⟩ = (zs.map fun z => Value.string ⟨z.toArray⟩)[i]? := by
  obtain ⟨ps, ⟨g', t', cs, fuel, p, q, hg', ht', hvar, hd, _, _⟩, _⟩ := h
  obtain rfl := Option.some.inj (hg.symm.trans hg')
  obtain rfl := Option.some.inj (hty.symm.trans ht')
  rw [World.var?_cell hg hvar i, ← cells_of_strs ht he hce hct hd]
  simp
end Go.Proofs.YtogklmljllocbabGreatDoor
namespace Go.Proofs.YtogklmljllocbabGreatDoor
open Go.RowKit

theorem gSets : Tryz.prog.globalNamed "weaver/token.sets" = some 1 := by kernel_rfl
theorem gSetsT : (Tryz.prog.globals[1]?).map (·.type) = some 261 := by kernel_rfl
theorem gRng : Tryz.prog.globalNamed "strconv.ErrRange" = some 5 := by kernel_rfl
theorem gRngT : (Tryz.prog.globals[5]?).map (·.type) = some 218 := by kernel_rfl
theorem gPowT : (Tryz.prog.globals[6]?).map (·.type) = some 329 := by kernel_rfl
theorem gDb : Tryz.prog.globalNamed "math/bits.deBruijn64tab" = some 8 := by kernel_rfl
theorem gDbT : (Tryz.prog.globals[8]?).map (·.type) = some 349 := by kernel_rfl
theorem gFds : Tryz.prog.globalNamed "weaver/expr.fields" = some 2 := by kernel_rfl
theorem gFdsT : (Tryz.prog.globals[2]?).map (·.type) = some 275 := by kernel_rfl
theorem cells6 : Tryz.prog.cellsOf 275 = 6 := by kernel_rfl
theorem cellsU8 : Tryz.prog.cellsOf 5 = 1 := by kernel_rfl
theorem cellsU64 : Tryz.prog.cellsOf 186 = 1 := by kernel_rfl
theorem cells128 : Tryz.prog.cellsOf 261 = 128 := by kernel_rfl
theorem cells20 : Tryz.prog.cellsOf 329 = 20 := by kernel_rfl
theorem cells64 : Tryz.prog.cellsOf 349 = 64 := by kernel_rfl
theorem cellsErr : Tryz.prog.cellsOf 339 = 1 := by kernel_rfl
theorem cellsStr : Tryz.prog.cellsOf 9 = 1 := by kernel_rfl
theorem errStar : "*" ++ "errors.errorString" = "*errors.errorString" := by decide
theorem errRow (u : TypeId) (h : Tryz.prog.typeName? 3 u = some "*errors.errorString") : u = 337 :=
  typeName_ptr_named (nm := "errors.errorString") (by rw [errStar]; kernel_rfl) (by kernel_rfl) (by decide) u (by rw [errStar]; exact h)
/-- The row's list. -/
def laidL : List (String × DataW Unit) := [("math/bits.deBruijn32tab", Rows.laid_math_bits_deBruijn32tab), ("math/bits.deBruijn64tab", Rows.laid_math_bits_deBruijn64tab), ("internal/strconv.uint64pow10", Rows.laid_internal_strconv_uint64pow10), ("strconv.ErrRange", Rows.laid_strconv_ErrRange), ("strconv.ErrSyntax", Rows.laid_strconv_ErrSyntax), ("weaver/token.sets", Rows.laid_weaver_token_sets), ("weaver/expr.fields", Rows.laid_weaver_expr_fields)]
def setsI : List Int := [0, 0, 0, 0, 0, 0, 0, 0, 0, 0, 3, 0, 0, 0, 0, 0, 0, 0, 0, 0, 0, 0, 0, 0, 0, 0, 0, 0, 0, 0, 0, 0, 1, 128, 0, 0, 0, 0, 0, 16, 32, 32, 32, 32, 0, 32, 32, 0, 8, 8, 8, 8, 8, 8, 8, 8, 8, 8, 32, 32, 64, 64, 0, 0, 0, 0, 0, 0, 0, 0, 0, 0, 0, 0, 0, 0, 0, 0, 0, 0, 0, 0, 0, 0, 0, 0, 0, 0, 0, 0, 0, 0, 0, 0, 0, 0, 0, 4, 4, 4, 4, 4, 4, 4, 4, 4, 4, 4, 4, 4, 4, 4, 4, 4, 4, 4, 4, 4, 4, 4, 4, 4, 4, 0, 0, 0, 0, 0]
def dbI : List Int := [0, 1, 56, 2, 57, 49, 28, 3, 61, 58, 42, 50, 38, 29, 17, 4, 62, 47, 59, 36, 45, 43, 51, 22, 53, 39, 33, 30, 24, 18, 12, 5, 63, 55, 48, 27, 60, 41, 37, 16, 46, 35, 44, 21, 52, 32, 23, 11, 54, 26, 40, 15, 34, 20, 31, 10, 25, 14, 19, 9, 13, 8, 7, 6]
theorem setsI_get : ∀ i : Fin 128, setsI.getD i.val 0 = ((cls i.val : Nat) : Int) := by decide +kernel
theorem tbE {W : World} (h0 : laidMetH Tryz.prog laidL W) : TbE W := by
  have h : laidMet Tryz.prog laidL W := h0
  have t1 := h.tail
  have hdb : Lib.TabIs Tryz.prog W "math/bits.deBruijn64tab" .u8 dbI := Lib.tabIs_of_head gDb gDbT Tryz.underlying349 Tryz.underlying5 cellsU8 cells64 t1
  have hlow : 9 ≤ W.heap.size := World.block_lt_of_cell? _ _ (hdb.cell gDb 0 (by decide))
  have t2 := t1.tail
  have t3 := t2.tail
  have t5 := t3.tail.tail
  have t6 := t5.tail
  have hpow : Lib.TabIs Tryz.prog W "internal/strconv.uint64pow10" .u64 Lib.pow10Tab := Lib.tabIs_of_head gPow gPowT Tryz.underlying329 Tryz.underlying186 cellsU64 cells20 t2
  have hset : Lib.TabIs Tryz.prog W "weaver/token.sets" .u8 setsI := Lib.tabIs_of_head gSets gSetsT Tryz.underlying261 Tryz.underlying5 cellsU8 cells128 t5
  obtain ⟨a, s, hv, _⟩ := laid_sentinel t3 gRng gRngT Tryz.underlying218 errRow Tryz.underlying337 Tryz.underlying339 rfl rfl Tryz.underlying9 cellsErr cellsStr
  have fd := fun i => strs_of_head (zs := fldW) gFds gFdsT Tryz.underlying275 Tryz.underlying9 cellsStr cells6 t6 i
  refine ⟨⟨hlow, fun i hi => ?_, hpow, ⟨_, _, by simpa using World.var?_cell gRng hv 0⟩⟩, fd 0, fd 1, fd 2, fd 3, fd 4, fd 5⟩
  rw [hset.cell gSets i (by simpa [setsI] using hi), setsI_get ⟨i, hi⟩]
/-! The settled world: the variables hold what their initialisers lay. -/
def cellsPut (cs : Array Value) : Obj → Obj
  | .cells _ t f => .cells cs t f
  | o => o
def db32V : Array Value := #[.int .u8 0, .int .u8 1, .int .u8 28, .int .u8 2, .int .u8 29, .int .u8 14, .int .u8 24, .int .u8 3, .int .u8 30, .int .u8 22, .int .u8 20, .int .u8 15, .int .u8 25, .int .u8 17, .int .u8 4, .int .u8 8, .int .u8 31, .int .u8 27, .int .u8 13, .int .u8 23, .int .u8 21, .int .u8 19, .int .u8 16, .int .u8 7, .int .u8 26, .int .u8 12, .int .u8 18, .int .u8 6, .int .u8 11, .int .u8 5, .int .u8 10, .int .u8 9]
def db64V : Array Value := (dbI.map fun z => Value.int .u8 z).toArray
def setsV : Array Value := (setsI.map fun z => Value.int .u8 z).toArray
def powV : Array Value := (Lib.pow10Tab.map fun z => Value.int .u64 z).toArray
def fdsV : Array Value := (fldW.map fun z => Value.string ⟨z.toArray⟩).toArray
def errBlks : Array Obj := #[.cells #[.string ⟨#[118, 97, 108, 117, 101, 32, 111, 117, 116, 32, 111, 102, 32, 114, 97, 110, 103, 101]⟩] 339, .cells #[.string ⟨#[105, 110, 118, 97, 108, 105, 100, 32, 115, 121, 110, 116, 97, 120]⟩] 339]
def putL (h : Array Obj) : Array Obj :=
  ((((((h.modify 1 (cellsPut setsV)).modify 4 (cellsPut #[.iface 337 (.pointer (some ⟨15, 0, none⟩))])).modify 5 (cellsPut #[.iface 337 (.pointer (some ⟨14, 0, none⟩))])).modify 6 (cellsPut powV)).modify 7 (cellsPut db32V)).modify 8 (cellsPut db64V)).modify 2 (cellsPut fdsV)
theorem held_size (os : Os) : (World.holding Tryz.prog os ⟨#[], #[], []⟩).heap.size = 14 := by kernel_rfl
end Go.Proofs.YtogklmljllocbabGreatDoor
namespace Go.Proofs.YtogklmljllocbabGreatDoor
open Go.RowKit

/-- An event. -/
structure Ev where
  k : ByteArray
  t : ByteArray
  n0 : Int
  n1 : Int
  n2 : Int
  n3 : Int
  x : ByteArray
def Ev.c (e : Ev) : Array Value := #[.string e.k, .string e.t, .int .i64 e.n0, .int .i64 e.n1, .int .i64 e.n2, .int .i64 e.n3, .string e.x]
def inI (n : Int) : Prop := -9223372036854775808 ≤ n ∧ n < 9223372036854775808
/-- An event that a Go program can hold. -/
def Ev.ok (e : Ev) : Prop := e.k.size ≤ 9223372036854775807 ∧ e.t.size ≤ 9223372036854775807 ∧ e.x.size ≤ 9223372036854775807 ∧ inI e.n0 ∧ inI e.n1 ∧ inI e.n2 ∧ inI e.n3
end Go.Proofs.YtogklmljllocbabGreatDoor
namespace Go.Proofs.YtogklmljllocbabGreatDoor
open Go.RowKit

/-- The box of an event lies there. -/
def EBox (g : Nat) (e : Ev) (w : World) : Prop := w.heap[g]? = some (.cells e.c 29 (0, 0))
theorem EBox.cells {g : Nat} {e : Ev} {w : World} (h : EBox g e w) : w.cell? ⟨g, 0, none⟩ = some (.string e.k) ∧ w.cell? ⟨g, 1, none⟩ = some (.string e.t) ∧ w.cell? ⟨g, 2, none⟩ = some (.int .i64 e.n0) ∧ w.cell? ⟨g, 3, none⟩ = some (.int .i64 e.n1) ∧ w.cell? ⟨g, 4, none⟩ = some (.int .i64 e.n2) ∧ w.cell? ⟨g, 5, none⟩ = some (.int .i64 e.n3) ∧ w.cell? ⟨g, 6, none⟩ = some (.string e.x) := by
  unfold EBox Ev.c at h
  simp [World.cell?, h]
theorem EBox.lt {g : Nat} {e : Ev} {w : World} (h : EBox g e w) : g < w.heap.size := by
  unfold EBox at h
  rcases Nat.lt_or_ge g w.heap.size with h1 | h1
  · exact h1
  · rw [Array.getElem?_eq_none h1] at h; cases h
theorem EBox.below {g B : Nat} {e : Ev} {w w' : World} (h : EBox g e w) (hb : Below B w w') (hB : g < B) : EBox g e w' := by unfold EBox; rw [hb.block g hB]; exact h
theorem EBox.alloc {g : Nat} {e : Ev} {w : World} (h : EBox g e w) (o : Obj) : EBox g e (w.alloc o) := (Below.heap_alloc _ _ _ h.lt).trans h
end Go.Proofs.YtogklmljllocbabGreatDoor
namespace Go.Proofs.YtogklmljllocbabGreatDoor
open Go.RowKit

/-- Events lie where the slice says. -/
def EvsAt (w : World) (ad : Option Addr) (l : List Ev) : Prop := l ≠ [] → ∃ b off, ad = some ⟨b, off, none⟩ ∧ b < w.heap.size ∧ ∀ (i : Nat) (e : Ev), l[i]? = some e → ∀ (j : Nat) (u : Value), e.c[j]? = some u → w.cell? ⟨b, off + i * 7 + j, none⟩ = some u
theorem EvsAt.kp {F : List Nat} {w w' : World} {ad : Option Addr} {l : List Ev} (h : EvsAt w ad l) (hk : Kp F w w') (hF : ∀ b off, ad = some ⟨b, off, none⟩ → b ∉ F) : EvsAt w' ad l := fun hl => by
  obtain ⟨b, off, e, hlt, hc⟩ := h hl
  exact ⟨b, off, e, Nat.lt_of_lt_of_le hlt hk.size, fun i x hx j u hu => hk.cell (hc i x hx j u hu) (hF b off e)⟩
theorem EvsAt.seven {w : World} {ad : Option Addr} {l : List Ev} (h : EvsAt w ad l) (k : Nat) (hk : k < l.length) : ∃ b off, ad = some ⟨b, off, none⟩ ∧ w.cell? ⟨b, off + k * 7, none⟩ = some (.string l[k].k) ∧ w.cell? ⟨b, off + k * 7 + 1, none⟩ = some (.string l[k].t) ∧ w.cell? ⟨b, off + k * 7 + 2, none⟩ = some (.int .i64 l[k].n0) ∧ w.cell? ⟨b, off + k * 7 + 3, none⟩ = some (.int .i64 l[k].n1) ∧ w.cell? ⟨b, off + k * 7 + 4, none⟩ = some (.int .i64 l[k].n2) ∧ w.cell? ⟨b, off + k * 7 + 5, none⟩ = some (.int .i64 l[k].n3) ∧ w.cell? ⟨b, off + k * 7 + 6, none⟩ = some (.string l[k].x) := by
  obtain ⟨b, off, e, _, hc⟩ := h (by rintro rfl; simp at hk)
  have q := hc k l[k] (List.getElem?_eq_getElem hk)
  exact ⟨b, off, e, q 0 _ rfl, q 1 _ rfl, q 2 _ rfl, q 3 _ rfl, q 4 _ rfl, q 5 _ rfl, q 6 _ rfl⟩
end Go.Proofs.YtogklmljllocbabGreatDoor
namespace Go.Proofs.YtogklmljllocbabGreatDoor

structure Vl where
  n : Int
  s : ByteArray
  t : Bool
def noB : ByteArray := ⟨#[]⟩
/-- The moment at which a condition is asked: the event, the stages' names and their last events. -/
structure Mo where
  e : Ev
  ns : List ByteArray
  la : List Ev
/-- The first place of a name. -/
def fstN (s : ByteArray) : List ByteArray → Nat
  | [] => 0
  | n :: r => if n.data.toList = s.data.toList then 0 else fstN s r + 1
def evZ : Ev := ⟨noB, noB, 0, 0, 0, 0, noB⟩
def Mo.at (M : Mo) (s : ByteArray) : Ev := if emptyB s then M.e else M.la.getD (fstN s M.ns) evZ
def evN (e : Ev) (f : Int) : Int := if f = 0 then e.n0 else if f = 1 then e.n1 else if f = 2 then e.n2 else e.n3
def fdV (e : Ev) (f : Int) : Vl := if f = 4 then ⟨0, e.t, false⟩ else if f = 5 then ⟨0, e.x, false⟩ else ⟨evN e f, noB, false⟩
def lfV (M : Mo) (p : Pt) : Vl := if p.kd = 1 then ⟨p.n, noB, false⟩ else if p.kd = 2 then ⟨0, p.s, false⟩ else fdV (M.at p.st) p.fl
def eqV (a b : Vl) : Bool := decide (a.n = b.n) && (decide (a.s.data.toList = b.s.data.toList) && decide (a.t = b.t))
def opV (k : Int) (a b : Vl) : Vl :=
  if k = 4 then ⟨IntKind.i64.wrap (a.n + b.n), noB, false⟩
  else if k = 5 then ⟨IntKind.i64.wrap (a.n - b.n), noB, false⟩
  else if k = 6 then ⟨IntKind.i64.wrap (a.n * b.n), noB, false⟩
  else if k = 7 then ⟨0, noB, decide (a.n < b.n)⟩
  else if k = 8 then ⟨0, noB, decide (a.n ≤ b.n)⟩
  else if k = 9 then ⟨0, noB, eqV a b⟩
  else if k = 10 then ⟨0, noB, !eqV a b⟩
  else if k = 11 then ⟨0, noB, a.t && b.t⟩
  else if k = 12 then ⟨0, noB, a.t || b.t⟩
  else ⟨0, noB, !a.t⟩
def vlv (M : Mo) (p : Pt) : List Vl → Vl
  | [] => lfV M p
  | [a] => opV p.kd a ⟨0, noB, false⟩
  | a :: b :: _ => opV p.kd a b
/-- Does a stage have its name among these? -/
def hasN (ns : List ByteArray) (s : ByteArray) : Bool := decide (fstN s ns < ns.length)
/-- Have all stages that are asked for? -/
def hasS (ns : List ByteArray) (x : List Pt) : Bool := x.all fun p => emptyB p.st || hasN ns p.st
/-- What Holds tells. -/
def hdE (x : List Pt) (M : Mo) : Int := if ckK x ≠ 3 then 110 else if M.ns.length ≠ M.la.length ∨ hasS M.ns x = false then 5 else 0
def hdB (x : List Pt) (M : Mo) : Bool := if hdE x M ≠ 0 then false else match fdX (vlv M) x with
  | some v => v.t
  | none => false
end Go.Proofs.YtogklmljllocbabGreatDoor
namespace Go.Proofs.YtogklmljllocbabGreatDoor
open Go.RowKit

/-- Names lie where the slice says. -/
def NmsAt (w : World) (ad : Option Addr) (l : List ByteArray) : Prop := l ≠ [] → ∃ b off, ad = some ⟨b, off, none⟩ ∧ b < w.heap.size ∧ ∀ i (h : i < l.length), w.cell? ⟨b, off + i, none⟩ = some (.string l[i])
theorem NmsAt.kp {F : List Nat} {w w' : World} {ad : Option Addr} {l : List ByteArray} (h : NmsAt w ad l) (hk : Kp F w w') (hF : ∀ b off, ad = some ⟨b, off, none⟩ → b ∉ F) : NmsAt w' ad l := fun hl => by
  obtain ⟨b, off, e, hlt, hc⟩ := h hl
  exact ⟨b, off, e, Nat.lt_of_lt_of_le hlt hk.size, fun i hi => hk.cell (hc i hi) (hF b off e)⟩
theorem data_inj {a b : ByteArray} : a.data.toList = b.data.toList ↔ a = b := ⟨fun h => by rw [← txt_self a, ← txt_self b, h], fun h => by rw [h]⟩
theorem fstN_le (s : ByteArray) (l : List ByteArray) : fstN s l ≤ l.length := by
  induction l with
  | nil => exact Nat.le_refl _
  | cons n r ih => rw [fstN]; split; exact Nat.zero_le _; rw [List.length_cons]; omega
theorem fstN_at {s : ByteArray} {l : List ByteArray} (h : fstN s l < l.length) : l[fstN s l] = s ∧ ∀ j (hj : j < fstN s l), l[j] ≠ s := by
  induction l with
  | nil => exact absurd h (Nat.not_lt_zero _)
  | cons n r ih =>
    by_cases he : n.data.toList = s.data.toList
    · have e : fstN s (n :: r) = 0 := by rw [fstN, if_pos he]
      refine ⟨?_, fun j hj => absurd hj (by omega)⟩
      simp only [e, List.getElem_cons_zero]
      exact data_inj.1 he
    · have e : fstN s (n :: r) = fstN s r + 1 := by rw [fstN, if_neg he]
      have h2 : fstN s r < r.length := by rw [e, List.length_cons] at h; omega
      obtain ⟨h3, h4⟩ := ih h2
      refine ⟨?_, fun j hj => ?_⟩
      · simp only [e, List.getElem_cons_succ]
        exact h3
      · cases j with
        | zero => exact fun e => he (by rw [← e]; rfl)
        | succ j => exact h4 j (by omega)
theorem fstN_mem (s : ByteArray) (l : List ByteArray) : fstN s l < l.length ↔ s ∈ l := by
  constructor
  · intro h
    have := (fstN_at h).1
    rw [← this]
    exact List.getElem_mem _
  · intro h
    induction l with
    | nil => cases h
    | cons n r ih =>
      rw [fstN]
      split
      · rw [List.length_cons]; omega
      · rename_i hne
        have : s ∈ r := by
          rcases List.mem_cons.1 h with e | e
          · exact absurd (by rw [e]) hne
          · exact e
        have := ih this
        rw [List.length_cons]
        omega
theorem hasN_iff (l : List ByteArray) (s : ByteArray) : hasN l s = true ↔ s ∈ l := by
  unfold hasN
  rw [decide_eq_true_eq, fstN_mem]
theorem contS (l : List ByteArray) (s : ByteArray) : Lib.containsS l s = hasN l s := by rw [Bool.eq_iff_iff, Lib.containsS_iff, hasN_iff]
theorem idxS {l : List ByteArray} {s : ByteArray} (h : fstN s l < l.length) : Lib.idxOfS l s = ((fstN s l : Nat) : Int) := by
  obtain ⟨h1, h2⟩ := fstN_at h
  have := Lib.idxFromS_hit s l (fstN s l) 0 h (by rw [List.getD_eq_getElem?_getD, List.getElem?_eq_getElem h]; exact h1) (fun j hj => by
    rw [List.getD_eq_getElem?_getD, List.getElem?_eq_getElem (by omega)]
    exact h2 j hj)
  unfold Lib.idxOfS
  rw [this, Nat.zero_add]
theorem contains_any (ad : Option Addr) (c : Nat) (l : List ByteArray) (x : ByteArray) (w : World) (hl : l.length ≤ 9223372036854775807) (h : NmsAt w ad l) :
    Calls Tryz.prog 46 #[.slice ad l.length c, .string x] w fun e w' => e = .returned (.bool (hasN l x)) ∧ w' = w := by
  by_cases h0 : l = []
  · subst h0
    exact Tryz.slices_Contains_string_empty ad c x w
  · obtain ⟨b, off, rfl, _, hc⟩ := h h0
    have := Tryz.slices_Contains_string b off l.length c l x w (Nat.le_refl _) hl (fun j hj => by
      rw [hc j hj, List.getD_eq_getElem?_getD, List.getElem?_eq_getElem hj]
      rfl)
    rw [List.take_length, contS] at this
    exact this
theorem index_any (ad : Option Addr) (c : Nat) (l : List ByteArray) (x : ByteArray) (w : World) (hl : l.length ≤ 9223372036854775807) (h : NmsAt w ad l) (hx : fstN x l < l.length) :
    Calls Tryz.prog 86 #[.slice ad l.length c, .string x] w fun e w' => e = .returned (.int .i64 ((fstN x l : Nat) : Int)) ∧ w' = w := by
  have h0 : l ≠ [] := by rintro rfl; exact absurd hx (Nat.not_lt_zero _)
  obtain ⟨b, off, rfl, _, hc⟩ := h h0
  have := Tryz.slices_Index_string b off l.length c l x w (Nat.le_refl _) hl (fun j hj => by
    rw [hc j hj, List.getD_eq_getElem?_getD, List.getElem?_eq_getElem hj]
    rfl)
  rw [List.take_length, idxS hx] at this
  exact this
end Go.Proofs.YtogklmljllocbabGreatDoor
namespace Go.Proofs.YtogklmljllocbabGreatDoor
open Go.RowKit

theorem enc_two (r : Nat) (h1 : 128 ≤ r) (h2 : r < 2048) : Utf8.encode (r : Int) = ⟨#[UInt8.ofNat (192 + r / 64), UInt8.ofNat (128 + r % 64)]⟩ := by
  have hv : Utf8.valid (r : Int) = true := by unfold Utf8.valid; simp; omega
  simp only [Utf8.encode, hv, if_true, Int.toNat_natCast]
  rw [if_neg (by omega), if_pos (by omega)]
theorem enc_more (r : Nat) (h2 : 2048 ≤ r) : 3 ≤ (Utf8.encode (r : Int)).size ∧ (Utf8.encode (r : Int)).size ≤ 4 := by
  have hb : 2048 ≤ (if Utf8.valid (r : Int) = true then ((r : Int)).toNat else Utf8.runeError) := by
    split
    · omega
    · unfold Utf8.runeError; omega
  simp only [Utf8.encode]
  generalize (if Utf8.valid (r : Int) = true then ((r : Int)).toNat else Utf8.runeError) = c at hb
  rw [if_neg (by omega), if_neg (by omega)]
  split
  · exact ⟨Nat.le_refl 3, by show 3 ≤ 4; omega⟩
  · exact ⟨by show 3 ≤ 4; omega, Nat.le_refl 4⟩
theorem validRune_any (r : Int) (w : World) : Calls Tryz.prog 279 #[.int .i32 r] w fun e w' => Hid (∃ b, e = .returned (.bool b)) ∧ w' = w := by
  go_enter Tryz.func279, Tryz.ntmps279
  go_wp2
  all_goals go_ret
  all_goals (refine ⟨?_, rfl⟩; first | exact Or.inl rfl | exact Or.inr rfl | exact hide ⟨_, rfl⟩)
end Go.Proofs.YtogklmljllocbabGreatDoor
namespace Go.Proofs.YtogklmljllocbabGreatDoor
open Go.RowKit
set_option maxHeartbeats 4000000 in
set_option maxRecDepth 100000 in
theorem indexRune_err (w : World) : Calls Tryz.prog 265 #[.string ⟨#[39, 10]⟩, .int .i32 65533] w fun e w' => e = .returned (.int .i64 (-1)) ∧ Kp [] w w' := by
  go_enter Tryz.func265, Tryz.ntmps265
  go_wp2
  go_loopg [5, 6] 2 (fun g _ _ wx => ∃ i : Nat, i + g = 2 ∧ wx = w.iter ⟨#[39, 10]⟩ i)
  case atStart => exact ⟨0, by omega, rfl⟩
  case round =>
    obtain ⟨i, hig, rfl⟩ := hrel
    rcases (show i = 0 ∨ i = 1 ∨ i = 2 by omega) with rfl | rfl | rfl
    · obtain rfl : gk = 2 := by omega
      have hnx := fun ty => run_next_ascii (P := Tryz.prog) w ⟨#[39, 10]⟩ 0 ty (by decide) (by decide)
      go_wp2
      go_roundg 1
      case measure => omega
      case rel => exact ⟨1, by omega, rfl⟩
    · obtain rfl : gk = 1 := by omega
      have hnx := fun ty => run_next_ascii (P := Tryz.prog) w ⟨#[39, 10]⟩ 1 ty (by decide) (by decide)
      go_wp2
      go_roundg 0
      case measure => omega
      case rel => exact ⟨2, by omega, rfl⟩
    · obtain rfl : gk = 0 := by omega
      have hnx := fun ty => run_next_end (P := Tryz.prog) w ⟨#[39, 10]⟩ 2 ty (by decide)
      go_wp2
      go_ret
      exact ⟨rfl, Kp.alloc _ _⟩
set_option maxHeartbeats 400000 in
set_option maxRecDepth 100000 in
theorem indexRune_more (r : Nat) (h1 : 2048 ≤ r) (hE : r ≠ 65533) (w : World) : Calls Tryz.prog 265 #[.string ⟨#[39, 10]⟩, .int .i32 (r : Int)] w fun e w' => e = .returned (.int .i64 (-1)) ∧ Kp [] w w' := by
  have g1 : ((r : Int) == 65533) = false := by simp; omega
  have g2 : ¬ ((r : Int) = 65533) := by omega
  have g3 : ¬ ((r : Int) < 128) := by omega
  obtain ⟨k1, k2⟩ := enc_more r h1
  obtain ⟨B, hB⟩ : ∃ B, Utf8.encode (r : Int) = B := ⟨_, rfl⟩
  rw [hB] at k1 k2
  have gL : ¬ ((B.size : Int) - 1 < 2) := by omega
  go_enter Tryz.func265, Tryz.ntmps265
  go_wp2_with fail
  refine (validRune_any _ _).mono ?_
  rintro e w1 ⟨hb, rfl⟩
  obtain ⟨b, rfl⟩ := unhide hb
  clear hb
  cases b with
  | false =>
    go_wp2
    go_ret
    exact ⟨rfl, Kp.refl _ _⟩
  | true =>
    go_wp2
    go_step3
    go_wp2
    clear hB
    go_loopw [9] (fun i wr => wr = w1 ∧ i = .int .i64 ((B.size : Int) - 1)) (fun _ _ => 0)
    case atStart => exact ⟨rfl, by go_num⟩
    case round =>
      obtain ⟨rfl, rfl⟩ := hrel
      go_wp2
      rw [Exit.noGoto_ret]
      go_ret
      exact ⟨rfl, Kp.refl _ _⟩
theorem ib_nil (s : ByteArray) (c : Int) (w : World) (h : s.data.toList = []) : Calls Tryz.prog 278 #[.string s, .int .u8 c] w fun e w' => e = .returned (.int .i64 (-1)) ∧ w' = w := by
  have := Tryz.strings_IndexByte s c w
  rw [h] at this
  exact this
set_option maxHeartbeats 400000 in
set_option maxRecDepth 100000 in
theorem indexRune_two (r : Nat) (h1 : 128 ≤ r) (h3 : r < 2048) (w : World) : Calls Tryz.prog 265 #[.string ⟨#[39, 10]⟩, .int .i32 (r : Int)] w fun e w' => e = .returned (.int .i64 (-1)) ∧ Kp [] w w' := by
  have g1 : ((r : Int) == 65533) = false := by simp; omega
  have g2 : ¬ ((r : Int) = 65533) := by omega
  have g3 : ¬ ((r : Int) < 128) := by omega
  have he := enc_two r h1 h3
  have hb : (UInt8.ofNat (128 + r % 64)).toNat = 128 + r % 64 := by simp; omega
  generalize UInt8.ofNat (128 + r % 64) = b2 at *
  generalize UInt8.ofNat (192 + r / 64) = b1 at *
  have hb2 : 128 ≤ b2.toNat := by omega
  have gn : ((10 : Int) != (b2.toNat : Int)) = true := by simp; omega
  clear hb
  go_enter Tryz.func265, Tryz.ntmps265
  go_wp2_with fail
  refine (validRune_any _ _).mono ?_
  rintro e w1 ⟨hb, rfl⟩
  obtain ⟨b, rfl⟩ := unhide hb
  clear hb
  cases b with
  | false =>
    go_wp2
    go_ret
    exact ⟨rfl, Kp.refl _ _⟩
  | true =>
    go_wp2
    go_step3
    go_wp2
    clear he
    go_loopw [9] (fun i wr => wr = w1 ∧ i = .int .i64 1) (fun _ _ => 0)
    case atStart => exact ⟨rfl, rfl⟩
    case round =>
      obtain ⟨rfl, rfl⟩ := hrel
      have IB := fun (s : ByteArray) (c : Int) W (h : s.data.toList = []) => ib_nil s c W h
      go_wp2
      go_step3
      go_wp2
      go_quiet (fail)
      have e1 : (⟨#[39, 10]⟩ : ByteArray)[1].toNat = 10 := rfl
      have e2 : ((⟨#[b1, b2]⟩ : ByteArray)[1]'(by show 1 < 2; omega)).toNat = b2.toNat := rfl
      have e3 : (((10 : Nat) : Int) != (b2.toNat : Int)) = true := gn
      have hk := Kp.drewQ wr nq
      simp only [e1, e2, e3]
      generalize wr.drewN nq = W2 at *
      have w2 : IntKind.i64.wrap 2 = 2 := by decide
      go_wp2
      go_quiet (first | (go_at_call 278; exact Calls.quiet_of_same (IB _ _ _ (by decide))))
      go_wp2
      rw [Exit.noGoto_ret]
      go_wp2
      rw [Exit.noGoto_ret]
      go_ret
      exact ⟨rfl, hk.trans (Kp.drewQ _ _) (by simp)⟩
/-- A rune that is no byte of ASCII is none of the two. -/
theorem indexRune_hi (r : Nat) (h1 : 128 ≤ r) (w : World) : Calls Tryz.prog 265 #[.string ⟨#[39, 10]⟩, .int .i32 (r : Int)] w fun e w' => e = .returned (.int .i64 (-1)) ∧ Kp [] w w' := by
  by_cases hE : r = 65533
  · subst hE
    exact indexRune_err w
  · rcases Nat.lt_or_ge r 2048 with h | h
    · exact indexRune_two r h1 h w
    · exact indexRune_more r h hE w
end Go.Proofs.YtogklmljllocbabGreatDoor
