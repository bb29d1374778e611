/-
  A table of strings that a row lists: the variable's cells are these strings. Of no program.
  What the row's list of package variables gives, with the words of fields: they hold what their own texts lay.
  Events as cells: of no layer.
  Events that lie somewhere.
  append to a row of the call's own, of cells that lie anywhere: what it gives, and where the new row lies. Of no program.
  Which texts may be: strings.ContainsAny of a quote and a line feed, at any bytes; isText, isFree, isStage.
  A rune that is no byte of ASCII is none of a quote and a line feed: strings.IndexRune.
-/
import Derived.Lib.LaidTab
import Derived.Test.YthipclehhcfahaaGreatDoorRows
import Derived.Test.YthipclehhcfahaaGreatDoorHH07
import Derived.Stop.LaidErr
import Derived.Test.YthipclehhcfahaaGreatDoorHH01
import Derived.Laws.AppendOwnNone
import Derived.Test.YthipclehhcfahaaGreatDoorHH06
import Derived.Laws.RangeAny
import Derived.Lib.MapLaws
import Derived.Deep.LoopGhost
import Derived.Lib.IndexAny
import Derived.WalkMore
import Derived.Deep.RegionHeld3
namespace Go.Proofs.YthipclehhcfahaaGreatDoor
open Go

def strData {H : Type} (zs : List (List UInt8)) : DataW H := .agg (zs.map fun z => .lit (.string z))
theorem cells_of_strs {H : Type} {enc : TypeId × Value → H} {P : Program} {w : World} {base : Nat} {sp : Nat → Bool} {held : Bool} {fuel : Nat} {t e : TypeId} {n : Nat} {cs : List Value} {zs : List (List UInt8)} {p : List MemPlace}
    (ht : P.underlying t = some (.array n e)) (he : P.underlying e = some .string) (hce : P.cellsOf e = 1) (hct : P.cellsOf t = n)
    (h : DataW.trod enc P w base sp held fuel t cs = some (strData zs, p)) : cs = zs.map fun z => Value.string ⟨z.toArray⟩ := by
  cases fuel with
  | zero => simp [DataW.trod] at h
  | succ fuel =>
    simp only [DataW.trod, ht, hce, hct, Nat.mul_one] at h
    split at h
    · rename_i hl
      obtain ⟨xs, hm, hx⟩ := Option.map_eq_some_iff.1 h
      have hxs : xs.map (·.1) = zs.map fun z => (DataW.lit (.string z) : DataW H) := by
        have := congrArg Prod.fst hx
        simpa [strData] using this
      have hxl : xs.length = n := by simpa using Lib.mapM_length hm
      have hzl : zs.length = n := by
        have := congrArg List.length hxs
        simp at this
        omega
      apply List.ext_getElem?
      intro i
      by_cases hi : i < n
      · obtain ⟨b, hb, hf⟩ := Lib.mapM_at hm i i (by simp [hi])
        obtain ⟨s, hc, rfl, _⟩ := DataW.trod_string he hf
        have h1 : cs[i]? = some (.string s) := by
          have := congrArg (·[0]?) hc
          simpa [List.getElem?_take, List.getElem?_drop] using this
        have h2 : (xs.map (·.1))[i]? = some (DataW.lit (.string s.data.toList) : DataW H) := by simp [hb]
        rw [hxs] at h2
        simp only [List.getElem?_map, Option.map_eq_some_iff, DataW.lit.injEq, Lit.string.injEq] at h2
        obtain ⟨z', hz', rfl⟩ := h2
        simp [h1, hz']
      · rw [List.getElem?_eq_none (by omega), List.getElem?_eq_none (by simp; omega)]
    · cases h
/-- The table of strings stands first on the list. -/
theorem strs_of_head {P : Program} {W : World} {name : String} {zs : List (List UInt8)} {rest : List (String × DataW Unit)} {g : Nat} {t e : TypeId} {n : Nat}
    (hg : P.globalNamed name = some g) (hty : (P.globals[g]?).map (·.type) = some t) (ht : P.underlying t = some (.array n e)) (he : P.underlying e = some .string) (hce : P.cellsOf e = 1) (hct : P.cellsOf t = n)
    (h : laidMet P ((name, strData zs) :: rest) W) (i : Nat) : W.cell? ⟨g, i, none⟩ = (zs.map fun z => Value.string ⟨z.toArray⟩)[i]? := by
  obtain ⟨ps, ⟨g', t', cs, fuel, p, q, hg', ht', hvar, hd, _, _⟩, _⟩ := h
  obtain rfl := Option.some.inj (hg.symm.trans hg')
  obtain rfl := Option.some.inj (hty.symm.trans ht')
  rw [World.var?_cell hg hvar i, ← cells_of_strs ht he hce hct hd]
  simp
end Go.Proofs.YthipclehhcfahaaGreatDoor
namespace Go.Proofs.YthipclehhcfahaaGreatDoor
open Go.RowKit

theorem gSets : Tryz.prog.globalNamed "weaver/token.sets" = some 1 := by kernel_rfl
theorem gSetsT : (Tryz.prog.globals[1]?).map (·.type) = some 159 := by kernel_rfl
theorem gRng : Tryz.prog.globalNamed "strconv.ErrRange" = some 4 := by kernel_rfl
theorem gRngT : (Tryz.prog.globals[4]?).map (·.type) = some 161 := by kernel_rfl
theorem gPowT : (Tryz.prog.globals[2]?).map (·.type) = some 179 := by kernel_rfl
theorem gDb : Tryz.prog.globalNamed "math/bits.deBruijn64tab" = some 7 := by kernel_rfl
theorem gDbT : (Tryz.prog.globals[7]?).map (·.type) = some 197 := by kernel_rfl
theorem gFds : Tryz.prog.globalNamed "weaver/expr.fields" = some 0 := by kernel_rfl
theorem gFdsT : (Tryz.prog.globals[0]?).map (·.type) = some 140 := by kernel_rfl
theorem cells6 : Tryz.prog.cellsOf 140 = 6 := by kernel_rfl
theorem cellsU8 : Tryz.prog.cellsOf 5 = 1 := by kernel_rfl
theorem cellsU64 : Tryz.prog.cellsOf 166 = 1 := by kernel_rfl
theorem cells128 : Tryz.prog.cellsOf 159 = 128 := by kernel_rfl
theorem cells20 : Tryz.prog.cellsOf 179 = 20 := by kernel_rfl
theorem cells64 : Tryz.prog.cellsOf 197 = 64 := by kernel_rfl
theorem cellsErr : Tryz.prog.cellsOf 200 = 1 := by kernel_rfl
theorem cellsStr : Tryz.prog.cellsOf 9 = 1 := by kernel_rfl
theorem errStar : "*" ++ "errors.errorString" = "*errors.errorString" := by decide
theorem errRow (u : TypeId) (h : Tryz.prog.typeName? 3 u = some "*errors.errorString") : u = 198 :=
  typeName_ptr_named (nm := "errors.errorString") (by rw [errStar]; kernel_rfl) (by kernel_rfl) (by decide) u (by rw [errStar]; exact h)
/-- The row's list. -/
def laidL : List (String × DataW Unit) := [("math/bits.deBruijn32tab", Rows.laid_math_bits_deBruijn32tab), ("math/bits.deBruijn64tab", Rows.laid_math_bits_deBruijn64tab), ("internal/strconv.uint64pow10", Rows.laid_internal_strconv_uint64pow10), ("strconv.ErrRange", Rows.laid_strconv_ErrRange), ("strconv.ErrSyntax", Rows.laid_strconv_ErrSyntax), ("weaver/token.sets", Rows.laid_weaver_token_sets), ("weaver/expr.fields", Rows.laid_weaver_expr_fields)]
def setsI : List Int := [0, 0, 0, 0, 0, 0, 0, 0, 0, 0, 3, 0, 0, 0, 0, 0, 0, 0, 0, 0, 0, 0, 0, 0, 0, 0, 0, 0, 0, 0, 0, 0, 1, 128, 0, 0, 0, 0, 0, 16, 32, 32, 32, 32, 0, 32, 32, 0, 8, 8, 8, 8, 8, 8, 8, 8, 8, 8, 32, 32, 64, 64, 0, 0, 0, 0, 0, 0, 0, 0, 0, 0, 0, 0, 0, 0, 0, 0, 0, 0, 0, 0, 0, 0, 0, 0, 0, 0, 0, 0, 0, 0, 0, 0, 0, 0, 0, 4, 4, 4, 4, 4, 4, 4, 4, 4, 4, 4, 4, 4, 4, 4, 4, 4, 4, 4, 4, 4, 4, 4, 4, 4, 4, 0, 0, 0, 0, 0]
def dbI : List Int := [0, 1, 56, 2, 57, 49, 28, 3, 61, 58, 42, 50, 38, 29, 17, 4, 62, 47, 59, 36, 45, 43, 51, 22, 53, 39, 33, 30, 24, 18, 12, 5, 63, 55, 48, 27, 60, 41, 37, 16, 46, 35, 44, 21, 52, 32, 23, 11, 54, 26, 40, 15, 34, 20, 31, 10, 25, 14, 19, 9, 13, 8, 7, 6]
theorem setsI_get : ∀ i : Fin 128, setsI.getD i.val 0 = ((cls i.val : Nat) : Int) := by decide +kernel
theorem tbE {W : World} (h0 : laidMetH Tryz.prog laidL W) : TbE W := by
  have h : laidMet Tryz.prog laidL W := h0
  have t1 := h.tail
  have hdb : Lib.TabIs Tryz.prog W "math/bits.deBruijn64tab" .u8 dbI := Lib.tabIs_of_head gDb gDbT Tryz.underlying197 Tryz.underlying5 cellsU8 cells64 t1
  have hlow : 8 ≤ W.heap.size := World.block_lt_of_cell? _ _ (hdb.cell gDb 0 (by decide))
  have t2 := t1.tail
  have t3 := t2.tail
  have t5 := t3.tail.tail
  have t6 := t5.tail
  have hpow : Lib.TabIs Tryz.prog W "internal/strconv.uint64pow10" .u64 Lib.pow10Tab := Lib.tabIs_of_head gPow gPowT Tryz.underlying179 Tryz.underlying166 cellsU64 cells20 t2
  have hset : Lib.TabIs Tryz.prog W "weaver/token.sets" .u8 setsI := Lib.tabIs_of_head gSets gSetsT Tryz.underlying159 Tryz.underlying5 cellsU8 cells128 t5
  obtain ⟨a, s, hv, _⟩ := laid_sentinel t3 gRng gRngT Tryz.underlying161 errRow Tryz.underlying198 Tryz.underlying200 rfl rfl Tryz.underlying9 cellsErr cellsStr
  have fd := fun i => strs_of_head (zs := fldW) gFds gFdsT Tryz.underlying140 Tryz.underlying9 cellsStr cells6 t6 i
  refine ⟨⟨hlow, fun i hi => ?_, hpow, ⟨_, _, by simpa using World.var?_cell gRng hv 0⟩⟩, fd 0, fd 1, fd 2, fd 3, fd 4, fd 5⟩
  rw [hset.cell gSets i (by simpa [setsI] using hi), setsI_get ⟨i, hi⟩]
/-! The settled world: the variables hold what their initialisers lay. -/
def cellsPut (cs : Array Value) : Obj → Obj
  | .cells _ t f => .cells cs t f
  | o => o
def db32V : Array Value := #[.int .u8 0, .int .u8 1, .int .u8 28, .int .u8 2, .int .u8 29, .int .u8 14, .int .u8 24, .int .u8 3, .int .u8 30, .int .u8 22, .int .u8 20, .int .u8 15, .int .u8 25, .int .u8 17, .int .u8 4, .int .u8 8, .int .u8 31, .int .u8 27, .int .u8 13, .int .u8 23, .int .u8 21, .int .u8 19, .int .u8 16, .int .u8 7, .int .u8 26, .int .u8 12, .int .u8 18, .int .u8 6, .int .u8 11, .int .u8 5, .int .u8 10, .int .u8 9]
def db64V : Array Value := (dbI.map fun z => Value.int .u8 z).toArray
def setsV : Array Value := (setsI.map fun z => Value.int .u8 z).toArray
def powV : Array Value := (Lib.pow10Tab.map fun z => Value.int .u64 z).toArray
def fdsV : Array Value := (fldW.map fun z => Value.string ⟨z.toArray⟩).toArray
def errBlks : Array Obj := #[.cells #[.string ⟨#[118, 97, 108, 117, 101, 32, 111, 117, 116, 32, 111, 102, 32, 114, 97, 110, 103, 101]⟩] 200, .cells #[.string ⟨#[105, 110, 118, 97, 108, 105, 100, 32, 115, 121, 110, 116, 97, 120]⟩] 200]
def putL (h : Array Obj) : Array Obj :=
  ((((((h.modify 1 (cellsPut setsV)).modify 3 (cellsPut #[.iface 198 (.pointer (some ⟨14, 0, none⟩))])).modify 4 (cellsPut #[.iface 198 (.pointer (some ⟨13, 0, none⟩))])).modify 2 (cellsPut powV)).modify 6 (cellsPut db32V)).modify 7 (cellsPut db64V)).modify 0 (cellsPut fdsV)
theorem held_size (os : Os) : (World.holding Tryz.prog os ⟨#[], #[], []⟩).heap.size = 13 := by kernel_rfl
end Go.Proofs.YthipclehhcfahaaGreatDoor
namespace Go.Proofs.YthipclehhcfahaaGreatDoor
open Go.RowKit

/-- An event. -/
structure Ev where
  k : ByteArray
  t : ByteArray
  n0 : Int
  n1 : Int
  n2 : Int
  n3 : Int
  x : ByteArray
def Ev.c (e : Ev) : Array Value := #[.string e.k, .string e.t, .int .i64 e.n0, .int .i64 e.n1, .int .i64 e.n2, .int .i64 e.n3, .string e.x]
def inI (n : Int) : Prop := -9223372036854775808 ≤ n ∧ n < 9223372036854775808
/-- An event that a Go program can hold. -/
def Ev.ok (e : Ev) : Prop := e.k.size ≤ 9223372036854775807 ∧ e.t.size ≤ 9223372036854775807 ∧ e.x.size ≤ 9223372036854775807 ∧ inI e.n0 ∧ inI e.n1 ∧ inI e.n2 ∧ inI e.n3
/-- The box of an event lies there. -/
def EBox (g : Nat) (e : Ev) (w : World) : Prop := w.heap[g]? = some (.cells e.c 37 (0, 0))
theorem EBox.cells {g : Nat} {e : Ev} {w : World} (h : EBox g e w) : w.cell? ⟨g, 0, none⟩ = some (.string e.k) ∧ w.cell? ⟨g, 1, none⟩ = some (.string e.t) ∧ w.cell? ⟨g, 2, none⟩ = some (.int .i64 e.n0) ∧ w.cell? ⟨g, 3, none⟩ = some (.int .i64 e.n1) ∧ w.cell? ⟨g, 4, none⟩ = some (.int .i64 e.n2) ∧ w.cell? ⟨g, 5, none⟩ = some (.int .i64 e.n3) ∧ w.cell? ⟨g, 6, none⟩ = some (.string e.x) := by
  unfold EBox Ev.c at h
  simp [World.cell?, h]
theorem EBox.lt {g : Nat} {e : Ev} {w : World} (h : EBox g e w) : g < w.heap.size := by
  unfold EBox at h
  rcases Nat.lt_or_ge g w.heap.size with h1 | h1
  · exact h1
  · rw [Array.getElem?_eq_none h1] at h; cases h
theorem EBox.below {g B : Nat} {e : Ev} {w w' : World} (h : EBox g e w) (hb : Below B w w') (hB : g < B) : EBox g e w' := by unfold EBox; rw [hb.block g hB]; exact h
theorem EBox.alloc {g : Nat} {e : Ev} {w : World} (h : EBox g e w) (o : Obj) : EBox g e (w.alloc o) := (Below.heap_alloc _ _ _ h.lt).trans h
end Go.Proofs.YthipclehhcfahaaGreatDoor
namespace Go.Proofs.YthipclehhcfahaaGreatDoor
open Go.RowKit

/-- Events lie where the slice says. -/
def EvsAt (w : World) (ad : Option Addr) (l : List Ev) : Prop := l ≠ [] → ∃ b off, ad = some ⟨b, off, none⟩ ∧ b < w.heap.size ∧ ∀ (i : Nat) (e : Ev), l[i]? = some e → ∀ (j : Nat) (u : Value), e.c[j]? = some u → w.cell? ⟨b, off + i * 7 + j, none⟩ = some u
theorem EvsAt.kp {F : List Nat} {w w' : World} {ad : Option Addr} {l : List Ev} (h : EvsAt w ad l) (hk : Kp F w w') (hF : ∀ b off, ad = some ⟨b, off, none⟩ → b ∉ F) : EvsAt w' ad l := fun hl => by
  obtain ⟨b, off, e, hlt, hc⟩ := h hl
  exact ⟨b, off, e, Nat.lt_of_lt_of_le hlt hk.size, fun i x hx j u hu => hk.cell (hc i x hx j u hu) (hF b off e)⟩
theorem EvsAt.seven {w : World} {ad : Option Addr} {l : List Ev} (h : EvsAt w ad l) (k : Nat) (hk : k < l.length) : ∃ b off, ad = some ⟨b, off, none⟩ ∧ w.cell? ⟨b, off + k * 7, none⟩ = some (.string l[k].k) ∧ w.cell? ⟨b, off + k * 7 + 1, none⟩ = some (.string l[k].t) ∧ w.cell? ⟨b, off + k * 7 + 2, none⟩ = some (.int .i64 l[k].n0) ∧ w.cell? ⟨b, off + k * 7 + 3, none⟩ = some (.int .i64 l[k].n1) ∧ w.cell? ⟨b, off + k * 7 + 4, none⟩ = some (.int .i64 l[k].n2) ∧ w.cell? ⟨b, off + k * 7 + 5, none⟩ = some (.int .i64 l[k].n3) ∧ w.cell? ⟨b, off + k * 7 + 6, none⟩ = some (.string l[k].x) := by
  obtain ⟨b, off, e, _, hc⟩ := h (by rintro rfl; simp at hk)
  have q := hc k l[k] (List.getElem?_eq_getElem hk)
  exact ⟨b, off, e, q 0 _ rfl, q 1 _ rfl, q 2 _ rfl, q 3 _ rfl, q 4 _ rfl, q 5 _ rfl, q 6 _ rfl⟩
end Go.Proofs.YthipclehhcfahaaGreatDoor
namespace Go.Proofs.YthipclehhcfahaaGreatDoor
open Go.RowKit

theorem run_app_any {P : Program} {w : World} (t ty e : TypeId) (i : TypeInfo) (z : Value) (size bytes : Nat) (h1 : P.underlying t = some (.slice e)) (h2 : P.info? e = some i) (h3 : i.zero = some z) (h4 : i.size = size) (h5 : i.bytes = bytes) (h6 : z.cells.size = size) (h7 : 0 < size)
    {g2 n2 cap2 : Nat} {xs : List Value} (ho : w.ownsRow 0 e size (.slice (some ⟨g2, 0, none⟩) n2 cap2) n2 xs)
    (ad : Option Addr) (m c : Nat) (news : List Value) (hn : news.length = m * size) (hnone : ad = none → m = 0 ∧ c = 0) (hsp : ∀ a, ad = some a → a.spot = none) (hc : ∀ a, ad = some a → ∀ j u, news[j]? = some u → w.cell? (a.add j) = some u) (h1c : ∀ u ∈ news, u.oneCell' = true)
    (b1 : n2 + m ≤ maxLen) (b2 : (n2 + m) * bytes ≤ 140737488355328) :
    ∃ g cap w', (Builtin.append_ #[t, t] ty #[.slice (some ⟨g2, 0, none⟩) n2 cap2, .slice ad m c]).run P w = .ok (.slice (some ⟨g, 0, none⟩) (n2 + m) cap) w' ∧ w'.ownsRow 0 e size (.slice (some ⟨g, 0, none⟩) (n2 + m) cap) (n2 + m) (xs ++ news) ∧ w.grownBy w' (some g2) ∧ (g = g2 ∨ g = w.heap.size) := by
  have hcp : n2 ≤ cap2 := by
    obtain ⟨_, ⟨e, _⟩ | ⟨g, cp, cur, e, _, _, hn, _⟩⟩ := id ho
    · cases e
    · injection e with _ e2 e3; omega
  cases ad with
  | none =>
    obtain ⟨rfl, rfl⟩ := hnone rfl
    obtain rfl : news = [] := List.eq_nil_of_length_eq_zero (by omega)
    exact ⟨g2, cap2, w, by simpa using run_append_owned_none (P := P) (w := w) 0 t ty e i size h1 h2 _ _ _ ho, by simpa using ho, World.grownBy.refl _ _, Or.inl rfl⟩
  | some a =>
    obtain ⟨b, off, spot⟩ := a
    obtain rfl : spot = none := hsp _ rfl
    rcases Nat.eq_zero_or_pos m with h0 | hpos
    · subst h0
      obtain rfl : news = [] := List.eq_nil_of_length_eq_zero (by omega)
      have := run_append_room_cells (P := P) (w := w) t ty e i h1 h2 g2 0 n2 cap2 ⟨b, off, none⟩ 0 c [] (by simp) (fun j u hj => by simp at hj) (fun u hu => by cases hu) (by omega) (fun j hj => absurd hj (by simp)) (fun j hj => absurd hj (by simp))
      exact ⟨g2, cap2, w, by simpa [World.setCells] using this, by simpa using ho, World.grownBy.refl _ _, Or.inl rfl⟩
    · obtain ⟨g3, cap3, w', hr, r1, r2, r3, _⟩ := run_append_lies (P := P) (w := w) t ty 0 e i z size bytes h1 h2 h3 h4 h5 h6 h7 _ _ _ ho ⟨b, off, none⟩ m c news hn (hc _ rfl) h1c hpos b1 b2 (Nat.zero_le _) _ rfl
      refine ⟨g3, cap3, w', hr, r1, r2, ?_⟩
      rcases r3 with r3 | r3
      · exact Or.inl (by simpa [Value.ownBlock] using r3.symm)
      · exact Or.inr r3
/-- The same, as one step of a statement whose order is drawn. -/
theorem step_app_any {P : Program} {ops : Array Oper} {o : Oper} {a : Act} {w : World} {K : Act → World → Prop} {Q : Exit → Act → World → Prop} {E : Prop}
    (hg : o.guard = none) (s x : Operand) (t : TypeId) (hop : o.op = Op.call { callee := Callee.builtin Builtin.append, args := #[s, x], argTypes := #[t, t] })
    (e : TypeId) (i : TypeInfo) (z : Value) (size bytes : Nat) (h1 : P.underlying t = some (.slice e)) (h2 : P.info? e = some i) (h3 : i.zero = some z) (h4 : i.size = size) (h5 : i.bytes = bytes) (h6 : z.cells.size = size) (h7 : 0 < size)
    {g2 n2 cap2 : Nat} {xs : List Value} (hs : a.eval s = .slice (some ⟨g2, 0, none⟩) n2 cap2) (ho : w.ownsRow 0 e size (.slice (some ⟨g2, 0, none⟩) n2 cap2) n2 xs)
    (ad : Option Addr) (m c : Nat) (news : List Value) (hx : a.eval x = .slice ad m c) (hn : news.length = m * size) (hnone : ad = none → m = 0 ∧ c = 0) (hsp : ∀ a, ad = some a → a.spot = none) (hc : ∀ a, ad = some a → ∀ j u, news[j]? = some u → w.cell? (a.add j) = some u) (h1c : ∀ u ∈ news, u.oneCell' = true)
    (b1 : n2 + m ≤ maxLen) (b2 : (n2 + m) * bytes ≤ 140737488355328) (N : Nat) (hN : n2 + m = N)
    (hK : ∀ g cap w', w'.ownsRow 0 e size (.slice (some ⟨g, 0, none⟩) N cap) N (xs ++ news) → w.grownBy w' (some g2) → (g = g2 ∨ g = w.heap.size) → K (a.put o.dst (.slice (some ⟨g, 0, none⟩) N cap)) w') :
    if Region.wanted o (yielded ops a.tmps) = true then Oper.wp P o a w K Q else E := by
  subst hN
  have hw : Region.wanted o (yielded ops a.tmps) = true := by simp [Region.wanted, hg]
  rw [if_pos hw]
  obtain ⟨g, cap, w', hrun, r1, r2, r3⟩ := run_app_any (P := P) (w := w) t o.type e i z size bytes h1 h2 h3 h4 h5 h6 h7 ho ad m c news hn hnone hsp hc h1c b1 b2
  unfold Oper.wp
  simp [execOp, hop, resolve, invoke, builtin, hs, hx, hrun, Result.andThen]
  exact hK g cap w' r1 r2 r3
/-- append, by its run. -/
theorem wpList_app_run {P : Program} {ops : Array Oper} {rest : List Oper} {o : Oper} {a : Act} {w w' : World} {Q : Exit → Act → World → Prop} {v u1 u2 : Value} (hgd : o.guard = none) (s x : Operand) (t : TypeId)
    (ho : o.op = .call { callee := .builtin .append, args := #[s, x], argTypes := #[t, t] }) (hs : a.eval s = u1) (hx : a.eval x = u2) (hr : (Builtin.append_ #[t, t] o.type #[u1, u2]).run P w = .ok v w')
    (h : wpList P ops Q rest (a.put o.dst v) w') : wpList P ops Q (o :: rest) a w :=
  wpList_plain hgd fun _ hK => by
    unfold Oper.wp
    simp [execOp, ho, resolve, invoke, builtin, hs, hx, hr, Result.andThen]
    exact hK _ _ h
/-- What stays while a row of the call's own grows. -/
theorem kp_gr {wx W w5 : World} {g2 : Nat} (hk : Kp [] wx W) (hg : W.grownBy w5 (some g2)) (hle : wx.heap.size ≤ g2) : Kp [] wx w5 := hk.trans (Kp.of hg) (by simp; omega)
end Go.Proofs.YthipclehhcfahaaGreatDoor
namespace Go.Proofs.YthipclehhcfahaaGreatDoor
open Go.RowKit

theorem enc_two (r : Nat) (h1 : 128 ≤ r) (h2 : r < 2048) : Utf8.encode (r : Int) = ⟨#[UInt8.ofNat (192 + r / 64), UInt8.ofNat (128 + r % 64)]⟩ := by
  have hv : Utf8.valid (r : Int) = true := by unfold Utf8.valid; simp; omega
  simp only [Utf8.encode, hv, if_true, Int.toNat_natCast]
  rw [if_neg (by omega), if_pos (by omega)]
theorem enc_more (r : Nat) (h2 : 2048 ≤ r) : 3 ≤ (Utf8.encode (r : Int)).size ∧ (Utf8.encode (r : Int)).size ≤ 4 := by
  have hb : 2048 ≤ (if Utf8.valid (r : Int) = true then ((r : Int)).toNat else Utf8.runeError) := by
    split
    · omega
    · unfold Utf8.runeError; omega
  simp only [Utf8.encode]
  generalize (if Utf8.valid (r : Int) = true then ((r : Int)).toNat else Utf8.runeError) = c at hb
  rw [if_neg (by omega), if_neg (by omega)]
  split
  · exact ⟨Nat.le_refl 3, by show 3 ≤ 4; omega⟩
  · exact ⟨by show 3 ≤ 4; omega, Nat.le_refl 4⟩
theorem validRune_any (r : Int) (w : World) : Calls Tryz.prog 136 #[.int .i32 r] w fun e w' => Hid (∃ b, e = .returned (.bool b)) ∧ w' = w := by
  go_enter Tryz.func136, Tryz.ntmps136
  go_wp2
  all_goals go_ret
  all_goals (refine ⟨?_, rfl⟩; first | exact Or.inl rfl | exact Or.inr rfl | exact hide ⟨_, rfl⟩)
end Go.Proofs.YthipclehhcfahaaGreatDoor
namespace Go.Proofs.YthipclehhcfahaaGreatDoor
open Go.RowKit
set_option maxHeartbeats 4000000 in
set_option maxRecDepth 100000 in
theorem indexRune_err (w : World) : Calls Tryz.prog 119 #[.string ⟨#[39, 10]⟩, .int .i32 65533] w fun e w' => e = .returned (.int .i64 (-1)) ∧ Kp [] w w' := by
  go_enter Tryz.func119, Tryz.ntmps119
  go_wp2
  go_loopg [5, 6] 2 (fun g _ _ wx => ∃ i : Nat, i + g = 2 ∧ wx = w.iter ⟨#[39, 10]⟩ i)
  case atStart => exact ⟨0, by omega, rfl⟩
  case round =>
    obtain ⟨i, hig, rfl⟩ := hrel
    rcases (show i = 0 ∨ i = 1 ∨ i = 2 by omega) with rfl | rfl | rfl
    · obtain rfl : gk = 2 := by omega
      have hnx := fun ty => run_next_ascii (P := Tryz.prog) w ⟨#[39, 10]⟩ 0 ty (by decide) (by decide)
      go_wp2
      go_roundg 1
      case measure => omega
      case rel => exact ⟨1, by omega, rfl⟩
    · obtain rfl : gk = 1 := by omega
      have hnx := fun ty => run_next_ascii (P := Tryz.prog) w ⟨#[39, 10]⟩ 1 ty (by decide) (by decide)
      go_wp2
      go_roundg 0
      case measure => omega
      case rel => exact ⟨2, by omega, rfl⟩
    · obtain rfl : gk = 0 := by omega
      have hnx := fun ty => run_next_end (P := Tryz.prog) w ⟨#[39, 10]⟩ 2 ty (by decide)
      go_wp2
      go_ret
      exact ⟨rfl, Kp.alloc _ _⟩
set_option maxHeartbeats 400000 in
set_option maxRecDepth 100000 in
theorem indexRune_more (r : Nat) (h1 : 2048 ≤ r) (hE : r ≠ 65533) (w : World) : Calls Tryz.prog 119 #[.string ⟨#[39, 10]⟩, .int .i32 (r : Int)] w fun e w' => e = .returned (.int .i64 (-1)) ∧ Kp [] w w' := by
  have g1 : ((r : Int) == 65533) = false := by simp; omega
  have g2 : ¬ ((r : Int) = 65533) := by omega
  have g3 : ¬ ((r : Int) < 128) := by omega
  obtain ⟨k1, k2⟩ := enc_more r h1
  obtain ⟨B, hB⟩ : ∃ B, Utf8.encode (r : Int) = B := ⟨_, rfl⟩
  rw [hB] at k1 k2
  have gL : ¬ ((B.size : Int) - 1 < 2) := by omega
  go_enter Tryz.func119, Tryz.ntmps119
  go_wp2_with fail
  refine (validRune_any _ _).mono ?_
  rintro e w1 ⟨hb, rfl⟩
  obtain ⟨b, rfl⟩ := unhide hb
  clear hb
  cases b with
  | false =>
    go_wp2
    go_ret
    exact ⟨rfl, Kp.refl _ _⟩
  | true =>
    go_wp2
    go_step3
    go_wp2
    clear hB
    go_loopw [9] (fun i wr => wr = w1 ∧ i = .int .i64 ((B.size : Int) - 1)) (fun _ _ => 0)
    case atStart => exact ⟨rfl, by go_num⟩
    case round =>
      obtain ⟨rfl, rfl⟩ := hrel
      go_wp2
      rw [Exit.noGoto_ret]
      go_ret
      exact ⟨rfl, Kp.refl _ _⟩
theorem ib_nil (s : ByteArray) (c : Int) (w : World) (h : s.data.toList = []) : Calls Tryz.prog 135 #[.string s, .int .u8 c] w fun e w' => e = .returned (.int .i64 (-1)) ∧ w' = w := by
  have := Tryz.strings_IndexByte s c w
  rw [h] at this
  exact this
set_option maxHeartbeats 400000 in
set_option maxRecDepth 100000 in
theorem indexRune_two (r : Nat) (h1 : 128 ≤ r) (h3 : r < 2048) (w : World) : Calls Tryz.prog 119 #[.string ⟨#[39, 10]⟩, .int .i32 (r : Int)] w fun e w' => e = .returned (.int .i64 (-1)) ∧ Kp [] w w' := by
  have g1 : ((r : Int) == 65533) = false := by simp; omega
  have g2 : ¬ ((r : Int) = 65533) := by omega
  have g3 : ¬ ((r : Int) < 128) := by omega
  have he := enc_two r h1 h3
  have hb : (UInt8.ofNat (128 + r % 64)).toNat = 128 + r % 64 := by simp; omega
  generalize UInt8.ofNat (128 + r % 64) = b2 at *
  generalize UInt8.ofNat (192 + r / 64) = b1 at *
  have hb2 : 128 ≤ b2.toNat := by omega
  have gn : ((10 : Int) != (b2.toNat : Int)) = true := by simp; omega
  clear hb
  go_enter Tryz.func119, Tryz.ntmps119
  go_wp2_with fail
  refine (validRune_any _ _).mono ?_
  rintro e w1 ⟨hb, rfl⟩
  obtain ⟨b, rfl⟩ := unhide hb
  clear hb
  cases b with
  | false =>
    go_wp2
    go_ret
    exact ⟨rfl, Kp.refl _ _⟩
  | true =>
    go_wp2
    go_step3
    go_wp2
    clear he
    go_loopw [9] (fun i wr => wr = w1 ∧ i = .int .i64 1) (fun _ _ => 0)
    case atStart => exact ⟨rfl, rfl⟩
    case round =>
      obtain ⟨rfl, rfl⟩ := hrel
      have IB := fun (s : ByteArray) (c : Int) W (h : s.data.toList = []) => ib_nil s c W h
      go_wp2
      go_step3
      go_wp2
      go_quiet (fail)
      have e1 : (⟨#[39, 10]⟩ : ByteArray)[1].toNat = 10 := rfl
      have e2 : ((⟨#[b1, b2]⟩ : ByteArray)[1]'(by show 1 < 2; omega)).toNat = b2.toNat := rfl
      have e3 : (((10 : Nat) : Int) != (b2.toNat : Int)) = true := gn
      have hk := Kp.drewQ wr nq
      simp only [e1, e2, e3]
      generalize wr.drewN nq = W2 at *
      have w2 : IntKind.i64.wrap 2 = 2 := by decide
      go_wp2
      go_quiet (first | (go_at_call 135; exact Calls.quiet_of_same (IB _ _ _ (by decide))))
      go_wp2
      rw [Exit.noGoto_ret]
      go_wp2
      rw [Exit.noGoto_ret]
      go_ret
      exact ⟨rfl, hk.trans (Kp.drewQ _ _) (by simp)⟩
/-- A rune that is no byte of ASCII is none of the two. -/
theorem indexRune_hi (r : Nat) (h1 : 128 ≤ r) (w : World) : Calls Tryz.prog 119 #[.string ⟨#[39, 10]⟩, .int .i32 (r : Int)] w fun e w' => e = .returned (.int .i64 (-1)) ∧ Kp [] w w' := by
  by_cases hE : r = 65533
  · subst hE
    exact indexRune_err w
  · rcases Nat.lt_or_ge r 2048 with h | h
    · exact indexRune_two r h1 h w
    · exact indexRune_more r h hE w
end Go.Proofs.YthipclehhcfahaaGreatDoor
