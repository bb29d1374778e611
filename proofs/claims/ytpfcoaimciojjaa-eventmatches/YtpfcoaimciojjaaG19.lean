/-
  matchOf: what items are as a match, as the plain function has it.
  Stages whose rows are the call's own.
  A match of the call's own is spoilt: nothing else changes.
  The document's number: of an item that must be one, from 0 to 2^30; -1: it is none.
-/
import Derived.Test.YtpfcoaimciojjaaG18
import Derived.Test.YtpfcoaimciojjaaG04
namespace Go.Proofs.Ytpfcoaimciojjaa
open Go.RowKit

/-- So many stages at the beginning of items: they, the rest. -/
def rdSs : Nat → List It → Option (List (List Int) × List It)
  | 0, l => some ([], l)
  | n + 1, l => (rdS l).bind fun q => (rdSs n q.2).bind fun z => some (q.1 :: z.1, z.2)
def mtOf : List It → Option (ByteArray × List (List Int))
  | x :: y :: r => if x.t = true ∧ nupB y 8 = true then (rdSs y.n.toNat r).bind fun z => if z.2 = [] then some (x.s, z.1) else none else none
  | _ => none
theorem info_ints : (Try.prog.info? 61).map (fun i => (i.zero, i.size, i.bytes)) = some (some (.slice none 0 0), 1, 24) := by kernel_rfl
/-- A row of slices of numbers of the call's own. -/
def OwnsV (B : Nat) (w : World) (v : Value) (l : List Value) : Prop := w.ownsRow B 61 1 v l.length l
theorem OwnsV.nil (B : Nat) (w : World) : OwnsV B w (.slice none 0 0) [] := World.ownsRow_nil _ _ _ _
theorem OwnsV.alloc {B : Nat} {w : World} {v : Value} {l : List Value} (h : OwnsV B w v l) (o : Obj) : OwnsV B (w.alloc o) v l := World.ownsRow.alloc h o
theorem OwnsV.below {B B' : Nat} {w w' : World} {v : Value} {l : List Value} (h : OwnsV B w v l) (hb : Below B' w w') (hB : w.heap.size ≤ B') : OwnsV B w' v l := by
  refine World.ownsRow.kept (row := none) h ⟨hb.os, hb.tape, hb.output, hb.size, fun k hk _ => hb.block k (by omega)⟩ ?_
  cases v.ownBlock
  · exact Or.inl rfl
  · exact Or.inr (by simp)
theorem OwnsV.form {B : Nat} {w : World} {v : Value} {l : List Value} (h : OwnsV B w v l) : ∃ ad cp, v = .slice ad l.length cp := by
  obtain ⟨_, ⟨rfl, h0⟩ | ⟨g, cp, cur, rfl, _⟩⟩ := h
  · exact ⟨_, _, by rw [h0]⟩
  · exact ⟨_, _, rfl⟩
/-- The stages' slices hold their numbers. -/
def All2 (w : World) : List Value → List (List Int) → Prop
  | [], [] => True
  | v :: vs, p :: ps => IntsT w v p ∧ All2 w vs ps
  | _, _ => False
theorem All2.mono {w w' : World} (hm : ∀ v p, IntsT w v p → IntsT w' v p) : ∀ {vs ps}, All2 w vs ps → All2 w' vs ps
  | [], [], _ => trivial
  | _ :: _, _ :: _, h => ⟨hm _ _ h.1, All2.mono hm h.2⟩
  | [], _ :: _, h => h.elim
  | _ :: _, [], h => h.elim
theorem All2.snoc {w : World} {v : Value} {p : List Int} (hp : IntsT w v p) : ∀ {vs ps}, All2 w vs ps → All2 w (vs ++ [v]) (ps ++ [p])
  | [], [], _ => ⟨hp, trivial⟩
  | _ :: _, _ :: _, h => ⟨h.1, All2.snoc hp h.2⟩
  | [], _ :: _, h => h.elim
  | _ :: _, [], h => h.elim
theorem All2.len {w : World} : ∀ {vs ps}, All2 w vs ps → vs.length = ps.length
  | [], [], _ => rfl
  | _ :: _, _ :: _, h => by rw [List.length_cons, List.length_cons, All2.len h.2]
  | [], _ :: _, h => h.elim
  | _ :: _, [], h => h.elim
theorem All2.get {w : World} : ∀ {vs ps}, All2 w vs ps → ∀ i (h1 : i < vs.length) (h2 : i < ps.length), IntsT w vs[i] ps[i]
  | _ :: _, _ :: _, h, 0, _, _ => h.1
  | _ :: _, _ :: _, h, i + 1, h1, h2 => All2.get h.2 i (by simpa using h1) (by simpa using h2)
  | [], [], _, _, h1, _ => absurd h1 (by simp)
  | [], _ :: _, h, _, _, _ => h.elim
  | _ :: _, [], h, _, _, _ => h.elim
theorem OwnsV.stages {B : Nat} {w : World} {v : Value} {vs : List Value} {ss : List (List Int)} (h : OwnsV B w v vs) (ha : All2 w vs ss) : ∃ a c, v = .slice a ss.length c ∧ StagesAt w a ss := by
  have hlen := ha.len
  obtain ⟨_, ⟨rfl, h0⟩ | ⟨g, cp, cur, rfl, _⟩⟩ := id h
  · refine ⟨none, 0, by rw [← hlen, h0], fun hne => absurd (List.eq_nil_of_length_eq_zero (by omega)) hne⟩
  · have hl := World.ownsRow.lt h g rfl
    refine ⟨_, _, by rw [← hlen], fun _ => ⟨g, 0, rfl, hl.2, fun i hi => ?_⟩⟩
    obtain ⟨a, c, e, hI⟩ := (ha.get i (by omega) hi).at_
    refine ⟨a, c, ?_, hI⟩
    rw [Nat.zero_add, World.ownsRow.cellAt h i (by omega), List.getElem?_eq_getElem (by omega), e]
/-- The box of a match, whatever its stages. -/
def VBox (g : Nat) (k : ByteArray) (v : Value) (w : World) : Prop := w.heap[g]? = some (.cells #[.string k, v] 35 (0, 0))
theorem VBox.cells {g : Nat} {k : ByteArray} {v : Value} {w : World} (h : VBox g k v w) : w.cell? ⟨g, 0, none⟩ = some (.string k) ∧ w.cell? ⟨g, 1, none⟩ = some v := by
  unfold VBox at h
  simp [World.cell?, h]
theorem VBox.froz {g : Nat} {k : ByteArray} {v : Value} {w : World} (h : VBox g k v w) : w.frozen? ⟨g, 0, none⟩ = false ∧ w.frozen? ⟨g, 1, none⟩ = false := by
  unfold VBox at h
  simp [World.frozen?, h]
theorem VBox.lt {g : Nat} {k : ByteArray} {v : Value} {w : World} (h : VBox g k v w) : g < w.heap.size := by
  unfold VBox at h
  rcases Nat.lt_or_ge g w.heap.size with h1 | h1
  · exact h1
  · rw [Array.getElem?_eq_none h1] at h; cases h
theorem VBox.below {g B : Nat} {k : ByteArray} {v : Value} {w w' : World} (h : VBox g k v w) (hb : Below B w w') (hB : g < B) : VBox g k v w' := by unfold VBox; rw [hb.block g hB]; exact h
theorem VBox.alloc {g : Nat} {k : ByteArray} {v : Value} {w : World} (h : VBox g k v w) (o : Obj) : VBox g k v (w.alloc o) := (Below.heap_alloc _ _ _ h.lt).trans h
theorem VBox.fr {g B : Nat} {k : ByteArray} {v : Value} {w w' : World} (h : VBox g k v w) (hf : Fr B 61 w w') : VBox g k v w' := hf.keep h (by decide)
theorem VBox.set {g : Nat} {k : ByteArray} {v : Value} {w : World} (h : VBox g k v w) (v' : Value) : VBox g k v' (w.setCell ⟨g, 1, none⟩ v') := by
  unfold VBox at *
  unfold World.setCell
  simp [h, Array.getElem?_modify]
theorem VBox.setOther {g g' i : Nat} {k : ByteArray} {v : Value} {w : World} (h : VBox g k v w) (hne : g ≠ g') (v' : Value) : VBox g k v (w.setCell ⟨g', i, none⟩ v') := by
  unfold VBox; rw [Below.heap_setCell _ _ _ _ (by dsimp only; exact hne)]; exact h
theorem OwnsV.setBox {B g i : Nat} {k : ByteArray} {v x y : Value} {w : World} {l : List Value} (h : OwnsV B w v l) (hb : VBox g k x w) : OwnsV B (w.setCell ⟨g, i, none⟩ y) v l := by
  refine World.ownsRow.kept (row := some g) h ⟨rfl, rfl, rfl, by simp, fun j hj hne => ?_⟩ ?_
  · rw [Below.heap_setCell _ _ _ _ (fun e => hne (by rw [e]))]
  · obtain ⟨_, ⟨rfl, _⟩ | ⟨q, cp, cur, rfl, _, hh, _⟩⟩ := h
    · exact Or.inl rfl
    · refine Or.inr fun e => ?_
      simp [Value.ownBlock] at e
      subst e
      unfold VBox at hb
      rw [hh] at hb
      simp at hb
theorem IntsT.setBox {g i : Nat} {k : ByteArray} {x y : Value} {w : World} (hb : VBox g k x w) (v : Value) (p : List Int) (h : IntsT w v p) : IntsT (w.setCell ⟨g, i, none⟩ y) v p :=
  h.of_heap fun b cur f hh => by
    rw [Below.heap_setCell _ _ _ _ (fun e => by
      dsimp only at e
      subst e
      unfold VBox at hb
      rw [hh] at hb
      simp at hb)]
    exact hh
theorem rdSs_step {n i : Nat} {l0 l rest : List It} {acc : List (List Int)} {p : List Int} (hi : i < n) (h : rdSs n l0 = (rdSs (n - i) l).bind fun z => some (acc ++ z.1, z.2)) (hp : rdS l = some (p, rest)) : rdSs n l0 = (rdSs (n - (i + 1)) rest).bind fun z => some (acc ++ [p] ++ z.1, z.2) := by
  rw [h, show n - i = (n - (i + 1)) + 1 by omega, rdSs, hp]
  simp only [Option.bind_some]
  cases rdSs (n - (i + 1)) rest with
  | none => rfl
  | some z => simp
theorem rdSs_fail {n i : Nat} {l0 l : List It} {acc : List (List Int)} (hi : i < n) (h : rdSs n l0 = (rdSs (n - i) l).bind fun z => some (acc ++ z.1, z.2)) (hp : rdS l = none) : rdSs n l0 = none := by
  rw [h, show n - i = (n - (i + 1)) + 1 by omega, rdSs, hp]; rfl
end Go.Proofs.Ytpfcoaimciojjaa
namespace Go.Proofs.Ytpfcoaimciojjaa
open Go.RowKit

theorem OwnsN.mono {B B' : Nat} {w : World} {v : Value} {l : List Int} (h : OwnsN B w v l) (hB : B' ≤ B) : OwnsN B' w v l := by
  obtain ⟨h0, ⟨rfl, h1⟩ | ⟨g, cap, cur, rfl, hg, r⟩⟩ := h
  · exact ⟨h0, Or.inl ⟨rfl, h1⟩⟩
  · exact ⟨h0, Or.inr ⟨g, cap, cur, rfl, Nat.le_trans hB hg, r⟩⟩
theorem OwnsN.of_heap {B : Nat} {w w' : World} {v : Value} {l : List Int} (h : OwnsN B w v l) (hk : ∀ (b : Nat) (cur : Array Value) (f : Nat × Nat), w.heap[b]? = some (.cells cur 3 f) → w'.heap[b]? = some (.cells cur 3 f)) : OwnsN B w' v l := by
  obtain ⟨h0, ⟨rfl, h1⟩ | ⟨g, cap, cur, rfl, hg, hh, r⟩⟩ := h
  · exact ⟨h0, Or.inl ⟨rfl, h1⟩⟩
  · exact ⟨h0, Or.inr ⟨g, cap, cur, rfl, hg, hk _ _ _ hh, r⟩⟩
theorem OwnsN.fr {w w' : World} {v : Value} {l : List Int} {B B' e : Nat} (h : OwnsN B w v l) (hf : Fr B' e w w') (he : 3 ≠ e) : OwnsN B w' v l := h.of_heap fun _ _ _ hh => hf.keep hh he
theorem OwnsN.setBox {B g i : Nat} {k : ByteArray} {x y : Value} {w : World} (hb : VBox g k x w) (v : Value) (p : List Int) (h : OwnsN B w v p) : OwnsN B (w.setCell ⟨g, i, none⟩ y) v p :=
  h.of_heap fun b cur f hh => by
    rw [Below.heap_setCell _ _ _ _ (fun e => by
      dsimp only at e
      subst e
      unfold VBox at hb
      rw [hh] at hb
      simp at hb)]
    exact hh
/-- The stages' slices hold their numbers, in rows of the call's own. -/
def All3 (B : Nat) (w : World) : List Value → List (List Int) → Prop
  | [], [] => True
  | v :: vs, p :: ps => OwnsN B w v p ∧ All3 B w vs ps
  | _, _ => False
theorem All3.mono {B : Nat} {w w' : World} (hm : ∀ v p, OwnsN B w v p → OwnsN B w' v p) : ∀ {vs ps}, All3 B w vs ps → All3 B w' vs ps
  | [], [], _ => trivial
  | _ :: _, _ :: _, h => ⟨hm _ _ h.1, All3.mono hm h.2⟩
  | [], _ :: _, h => h.elim
  | _ :: _, [], h => h.elim
theorem All3.base {B B' : Nat} {w : World} (hB : B' ≤ B) : ∀ {vs ps}, All3 B w vs ps → All3 B' w vs ps
  | [], [], _ => trivial
  | _ :: _, _ :: _, h => ⟨h.1.mono hB, All3.base hB h.2⟩
  | [], _ :: _, h => h.elim
  | _ :: _, [], h => h.elim
theorem All3.snoc {B : Nat} {w : World} {v : Value} {p : List Int} (hp : OwnsN B w v p) : ∀ {vs ps}, All3 B w vs ps → All3 B w (vs ++ [v]) (ps ++ [p])
  | [], [], _ => ⟨hp, trivial⟩
  | _ :: _, _ :: _, h => ⟨h.1, All3.snoc hp h.2⟩
  | [], _ :: _, h => h.elim
  | _ :: _, [], h => h.elim
theorem All3.two {B : Nat} {w : World} : ∀ {vs ps}, All3 B w vs ps → All2 w vs ps
  | [], [], _ => trivial
  | _ :: _, _ :: _, h => ⟨h.1.ints, All3.two h.2⟩
  | [], _ :: _, h => h.elim
  | _ :: _, [], h => h.elim
theorem All3.get {B : Nat} {w : World} : ∀ {vs ps}, All3 B w vs ps → ∀ i (h1 : i < vs.length) (h2 : i < ps.length), OwnsN B w vs[i] ps[i]
  | _ :: _, _ :: _, h, 0, _, _ => h.1
  | _ :: _, _ :: _, h, i + 1, h1, h2 => All3.get h.2 i (by simpa using h1) (by simpa using h2)
  | [], [], _, _, h1, _ => absurd h1 (by simp)
  | [], _ :: _, h, _, _, _ => h.elim
  | _ :: _, [], h, _, _, _ => h.elim
theorem OwnsV.mono {B B' : Nat} {w : World} {v : Value} {l : List Value} (h : OwnsV B w v l) (hB : B' ≤ B) : OwnsV B' w v l := by
  obtain ⟨h0, ⟨rfl, h1⟩ | ⟨g, cap, cur, rfl, hg, r⟩⟩ := h
  · exact ⟨h0, Or.inl ⟨rfl, h1⟩⟩
  · exact ⟨h0, Or.inr ⟨g, cap, cur, rfl, Nat.le_trans hB hg, r⟩⟩
theorem OwnsV.stages3 {B B' : Nat} {w : World} {v : Value} {vs : List Value} {ss : List (List Int)} (h : OwnsV B w v vs) (ha : All3 B' w vs ss) : ∃ a c, v = .slice a ss.length c ∧ StagesAt w a ss := h.stages ha.two
end Go.Proofs.Ytpfcoaimciojjaa
namespace Go.Proofs.Ytpfcoaimciojjaa
open Go.RowKit

/-- Blocks of numbers stay such, and as long. -/
def NumB (w w' : World) : Prop := ∀ (g : Nat) (cur : Array Value), w.heap[g]? = some (.cells cur 3 (0, 0)) → ∃ cur', w'.heap[g]? = some (.cells cur' 3 (0, 0)) ∧ cur'.size = cur.size
theorem NumB.refl (w : World) : NumB w w := fun _ cur h => ⟨cur, h, rfl⟩
theorem NumB.trans {a b c : World} (h : NumB a b) (k : NumB b c) : NumB a c := fun g cur hc => by
  obtain ⟨c1, h1, s1⟩ := h g cur hc
  obtain ⟨c2, h2, s2⟩ := k g c1 h1
  exact ⟨c2, h2, s2.trans s1⟩
/-- A row of numbers of the call's own, whatever they are. -/
def ShpN (B : Nat) (w : World) (v : Value) : Prop := v = .slice none 0 0 ∨ ∃ g n cap cur, v = .slice (some ⟨g, 0, none⟩) n cap ∧ B ≤ g ∧ w.heap[g]? = some (.cells cur 3 (0, 0)) ∧ cur.size = cap ∧ n ≤ cap ∧ cap ≤ 9223372036854775807
theorem OwnsN.shp {B : Nat} {w : World} {v : Value} {l : List Int} (h : OwnsN B w v l) : ShpN B w v := by
  obtain ⟨_, ⟨rfl, _⟩ | ⟨g, cp, cur, rfl, hg, hh, hn, hm, hc, _⟩⟩ := h
  · exact Or.inl rfl
  · exact Or.inr ⟨g, _, cp, cur, rfl, hg, hh, by omega, hn, by unfold maxLen at hm; omega⟩
theorem ShpN.num {B : Nat} {w w' : World} {v : Value} (h : ShpN B w v) (hk : NumB w w') : ShpN B w' v := by
  rcases h with rfl | ⟨g, n, cap, cur, rfl, h1, h2, h3, h4, h5⟩
  · exact Or.inl rfl
  · obtain ⟨c', h6, h7⟩ := hk g cur h2
    exact Or.inr ⟨g, n, cap, c', rfl, h1, h6, h7.trans h3, h4, h5⟩
/-- What a spoiling leaves: but for blocks of numbers from B on all is as it was. -/
structure Splt (B : Nat) (w w' : World) : Prop where
  bel : Below B w w'
  num : NumB w w'
  oth : ∀ k, k < w.heap.size → (∀ cur f, w.heap[k]? ≠ some (.cells cur 3 f)) → w'.heap[k]? = w.heap[k]?
theorem Splt.refl (B : Nat) (w : World) : Splt B w w := ⟨Below.refl _ _, NumB.refl _, fun _ _ _ => rfl⟩
theorem Splt.trans {B : Nat} {a b c : World} (h : Splt B a b) (k : Splt B b c) : Splt B a c :=
  ⟨h.bel.trans k.bel, h.num.trans k.num, fun j hj hn => by
    have e1 := h.oth j hj hn
    rw [k.oth j (by have := h.bel.size; omega) (fun cur f => by rw [e1]; exact hn cur f), e1]⟩
theorem Splt.set {B g i : Nat} {w : World} {cur : Array Value} (hB : B ≤ g) (hh : w.heap[g]? = some (.cells cur 3 (0, 0))) (v : Value) : Splt B w (w.setCell ⟨g, i, none⟩ v) := by
  have hb : CBox g cur 3 w := hh
  refine ⟨(Below.refl _ _).setCell (p := ⟨g, i, none⟩) hB v, fun k c hc => ?_, fun k _ hn => ?_⟩
  · by_cases he : k = g
    · subst he
      have hbs : CBox k (cur.setIfInBounds i v) 3 (w.setCell ⟨k, i, none⟩ v) := hb.set i v
      rw [hh] at hc
      injection hc with hc
      injection hc with hc
      exact ⟨_, hbs, by rw [Array.size_setIfInBounds, hc]⟩
    · exact ⟨c, (Below.heap_setCell _ _ _ _ he).trans hc, rfl⟩
  · exact Below.heap_setCell _ _ _ _ (fun e => by dsimp only at e; subst e; exact hn _ _ hh)
set_option maxHeartbeats 1000000 in
set_option maxRecDepth 100000 in
theorem spoilInts_shp (B : Nat) (v : Value) (m : Int) (w : World) (h : ShpN B w v) :
    Calls Try.prog 38 #[v, .int .i64 m] w fun r w' => r = .returned (.tuple #[]) ∧ Splt B w w' := by
  rcases h with rfl | ⟨g, n, cap, cur, rfl, h1, h2, h3, h4, h5⟩
  · go_enter Try.func38, Try.ntmps38
    go_wp2_with fail
    go_loopw [4] (fun i wr => i = .int .i64 0 ∧ wr = w) (fun _ _ => 0)
    case atStart => exact ⟨rfl, rfl⟩
    case round =>
      obtain ⟨rfl, rfl⟩ := hrel
      go_wp2
      go_end0
      exact ⟨rfl, Splt.refl _ _⟩
  · have HS0 : Hid (∃ c, w.heap[g]? = some (.cells c 3 (0, 0)) ∧ c.size = cap) := hide ⟨cur, h2, h3⟩
    clear h2 h3
    have h4' : (n : Int) ≤ (cap : Int) := by omega
    go_enter Try.func38, Try.ntmps38
    go_wp2_with fail
    go_loopw [4] (fun i wr => ∃ k : Nat, k ≤ cap ∧ i = .int .i64 (k : Int) ∧ Hid (∃ c, wr.heap[g]? = some (.cells c 3 (0, 0)) ∧ c.size = cap) ∧ Hid (Splt B w wr)) (fun i _ => cap - (intOf i).toNat)
    case atStart => exact ⟨0, Nat.zero_le _, rfl, HS0, hide (Splt.refl _ _)⟩
    case round =>
      obtain ⟨k, hk, rfl, HB, HK⟩ := hrel
      clear HS0
      by_cases hlt : k < cap
      · have hli : (k : Int) < (cap : Int) := by omega
        obtain ⟨c, hb, hc⟩ := unhide HB
        have hb' : CBox g c 3 wr := hb
        have cu : wr.cell? ⟨g, k, none⟩ = some (c[k]'(by omega)) := hb'.cell (Array.getElem?_eq_getElem (by omega))
        have fz := hb'.froz k
        have HB2 : Hid (∃ c, (wr.setCell ⟨g, k, none⟩ (.int .i64 m)).heap[g]? = some (.cells c 3 (0, 0)) ∧ c.size = cap) := hide ⟨_, hb'.set k (.int .i64 m), by rw [Array.size_setIfInBounds]; exact hc⟩
        have HK2 := hide ((unhide HK).trans (Splt.set (i := k) h1 hb (.int .i64 m)))
        generalize c[k]'(by omega) = u at *
        clear hb hb' HB HK hc
        go_wp2
        go_roundw
        case rel => exact ⟨k + 1, by omega, by go_num, HB2, HK2⟩
        case measure => simp [intOf]; omega
      · obtain rfl : k = cap := by omega
        have hkk : ¬ (k : Int) < (k : Int) := by omega
        go_wp2
        go_end0
        exact ⟨rfl, unhide HK⟩
/-- Stages of the call's own, whatever their numbers. -/
structure StS (B q : Nat) (sv : Value) (vs : List Value) (w : World) : Prop where
  box : ∃ k, CBox q #[.string k, sv] 35 w
  row : OwnsV B w sv vs
  inn : ∀ v ∈ vs, ShpN B w v
theorem StS.splt {B q : Nat} {sv : Value} {vs : List Value} {w w' : World} (h : StS B q sv vs w) (hk : Splt B w w') : StS B q sv vs w' := by
  obtain ⟨⟨k, hb⟩, hr, hi⟩ := h
  have hb' : w.heap[q]? = some (.cells #[.string k, sv] 35 (0, 0)) := hb
  refine ⟨⟨k, ?_⟩, ?_, fun v hv => (hi v hv).num hk.num⟩
  · refine (hk.oth q (Array.getElem?_eq_some_iff.1 hb').1 (fun cur f hc => ?_)).trans hb'
    rw [hb'] at hc
    injection hc with e; injection e with _ e; exact absurd e (by decide)
  · obtain ⟨h0, ⟨rfl, h1⟩ | ⟨g, cap, cur, rfl, hg, hh, r⟩⟩ := hr
    · exact ⟨h0, Or.inl ⟨rfl, h1⟩⟩
    · refine ⟨h0, Or.inr ⟨g, cap, cur, rfl, hg, ?_, r⟩⟩
      refine (hk.oth g (Array.getElem?_eq_some_iff.1 hh).1 (fun c f hc => ?_)).trans hh
      rw [hh] at hc
      injection hc with e; injection e with _ e; exact absurd e (by decide)
set_option maxHeartbeats 1000000 in
set_option maxRecDepth 100000 in
theorem spoilMatches_one (B q : Nat) (a : Option Addr) (c : Nat) (vs : List Value) (w : World) (hq : B ≤ q) (hvl : vs.length ≤ 1000000) (h : StS B q (.slice a vs.length c) vs w) :
    Calls Try.prog 21 #[.slice (some ⟨q, 0, none⟩) 1 1] w fun r w' => r = .returned (.tuple #[]) ∧ Below B w w' := by
  have HS := hide h
  clear h
  go_enter Try.func21, Try.ntmps21
  go_wp2_with fail
  go_loopw [2] (fun i wr => ((i = .int .i64 0 ∧ Hid (StS B q (.slice a vs.length c) vs wr)) ∨ i = .int .i64 1) ∧ Hid (Below B w wr)) (fun i _ => 1 - (intOf i).toNat)
  case atStart => exact ⟨Or.inl ⟨rfl, HS⟩, hide (Below.refl _ _)⟩
  case round =>
    obtain ⟨hor, HB⟩ := hrel
    clear HS
    rcases hor with ⟨rfl, HS2⟩ | rfl
    · go_wp2_with fail
      go_loopw [3] (fun i wr => ∃ j : Nat, j ≤ vs.length ∧ i = .int .i64 (j : Int) ∧ Hid (StS B q (.slice a vs.length c) vs wr) ∧ Hid (Below B w wr)) (fun i _ => vs.length - (intOf i).toNat)
      case atStart => exact ⟨0, Nat.zero_le _, rfl, HS2, HB⟩
      case round =>
        obtain ⟨j, hj, rfl, HS3, HB3⟩ := hrel
        clear HS2 HB
        obtain ⟨kk, hbx⟩ := (unhide HS3).box
        have c0 : wr.cell? ⟨q, 0, none⟩ = some (.string kk) := hbx.cell rfl
        have c1 : wr.cell? ⟨q, 1, none⟩ = some (.slice a vs.length c) := hbx.cell rfl
        have f0 := hbx.froz 0
        by_cases hlt : j < vs.length
        · have hlt' : (j : Int) < (vs.length : Int) := by omega
          obtain ⟨g, hg, e1⟩ : ∃ g, a = some ⟨g, 0, none⟩ ∧ wr.cell? ⟨g, j, none⟩ = some vs[j] := by
            have hr := (unhide HS3).row
            obtain ⟨_, ⟨e, hz⟩ | ⟨g, cap, cur, e, _⟩⟩ := id hr
            · omega
            · simp only [Value.slice.injEq] at e
              obtain ⟨rfl, _, rfl⟩ := e
              exact ⟨g, rfl, by rw [World.ownsRow.cellAt hr j (by omega), List.getElem?_eq_getElem hlt]⟩
          subst hg
          have SI := hide (spoilInts_shp B vs[j] (-3) wr ((unhide HS3).inn _ (List.getElem_mem hlt)))
          have hone : vs[j].oneCell' = true := by
            rcases (unhide HS3).inn _ (List.getElem_mem hlt) with e | ⟨_, _, _, _, e, _⟩ <;> (rw [e]; rfl)
          generalize vs[j] = u at *
          clear hbx f0
          go_wp2_with fail
          refine (unhide SI).mono ?_
          rintro r w4 ⟨rfl, hs⟩
          have HS4 := hide ((unhide HS3).splt hs)
          have HB4 := hide ((unhide HB3).trans hs.bel)
          clear hs SI HS3 HB3 c0 c1 e1
          go_wp2
          go_roundw
          case rel => exact ⟨j + 1, by omega, by go_num, HS4, HB4⟩
          case measure => simp [intOf]; omega
        · have hlt' : ¬ ((j : Int) < (vs.length : Int)) := by omega
          have HB5 := hide ((unhide HB3).setCell (p := ⟨q, 0, none⟩) hq (.string ⟨#[115, 112, 111, 105, 108, 116]⟩))
          clear hbx
          go_wp2
          go_roundw
          case rel => exact ⟨Or.inr rfl, HB5⟩
          case measure => simp [intOf]
    · go_wp2
      go_end0
      exact ⟨rfl, unhide HB⟩
end Go.Proofs.Ytpfcoaimciojjaa
namespace Go.Proofs.Ytpfcoaimciojjaa
open Go.RowKit

def numR (l : List It) (at_ : Nat) : Int := match l[at_]? with
  | some y => if nupB y 1073741824 = true then y.n else -1
  | none => -1
set_option maxHeartbeats 2000000 in
set_option maxRecDepth 100000 in
theorem refPlace_any (ad : Option Addr) (cap : Nat) (l : List It) (at_ : Nat) (w : World) (hA : ItemsAt w ad l) :
    Calls Try.prog 35 #[.slice ad l.length cap, .int .i64 (at_ : Int)] w fun r w' => r = .returned (.int .i64 (numR l at_)) ∧ w' = w := by
  by_cases hlt : at_ < l.length
  · obtain ⟨b, off, rfl, _, hc⟩ := hA (fun e => by rw [e] at hlt; simp at hlt)
    obtain ⟨c0, c1, c2⟩ := hc at_ hlt
    have hn : numR l at_ = if nupB l[at_] 1073741824 = true then l[at_].n else -1 := by unfold numR; rw [List.getElem?_eq_getElem hlt]
    rw [hn]
    have hlt' : ¬ ((l.length : Int) ≤ (at_ : Int)) := by omega
    have hlti : (at_ : Int) < (l.length : Int) := by omega
    clear hn hc
    generalize l[at_] = y at *
    obtain ⟨yt, yn, ys⟩ := y
    unfold nupB
    dsimp only at *
    cases yt with
    | true =>
      have e : (!true && decide (0 ≤ yn) && decide (yn ≤ 1073741824)) = false := rfl
      rw [if_neg (by rw [e]; simp)]
      clear e
      go_enter Try.func35, Try.ntmps35
      go_wp2
      go_ret
      exact ⟨rfl, rfl⟩
    | false =>
      by_cases h0 : 0 ≤ yn
      · by_cases h1 : yn ≤ 1073741824
        · rw [if_pos (by simp [h0, h1])]
          have g0 : ¬ yn < 0 := by omega
          have g1 : ¬ 1073741824 < yn := by omega
          clear h0 h1
          go_enter Try.func35, Try.ntmps35
          go_wp2
          go_ret
          exact ⟨rfl, rfl⟩
        · rw [if_neg (by simp [h1])]
          have g0 : ¬ yn < 0 := by omega
          have g1 : 1073741824 < yn := by omega
          clear h0 h1
          go_enter Try.func35, Try.ntmps35
          go_wp2
          go_ret
          exact ⟨rfl, rfl⟩
      · rw [if_neg (by simp [h0])]
        have g0 : yn < 0 := by omega
        clear h0
        go_enter Try.func35, Try.ntmps35
        go_wp2
        go_ret
        exact ⟨rfl, rfl⟩
  · have hn : numR l at_ = -1 := by unfold numR; rw [List.getElem?_eq_none (by omega)]
    rw [hn]
    have hle : (l.length : Int) ≤ (at_ : Int) := by omega
    clear hn hA
    generalize l.length = n at *
    go_enter Try.func35, Try.ntmps35
    go_wp2
    go_ret
    exact ⟨rfl, rfl⟩
end Go.Proofs.Ytpfcoaimciojjaa
