/-
  A slice of parts that comes in as an argument, within the form's own reach: how long it and its texts may be.
  An event that comes in as an argument: its parts.
  A slice of events that comes in as an argument: its events lie where it says.
  What is bound (the names of stages and their last events) as an argument, within the form's own reach.
  ExprHolds is proved: for all parts, every event, all names and their last events the law ExprHolds returns true (whether a condition holds is as the document has it), and its arguments read behind the call as before. Condition: the packages' tables and words, and strconv's and math/bits' variables, read as their own texts lay them (the card ties that to the program).
-/
import Derived.Test.YthipclehhcfahaaGreatDoorHH13
import Derived.SizedLaws
import Derived.Test.YthipclehhcfahaaGreatDoorChecked
import Derived.Test.YthipclehhcfahaaGreatDoorHH08
import Derived.ProofKit
import Derived.OpenShut
import Derived.Deep.Slices
import Derived.Test.YthipclehhcfahaaGreatDoorHH16
import Derived.SliceStrings
import Derived.Test.YthipclehhcfahaaGreatDoorCards
import Derived.Test.YthipclehhcfahaaGreatDoorTie
import Derived.Test.YthipclehhcfahaaGreatDoorHH41
import Derived.Deep.DeepHandedRow
import Derived.Lib.LaidTab
namespace Go.Proofs.YthipclehhcfahaaGreatDoor
open Go.RowKit Go.Deep

theorem bytes_Pt : Tryz.prog.bytesOf 53 = 56 := by kernel_rfl
theorem weightsAll_mem {H : Type} {P : Program} {e : TypeId} {ds : List (DataW H)} {d : DataW H} {n : Nat} (hd : d ∈ ds) (hn : n ∈ d.weights P e) : n ∈ DataW.weightsAll P e ds := by
  induction ds with
  | nil => cases hd
  | cons x r ih =>
    simp only [DataW.weightsAll, List.mem_append]
    rcases List.mem_cons.1 hd with rfl | h
    · exact Or.inl hn
    · exact Or.inr (ih h)
set_option maxRecDepth 100000 in
theorem open_pts3 {H : Type} {enc : TypeId × Value → H} {W : World} {spare : Nat → Bool} {held : Bool} {fuel : Nat} {v : Value} {x : DataW H × List MemPlace}
    (h : DataW.trod enc Tryz.prog W 0 spare held fuel 22 [v] = some x) (hw : ∀ n ∈ x.1.weights Tryz.prog 22, n ≤ reachBytes) :
    ∃ (ad : Option Addr) (cap : Nat) (l : List Pt), v = .slice ad l.length cap ∧ l.length * 56 ≤ 140737488351232 ∧ l.length ≤ cap ∧ PtsAt W ad l ∧ (∀ y ∈ l, y.ok) ∧ (ad = none → cap = 0) ∧ ∀ y ∈ l, y.s.size ≤ 140737488351232 ∧ y.st.size ≤ 140737488351232 := by
  obtain ⟨ad, cap, l, hv, h1, h2, h3⟩ := open_pts h
  obtain ⟨f0, f1, f2, f3, f4, hu, t0, t1, t2, t3, t4, o0, o1, o2, o3, o4⟩ := open_pts_fields
  rcases open_slice Tryz.underlying22 h with ⟨hcs, _⟩ | ⟨a, len, cap', m, n, D, Pl, hcs, hb, hl, hm, hmm, rfl, hx⟩
  · simp only [List.cons.injEq, and_true] at hcs
    rw [hv] at hcs
    simp only [Value.slice.injEq] at hcs
    have hl0 : l = [] := List.eq_nil_of_length_eq_zero hcs.2.1
    subst hl0
    exact ⟨ad, cap, [], hv, by simp, by simp, h2, h3, fun _ => hcs.2.2, by simp⟩
  · simp only [List.cons.injEq, and_true] at hcs
    rw [hv] at hcs
    simp only [Value.slice.injEq] at hcs
    obtain ⟨rfl, hll, rfl⟩ := hcs
    have hlm : len ≤ m := by rw [hmm]; split <;> omega
    have hw0 : (len + (m - len)) * 56 ≤ reachBytes := by
      have := hw ((len + (m - len)) * 56) (by simp [DataW.weights, Tryz.underlying22, bytes_Pt])
      exact this
    have hreach : reachBytes = 140737488351232 := by decide
    refine ⟨some a, cap, l, hv, by omega, by omega, h2, h3, (by intro e; cases e), fun y hy => ?_⟩
    obtain ⟨i, hi, rfl⟩ := List.mem_iff_getElem.1 hy
    obtain ⟨b, off, ea, _, hc⟩ := h2 (fun e => by rw [e] at hi; simp at hi)
    obtain rfl := Option.some.inj ea
    obtain ⟨cs', k1, k2⟩ := hx i (by omega)
    rw [open_pts_cells] at k1
    obtain ⟨_, hlen, hcell⟩ := World.cells?_some k1
    obtain ⟨xs, k, hk, hxy, _, hxl, hf⟩ := DataW.trod_struct hu k2
    match xs, hxl, cs', hlen with
    | [y0, y1, y2, y3, y4], _, [v0, v1, v2, v3, v4], _ =>
      have g2 := hf 2 f2 rfl
      have g3 := hf 3 f3 rfl
      simp [o2, o3, t2, t3, open_pts_cells_string] at g2 g3
      have e2 := hcell 2 (by omega)
      have e3 := hcell 3 (by omega)
      rw [Go.Deep.add_add] at e2 e3
      obtain ⟨s, q2, q3, _⟩ := DataW.trod_string Tryz.underlying9 g2
      obtain ⟨s', q2', q3', _⟩ := DataW.trod_string Tryz.underlying9 g3
      simp only [List.cons.injEq, and_true] at q2 q2'
      subst q2 q2'
      have c2 := (hc i hi).2.2.1
      have c3 := (hc i hi).2.2.2.1
      rw [Go.WideShapes.add_plain] at e2 e3
      have e2' : W.cell? ⟨b, off + i * 5 + 2, none⟩ = some (.string s) := by rw [Nat.add_assoc]; simpa using e2
      have e3' : W.cell? ⟨b, off + i * 5 + 3, none⟩ = some (.string s') := by rw [Nat.add_assoc]; simpa using e3
      rw [c2] at e2'
      rw [c3] at e3'
      simp only [Option.some.injEq, Value.string.injEq] at e2' e3'
      rw [e2', e3']
      have hD : D i = .agg [y0.1, y1.1, y2.1, y3.1, y4.1] := by have := congrArg Prod.fst hxy; simpa using this
      have hwt : s.size ∈ (D i).weights Tryz.prog 53 := by
        rw [hD]
        simp only [DataW.weights, hu]
        refine DataW.weights_mem_each (j := 2) (t := 9) (d := y2.1) (by simp [t2]) rfl _ ?_
        rw [q3]
        simp [DataW.weights]
      have hwt' : s'.size ∈ (D i).weights Tryz.prog 53 := by
        rw [hD]
        simp only [DataW.weights, hu]
        refine DataW.weights_mem_each (j := 3) (t := 9) (d := y3.1) (by simp [t3]) rfl _ ?_
        rw [q3']
        simp [DataW.weights]
      have r1 := hw s.size (by
        simp only [DataW.weights, Tryz.underlying22, List.mem_cons, List.mem_append]
        exact Or.inr (Or.inl (weightsAll_mem (List.mem_map.2 ⟨i, List.mem_range.2 (by omega), rfl⟩) hwt)))
      have r2 := hw s'.size (by
        simp only [DataW.weights, Tryz.underlying22, List.mem_cons, List.mem_append]
        exact Or.inr (Or.inl (weightsAll_mem (List.mem_map.2 ⟨i, List.mem_range.2 (by omega), rfl⟩) hwt')))
      exact ⟨by omega, by omega⟩
end Go.Proofs.YthipclehhcfahaaGreatDoor
namespace Go.Proofs.YthipclehhcfahaaGreatDoor
open Go.RowKit Go.Deep

theorem cells_Event : Tryz.prog.cellsOf 37 = 7 := by kernel_rfl
theorem cells_i64 : Tryz.prog.cellsOf 2 = 1 := by kernel_rfl
theorem cells_four64 : Tryz.prog.cellsOf 35 = 4 := by kernel_rfl
theorem cells_text : Tryz.prog.cellsOf 9 = 1 := by kernel_rfl
theorem fields_Event : ∃ f0 f1 f2 f3 : Field, Tryz.prog.underlying 37 = some (.struct #[f0, f1, f2, f3]) ∧ f0.type = 9 ∧ f1.type = 9 ∧ f2.type = 35 ∧ f3.type = 9 ∧ f0.offset = 0 ∧ f1.offset = 1 ∧ f2.offset = 2 ∧ f3.offset = 6 :=
  ⟨_, _, _, _, Tryz.underlying37, rfl, rfl, rfl, rfl, rfl, rfl, rfl, rfl⟩
theorem list7 {α : Type} : ∀ (l : List α), l.length = 7 → ∃ a b c d e f g, l = [a, b, c, d, e, f, g]
  | [a, b, c, d, e, f, g], _ => ⟨a, b, c, d, e, f, g, rfl⟩
theorem list4 {α : Type} : ∀ (l : List α), l.length = 4 → ∃ a b c d, l = [a, b, c, d]
  | [a, b, c, d], _ => ⟨a, b, c, d, rfl⟩
section
variable {H : Type} {enc : TypeId × Value → H} {W : World} {spare : Nat → Bool} {held : Bool} {fuel : Nat} {x : DataW H × List MemPlace}
theorem open_event {cs : Array Value} (hsz : cs.size = Tryz.prog.cellsOf 37) (h : DataW.trod enc Tryz.prog W 0 spare held fuel 37 cs.toList = some x) :
    ∃ e : Ev, cs = e.c ∧ e.ok := by
  obtain ⟨f0, f1, f2, f3, hu, t0, t1, t2, t3, o0, o1, o2, o3⟩ := fields_Event
  rw [cells_Event] at hsz
  obtain ⟨xs, n, _, _, _, hxl, hf⟩ := DataW.trod_struct hu h
  obtain ⟨l⟩ := cs
  obtain ⟨v0, v1, v2, v3, v4, v5, v6, rfl⟩ := list7 l hsz
  obtain ⟨y0, y1, y2, y3, rfl⟩ := list4 xs hxl
  have g0 := hf 0 f0 rfl
  have g1 := hf 1 f1 rfl
  have g2 := hf 2 f2 rfl
  have g3 := hf 3 f3 rfl
  simp [o0, o1, o2, o3, t0, t1, t2, t3, cells_text, cells_four64] at g0 g1 g2 g3
  obtain ⟨k, q0, _, hk⟩ := DataW.trod_string Tryz.underlying9 g0
  obtain ⟨t, q1, _, ht⟩ := DataW.trod_string Tryz.underlying9 g1
  obtain ⟨s, q3, _, hs⟩ := DataW.trod_string Tryz.underlying9 g3
  simp only [List.cons.injEq, and_true] at q0 q1 q3
  subst q0 q1 q3
  obtain ⟨zs, m, _, _, _, hzl, hz⟩ := DataW.trod_array Tryz.underlying35 g2
  obtain ⟨z0, z1, z2, z3, rfl⟩ := list4 zs hzl
  have a0 := hz 0 (by omega)
  have a1 := hz 1 (by omega)
  have a2 := hz 2 (by omega)
  have a3 := hz 3 (by omega)
  simp [cells_i64] at a0 a1 a2 a3
  obtain ⟨n0, p0, _, w0⟩ := DataW.trod_int Tryz.underlying2 a0
  obtain ⟨n1, p1, _, w1⟩ := DataW.trod_int Tryz.underlying2 a1
  obtain ⟨n2, p2, _, w2⟩ := DataW.trod_int Tryz.underlying2 a2
  obtain ⟨n3, p3, _, w3⟩ := DataW.trod_int Tryz.underlying2 a3
  simp only [List.cons.injEq, and_true] at p0 p1 p2 p3
  subst p0 p1 p2 p3
  have u0 := bounds_i64 w0
  have u1 := bounds_i64 w1
  have u2 := bounds_i64 w2
  have u3 := bounds_i64 w3
  unfold maxLen at hk ht hs
  exact ⟨⟨k, t, n0, n1, n2, n3, s⟩, rfl, by show k.size ≤ _; omega, by show t.size ≤ _; omega, by show s.size ≤ _; omega, ⟨u0.1, by show n0 < _; omega⟩, ⟨u1.1, by show n1 < _; omega⟩, ⟨u2.1, by show n2 < _; omega⟩, ⟨u3.1, by show n3 < _; omega⟩⟩
end
end Go.Proofs.YthipclehhcfahaaGreatDoor
namespace Go.Proofs.YthipclehhcfahaaGreatDoor
open Go.RowKit Go.Deep

theorem open_events {H : Type} {enc : TypeId × Value → H} {W : World} {spare : Nat → Bool} {held : Bool} {fuel : Nat} {v : Value} {x : DataW H × List MemPlace}
    (h : DataW.trod enc Tryz.prog W 0 spare held fuel 38 [v] = some x) :
    ∃ (ad : Option Addr) (cap : Nat) (l : List Ev), v = .slice ad l.length cap ∧ l.length ≤ 9223372036854775807 ∧ EvsAt W ad l ∧ ∀ y ∈ l, y.ok := by
  rcases open_slice Tryz.underlying38 h with ⟨hcs, _⟩ | ⟨a, len, cap, m, n, D, Pl, hcs, hb, hl, hm, hmm, _, hx⟩
  · simp only [List.cons.injEq, and_true] at hcs
    subst hcs
    exact ⟨none, 0, [], rfl, by simp, fun hne => absurd rfl hne, by simp⟩
  · simp only [List.cons.injEq, and_true] at hcs
    subst hcs
    have hlm : len ≤ m := by rw [hmm]; split <;> omega
    have each : ∀ i, i < len → ∃ y : Ev, (∀ (j : Nat) (u : Value), y.c[j]? = some u → W.cell? (a.add (i * 7 + j)) = some u) ∧ y.ok := by
      intro i hi
      obtain ⟨cs', h1, h2⟩ := hx i (by omega)
      rw [cells_Event] at h1
      obtain ⟨_, hlen, hcell⟩ := World.cells?_some h1
      obtain ⟨y, hy, hok⟩ := open_event (cs := cs'.toArray) (by rw [cells_Event]; simpa using hlen) (by simpa using h2)
      refine ⟨y, fun j u hu => ?_, hok⟩
      rw [← hy] at hu
      have hj : j < cs'.length := by
        have := (Array.getElem?_eq_some_iff.1 hu).1
        simpa using this
      have e0 := hcell j (by omega)
      rw [Go.Deep.add_add] at e0
      rw [e0]
      simpa using hu
    have hinh : Inhabited Ev := ⟨⟨⟨#[]⟩, ⟨#[]⟩, 0, 0, 0, 0, ⟨#[]⟩⟩⟩
    obtain ⟨q, hq⟩ := choose_lt each
    refine ⟨some a, cap, (List.range len).map q, by simp, by simp; unfold maxLen at hm; omega, fun hne => ?_, fun y hy => ?_⟩
    · have h0 : 0 < len := by
        rcases Nat.eq_zero_or_pos len with e | e
        · subst e; simp at hne
        · exact e
      obtain ⟨b, off, spot⟩ := a
      have hc0 := (hq 0 h0).1 0 _ rfl
      have hspot : spot = none := by simpa [Addr.add] using World.cell?_spot hc0
      subst hspot
      refine ⟨b, off, rfl, ?_, fun i e hi j u hu => ?_⟩
      · rcases Nat.lt_or_ge b W.heap.size with hlt | hge
        · exact hlt
        · exfalso
          rw [Go.WideShapes.add_plain] at hc0
          simp [World.cell?, Array.getElem?_eq_none hge] at hc0
      · have hi' : i < len := by
          have := (List.getElem?_eq_some_iff.1 hi).1
          simpa using this
        have he : e = q i := by
          rw [List.getElem?_map, List.getElem?_range hi'] at hi
          simpa using hi.symm
        subst he
        have := (hq i hi').1 j u hu
        rw [Go.WideShapes.add_plain] at this
        rw [Nat.add_assoc]
        exact this
    · obtain ⟨i, hi, rfl⟩ := List.mem_map.1 hy
      exact (hq i (List.mem_range.1 hi)).2
end Go.Proofs.YthipclehhcfahaaGreatDoor
namespace Go.Proofs.YthipclehhcfahaaGreatDoor
open Go.RowKit Go.Deep Go.ChangeShapes

theorem bytes_Ev : Tryz.prog.bytesOf 37 = 80 := by kernel_rfl
theorem cells_Bd : Tryz.prog.cellsOf 40 = 2 := by kernel_rfl
theorem cells_strs : Tryz.prog.cellsOf 28 = 1 := by kernel_rfl
theorem cells_evs : Tryz.prog.cellsOf 38 = 1 := by kernel_rfl
theorem cells_str : Tryz.prog.cellsOf 9 = 1 := by kernel_rfl
theorem fields_Bd : ∃ f0 f1 : Field, Tryz.prog.underlying 40 = some (.struct #[f0, f1]) ∧ f0.type = 28 ∧ f1.type = 38 ∧ f0.offset = 0 ∧ f1.offset = 1 :=
  ⟨_, _, Tryz.underlying40, rfl, rfl, rfl, rfl⟩
theorem open_names {H : Type} {enc : TypeId × Value → H} {W : World} {fuel : Nat} {held : Bool} {v : Value} {x : DataW H × List MemPlace}
    (h : DataW.trod enc Tryz.prog W 0 (fun _ => true) held fuel 28 [v] = some x) :
    ∃ (ad : Option Addr) (cap : Nat) (l : List ByteArray), v = .slice ad l.length cap ∧ l.length ≤ 9223372036854775807 ∧ NmsAt W ad l := by
  rcases open_strings Tryz.underlying28 Tryz.underlying9 cells_str h with ⟨hcs, _⟩ | ⟨a, len, cap, ss, hcs, hb, hl, hm, hz, _, hcell, hws⟩
  · simp only [List.cons.injEq, and_true] at hcs
    subst hcs
    exact ⟨none, 0, [], rfl, by simp, fun hne => absurd rfl hne⟩
  · simp only [List.cons.injEq, and_true] at hcs
    subst hcs
    rw [if_pos rfl] at hz
    have hlen : (ss.take len).length = len := by rw [List.length_take]; omega
    refine ⟨some a, cap, ss.take len, by rw [hlen], by rw [hlen]; unfold maxLen at hm; omega, fun hne => ?_⟩
    have h0 : 0 < len := by
      rcases Nat.eq_zero_or_pos len with e | e
      · subst e; simp at hne
      · exact e
    obtain ⟨b, off, spot⟩ := a
    have hc0 := hcell 0 (by omega)
    have hspot : spot = none := by simpa [Addr.add] using World.cell?_spot hc0
    subst hspot
    refine ⟨b, off, rfl, ?_, fun i hi => ?_⟩
    · rcases Nat.lt_or_ge b W.heap.size with hlt | hge
      · exact hlt
      · exfalso
        rw [Go.WideShapes.add_plain] at hc0
        simp [World.cell?, Array.getElem?_eq_none hge] at hc0
    · rw [hlen] at hi
      have c := hcell i (by omega)
      rw [Go.WideShapes.add_plain] at c
      rw [c]
      have hi2 : i < ss.length := by omega
      simp only [List.getElem_take]
      rw [List.getD_eq_getElem?_getD, List.getElem?_eq_getElem hi2]
      rfl
theorem open_events3 {H : Type} {enc : TypeId × Value → H} {W : World} {spare : Nat → Bool} {held : Bool} {fuel : Nat} {v : Value} {x : DataW H × List MemPlace}
    (h : DataW.trod enc Tryz.prog W 0 spare held fuel 38 [v] = some x) (hw : ∀ n ∈ x.1.weights Tryz.prog 38, n ≤ reachBytes) :
    ∃ (ad : Option Addr) (cap : Nat) (l : List Ev), v = .slice ad l.length cap ∧ l.length * 80 ≤ 140737488351232 ∧ EvsAt W ad l ∧ (∀ y ∈ l, y.ok) ∧ (ad = none → l = [] ∧ cap = 0) := by
  obtain ⟨ad, cap, l, hv, h1, h2, h3⟩ := open_events h
  rcases open_slice Tryz.underlying38 h with ⟨hcs, _⟩ | ⟨a, len, cap', m, n, D, Pl, hcs, hb, hl, hm, hmm, rfl, hx⟩
  · simp only [List.cons.injEq, and_true] at hcs
    rw [hv] at hcs
    simp only [Value.slice.injEq] at hcs
    have hl0 : l = [] := List.eq_nil_of_length_eq_zero hcs.2.1
    subst hl0
    exact ⟨ad, cap, [], hv, by simp, h2, h3, fun _ => ⟨rfl, hcs.2.2⟩⟩
  · simp only [List.cons.injEq, and_true] at hcs
    rw [hv] at hcs
    simp only [Value.slice.injEq] at hcs
    obtain ⟨rfl, hll, rfl⟩ := hcs
    have hlm : len ≤ m := by rw [hmm]; split <;> omega
    have hw0 : (len + (m - len)) * 80 ≤ reachBytes := by
      have := hw ((len + (m - len)) * 80) (by simp [DataW.weights, Tryz.underlying38, bytes_Ev])
      exact this
    have hreach : reachBytes = 140737488351232 := by decide
    exact ⟨some a, cap, l, hv, by omega, h2, h3, (by intro e; cases e)⟩
set_option maxRecDepth 100000 in
theorem open_bound {H : Type} {enc : TypeId × Value → H} {W : World} {held : Bool} {fuel : Nat} {cs : Array Value} {x : DataW H × List MemPlace} (hsz : cs.size = Tryz.prog.cellsOf 40)
    (h : DataW.trod enc Tryz.prog W 0 (fun _ => true) held fuel 40 cs.toList = some x) (hw : ∀ n ∈ x.1.weights Tryz.prog 40, n ≤ reachBytes) :
    ∃ (an : Option Addr) (cn : Nat) (ns : List ByteArray) (al : Option Addr) (cl : Nat) (la : List Ev), cs = #[.slice an ns.length cn, .slice al la.length cl] ∧ ns.length ≤ 9223372036854775807 ∧ NmsAt W an ns ∧ la.length * 80 ≤ 140737488351232 ∧ EvsAt W al la ∧ (al = none → la = [] ∧ cl = 0) := by
  obtain ⟨f0, f1, hu, t0, t1, o0, o1⟩ := fields_Bd
  rw [cells_Bd] at hsz
  obtain ⟨xs, n, hk, hxy, _, hxl, hf⟩ := DataW.trod_struct hu h
  obtain ⟨l⟩ := cs
  match xs, hxl, l, hsz with
  | [y0, y1], _, [v0, v1], _ =>
    have g0 := hf 0 f0 rfl
    have g1 := hf 1 f1 rfl
    simp [o0, o1, t0, t1, cells_strs, cells_evs] at g0 g1
    have hD : x.1 = .agg [y0.1, y1.1] := by have := congrArg Prod.fst hxy; simpa using this
    obtain ⟨an, cn, ns, rfl, n1, n2⟩ := open_names g0
    obtain ⟨al, cl, la, rfl, e1, e2, _, e4⟩ := open_events3 g1 (fun m hm => hw m (by
      rw [hD]
      simp only [DataW.weights, hu]
      exact DataW.weights_mem_each (j := 1) (t := 38) (d := y1.1) (by simp [t1]) rfl _ hm))
    exact ⟨an, cn, ns, al, cl, la, rfl, n1, n2, e1, e2, e4⟩
end Go.Proofs.YthipclehhcfahaaGreatDoor
namespace Go.Proofs.YthipclehhcfahaaGreatDoor.exprHolds
open Go.ChangeShapes Go.WideShapes Go.ChangeAt Go.RowKit
open Go.ChangeMaps (open_string shut_string)

theorem own : ownKnob Tryz.prog.godebug = none := by kernel_rfl
theorem laidOut : laidOutB Tryz.prog = true := by kernel_rfl
set_option maxRecDepth 100000 in
/-- What the walk gives, for every argument and every world that holds the table. -/
theorem contract (H : Type) (enc : TypeId × Value → H) (W : World) (base : Nat) (args : Array Value) (ds gs : List (DataW H)) (before : List MemPlace)
    (hval : ∀ (j : Nat) t v, Tryz.f4.params[j]? = some t → args[j]? = some v → Value.okWide Tryz.prog W .any base t v)
    (hW : DataW.Whole enc Tryz.prog Tryz.f4.params.toList Rows.exprHoldsSpec.vars false W args.toList ds gs before) (hsz0 : (DataW.weightsEach Tryz.prog (Tryz.f4.params.toList ++ (OpenSpec.ofChange Rows.exprHoldsSpec).bare.plain.varTypes Tryz.prog) (ds ++ gs)).all (· ≤ reachBytes) = true) (hL : laidMetH Tryz.prog Rows.exprHoldsRow.laid W) :
    Calls Tryz.prog 4 args W fun e W' => ∃ v, e = .returned v ∧ Rows.exprHoldsSpec.post enc Tryz.prog Tryz.f4 false true false false W args v W' := by
  have hW' := hW
  obtain ⟨p, q, hA0, hV, rfl, hfz, hnd⟩ := hW
  have hA : DataW.TrodAll enc Tryz.prog W 0 (fun _ => true) true Tryz.f4.params.toList args.toList ds p := hA0
  rw [Tryz.params4] at hA hval
  have hsz : (DataW.weightsEach Tryz.prog (Tryz.f4.params.toList ++ Rows.exprHoldsSpec.plain.varTypes Tryz.prog) (ds ++ gs)).all (· ≤ reachBytes) = true := hsz0
  rw [Tryz.params4] at hsz
  obtain ⟨v0, vs0, d0, ds0, p0, q0, hargs, rfl, rfl, h0, r0⟩ := trodAll_cons hA
  obtain ⟨v1, vs1, d1, ds1, p1, q1, rfl, rfl, rfl, h1, r1⟩ := trodAll_cons r0
  obtain ⟨v2, vs2, d2, ds2, p2, q2, rfl, rfl, rfl, h2, r2⟩ := trodAll_cons r1
  obtain ⟨rfl, rfl, rfl⟩ := trodAll_nil r2
  obtain rfl : args = #[v0, v1, v2] := by cases args; simp_all
  obtain ⟨rfl, rfl⟩ := trodVars_none hV
  have h0k := h0
  obtain ⟨a0, len0, cp0, rfl⟩ := okWide_slice Tryz.underlying22 (hval 0 22 v0 rfl rfl)
  have z0 : ∀ n ∈ d0.weights Tryz.prog 22, n ≤ reachBytes := fun n hn => of_decide_eq_true (List.all_eq_true.1 hsz n (DataW.weights_mem_each (j := 0) (t := 22) (d := d0) rfl rfl n hn))
  obtain ⟨fuel0, hf0⟩ := h0
  obtain ⟨ad0, cap0, l0, hv0, hl0, hc0, hI0, hok0, hn0, hss0⟩ := open_pts3 (v := .slice a0 len0 cp0) (by simpa [Value.cells] using hf0) z0
  rw [hv0] at hW' h0k ⊢
  clear hf0 hv0
  have h1k := h1
  obtain ⟨cs1, rfl, z1⟩ := okWide_struct Tryz.underlying37 (hval 1 37 v1 rfl rfl)
  obtain ⟨fuel1, hf1⟩ := h1
  obtain ⟨ev1, rfl, ok1⟩ := open_event z1 (by simpa [Value.cells] using hf1)
  clear hf1 ok1
  have z2 : ∀ n ∈ d2.weights Tryz.prog 40, n ≤ reachBytes := fun n hn => of_decide_eq_true (List.all_eq_true.1 hsz n (DataW.weights_mem_each (j := 2) (t := 40) (d := d2) rfl rfl n hn))
  have h2k := h2
  obtain ⟨cs2, rfl, y2⟩ := okWide_struct Tryz.underlying40 (hval 2 40 v2 rfl rfl)
  obtain ⟨fuel2, hf2⟩ := h2
  obtain ⟨an2, cn2, ns2, al2, cl2, la2, rfl, b12, b22, b32, b42, b52⟩ := open_bound y2 (by simpa [Value.cells] using hf2) z2
  clear hf2
  clear hA0
  simp only [List.append_nil] at hW'
  have hlt0 : ∀ x ∈ p0, x.block < W.heap.size := fun x hx => by simpa using hW'.lt x (by simp [hx])
  have hlt1 : ∀ x ∈ p1, x.block < W.heap.size := fun x hx => by simpa using hW'.lt x (by simp [hx])
  have hlt2 : ∀ x ∈ p2, x.block < W.heap.size := fun x hx => by simpa using hW'.lt x (by simp [hx])
  refine (eholds_walk ad0 cap0 l0 ev1 an2 cn2 ns2 al2 cl2 la2 W hl0 hc0 hI0 hok0 hn0 hss0 b12 b22 b32 b42 b52 (tbE hL)).mono fun e W' ⟨he, hg0⟩ => ?_
  subst he
  have hg := hg0.below (Nat.le_refl W.heap.size) (by simp)
  exact ⟨_, rfl, _, _, _, [], p0 ++ (p1 ++ (p2 ++ [])), [], hW', trodAll_cons_mk (shut_bool Tryz.underlying4 _) trodAll_mk0, trodAll_cons_mk (Below.trod laidOut (by kernel_rfl) (of_decide_eq_true (by kernel_rfl)) h0k hg hlt0) (trodAll_cons_mk (Below.trod laidOut (by kernel_rfl) (of_decide_eq_true (by kernel_rfl)) h1k hg hlt1) (trodAll_cons_mk (Below.trod laidOut (by kernel_rfl) (of_decide_eq_true (by kernel_rfl)) h2k hg hlt2) trodAll_mk0)), rfl, hg.frame _, fun h => by cases h⟩

theorem laid_met (os : Os) : laidMet Tryz.prog Rows.exprHoldsRow.laid ({ World.holding Tryz.prog os ⟨errBlks, #[], []⟩ with heap := putL (World.holding Tryz.prog os ⟨errBlks, #[], []⟩).heap }.forCall (fun _ _ => 0) ⟨#[], #[.slice none 0 0, .agg #[.string ⟨#[]⟩, .string ⟨#[]⟩, .int .i64 0, .int .i64 0, .int .i64 0, .int .i64 0, .string ⟨#[]⟩], .agg #[.slice none 0 0, .slice none 0 0]], []⟩).memory :=
  laidMet_of_run' 8 (by kernel_rfl) (by kernel_rfl)
theorem reads (os : Os) {H : Type} (enc : TypeId × Value → H) : ∃ places, DataW.whole enc Tryz.prog ({ World.holding Tryz.prog os ⟨errBlks, #[], []⟩ with heap := putL (World.holding Tryz.prog os ⟨errBlks, #[], []⟩).heap }.forCall (fun _ _ => 0) ⟨#[], #[.slice none 0 0, .agg #[.string ⟨#[]⟩, .string ⟨#[]⟩, .int .i64 0, .int .i64 0, .int .i64 0, .int .i64 0, .string ⟨#[]⟩], .agg #[.slice none 0 0, .slice none 0 0]], []⟩).memory Tryz.f4.params.toList Rows.exprHoldsSpec.vars false #[Value.slice none 0 0, Value.agg #[.string ⟨#[]⟩, .string ⟨#[]⟩, .int .i64 0, .int .i64 0, .int .i64 0, .int .i64 0, .string ⟨#[]⟩], Value.agg #[.slice none 0 0, .slice none 0 0]].toList 8 = some ([.nil, .agg [.lit (.string []), .lit (.string []), .agg [.lit (.int .i64 0), .lit (.int .i64 0), .lit (.int .i64 0), .lit (.int .i64 0)], .lit (.string [])], .agg [.nil, .nil]], [], places) :=
  ⟨[], by kernel_rfl⟩
set_option maxRecDepth 100000 in
theorem lifted (os : Os) (started : os.Started) (H : Type) (enc : TypeId × Value → H) (F : Stop.Interp) :
    ReturnsInHanded {} Tryz.checked os 4 .any ((OpenSpec.ofChange Rows.exprHoldsSpec).preRow enc Tryz.prog Tryz.f4 Rows.exprHoldsRow.domain false Rows.exprHoldsRow.laid) (((OpenSpec.ofChange Rows.exprHoldsSpec).at F).post enc Tryz.prog Tryz.f4 false true false false) := by
  obtain ⟨places, hx⟩ := reads os enc
  refine returnsInHanded_of_row (C := Tryz.checked) (s := OpenSpec.ofChange Rows.exprHoldsSpec) own started (by kernel_rfl) Tryz.func4
    (witness_row_at (enc := enc) (C := Tryz.checked) false { World.holding Tryz.prog os ⟨errBlks, #[], []⟩ with heap := putL (World.holding Tryz.prog os ⟨errBlks, #[], []⟩).heap } #[.slice none 0 0, .agg #[.string ⟨#[]⟩, .string ⟨#[]⟩, .int .i64 0, .int .i64 0, .int .i64 0, .int .i64 0, .string ⟨#[]⟩], .agg #[.slice none 0 0, .slice none 0 0]] rfl (by kernel_rfl) (by kernel_rfl) (by kernel_rfl)
      (OpenSpec.preRow_of_cond 8 hx (by kernel_rfl) (fun k hk => by cases hk) (by kernel_rfl) (laid_met os))) ?_
  intro W base args ds gs before hval hW _ _ hsz hL _ _
  exact contract H enc W base args ds gs before hval hW hsz hL
theorem said : Rows.ExprHoldsSaid :=
  OpenClaim.holds_of_cond 4 Tryz.f4 rfl rfl rfl rfl rfl rfl rfl ⟨rfl, rfl, rfl, rfl, rfl⟩ rfl rfl rfl rfl rfl (by kernel_rfl) Tryz.func4 (by kernel_rfl)
    (of_decide_eq_true (by kernel_rfl)) (by unfold Func.isWrapper; first | (rw [if_pos (by decide +kernel)]; kernel_rfl) | (rw [if_neg (by decide +kernel)]; exact ⟨rfl, rfl⟩))
    (fun os started H enc _ F => by rw [OpenClaim.pre_eq_preRow]; exact lifted os started H enc F)
/-- No parameter wants a stand-in; the program's own looks are off. -/
theorem plain (f : FuncId) (fn : Func) (hf : Tryz.pinned.checked.prog.funcNamed "weaver/weaverlaw11.ExprHolds" = some f) (hfn : Tryz.pinned.checked.prog.funcs[f]? = some fn) :
    true = Tryz.pinned.checked.prog.looks [] ∧ ∀ (j : Nat) t, fn.params[j]? = some t → Tryz.pinned.checked.prog.wantsStandIn t = false := by
  obtain rfl : f = 4 := Option.some.inj ((show Tryz.prog.funcNamed "weaver/weaverlaw11.ExprHolds" = some 4 by kernel_rfl).symm.trans hf) |>.symm
  obtain rfl : fn = Tryz.f4 := (Option.some.inj (Tryz.func4.symm.trans hfn)).symm
  refine ⟨by kernel_rfl, fun j t ht => ?_⟩
  rw [Tryz.params4] at ht
  have hm := Array.mem_of_getElem? ht
  simp at hm
  rcases hm with rfl | rfl | rfl
  · exact (show Tryz.prog.wantsStandIn 22 = false by kernel_rfl)
  · exact (show Tryz.prog.wantsStandIn 37 = false by kernel_rfl)
  · exact (show Tryz.prog.wantsStandIn 40 = false by kernel_rfl)
end Go.Proofs.YthipclehhcfahaaGreatDoor.exprHolds
namespace Go.Proofs.YthipclehhcfahaaGreatDoor
/-- The card. -/
theorem exprHolds_card : Rows.ExprHoldsCardSaid :=
  Claim7.holds_tied_plain_at .later [] _ _ _ _ exprHolds.said (fun _ h => by cases h) (by kernel_rfl) (fun _ h => by cases h) exprHolds_row_tie rfl ⟨rfl, rfl⟩ (by kernel_rfl) rfl exprHolds.plain (by kernel_rfl)
end Go.Proofs.YthipclehhcfahaaGreatDoor
