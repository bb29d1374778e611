/-
  A slice of parts that comes in as an argument, within the form's own reach: how long it and its texts may be.
  A pattern that comes in as an argument: its stages lie where it says.
  Names and events in rows of the call's own, side by side.
-/
import Derived.Test.YthipclehhcfahabGreatDoorHPA17
import Derived.SizedLaws
import Derived.Test.YthipclehhcfahabGreatDoorHPA33
import Derived.ChangeArms
import Derived.Test.YthipclehhcfahabGreatDoorHPA30
import Derived.Test.YthipclehhcfahabGreatDoorHPA22
import Derived.Test.YthipclehhcfahabGreatDoorHPA18
namespace Go.Proofs.YthipclehhcfahabGreatDoor
open Go.RowKit Go.Deep

theorem bytes_Pt : Tryz.prog.bytesOf 69 = 56 := by kernel_rfl
theorem weightsAll_mem {H : Type} {P : Program} {e : TypeId} {ds : List (DataW H)} {d : DataW H} {n : Nat} (hd : d ∈ ds) (hn : n ∈ d.weights P e) : n ∈ DataW.weightsAll P e ds := by
  induction ds with
  | nil => cases hd
  | cons x r ih =>
    simp only [DataW.weightsAll, List.mem_append]
    rcases List.mem_cons.1 hd with rfl | h
    · exact Or.inl hn
    · exact Or.inr (ih h)
set_option maxRecDepth 100000 in
theorem open_pts3 {H : Type} {enc : TypeId × Value → H} {W : World} {spare : Nat → Bool} {held : Bool} {fuel : Nat} {v : Value} {x : DataW H × List MemPlace}
    (h : DataW.trod enc Tryz.prog W 0 spare held fuel 25 [v] = some x) (hw : ∀ n ∈ x.1.weights Tryz.prog 25, n ≤ reachBytes) :
    ∃ (ad : Option Addr) (cap : Nat) (l : List Pt), v = .slice ad l.length cap ∧ l.length * 56 ≤ 140737488351232 ∧ l.length ≤ cap ∧ PtsAt W ad l ∧ (∀ y ∈ l, y.ok) ∧ (ad = none → cap = 0) ∧ ∀ y ∈ l, y.s.size ≤ 140737488351232 ∧ y.st.size ≤ 140737488351232 := by
  obtain ⟨ad, cap, l, hv, h1, h2, h3⟩ := open_pts h
  obtain ⟨f0, f1, f2, f3, f4, hu, t0, t1, t2, t3, t4, o0, o1, o2, o3, o4⟩ := open_pts_fields
  rcases open_slice Tryz.underlying25 h with ⟨hcs, _⟩ | ⟨a, len, cap', m, n, D, Pl, hcs, hb, hl, hm, hmm, rfl, hx⟩
  · simp only [List.cons.injEq, and_true] at hcs
    rw [hv] at hcs
    simp only [Value.slice.injEq] at hcs
    have hl0 : l = [] := List.eq_nil_of_length_eq_zero hcs.2.1
    subst hl0
    exact ⟨ad, cap, [], hv, by simp, by simp, h2, h3, fun _ => hcs.2.2, by simp⟩
  · simp only [List.cons.injEq, and_true] at hcs
    rw [hv] at hcs
    simp only [Value.slice.injEq] at hcs
    obtain ⟨rfl, hll, rfl⟩ := hcs
    have hlm : len ≤ m := by rw [hmm]; split <;> omega
    have hw0 : (len + (m - len)) * 56 ≤ reachBytes := by
      have := hw ((len + (m - len)) * 56) (by simp [DataW.weights, Tryz.underlying25, bytes_Pt])
      exact this
    have hreach : reachBytes = 140737488351232 := by decide
    refine ⟨some a, cap, l, hv, by omega, by omega, h2, h3, (by intro e; cases e), fun y hy => ?_⟩
    obtain ⟨i, hi, rfl⟩ := List.mem_iff_getElem.1 hy
    obtain ⟨b, off, ea, _, hc⟩ := h2 (fun e => by rw [e] at hi; simp at hi)
    obtain rfl := Option.some.inj ea
    obtain ⟨cs', k1, k2⟩ := hx i (by omega)
    rw [open_pts_cells] at k1
    obtain ⟨_, hlen, hcell⟩ := World.cells?_some k1
    obtain ⟨xs, k, hk, hxy, _, hxl, hf⟩ := DataW.trod_struct hu k2
    match xs, hxl, cs', hlen with
    | [y0, y1, y2, y3, y4], _, [v0, v1, v2, v3, v4], _ =>
      have g2 := hf 2 f2 rfl
      have g3 := hf 3 f3 rfl
      simp [o2, o3, t2, t3, open_pts_cells_string] at g2 g3
      have e2 := hcell 2 (by omega)
      have e3 := hcell 3 (by omega)
      rw [Go.Deep.add_add] at e2 e3
      obtain ⟨s, q2, q3, _⟩ := DataW.trod_string Tryz.underlying9 g2
      obtain ⟨s', q2', q3', _⟩ := DataW.trod_string Tryz.underlying9 g3
      simp only [List.cons.injEq, and_true] at q2 q2'
      subst q2 q2'
      have c2 := (hc i hi).2.2.1
      have c3 := (hc i hi).2.2.2.1
      rw [Go.WideShapes.add_plain] at e2 e3
      have e2' : W.cell? ⟨b, off + i * 5 + 2, none⟩ = some (.string s) := by rw [Nat.add_assoc]; simpa using e2
      have e3' : W.cell? ⟨b, off + i * 5 + 3, none⟩ = some (.string s') := by rw [Nat.add_assoc]; simpa using e3
      rw [c2] at e2'
      rw [c3] at e3'
      simp only [Option.some.injEq, Value.string.injEq] at e2' e3'
      rw [e2', e3']
      have hD : D i = .agg [y0.1, y1.1, y2.1, y3.1, y4.1] := by have := congrArg Prod.fst hxy; simpa using this
      have hwt : s.size ∈ (D i).weights Tryz.prog 69 := by
        rw [hD]
        simp only [DataW.weights, hu]
        refine DataW.weights_mem_each (j := 2) (t := 9) (d := y2.1) (by simp [t2]) rfl _ ?_
        rw [q3]
        simp [DataW.weights]
      have hwt' : s'.size ∈ (D i).weights Tryz.prog 69 := by
        rw [hD]
        simp only [DataW.weights, hu]
        refine DataW.weights_mem_each (j := 3) (t := 9) (d := y3.1) (by simp [t3]) rfl _ ?_
        rw [q3']
        simp [DataW.weights]
      have r1 := hw s.size (by
        simp only [DataW.weights, Tryz.underlying25, List.mem_cons, List.mem_append]
        exact Or.inr (Or.inl (weightsAll_mem (List.mem_map.2 ⟨i, List.mem_range.2 (by omega), rfl⟩) hwt)))
      have r2 := hw s'.size (by
        simp only [DataW.weights, Tryz.underlying25, List.mem_cons, List.mem_append]
        exact Or.inr (Or.inl (weightsAll_mem (List.mem_map.2 ⟨i, List.mem_range.2 (by omega), rfl⟩) hwt')))
      exact ⟨by omega, by omega⟩
end Go.Proofs.YthipclehhcfahabGreatDoor
namespace Go.Proofs.YthipclehhcfahabGreatDoor
open Go.RowKit Go.Deep

theorem cells_Stage : Tryz.prog.cellsOf 56 = 4 := by kernel_rfl
theorem cells_Pattern : Tryz.prog.cellsOf 40 = 2 := by kernel_rfl
theorem cells_boolP : Tryz.prog.cellsOf 4 = 1 := by kernel_rfl
theorem cells_partsP : Tryz.prog.cellsOf 25 = 1 := by kernel_rfl
theorem cells_stagesP : Tryz.prog.cellsOf 38 = 1 := by kernel_rfl
theorem bytes_Stage : Tryz.prog.bytesOf 56 = 56 := by kernel_rfl
theorem fields_Stage : ∃ f0 f1 f2 f3 : Field, Tryz.prog.underlying 56 = some (.struct #[f0, f1, f2, f3]) ∧ f0.type = 9 ∧ f1.type = 3 ∧ f2.type = 4 ∧ f3.type = 25 ∧ f0.offset = 0 ∧ f1.offset = 1 ∧ f2.offset = 2 ∧ f3.offset = 3 :=
  ⟨_, _, _, _, Tryz.underlying56, rfl, rfl, rfl, rfl, rfl, rfl, rfl, rfl⟩
theorem fields_Pattern : ∃ f0 f1 : Field, Tryz.prog.underlying 40 = some (.struct #[f0, f1]) ∧ f0.type = 38 ∧ f1.type = 3 ∧ f0.offset = 0 ∧ f1.offset = 1 :=
  ⟨_, _, Tryz.underlying40, rfl, rfl, rfl, rfl⟩
/-- Within the form's own reach: how long a stage's condition and its texts may be. -/
def SR.hv (r : SR) : Prop := r.s.cd.length * 56 ≤ 140737488351232 ∧ r.s.cd.length ≤ r.c ∧ (r.ad = none → r.c = 0) ∧ ∀ y ∈ r.s.cd, y.s.size ≤ 140737488351232 ∧ y.st.size ≤ 140737488351232
section
variable {H : Type} {enc : TypeId × Value → H} {W : World} {spare : Nat → Bool} {held : Bool} {fuel : Nat} {v : Value} {x : DataW H × List MemPlace}
theorem open_ptsB (h : DataW.trod enc Tryz.prog W 0 spare held fuel 25 [v] = some x) :
    ∃ (ad : Option Addr) (cap : Nat) (l : List Pt), v = .slice ad l.length cap ∧ l.length ≤ 9223372036854775807 ∧ PtsAt W ad l ∧ (∀ y ∈ l, y.ok) ∧ ((∀ n ∈ x.1.weights Tryz.prog 25, n ≤ reachBytes) → l.length * 56 ≤ 140737488351232 ∧ l.length ≤ cap ∧ (ad = none → cap = 0) ∧ ∀ y ∈ l, y.s.size ≤ 140737488351232 ∧ y.st.size ≤ 140737488351232) := by
  by_cases hw : ∀ n ∈ x.1.weights Tryz.prog 25, n ≤ reachBytes
  · obtain ⟨ad, cap, l, h1, h2, h3, h4, h5, h6, h7⟩ := open_pts3 h hw
    exact ⟨ad, cap, l, h1, by omega, h4, h5, fun _ => ⟨h2, h3, h6, h7⟩⟩
  · obtain ⟨ad, cap, l, h1, h2, h3, h4⟩ := open_pts h
    exact ⟨ad, cap, l, h1, h2, h3, h4, fun h => absurd h hw⟩
set_option maxRecDepth 100000 in
theorem open_stage {cs : Array Value} (hsz : cs.size = 4) (h : DataW.trod enc Tryz.prog W 0 spare held fuel 56 cs.toList = some x) :
    ∃ r : SR, cs = #[.string r.s.nm, .int .i64 r.s.hw, .bool r.s.mn, .slice r.ad r.s.cd.length r.c] ∧ r.s.ok ∧ PtsAt W r.ad r.s.cd ∧ ((∀ m ∈ x.1.weights Tryz.prog 56, m ≤ reachBytes) → r.hv) := by
  obtain ⟨f0, f1, f2, f3, hu, t0, t1, t2, t3, o0, o1, o2, o3⟩ := fields_Stage
  obtain ⟨xs, n, _, hxe, _, hxl, hf⟩ := DataW.trod_struct hu h
  obtain ⟨l⟩ := cs
  match xs, hxl, l, hsz with
  | [y0, y1, y2, y3], _, [v0, v1, v2, v3], _ =>
    have g0 := hf 0 f0 rfl
    have g1 := hf 1 f1 rfl
    have g2 := hf 2 f2 rfl
    have g3 := hf 3 f3 rfl
    simp [o0, o1, o2, o3, t0, t1, t2, t3, open_pts_cells_string, open_pts_cells_int, cells_boolP, cells_partsP] at g0 g1 g2 g3
    obtain ⟨k0, q0, _, w0⟩ := DataW.trod_string Tryz.underlying9 g0
    obtain ⟨k1, q1, _, w1⟩ := DataW.trod_int Tryz.underlying3 g1
    obtain ⟨k2, q2, _⟩ := DataW.trod_bool Tryz.underlying4 g2
    obtain ⟨ad, cp, cd, rfl, h2, h3, h4, h5⟩ := open_ptsB g3
    simp only [List.cons.injEq, and_true] at q0 q1 q2
    subst q0 q1 q2
    have u1 := bounds_i64 w1
    unfold maxLen at w0
    refine ⟨⟨⟨k0, k1, k2, cd⟩, ad, cp⟩, rfl, ⟨by show k0.size ≤ _; omega, ⟨u1.1, by show k1 ≤ _; omega⟩, h4⟩, h3, fun hw => h5 (fun m hm => hw m ?_)⟩
    rw [hxe]
    simp only [DataW.weights, hu]
    exact DataW.weights_mem_each (j := 3) (t := 25) (d := y3.1) (by simp [t3]) rfl m hm
set_option maxRecDepth 100000 in
theorem open_stages (h : DataW.trod enc Tryz.prog W 0 spare held fuel 38 [v] = some x) :
    ∃ (ad : Option Addr) (cap : Nat) (l : List SR), v = .slice ad l.length cap ∧ l.length ≤ 9223372036854775807 ∧ StsAt W ad l ∧ (∀ r ∈ l, r.s.ok) ∧ ((∀ m ∈ x.1.weights Tryz.prog 38, m ≤ reachBytes) → ∀ r ∈ l, r.hv) := by
  rcases open_slice Tryz.underlying38 h with ⟨hcs, _⟩ | ⟨a, len, cap, m, n, D, Pl, hcs, hb, hl, hm, hmm, hxe, hx⟩
  · simp only [List.cons.injEq, and_true] at hcs
    subst hcs
    exact ⟨none, 0, [], rfl, by simp, fun hne => absurd rfl hne, by simp, by simp⟩
  · simp only [List.cons.injEq, and_true] at hcs
    subst hcs
    have hlm : len ≤ m := by rw [hmm]; split <;> omega
    have each : ∀ i, i < len → ∃ y : SR, (W.cell? (a.add (i * 4)) = some (.string y.s.nm) ∧ W.cell? (a.add (i * 4 + 1)) = some (.int .i64 y.s.hw) ∧ W.cell? (a.add (i * 4 + 2)) = some (.bool y.s.mn) ∧ W.cell? (a.add (i * 4 + 3)) = some (.slice y.ad y.s.cd.length y.c)) ∧ y.s.ok ∧ PtsAt W y.ad y.s.cd ∧ ((∀ m ∈ (D i).weights Tryz.prog 56, m ≤ reachBytes) → y.hv) := by
      intro i hi
      obtain ⟨cs', h1, h2⟩ := hx i (by omega)
      rw [cells_Stage] at h1
      obtain ⟨_, hlen, hcell⟩ := World.cells?_some h1
      obtain ⟨y, hy, hok⟩ := open_stage (cs := cs'.toArray) (by simpa using hlen) (by simpa using h2)
      refine ⟨y, ?_, hok⟩
      have hy' : cs' = [.string y.s.nm, .int .i64 y.s.hw, .bool y.s.mn, .slice y.ad y.s.cd.length y.c] := by simpa using congrArg Array.toList hy
      subst hy'
      have e0 := hcell 0 (by omega)
      have e1 := hcell 1 (by omega)
      have e2 := hcell 2 (by omega)
      have e3 := hcell 3 (by omega)
      rw [Go.Deep.add_add] at e0 e1 e2 e3
      exact ⟨by simpa using e0, by simpa using e1, by simpa using e2, by simpa using e3⟩
    have hinh : Inhabited SR := ⟨⟨⟨⟨#[]⟩, 0, false, []⟩, none, 0⟩⟩
    obtain ⟨q, hq⟩ := choose_lt each
    refine ⟨some a, cap, (List.range len).map q, by simp, by simp; unfold maxLen at hm; omega, fun hne => ?_, fun y hy => ?_, fun hw y hy => ?_⟩
    · have h0 : 0 < len := by
        rcases Nat.eq_zero_or_pos len with e | e
        · subst e; simp at hne
        · exact e
      obtain ⟨b, off, spot⟩ := a
      have hc0 := (hq 0 h0).1.1
      have hspot : spot = none := by simpa [Addr.add] using World.cell?_spot hc0
      subst hspot
      refine ⟨b, off, rfl, ?_, fun i hi => ?_⟩
      · rcases Nat.lt_or_ge b W.heap.size with hlt | hge
        · exact hlt
        · exfalso
          rw [Go.WideShapes.add_plain] at hc0
          simp [World.cell?, Array.getElem?_eq_none hge] at hc0
      · have hi' : i < len := by simpa using hi
        obtain ⟨⟨c0, c1, c2, c3⟩, _, c4, _⟩ := hq i hi'
        rw [Go.WideShapes.add_plain] at c0 c1 c2 c3
        simp only [List.getElem_map, List.getElem_range]
        exact ⟨c0, by rw [Nat.add_assoc]; exact c1, by rw [Nat.add_assoc]; exact c2, by rw [Nat.add_assoc]; exact c3, c4⟩
    · obtain ⟨i, hi, rfl⟩ := List.mem_map.1 hy
      exact (hq i (List.mem_range.1 hi)).2.1
    · obtain ⟨i, hi, rfl⟩ := List.mem_map.1 hy
      refine (hq i (List.mem_range.1 hi)).2.2.2 (fun m hm => hw m ?_)
      rw [hxe]
      simp only [DataW.weights, Tryz.underlying38]
      exact List.mem_cons_of_mem _ (List.mem_append.2 (Or.inl (weightsAll_mem (List.mem_map.2 ⟨i, hi, rfl⟩) hm)))
set_option maxRecDepth 100000 in
theorem open_pattern {cs : Array Value} (hsz : cs.size = Tryz.prog.cellsOf 40) (h : DataW.trod enc Tryz.prog W 0 spare held fuel 40 cs.toList = some x) :
    ∃ (sa : Option Addr) (sc : Nat) (l : List SR) (wi : Int), cs = #[.slice sa l.length sc, .int .i64 wi] ∧ l.length ≤ 9223372036854775807 ∧ StsAt W sa l ∧ (∀ r ∈ l, r.s.ok) ∧ (-9223372036854775808 ≤ wi ∧ wi ≤ 9223372036854775807) ∧ ((∀ m ∈ x.1.weights Tryz.prog 40, m ≤ reachBytes) → ∀ r ∈ l, r.hv) := by
  obtain ⟨f0, f1, hu, t0, t1, o0, o1⟩ := fields_Pattern
  rw [cells_Pattern] at hsz
  obtain ⟨xs, n, _, hxe, _, hxl, hf⟩ := DataW.trod_struct hu h
  obtain ⟨l⟩ := cs
  match xs, hxl, l, hsz with
  | [y0, y1], _, [v0, v1], _ =>
    have g0 := hf 0 f0 rfl
    have g1 := hf 1 f1 rfl
    simp [o0, o1, t0, t1, open_pts_cells_int, cells_stagesP] at g0 g1
    obtain ⟨k1, q1, _, w1⟩ := DataW.trod_int Tryz.underlying3 g1
    obtain ⟨sa, sc, l, rfl, h2, h3, h4, h5⟩ := open_stages g0
    simp only [List.cons.injEq, and_true] at q1
    subst q1
    have u1 := bounds_i64 w1
    refine ⟨sa, sc, l, k1, rfl, h2, h3, h4, ⟨u1.1, by omega⟩, fun hw => h5 (fun m hm => hw m ?_)⟩
    rw [hxe]
    simp only [DataW.weights, hu]
    exact DataW.weights_mem_each (j := 0) (t := 38) (d := y0.1) (by simp [t0]) rfl m hm
end
end Go.Proofs.YthipclehhcfahabGreatDoor
namespace Go.Proofs.YthipclehhcfahabGreatDoor
open Go.RowKit Go.Shelf

def evW (e : Ev) : List Value := [.string e.k, .string e.t, .int .i64 e.n0, .int .i64 e.n1, .int .i64 e.n2, .int .i64 e.n3, .string e.x]
theorem evW_len (e : Ev) : (evW e).length = 7 := rfl
theorem info_EvW : (Tryz.prog.info? 36).map (fun i => (i.zero, i.size, i.bytes)) = some (some (.agg #[.string ⟨#[]⟩, .string ⟨#[]⟩, .int .i64 0, .int .i64 0, .int .i64 0, .int .i64 0, .string ⟨#[]⟩]), 7, 80) := by kernel_rfl
/-- A row of events of the call's own. -/
def OwnsX (B : Nat) (w : World) (v : Value) (l : List Ev) : Prop := w.ownsRow B 36 7 v l.length (l.flatMap evW)
theorem OwnsX.nil (B : Nat) (w : World) : OwnsX B w (.slice none 0 0) [] := World.ownsRow_nil _ _ _ _
theorem OwnsX.at {B : Nat} {w : World} {v : Value} {l : List Ev} (h : OwnsX B w v l) : ∃ ad cp, v = .slice ad l.length cp ∧ EvsAt w ad l := by
  obtain ⟨_, ⟨rfl, h0⟩ | ⟨g, cp, cur, rfl, _, _, hcap, _⟩⟩ := id h
  · refine ⟨none, 0, by rw [h0], fun hne => ?_⟩
    exact absurd (List.eq_nil_of_length_eq_zero h0) hne
  · have hl := World.ownsRow.lt h g rfl
    refine ⟨_, _, rfl, fun _ => ⟨g, 0, rfl, hl.2, fun i e hi j u hu => ?_⟩⟩
    obtain ⟨hil, rfl⟩ := List.getElem?_eq_some_iff.1 hi
    have hj : j < 7 := by
      have := (Array.getElem?_eq_some_iff.1 hu).1
      simpa [Ev.c] using this
    have c := own_cell evW_len h i j hil hj
    rw [Nat.zero_add, c, ← hu]
    unfold evW Ev.c
    simp
theorem OwnsX.app {B : Nat} {w : World} {v : Value} {l : List Ev} (ho : OwnsX B w v l) (hB : B ≤ w.heap.size) (e : Ev) {g c : Nat} (hc : CBox g e.c 36 w) (hl : l.length + 1 ≤ 1000000) (ty : TypeId) :
    ∃ g' cap w', (Builtin.append_ #[53, 53] ty #[v, .slice (some ⟨g, 0, none⟩) 1 c]).run Tryz.prog w = .ok (.slice (some ⟨g', 0, none⟩) (l.length + 1) cap) w' ∧ OwnsX B w' (.slice (some ⟨g', 0, none⟩) (l.length + 1) cap) (l ++ [e]) ∧ Below B w w' ∧ w.grownBy w' v.ownBlock := by
  obtain ⟨i0, hi, hz0, hz1, hz2⟩ := info_parts info_EvW
  obtain ⟨g', cap, w', hrun, r1, r2, _⟩ := run_append_lies (P := Tryz.prog) (w := w) 53 ty B 36 i0 _ 7 80 Tryz.underlying53 hi hz0 hz1 hz2 rfl (by decide) v l.length (l.flatMap evW) ho ⟨g, 0, none⟩ 1 c (evW e) rfl (fun j u hj => by
    have : e.c[j]? = some u := by
      rw [← hj]
      unfold evW Ev.c
      simp
    rw [Go.WideShapes.add_plain, Nat.zero_add]
    exact hc.cell this) (by
      intro u hu
      unfold evW at hu
      simp only [List.mem_cons, List.not_mem_nil, or_false] at hu
      rcases hu with rfl | rfl | rfl | rfl | rfl | rfl | rfl <;> rfl) (by omega) (by unfold maxLen; omega) (by omega) hB _ rfl
  refine ⟨g', cap, w', hrun, ?_, (Kp.of r2).below hB (fun k hk => ?_), r2⟩
  · unfold OwnsX
    rw [List.length_append, List.flatMap_append]
    simpa using r1
  · have : v.ownBlock = some k := by simpa using hk
    exact (World.ownsRow.lt ho k this).1
/-- Two rows of different types lie in different blocks. -/
theorem rows_ne {W : World} {B B' e e' sz sz' n n' : Nat} {v v' : Value} {xs xs' : List Value} (h : W.ownsRow B e sz v n xs) (h' : W.ownsRow B' e' sz' v' n' xs') (hne : e' ≠ e) : ∀ g, v.ownBlock = some g → g ∉ v'.ownBlock.toList := by
  intro g hg hm
  have hg' : v'.ownBlock = some g := by simpa using hm
  obtain ⟨_, ⟨rfl, _⟩ | ⟨g', cap, cur, rfl, _, h4, _⟩⟩ := h'
  · cases hg'
  · simp [Value.ownBlock] at hg'
    subst hg'
    exact row_ne h (show CBox g' cur e' W from h4) hne hg
/-- The names and the events that go with them. -/
structure AsR (B : Nat) (V W : World) (v u : Value) (ns : List ByteArray) (es : List Ev) : Prop where
  nam : OwnsW B W v ns
  evs : OwnsX B W u es
  kp : Kp [] V W
theorem AsR.go {B : Nat} {V W W' : World} {v u : Value} {ns : List ByteArray} {es : List Ev} (h : AsR B V W v u ns es) (hk : Kp [] W W') : AsR B V W' v u ns es :=
  ⟨h.nam.kp hk, row_kp h.evs hk (by simp), h.kp.trans hk (by simp)⟩
theorem AsR.name {B : Nat} {V W : World} {v u : Value} {ns : List ByteArray} {es : List Ev} (h : AsR B V W v u ns es) (hB : V.heap.size = B) (s : ByteArray) (hl : ns.length + 1 ≤ 1000000) :
    ∃ g' cap w', (Builtin.append_ #[54, 54] 54 #[v, .slice (some ⟨W.heap.size, 0, none⟩) 1 1]).run Tryz.prog (W.alloc (.cells #[.string s] 9)) = .ok (.slice (some ⟨g', 0, none⟩) (ns.length + 1) cap) w' ∧ AsR B V w' (.slice (some ⟨g', 0, none⟩) (ns.length + 1) cap) u (ns ++ [s]) es := by
  have k6 := Kp.alloc W (.cells #[.string s] 9)
  have h6 := h.go k6
  obtain ⟨g', cap, w', hr, ho, _, hg⟩ := OwnsW.app (c := 1) h6.nam (by have := h6.kp.size; omega) s (g := W.heap.size) ((CBox.new W _ _).cell rfl) hl 54
  refine ⟨g', cap, w', hr, ho, row_kp h6.evs (Kp.of hg) (rows_ne h6.evs h6.nam (by decide)), h6.kp.trans (Kp.of hg) (fun x hx => Or.inr ?_)⟩
  have := (World.ownsRow.lt h6.nam x (by simpa using hx)).1
  omega
theorem AsR.event {B : Nat} {V W : World} {v u : Value} {ns : List ByteArray} {es : List Ev} (h : AsR B V W v u ns es) (hB : V.heap.size = B) (e : Ev) (hl : es.length + 1 ≤ 1000000) :
    ∃ g' cap w', (Builtin.append_ #[53, 53] 53 #[u, .slice (some ⟨W.heap.size, 0, none⟩) 1 1]).run Tryz.prog (W.alloc (.cells e.c 36)) = .ok (.slice (some ⟨g', 0, none⟩) (es.length + 1) cap) w' ∧ AsR B V w' v (.slice (some ⟨g', 0, none⟩) (es.length + 1) cap) ns (es ++ [e]) := by
  have k6 := Kp.alloc W (.cells e.c 36)
  have h6 := h.go k6
  obtain ⟨g', cap, w', hr, ho, _, hg⟩ := OwnsX.app (c := 1) h6.evs (by have := h6.kp.size; omega) e (g := W.heap.size) (CBox.new W _ _) hl 53
  refine ⟨g', cap, w', hr, row_kp h6.nam (Kp.of hg) (rows_ne h6.nam h6.evs (by decide)), ho, h6.kp.trans (Kp.of hg) (fun x hx => Or.inr ?_)⟩
  have := (World.ownsRow.lt h6.evs x (by simpa using hx)).1
  omega
/-! Which stages are asked for, and have they all. -/
theorem foldl_stg_mem (x : List Pt) : ∀ out : List ByteArray, (∀ q ∈ out, q ∈ x.foldl stgA out) ∧ ∀ p ∈ x, emptyB p.st = true ∨ p.st ∈ x.foldl stgA out := by
  induction x with
  | nil => intro out; simp
  | cons p r ih =>
    intro out
    obtain ⟨h1, h2⟩ := ih (stgA out p)
    rw [List.foldl_cons]
    have hs : (∀ q ∈ out, q ∈ stgA out p) ∧ (emptyB p.st = true ∨ p.st ∈ stgA out p) := by
      unfold stgA
      split
      · rename_i h
        refine ⟨fun q hq => hq, ?_⟩
        rcases Bool.or_eq_true_iff.1 h with h | h
        · exact Or.inl h
        · exact Or.inr ((hasN_iff _ _).1 h)
      · exact ⟨fun q hq => List.mem_append.2 (Or.inl hq), Or.inr (by simp)⟩
    refine ⟨fun q hq => h1 q (hs.1 q hq), fun q hq => ?_⟩
    rcases List.mem_cons.1 hq with rfl | hq
    · rcases hs.2 with h | h
      · exact Or.inl h
      · exact Or.inr (h1 _ h)
    · exact h2 q hq
theorem all_asked {x : List Pt} {ns : List ByteArray} (h0 : ckK x ≠ 0) (h : (stgS x).all (hasN ns) = true) : hasS ns x = true := by
  unfold stgS at h
  rw [if_neg h0] at h
  unfold hasS
  rw [List.all_eq_true] at h ⊢
  intro p hp
  rw [Bool.or_eq_true]
  rcases (foldl_stg_mem x []).2 p hp with h1 | h1
  · exact Or.inl h1
  · exact Or.inr (h _ h1)
end Go.Proofs.YthipclehhcfahabGreatDoor
