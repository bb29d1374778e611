/-
  A slice of parts that comes in as an argument, within the form's own reach: how long it and its texts may be.
  A pattern that comes in as an argument: its stages lie where it says.
  Nodes of patterns, plainly: where a partial match can go behind an event, and which nodes can come out.
  A node that comes in as an argument.
  A pair of results of which the first lies in cells. Of no program.
  Two faults held against one another.
  The nodes of nfa: how they lie; the node behind an event that was taken.
-/
import Derived.Test.YtgcmfcidmmjfiaaGreatDoorQ13
import Derived.SizedLaws
import Derived.Test.YtgcmfcidmmjfiaaGreatDoorQ22
import Derived.ChangeArms
import Derived.Test.YtgcmfcidmmjfiaaGreatDoorQ20
import Derived.ProofKit
import Derived.OpenShut
import Derived.Test.YtgcmfcidmmjfiaaGreatDoorQ05
import Derived.Laws.ResultCell
import Derived.Test.YtgcmfcidmmjfiaaGreatDoorChecked
import Derived.WalkKit
import Derived.WalkLawsBesides
import Derived.Deep.RegionHeld3
namespace Go.Proofs.YtgcmfcidmmjfiaaGreatDoor
open Go.RowKit Go.Deep

theorem bytes_Pt : Tryz.prog.bytesOf 87 = 56 := by kernel_rfl
theorem weightsAll_mem {H : Type} {P : Program} {e : TypeId} {ds : List (DataW H)} {d : DataW H} {n : Nat} (hd : d ∈ ds) (hn : n ∈ d.weights P e) : n ∈ DataW.weightsAll P e ds := by
  induction ds with
  | nil => cases hd
  | cons x r ih =>
    simp only [DataW.weightsAll, List.mem_append]
    rcases List.mem_cons.1 hd with rfl | h
    · exact Or.inl hn
    · exact Or.inr (ih h)
set_option maxRecDepth 100000 in
theorem open_pts3 {H : Type} {enc : TypeId × Value → H} {W : World} {spare : Nat → Bool} {held : Bool} {fuel : Nat} {v : Value} {x : DataW H × List MemPlace}
    (h : DataW.trod enc Tryz.prog W 0 spare held fuel 49 [v] = some x) (hw : ∀ n ∈ x.1.weights Tryz.prog 49, n ≤ reachBytes) :
    ∃ (ad : Option Addr) (cap : Nat) (l : List Pt), v = .slice ad l.length cap ∧ l.length * 56 ≤ 140737488351232 ∧ l.length ≤ cap ∧ PtsAt W ad l ∧ (∀ y ∈ l, y.ok) ∧ (ad = none → cap = 0) ∧ ∀ y ∈ l, y.s.size ≤ 140737488351232 ∧ y.st.size ≤ 140737488351232 := by
  obtain ⟨ad, cap, l, hv, h1, h2, h3⟩ := open_pts h
  obtain ⟨f0, f1, f2, f3, f4, hu, t0, t1, t2, t3, t4, o0, o1, o2, o3, o4⟩ := open_pts_fields
  rcases open_slice Tryz.underlying49 h with ⟨hcs, _⟩ | ⟨a, len, cap', m, n, D, Pl, hcs, hb, hl, hm, hmm, rfl, hx⟩
  · simp only [List.cons.injEq, and_true] at hcs
    rw [hv] at hcs
    simp only [Value.slice.injEq] at hcs
    have hl0 : l = [] := List.eq_nil_of_length_eq_zero hcs.2.1
    subst hl0
    exact ⟨ad, cap, [], hv, by simp, by simp, h2, h3, fun _ => hcs.2.2, by simp⟩
  · simp only [List.cons.injEq, and_true] at hcs
    rw [hv] at hcs
    simp only [Value.slice.injEq] at hcs
    obtain ⟨rfl, hll, rfl⟩ := hcs
    have hlm : len ≤ m := by rw [hmm]; split <;> omega
    have hw0 : (len + (m - len)) * 56 ≤ reachBytes := by
      have := hw ((len + (m - len)) * 56) (by simp [DataW.weights, Tryz.underlying49, bytes_Pt])
      exact this
    have hreach : reachBytes = 140737488351232 := by decide
    refine ⟨some a, cap, l, hv, by omega, by omega, h2, h3, (by intro e; cases e), fun y hy => ?_⟩
    obtain ⟨i, hi, rfl⟩ := List.mem_iff_getElem.1 hy
    obtain ⟨b, off, ea, _, hc⟩ := h2 (fun e => by rw [e] at hi; simp at hi)
    obtain rfl := Option.some.inj ea
    obtain ⟨cs', k1, k2⟩ := hx i (by omega)
    rw [open_pts_cells] at k1
    obtain ⟨_, hlen, hcell⟩ := World.cells?_some k1
    obtain ⟨xs, k, hk, hxy, _, hxl, hf⟩ := DataW.trod_struct hu k2
    match xs, hxl, cs', hlen with
    | [y0, y1, y2, y3, y4], _, [v0, v1, v2, v3, v4], _ =>
      have g2 := hf 2 f2 rfl
      have g3 := hf 3 f3 rfl
      simp [o2, o3, t2, t3, open_pts_cells_string] at g2 g3
      have e2 := hcell 2 (by omega)
      have e3 := hcell 3 (by omega)
      rw [Go.Deep.add_add] at e2 e3
      obtain ⟨s, q2, q3, _⟩ := DataW.trod_string Tryz.underlying9 g2
      obtain ⟨s', q2', q3', _⟩ := DataW.trod_string Tryz.underlying9 g3
      simp only [List.cons.injEq, and_true] at q2 q2'
      subst q2 q2'
      have c2 := (hc i hi).2.2.1
      have c3 := (hc i hi).2.2.2.1
      rw [Go.WideShapes.add_plain] at e2 e3
      have e2' : W.cell? ⟨b, off + i * 5 + 2, none⟩ = some (.string s) := by rw [Nat.add_assoc]; simpa using e2
      have e3' : W.cell? ⟨b, off + i * 5 + 3, none⟩ = some (.string s') := by rw [Nat.add_assoc]; simpa using e3
      rw [c2] at e2'
      rw [c3] at e3'
      simp only [Option.some.injEq, Value.string.injEq] at e2' e3'
      rw [e2', e3']
      have hD : D i = .agg [y0.1, y1.1, y2.1, y3.1, y4.1] := by have := congrArg Prod.fst hxy; simpa using this
      have hwt : s.size ∈ (D i).weights Tryz.prog 87 := by
        rw [hD]
        simp only [DataW.weights, hu]
        refine DataW.weights_mem_each (j := 2) (t := 9) (d := y2.1) (by simp [t2]) rfl _ ?_
        rw [q3]
        simp [DataW.weights]
      have hwt' : s'.size ∈ (D i).weights Tryz.prog 87 := by
        rw [hD]
        simp only [DataW.weights, hu]
        refine DataW.weights_mem_each (j := 3) (t := 9) (d := y3.1) (by simp [t3]) rfl _ ?_
        rw [q3']
        simp [DataW.weights]
      have r1 := hw s.size (by
        simp only [DataW.weights, Tryz.underlying49, List.mem_cons, List.mem_append]
        exact Or.inr (Or.inl (weightsAll_mem (List.mem_map.2 ⟨i, List.mem_range.2 (by omega), rfl⟩) hwt)))
      have r2 := hw s'.size (by
        simp only [DataW.weights, Tryz.underlying49, List.mem_cons, List.mem_append]
        exact Or.inr (Or.inl (weightsAll_mem (List.mem_map.2 ⟨i, List.mem_range.2 (by omega), rfl⟩) hwt')))
      exact ⟨by omega, by omega⟩
end Go.Proofs.YtgcmfcidmmjfiaaGreatDoor
namespace Go.Proofs.YtgcmfcidmmjfiaaGreatDoor
open Go.RowKit Go.Deep

theorem cells_Stage : Tryz.prog.cellsOf 51 = 4 := by kernel_rfl
theorem cells_Pattern : Tryz.prog.cellsOf 24 = 2 := by kernel_rfl
theorem cells_boolP : Tryz.prog.cellsOf 4 = 1 := by kernel_rfl
theorem cells_partsP : Tryz.prog.cellsOf 49 = 1 := by kernel_rfl
theorem cells_stagesP : Tryz.prog.cellsOf 22 = 1 := by kernel_rfl
theorem bytes_Stage : Tryz.prog.bytesOf 51 = 56 := by kernel_rfl
theorem fields_Stage : ∃ f0 f1 f2 f3 : Field, Tryz.prog.underlying 51 = some (.struct #[f0, f1, f2, f3]) ∧ f0.type = 9 ∧ f1.type = 3 ∧ f2.type = 4 ∧ f3.type = 49 ∧ f0.offset = 0 ∧ f1.offset = 1 ∧ f2.offset = 2 ∧ f3.offset = 3 :=
  ⟨_, _, _, _, Tryz.underlying51, rfl, rfl, rfl, rfl, rfl, rfl, rfl, rfl⟩
theorem fields_Pattern : ∃ f0 f1 : Field, Tryz.prog.underlying 24 = some (.struct #[f0, f1]) ∧ f0.type = 22 ∧ f1.type = 3 ∧ f0.offset = 0 ∧ f1.offset = 1 :=
  ⟨_, _, Tryz.underlying24, rfl, rfl, rfl, rfl⟩
/-- Within the form's own reach: how long a stage's condition and its texts may be. -/
def SR.hv (r : SR) : Prop := r.s.cd.length * 56 ≤ 140737488351232 ∧ r.s.cd.length ≤ r.c ∧ (r.ad = none → r.c = 0) ∧ ∀ y ∈ r.s.cd, y.s.size ≤ 140737488351232 ∧ y.st.size ≤ 140737488351232
section
variable {H : Type} {enc : TypeId × Value → H} {W : World} {spare : Nat → Bool} {held : Bool} {fuel : Nat} {v : Value} {x : DataW H × List MemPlace}
theorem open_ptsB (h : DataW.trod enc Tryz.prog W 0 spare held fuel 49 [v] = some x) :
    ∃ (ad : Option Addr) (cap : Nat) (l : List Pt), v = .slice ad l.length cap ∧ l.length ≤ 9223372036854775807 ∧ PtsAt W ad l ∧ (∀ y ∈ l, y.ok) ∧ ((∀ n ∈ x.1.weights Tryz.prog 49, n ≤ reachBytes) → l.length * 56 ≤ 140737488351232 ∧ l.length ≤ cap ∧ (ad = none → cap = 0) ∧ ∀ y ∈ l, y.s.size ≤ 140737488351232 ∧ y.st.size ≤ 140737488351232) := by
  by_cases hw : ∀ n ∈ x.1.weights Tryz.prog 49, n ≤ reachBytes
  · obtain ⟨ad, cap, l, h1, h2, h3, h4, h5, h6, h7⟩ := open_pts3 h hw
    exact ⟨ad, cap, l, h1, by omega, h4, h5, fun _ => ⟨h2, h3, h6, h7⟩⟩
  · obtain ⟨ad, cap, l, h1, h2, h3, h4⟩ := open_pts h
    exact ⟨ad, cap, l, h1, h2, h3, h4, fun h => absurd h hw⟩
set_option maxRecDepth 100000 in
theorem open_stage {cs : Array Value} (hsz : cs.size = 4) (h : DataW.trod enc Tryz.prog W 0 spare held fuel 51 cs.toList = some x) :
    ∃ r : SR, cs = #[.string r.s.nm, .int .i64 r.s.hw, .bool r.s.mn, .slice r.ad r.s.cd.length r.c] ∧ r.s.ok ∧ PtsAt W r.ad r.s.cd ∧ ((∀ m ∈ x.1.weights Tryz.prog 51, m ≤ reachBytes) → r.hv) := by
  obtain ⟨f0, f1, f2, f3, hu, t0, t1, t2, t3, o0, o1, o2, o3⟩ := fields_Stage
  obtain ⟨xs, n, _, hxe, _, hxl, hf⟩ := DataW.trod_struct hu h
  obtain ⟨l⟩ := cs
  match xs, hxl, l, hsz with
  | [y0, y1, y2, y3], _, [v0, v1, v2, v3], _ =>
    have g0 := hf 0 f0 rfl
    have g1 := hf 1 f1 rfl
    have g2 := hf 2 f2 rfl
    have g3 := hf 3 f3 rfl
    simp [o0, o1, o2, o3, t0, t1, t2, t3, open_pts_cells_string, open_pts_cells_int, cells_boolP, cells_partsP] at g0 g1 g2 g3
    obtain ⟨k0, q0, _, w0⟩ := DataW.trod_string Tryz.underlying9 g0
    obtain ⟨k1, q1, _, w1⟩ := DataW.trod_int Tryz.underlying3 g1
    obtain ⟨k2, q2, _⟩ := DataW.trod_bool Tryz.underlying4 g2
    obtain ⟨ad, cp, cd, rfl, h2, h3, h4, h5⟩ := open_ptsB g3
    simp only [List.cons.injEq, and_true] at q0 q1 q2
    subst q0 q1 q2
    have u1 := bounds_i64 w1
    unfold maxLen at w0
    refine ⟨⟨⟨k0, k1, k2, cd⟩, ad, cp⟩, rfl, ⟨by show k0.size ≤ _; omega, ⟨u1.1, by show k1 ≤ _; omega⟩, h4⟩, h3, fun hw => h5 (fun m hm => hw m ?_)⟩
    rw [hxe]
    simp only [DataW.weights, hu]
    exact DataW.weights_mem_each (j := 3) (t := 49) (d := y3.1) (by simp [t3]) rfl m hm
set_option maxRecDepth 100000 in
theorem open_stages (h : DataW.trod enc Tryz.prog W 0 spare held fuel 22 [v] = some x) :
    ∃ (ad : Option Addr) (cap : Nat) (l : List SR), v = .slice ad l.length cap ∧ l.length ≤ 9223372036854775807 ∧ StsAt W ad l ∧ (∀ r ∈ l, r.s.ok) ∧ ((∀ m ∈ x.1.weights Tryz.prog 22, m ≤ reachBytes) → l.length * 56 ≤ 140737488351232 ∧ (ad = none → cap = 0) ∧ ∀ r ∈ l, r.hv) := by
  rcases open_slice Tryz.underlying22 h with ⟨hcs, _⟩ | ⟨a, len, cap, m, n, D, Pl, hcs, hb, hl, hm, hmm, hxe, hx⟩
  · simp only [List.cons.injEq, and_true] at hcs
    subst hcs
    exact ⟨none, 0, [], rfl, by simp, fun hne => absurd rfl hne, by simp, fun _ => ⟨by simp, fun _ => rfl, by simp⟩⟩
  · simp only [List.cons.injEq, and_true] at hcs
    subst hcs
    have hlm : len ≤ m := by rw [hmm]; split <;> omega
    have each : ∀ i, i < len → ∃ y : SR, (W.cell? (a.add (i * 4)) = some (.string y.s.nm) ∧ W.cell? (a.add (i * 4 + 1)) = some (.int .i64 y.s.hw) ∧ W.cell? (a.add (i * 4 + 2)) = some (.bool y.s.mn) ∧ W.cell? (a.add (i * 4 + 3)) = some (.slice y.ad y.s.cd.length y.c)) ∧ y.s.ok ∧ PtsAt W y.ad y.s.cd ∧ ((∀ m ∈ (D i).weights Tryz.prog 51, m ≤ reachBytes) → y.hv) := by
      intro i hi
      obtain ⟨cs', h1, h2⟩ := hx i (by omega)
      rw [cells_Stage] at h1
      obtain ⟨_, hlen, hcell⟩ := World.cells?_some h1
      obtain ⟨y, hy, hok⟩ := open_stage (cs := cs'.toArray) (by simpa using hlen) (by simpa using h2)
      refine ⟨y, ?_, hok⟩
      have hy' : cs' = [.string y.s.nm, .int .i64 y.s.hw, .bool y.s.mn, .slice y.ad y.s.cd.length y.c] := by simpa using congrArg Array.toList hy
      subst hy'
      have e0 := hcell 0 (by omega)
      have e1 := hcell 1 (by omega)
      have e2 := hcell 2 (by omega)
      have e3 := hcell 3 (by omega)
      rw [Go.Deep.add_add] at e0 e1 e2 e3
      exact ⟨by simpa using e0, by simpa using e1, by simpa using e2, by simpa using e3⟩
    have hinh : Inhabited SR := ⟨⟨⟨⟨#[]⟩, 0, false, []⟩, none, 0⟩⟩
    obtain ⟨q, hq⟩ := choose_lt each
    refine ⟨some a, cap, (List.range len).map q, by simp, by simp; unfold maxLen at hm; omega, fun hne => ?_, fun y hy => ?_, fun hw => ⟨?_, (by intro e; cases e), fun y hy => ?_⟩⟩
    · have h0 : 0 < len := by
        rcases Nat.eq_zero_or_pos len with e | e
        · subst e; simp at hne
        · exact e
      obtain ⟨b, off, spot⟩ := a
      have hc0 := (hq 0 h0).1.1
      have hspot : spot = none := by simpa [Addr.add] using World.cell?_spot hc0
      subst hspot
      refine ⟨b, off, rfl, ?_, fun i hi => ?_⟩
      · rcases Nat.lt_or_ge b W.heap.size with hlt | hge
        · exact hlt
        · exfalso
          rw [Go.WideShapes.add_plain] at hc0
          simp [World.cell?, Array.getElem?_eq_none hge] at hc0
      · have hi' : i < len := by simpa using hi
        obtain ⟨⟨c0, c1, c2, c3⟩, _, c4, _⟩ := hq i hi'
        rw [Go.WideShapes.add_plain] at c0 c1 c2 c3
        simp only [List.getElem_map, List.getElem_range]
        exact ⟨c0, by rw [Nat.add_assoc]; exact c1, by rw [Nat.add_assoc]; exact c2, by rw [Nat.add_assoc]; exact c3, c4⟩
    · obtain ⟨i, hi, rfl⟩ := List.mem_map.1 hy
      exact (hq i (List.mem_range.1 hi)).2.1
    · have hw0 : (len + (m - len)) * 56 ≤ reachBytes := hw _ (by rw [hxe]; simp [DataW.weights, Tryz.underlying22, bytes_Stage])
      have hreach : reachBytes = 140737488351232 := by decide
      simp only [List.length_map, List.length_range]
      omega
    · obtain ⟨i, hi, rfl⟩ := List.mem_map.1 hy
      refine (hq i (List.mem_range.1 hi)).2.2.2 (fun m hm => hw m ?_)
      rw [hxe]
      simp only [DataW.weights, Tryz.underlying22]
      exact List.mem_cons_of_mem _ (List.mem_append.2 (Or.inl (weightsAll_mem (List.mem_map.2 ⟨i, hi, rfl⟩) hm)))
set_option maxRecDepth 100000 in
theorem open_pattern {cs : Array Value} (hsz : cs.size = Tryz.prog.cellsOf 24) (h : DataW.trod enc Tryz.prog W 0 spare held fuel 24 cs.toList = some x) :
    ∃ (sa : Option Addr) (sc : Nat) (l : List SR) (wi : Int), cs = #[.slice sa l.length sc, .int .i64 wi] ∧ l.length ≤ 9223372036854775807 ∧ StsAt W sa l ∧ (∀ r ∈ l, r.s.ok) ∧ (-9223372036854775808 ≤ wi ∧ wi ≤ 9223372036854775807) ∧ ((∀ m ∈ x.1.weights Tryz.prog 24, m ≤ reachBytes) → l.length * 56 ≤ 140737488351232 ∧ (sa = none → sc = 0) ∧ ∀ r ∈ l, r.hv) := by
  obtain ⟨f0, f1, hu, t0, t1, o0, o1⟩ := fields_Pattern
  rw [cells_Pattern] at hsz
  obtain ⟨xs, n, _, hxe, _, hxl, hf⟩ := DataW.trod_struct hu h
  obtain ⟨l⟩ := cs
  match xs, hxl, l, hsz with
  | [y0, y1], _, [v0, v1], _ =>
    have g0 := hf 0 f0 rfl
    have g1 := hf 1 f1 rfl
    simp [o0, o1, t0, t1, open_pts_cells_int, cells_stagesP] at g0 g1
    obtain ⟨k1, q1, _, w1⟩ := DataW.trod_int Tryz.underlying3 g1
    obtain ⟨sa, sc, l, rfl, h2, h3, h4, h5⟩ := open_stages g0
    simp only [List.cons.injEq, and_true] at q1
    subst q1
    have u1 := bounds_i64 w1
    refine ⟨sa, sc, l, k1, rfl, h2, h3, h4, ⟨u1.1, by omega⟩, fun hw => h5 (fun m hm => hw m ?_)⟩
    rw [hxe]
    simp only [DataW.weights, hu]
    exact DataW.weights_mem_each (j := 0) (t := 22) (d := y0.1) (by simp [t0]) rfl m hm
end
end Go.Proofs.YtgcmfcidmmjfiaaGreatDoor
namespace Go.Proofs.YtgcmfcidmmjfiaaGreatDoor
open Go.RowKit Go.Shelf

structure Nd where
  st : Int
  lp : Bool
  tk : Bool
theorem Nd.ext3 {a b : Nd} (h1 : a.st = b.st) (h2 : a.lp = b.lp) (h3 : a.tk = b.tk) : a = b := by
  obtain ⟨x, y, z⟩ := a
  obtain ⟨x', y', z'⟩ := b
  cases h1
  cases h2
  cases h3
  rfl
def Nd.c (n : Nd) : Array Value := #[.int .i64 n.st, .bool n.lp, .bool n.tk]
def zN : Nd := ⟨0, false, false⟩
def ndE (a b : Nd) : Bool := decide (a.st = b.st) && (a.lp == b.lp && a.tk == b.tk)
theorem ndE_iff (a b : Nd) : ndE a b = true ↔ a = b := by
  unfold ndE
  simp only [Bool.and_eq_true, decide_eq_true_eq, beq_iff_eq]
  exact ⟨fun h => Nd.ext3 h.1 h.2.1 h.2.2, fun h => by rw [h]; exact ⟨rfl, rfl, rfl⟩⟩
theorem ndE_self (a : Nd) : ndE a a = true := (ndE_iff a a).2 rfl
theorem ndE_no {a b : Nd} (h : a ≠ b) : ndE a b = false := by
  cases e : ndE a b with
  | true => exact absurd ((ndE_iff a b).1 e) h
  | false => rfl
/-- Does the stage at this place take many? How does it follow? -/
def mnAt (l : List Stg) (i : Nat) : Bool := match l[i]? with
  | some s => s.mn
  | none => false
def hwAt (l : List Stg) (i : Nat) : Int := match l[i]? with
  | some s => s.hw
  | none => 0
theorem mnAt_get {l : List Stg} {i : Nat} (h : i < l.length) : mnAt l i = l[i].mn := by unfold mnAt; rw [List.getElem?_eq_getElem h]
theorem hwAt_get {l : List Stg} {i : Nat} (h : i < l.length) : hwAt l i = l[i].hw := by unfold hwAt; rw [List.getElem?_eq_getElem h]
/-- The node behind an event that was taken into a stage (from 1 on). -/
def bgN (l : List Stg) (s : Nat) : Nd := ⟨(s : Int), mnAt l (s - 1), decide (s < l.length)⟩
def isS (l : List Stg) (s : Int) : Bool := decide (1 ≤ s) && decide (s ≤ (l.length : Int))
/-- May a node be? -/
def mayN (l : List Stg) (n : Nd) : Bool := isS l n.st && ((mnAt l (n.st.toNat - 1) || !n.lp) && (decide (n.st.toNat < l.length) || !n.tk))
def stay (h : Int) (b : Bool) : Bool := decide (h = 3) || (decide (h = 2) && !b)
/-- The node behind an event that was not taken, dead or not. -/
def psN (l : List Stg) (n : Nd) (lo ta : Bool) : Nd := ⟨n.st, n.lp && stay (hwAt l (n.st.toNat - 1)) lo, n.tk && stay (hwAt l n.st.toNat) ta⟩
def Nd.live (n : Nd) : Bool := n.lp || n.tk
structure Sps where
  lp : Nd
  tk : Nd
  wt : Nd
  cl : Bool
  ct : Bool
  cw : Bool
def Sps.c (s : Sps) : Array Value := #[.int .i64 s.lp.st, .bool s.lp.lp, .bool s.lp.tk, .int .i64 s.tk.st, .bool s.tk.lp, .bool s.tk.tk, .int .i64 s.wt.st, .bool s.wt.lp, .bool s.wt.tk, .bool s.cl, .bool s.ct, .bool s.cw]
def zS : Sps := ⟨zN, zN, zN, false, false, false⟩
/-- Where a partial match stands behind an event. -/
def stpN (l : List Stg) (n : Nd) (lo ta : Bool) : Sps :=
  ⟨if (n.lp && lo) = true then bgN l n.st.toNat else zN, if (n.tk && ta) = true then bgN l (n.st.toNat + 1) else zN, if (psN l n lo ta).live = true then psN l n lo ta else zN, n.lp && lo, n.tk && ta, (psN l n lo ta).live⟩
/-! Which nodes come out. -/
theorem isS_iff {l : List Stg} {s : Int} : isS l s = true ↔ 1 ≤ s ∧ s ≤ (l.length : Int) := by unfold isS; simp
theorem may_split {l : List Stg} {n : Nd} (h : mayN l n = true) : isS l n.st = true ∧ (n.lp = true → mnAt l (n.st.toNat - 1) = true) ∧ (n.tk = true → n.st.toNat < l.length) := by
  unfold mayN at h
  simp only [Bool.and_eq_true, Bool.or_eq_true, Bool.not_eq_true', decide_eq_true_eq] at h
  refine ⟨h.1, fun e => ?_, fun e => ?_⟩
  · rcases h.2.1 with h' | h'
    · exact h'
    · rw [e] at h'; cases h'
  · rcases h.2.2 with h' | h'
    · exact h'
    · rw [e] at h'; cases h'
/-! All that could be told, in order. -/
def four (s : Nat) : List Nd := [⟨(s : Int), true, true⟩, ⟨(s : Int), true, false⟩, ⟨(s : Int), false, true⟩, ⟨(s : Int), false, false⟩]
end Go.Proofs.YtgcmfcidmmjfiaaGreatDoor
namespace Go.Proofs.YtgcmfcidmmjfiaaGreatDoor
open Go.RowKit Go.Deep

theorem cells_Node : Tryz.prog.cellsOf 26 = 3 := by kernel_rfl
theorem cells_intN : Tryz.prog.cellsOf 3 = 1 := by kernel_rfl
theorem cells_boolN : Tryz.prog.cellsOf 4 = 1 := by kernel_rfl
theorem fields_Node : ∃ f0 f1 f2 : Field, Tryz.prog.underlying 26 = some (.struct #[f0, f1, f2]) ∧ f0.type = 3 ∧ f1.type = 4 ∧ f2.type = 4 ∧ f0.offset = 0 ∧ f1.offset = 1 ∧ f2.offset = 2 :=
  ⟨_, _, _, Tryz.underlying26, rfl, rfl, rfl, rfl, rfl, rfl⟩
section
variable {H : Type} {enc : TypeId × Value → H} {W : World} {spare : Nat → Bool} {held : Bool} {fuel : Nat} {x : DataW H × List MemPlace}
set_option maxRecDepth 100000 in
theorem open_node {cs : Array Value} (hsz : cs.size = Tryz.prog.cellsOf 26) (h : DataW.trod enc Tryz.prog W 0 spare held fuel 26 cs.toList = some x) :
    ∃ n : Nd, cs = n.c := by
  obtain ⟨f0, f1, f2, hu, t0, t1, t2, o0, o1, o2⟩ := fields_Node
  rw [cells_Node] at hsz
  obtain ⟨xs, n, _, _, _, hxl, hf⟩ := DataW.trod_struct hu h
  obtain ⟨l⟩ := cs
  match xs, hxl, l, hsz with
  | [y0, y1, y2], _, [v0, v1, v2], _ =>
    have g0 := hf 0 f0 rfl
    have g1 := hf 1 f1 rfl
    have g2 := hf 2 f2 rfl
    simp [o0, o1, o2, t0, t1, t2, cells_intN, cells_boolN] at g0 g1 g2
    obtain ⟨k0, q0, _, _⟩ := DataW.trod_int Tryz.underlying3 g0
    obtain ⟨k1, q1, _⟩ := DataW.trod_bool Tryz.underlying4 g1
    obtain ⟨k2, q2, _⟩ := DataW.trod_bool Tryz.underlying4 g2
    simp only [List.cons.injEq, and_true] at q0 q1 q2
    subst q0 q1 q2
    exact ⟨⟨k0, k1, k2⟩, rfl⟩
end
end Go.Proofs.YtgcmfcidmmjfiaaGreatDoor
namespace Go.Proofs.YtgcmfcidmmjfiaaGreatDoor
open Go.RowKit

theorem results_row_tmp {P : Program} {fn : Func} {p u : Tmp} {ty : TypeId} (h : fn.results = #[.cell p ty, .tmp u]) (tmps : Array Value) (w : World) (g : Nat) (t : TypeId) (cs : Array Value) (fr : Nat × Nat) (d : TypeDesc)
    (hp : tmps.getD p undef = .pointer (some ⟨g, 0, none⟩)) (hg : w.heap[g]? = some (.cells cs t fr))
    (hu : P.underlying ty = some d) (hd : (match d with | .struct _ | .array _ _ => true | _ => false) = true) (hi : (P.info? ty).map (·.size) = some cs.size) :
    (results fn tmps).run P w = .ok (.tuple #[.agg cs, tmps.getD u undef]) w := by
  rw [results_cell_tmp h, hp]
  simp [asAddr, run_loadVar_row w g t ty cs fr d hg hu hd hi]
end Go.Proofs.YtgcmfcidmmjfiaaGreatDoor
namespace Go.Proofs.YtgcmfcidmmjfiaaGreatDoor
open Go.RowKit

/-- Two faults held against one another. -/
theorem eqF (d : Nat) (a c a' c' : Int) (w : World) : (Op.equalIn (d + 2) 62 (.agg #[.int .i64 a, .int .i64 c]) (.agg #[.int .i64 a', .int .i64 c'])).run Tryz.prog w = .ok (a == a' && c == c') w := by
  have hi := fun (a b : Int) (w : World) => run_equalIn_int (P := Tryz.prog) w d 3 .i64 .i64 a b Tryz.underlying3
  have he := fun (a b : Int) (w : World) => run_equalIn_int (P := Tryz.prog) w d 30 .i64 .i64 a b Tryz.underlying30
  unfold Op.equalIn
  simp only [Sem.run_bind, run_underlying Tryz.underlying62, Result.andThen_ok]
  simp [part, Tryz.sizeOf3, Tryz.sizeOf30, go_sem, hi, he]
  by_cases h0 : a = a' <;> by_cases h1 : c = c' <;> simp [h0, h1]
end Go.Proofs.YtgcmfcidmmjfiaaGreatDoor
namespace Go.Proofs.YtgcmfcidmmjfiaaGreatDoor
open Go.RowKit Go.Shelf

theorem info_node : (Tryz.prog.info? 26).map (·.size) = some 3 := by kernel_rfl
theorem info_steps : (Tryz.prog.info? 29).map (·.size) = some 12 := by kernel_rfl
/-- Two nodes held against one another. -/
theorem eqN (d : Nat) (a b : Nd) (w : World) : (Op.equalIn (d + 2) 26 (.agg a.c) (.agg b.c)).run Tryz.prog w = .ok (ndE a b) w := by
  obtain ⟨a0, a1, a2⟩ := a
  obtain ⟨b0, b1, b2⟩ := b
  have hi := fun (a b : Int) (w : World) => run_equalIn_int (P := Tryz.prog) w d 3 .i64 .i64 a b Tryz.underlying3
  have hb := fun (a b : Bool) (w : World) => run_equalIn_bool (P := Tryz.prog) w d 4 a b Tryz.underlying4
  unfold Op.equalIn Nd.c ndE
  simp only [Sem.run_bind, run_underlying Tryz.underlying26, Result.andThen_ok]
  simp [part, Tryz.sizeOf3, Tryz.sizeOf4, go_sem, hi, hb]
  by_cases h0 : a0 = b0 <;> cases a1 <;> cases b1 <;> cases a2 <;> cases b2 <;> simp [h0]
theorem CBox.set3 {g : Nat} {x y z : Value} {t : TypeId} {w : World} (h : CBox g #[x, y, z] t w) (a b c : Value) : CBox g #[a, b, c] t (((w.setCell ⟨g, 0, none⟩ a).setCell ⟨g, 1, none⟩ b).setCell ⟨g, 2, none⟩ c) := ((h.set 0 a).set 1 b).set 2 c
theorem Kp.set3 (w : World) (g : Nat) (a b c : Value) : Kp [g] w (((w.setCell ⟨g, 0, none⟩ a).setCell ⟨g, 1, none⟩ b).setCell ⟨g, 2, none⟩ c) :=
  ((Kp.set _ _ _ _).trans (Kp.set _ _ _ _) (by simp)).trans (Kp.set _ _ _ _) (by simp)
/-- A pattern's box, and another one behind it. -/
theorem nb_all (w : World) (A : Obj) (x y z : Value) (t : TypeId) : Kp [] w ((w.alloc A).alloc (.cells #[x, y, z] t)) ∧ CBox (w.heap.size + 1) #[x, y, z] t ((w.alloc A).alloc (.cells #[x, y, z] t)) := by
  refine ⟨(Kp.alloc _ _).trans (Kp.alloc _ _) (by simp), ?_⟩
  have := CBox.new (w.alloc A) #[x, y, z] t
  rwa [show (w.alloc A).heap.size = w.heap.size + 1 by simp] at this
theorem nb_end {w W : World} {g : Nat} {x y z : Value} {t : TypeId} (hk : Kp [] w W) (hg : w.heap.size ≤ g) (hb : CBox g #[x, y, z] t W) (a b c : Value) :
    CBox g #[a, b, c] t (((W.setCell ⟨g, 0, none⟩ a).setCell ⟨g, 1, none⟩ b).setCell ⟨g, 2, none⟩ c) ∧ Kp [] w (((W.setCell ⟨g, 0, none⟩ a).setCell ⟨g, 1, none⟩ b).setCell ⟨g, 2, none⟩ c) :=
  ⟨hb.set3 a b c, hk.trans (Kp.set3 W g a b c) (fun x hx => Or.inr (by simp only [List.mem_singleton] at hx; omega))⟩
set_option maxHeartbeats 2000000 in
set_option maxRecDepth 100000 in
theorem taken_any (sa : Option Addr) (sc : Nat) (l : List SR) (wi : Int) (s : Nat) (w : World) (h : StsAt w sa l) (hl : l.length ≤ 9223372036854775807) (h1 : 1 ≤ s) (h2 : s ≤ l.length) :
    Calls Tryz.prog 31 #[.agg #[.slice sa l.length sc, .int .i64 wi], .int .i64 (s : Int)] w fun e w' => e = .returned (.agg (bgN (stgs l) s).c) ∧ Kp [] w w' := by
  obtain ⟨k, rfl⟩ : ∃ k, s = k + 1 := ⟨s - 1, by omega⟩
  obtain ⟨b, off, rfl, hbl, x0, x1, x2, x3, -⟩ := h.at k (by omega)
  have hmn : mnAt (stgs l) k = l[k].s.mn := by rw [mnAt_get (by rw [stgs_len]; omega), stgs_at (by omega)]
  have htk : (bgN (stgs l) (k + 1)).c = #[.int .i64 ((k + 1 : Nat) : Int), .bool l[k].s.mn, .bool (decide ((k + 1 : Nat) < l.length))] := by
    unfold bgN Nd.c
    rw [Nat.add_sub_cancel, hmn, stgs_len]
  have hdec : decide ((k + 1 : Nat) < l.length) = decide (((k + 1 : Nat) : Int) < (l.length : Int)) := by
    rw [decide_eq_decide]; omega
  rw [htk, hdec]
  have hli : (k : Int) < (l.length : Int) := by omega
  have hsub : IntKind.i64.wrap (((k + 1 : Nat) : Int) - 1) = (k : Int) := by simp only [IntKind.wrap_i64]; omega
  obtain ⟨hk0, hb0⟩ := nb_all w (.cells #[.slice (some ⟨b, off, none⟩) l.length sc, .int .i64 wi] 24) (.int .i64 0) (.bool false) (.bool false) 26
  have hp := (CBox.new w #[.slice (some ⟨b, off, none⟩) l.length sc, .int .i64 wi] 24).kp (Kp.alloc _ (.cells #[.int .i64 0, .bool false, .bool false] 26)) (by simp)
  have p0 := hp.cell (i := 0) (v := .slice (some ⟨b, off, none⟩) l.length sc) rfl
  have y2 := hk0.cell x2 (by simp)
  have z0 := hb0.froz 0
  have z1 := hb0.froz 1
  have z2 := hb0.froz 2
  have c0 := hb0.cell (i := 0) (v := .int .i64 0) rfl
  have c1 := hb0.cell (i := 1) (v := .bool false) rfl
  have c2 := hb0.cell (i := 2) (v := .bool false) rfl
  have HE := hide (fun a b c => nb_end hk0 (by omega) hb0 a b c)
  generalize ((k + 1 : Nat) : Int) = S at *
  clear h hmn htk hdec x0 x1 x2 x3 hk0 hb0 hp
  generalize l[k].s.mn = MN at *
  generalize l.length = n at *
  have cS : ((w.alloc (.cells #[.slice (some ⟨b, off, none⟩) n sc, .int .i64 wi] 24)).alloc (.cells #[.int .i64 0, .bool false, .bool false] 26)).drew.cell? ⟨w.heap.size, 0, none⟩ = some (.slice (some ⟨b, off, none⟩) n sc) ∧ ((w.alloc (.cells #[.slice (some ⟨b, off, none⟩) n sc, .int .i64 wi] 24)).alloc (.cells #[.int .i64 0, .bool false, .bool false] 26)).drew.cell? ⟨b, off + k * 4 + 2, none⟩ = some (.bool MN) := ⟨p0, y2⟩
  clear p0 y2
  go_enter Tryz.func31, Tryz.ntmps31
  go_wp2_with fail
  generalize (w.alloc (.cells #[.slice (some ⟨b, off, none⟩) n sc, .int .i64 wi] 24)).alloc (.cells #[.int .i64 0, .bool false, .bool false] 26) = V at *
  have cS2 : ((((V.setCell ⟨w.heap.size + 1, 0, none⟩ (.int .i64 S)).setCell ⟨w.heap.size + 1, 1, none⟩ (.bool MN)).setCell ⟨w.heap.size + 1, 2, none⟩ (.bool (decide (S < (n : Int))))).drew).cell? ⟨w.heap.size, 0, none⟩ = some (.slice (some ⟨b, off, none⟩) n sc) ∧ ((((V.setCell ⟨w.heap.size + 1, 0, none⟩ (.int .i64 S)).setCell ⟨w.heap.size + 1, 1, none⟩ (.bool MN)).setCell ⟨w.heap.size + 1, 2, none⟩ (.bool (decide (S < (n : Int))))).drew).cell? ⟨b, off + k * 4 + 2, none⟩ = some (.bool MN) := ⟨(Kp.set3 V (w.heap.size + 1) (.int .i64 S) (.bool MN) (.bool (decide (S < (n : Int))))).cell cS.1 (by simp), (Kp.set3 V (w.heap.size + 1) (.int .i64 S) (.bool MN) (.bool (decide (S < (n : Int))))).cell cS.2 (by simp; omega)⟩
  go_region_held3 (fun W => W.cell? ⟨w.heap.size, 0, none⟩ = some (.slice (some ⟨b, off, none⟩) n sc) ∧ W.cell? ⟨b, off + k * 4 + 2, none⟩ = some (.bool MN))
    (first | with_reducible exact cS | with_reducible exact cS2)
    (first | fail)
  go_wp2
  obtain ⟨hx, hy⟩ := unhide HE (.int .i64 S) (.bool MN) (.bool (decide (S < (n : Int))))
  exact bodyPost_ret (results_cell_row Tryz.results31 _ _ (w.heap.size + 1) 26 _ (0, 0) _ rfl (hx.kp (Kp.drew _) (by simp)) Tryz.underlying26 rfl info_node) rfl ⟨rfl, hy.trans (Kp.drew _) (by simp)⟩
end Go.Proofs.YtgcmfcidmmjfiaaGreatDoor
