/-
  A slice of parts that comes in as an argument, within the form's own reach: how long it and its texts may be.
  A pattern that comes in as an argument: its stages lie where it says.
  Nodes of patterns, plainly: where a partial match can go behind an event, and which nodes can come out.
  A pair of results of which the first lies in cells. Of no program.
-/
import Derived.Test.YtgcmfcidmmjfiaaGreatDoorN17
import Derived.SizedLaws
import Derived.Test.YtgcmfcidmmjfiaaGreatDoorN30
import Derived.ChangeArms
import Derived.Test.YtgcmfcidmmjfiaaGreatDoorN28
import Derived.Test.YtgcmfcidmmjfiaaGreatDoorN07
import Derived.Laws.ResultCell
namespace Go.Proofs.YtgcmfcidmmjfiaaGreatDoor
open Go.RowKit Go.Deep

theorem bytes_Pt : Tryz.prog.bytesOf 87 = 56 := by kernel_rfl
theorem weightsAll_mem {H : Type} {P : Program} {e : TypeId} {ds : List (DataW H)} {d : DataW H} {n : Nat} (hd : d ∈ ds) (hn : n ∈ d.weights P e) : n ∈ DataW.weightsAll P e ds := by
  induction ds with
  | nil => cases hd
  | cons x r ih =>
    simp only [DataW.weightsAll, List.mem_append]
    rcases List.mem_cons.1 hd with rfl | h
    · exact Or.inl hn
    · exact Or.inr (ih h)
set_option maxRecDepth 100000 in
theorem open_pts3 {H : Type} {enc : TypeId × Value → H} {W : World} {spare : Nat → Bool} {held : Bool} {fuel : Nat} {v : Value} {x : DataW H × List MemPlace}
    (h : DataW.trod enc Tryz.prog W 0 spare held fuel 49 [v] = some x) (hw : ∀ n ∈ x.1.weights Tryz.prog 49, n ≤ reachBytes) :
    ∃ (ad : Option Addr) (cap : Nat) (l : List Pt), v = .slice ad l.length cap ∧ l.length * 56 ≤ 140737488351232 ∧ l.length ≤ cap ∧ PtsAt W ad l ∧ (∀ y ∈ l, y.ok) ∧ (ad = none → cap = 0) ∧ ∀ y ∈ l, y.s.size ≤ 140737488351232 ∧ y.st.size ≤ 140737488351232 := by
  obtain ⟨ad, cap, l, hv, h1, h2, h3⟩ := open_pts h
  obtain ⟨f0, f1, f2, f3, f4, hu, t0, t1, t2, t3, t4, o0, o1, o2, o3, o4⟩ := open_pts_fields
  rcases open_slice Tryz.underlying49 h with ⟨hcs, _⟩ | ⟨a, len, cap', m, n, D, Pl, hcs, hb, hl, hm, hmm, rfl, hx⟩
  · simp only [List.cons.injEq, and_true] at hcs
    rw [hv] at hcs
    simp only [Value.slice.injEq] at hcs
    have hl0 : l = [] := List.eq_nil_of_length_eq_zero hcs.2.1
    subst hl0
    exact ⟨ad, cap, [], hv, by simp, by simp, h2, h3, fun _ => hcs.2.2, by simp⟩
  · simp only [List.cons.injEq, and_true] at hcs
    rw [hv] at hcs
    simp only [Value.slice.injEq] at hcs
    obtain ⟨rfl, hll, rfl⟩ := hcs
    have hlm : len ≤ m := by rw [hmm]; split <;> omega
    have hw0 : (len + (m - len)) * 56 ≤ reachBytes := by
      have := hw ((len + (m - len)) * 56) (by simp [DataW.weights, Tryz.underlying49, bytes_Pt])
      exact this
    have hreach : reachBytes = 140737488351232 := by decide
    refine ⟨some a, cap, l, hv, by omega, by omega, h2, h3, (by intro e; cases e), fun y hy => ?_⟩
    obtain ⟨i, hi, rfl⟩ := List.mem_iff_getElem.1 hy
    obtain ⟨b, off, ea, _, hc⟩ := h2 (fun e => by rw [e] at hi; simp at hi)
    obtain rfl := Option.some.inj ea
    obtain ⟨cs', k1, k2⟩ := hx i (by omega)
    rw [open_pts_cells] at k1
    obtain ⟨_, hlen, hcell⟩ := World.cells?_some k1
    obtain ⟨xs, k, hk, hxy, _, hxl, hf⟩ := DataW.trod_struct hu k2
    match xs, hxl, cs', hlen with
    | [y0, y1, y2, y3, y4], _, [v0, v1, v2, v3, v4], _ =>
      have g2 := hf 2 f2 rfl
      have g3 := hf 3 f3 rfl
      simp [o2, o3, t2, t3, open_pts_cells_string] at g2 g3
      have e2 := hcell 2 (by omega)
      have e3 := hcell 3 (by omega)
      rw [Go.Deep.add_add] at e2 e3
      obtain ⟨s, q2, q3, _⟩ := DataW.trod_string Tryz.underlying9 g2
      obtain ⟨s', q2', q3', _⟩ := DataW.trod_string Tryz.underlying9 g3
      simp only [List.cons.injEq, and_true] at q2 q2'
      subst q2 q2'
      have c2 := (hc i hi).2.2.1
      have c3 := (hc i hi).2.2.2.1
      rw [Go.WideShapes.add_plain] at e2 e3
      have e2' : W.cell? ⟨b, off + i * 5 + 2, none⟩ = some (.string s) := by rw [Nat.add_assoc]; simpa using e2
      have e3' : W.cell? ⟨b, off + i * 5 + 3, none⟩ = some (.string s') := by rw [Nat.add_assoc]; simpa using e3
      rw [c2] at e2'
      rw [c3] at e3'
      simp only [Option.some.injEq, Value.string.injEq] at e2' e3'
      rw [e2', e3']
      have hD : D i = .agg [y0.1, y1.1, y2.1, y3.1, y4.1] := by have := congrArg Prod.fst hxy; simpa using this
      have hwt : s.size ∈ (D i).weights Tryz.prog 87 := by
        rw [hD]
        simp only [DataW.weights, hu]
        refine DataW.weights_mem_each (j := 2) (t := 9) (d := y2.1) (by simp [t2]) rfl _ ?_
        rw [q3]
        simp [DataW.weights]
      have hwt' : s'.size ∈ (D i).weights Tryz.prog 87 := by
        rw [hD]
        simp only [DataW.weights, hu]
        refine DataW.weights_mem_each (j := 3) (t := 9) (d := y3.1) (by simp [t3]) rfl _ ?_
        rw [q3']
        simp [DataW.weights]
      have r1 := hw s.size (by
        simp only [DataW.weights, Tryz.underlying49, List.mem_cons, List.mem_append]
        exact Or.inr (Or.inl (weightsAll_mem (List.mem_map.2 ⟨i, List.mem_range.2 (by omega), rfl⟩) hwt)))
      have r2 := hw s'.size (by
        simp only [DataW.weights, Tryz.underlying49, List.mem_cons, List.mem_append]
        exact Or.inr (Or.inl (weightsAll_mem (List.mem_map.2 ⟨i, List.mem_range.2 (by omega), rfl⟩) hwt')))
      exact ⟨by omega, by omega⟩
end Go.Proofs.YtgcmfcidmmjfiaaGreatDoor
namespace Go.Proofs.YtgcmfcidmmjfiaaGreatDoor
open Go.RowKit Go.Deep

theorem cells_Stage : Tryz.prog.cellsOf 51 = 4 := by kernel_rfl
theorem cells_Pattern : Tryz.prog.cellsOf 24 = 2 := by kernel_rfl
theorem cells_boolP : Tryz.prog.cellsOf 4 = 1 := by kernel_rfl
theorem cells_partsP : Tryz.prog.cellsOf 49 = 1 := by kernel_rfl
theorem cells_stagesP : Tryz.prog.cellsOf 22 = 1 := by kernel_rfl
theorem bytes_Stage : Tryz.prog.bytesOf 51 = 56 := by kernel_rfl
theorem fields_Stage : ∃ f0 f1 f2 f3 : Field, Tryz.prog.underlying 51 = some (.struct #[f0, f1, f2, f3]) ∧ f0.type = 9 ∧ f1.type = 3 ∧ f2.type = 4 ∧ f3.type = 49 ∧ f0.offset = 0 ∧ f1.offset = 1 ∧ f2.offset = 2 ∧ f3.offset = 3 :=
  ⟨_, _, _, _, Tryz.underlying51, rfl, rfl, rfl, rfl, rfl, rfl, rfl, rfl⟩
theorem fields_Pattern : ∃ f0 f1 : Field, Tryz.prog.underlying 24 = some (.struct #[f0, f1]) ∧ f0.type = 22 ∧ f1.type = 3 ∧ f0.offset = 0 ∧ f1.offset = 1 :=
  ⟨_, _, Tryz.underlying24, rfl, rfl, rfl, rfl⟩
/-- Within the form's own reach: how long a stage's condition and its texts may be. -/
def SR.hv (r : SR) : Prop := r.s.cd.length * 56 ≤ 140737488351232 ∧ r.s.cd.length ≤ r.c ∧ (r.ad = none → r.c = 0) ∧ ∀ y ∈ r.s.cd, y.s.size ≤ 140737488351232 ∧ y.st.size ≤ 140737488351232
section
variable {H : Type} {enc : TypeId × Value → H} {W : World} {spare : Nat → Bool} {held : Bool} {fuel : Nat} {v : Value} {x : DataW H × List MemPlace}
theorem open_ptsB (h : DataW.trod enc Tryz.prog W 0 spare held fuel 49 [v] = some x) :
    ∃ (ad : Option Addr) (cap : Nat) (l : List Pt), v = .slice ad l.length cap ∧ l.length ≤ 9223372036854775807 ∧ PtsAt W ad l ∧ (∀ y ∈ l, y.ok) ∧ ((∀ n ∈ x.1.weights Tryz.prog 49, n ≤ reachBytes) → l.length * 56 ≤ 140737488351232 ∧ l.length ≤ cap ∧ (ad = none → cap = 0) ∧ ∀ y ∈ l, y.s.size ≤ 140737488351232 ∧ y.st.size ≤ 140737488351232) := by
  by_cases hw : ∀ n ∈ x.1.weights Tryz.prog 49, n ≤ reachBytes
  · obtain ⟨ad, cap, l, h1, h2, h3, h4, h5, h6, h7⟩ := open_pts3 h hw
    exact ⟨ad, cap, l, h1, by omega, h4, h5, fun _ => ⟨h2, h3, h6, h7⟩⟩
  · obtain ⟨ad, cap, l, h1, h2, h3, h4⟩ := open_pts h
    exact ⟨ad, cap, l, h1, h2, h3, h4, fun h => absurd h hw⟩
set_option maxRecDepth 100000 in
theorem open_stage {cs : Array Value} (hsz : cs.size = 4) (h : DataW.trod enc Tryz.prog W 0 spare held fuel 51 cs.toList = some x) :
    ∃ r : SR, cs = #[.string r.s.nm, .int .i64 r.s.hw, .bool r.s.mn, .slice r.ad r.s.cd.length r.c] ∧ r.s.ok ∧ PtsAt W r.ad r.s.cd ∧ ((∀ m ∈ x.1.weights Tryz.prog 51, m ≤ reachBytes) → r.hv) := by
  obtain ⟨f0, f1, f2, f3, hu, t0, t1, t2, t3, o0, o1, o2, o3⟩ := fields_Stage
  obtain ⟨xs, n, _, hxe, _, hxl, hf⟩ := DataW.trod_struct hu h
  obtain ⟨l⟩ := cs
  match xs, hxl, l, hsz with
  | [y0, y1, y2, y3], _, [v0, v1, v2, v3], _ =>
    have g0 := hf 0 f0 rfl
    have g1 := hf 1 f1 rfl
    have g2 := hf 2 f2 rfl
    have g3 := hf 3 f3 rfl
    simp [o0, o1, o2, o3, t0, t1, t2, t3, open_pts_cells_string, open_pts_cells_int, cells_boolP, cells_partsP] at g0 g1 g2 g3
    obtain ⟨k0, q0, _, w0⟩ := DataW.trod_string Tryz.underlying9 g0
    obtain ⟨k1, q1, _, w1⟩ := DataW.trod_int Tryz.underlying3 g1
    obtain ⟨k2, q2, _⟩ := DataW.trod_bool Tryz.underlying4 g2
    obtain ⟨ad, cp, cd, rfl, h2, h3, h4, h5⟩ := open_ptsB g3
    simp only [List.cons.injEq, and_true] at q0 q1 q2
    subst q0 q1 q2
    have u1 := bounds_i64 w1
    unfold maxLen at w0
    refine ⟨⟨⟨k0, k1, k2, cd⟩, ad, cp⟩, rfl, ⟨by show k0.size ≤ _; omega, ⟨u1.1, by show k1 ≤ _; omega⟩, h4⟩, h3, fun hw => h5 (fun m hm => hw m ?_)⟩
    rw [hxe]
    simp only [DataW.weights, hu]
    exact DataW.weights_mem_each (j := 3) (t := 49) (d := y3.1) (by simp [t3]) rfl m hm
set_option maxRecDepth 100000 in
theorem open_stages (h : DataW.trod enc Tryz.prog W 0 spare held fuel 22 [v] = some x) :
    ∃ (ad : Option Addr) (cap : Nat) (l : List SR), v = .slice ad l.length cap ∧ l.length ≤ 9223372036854775807 ∧ StsAt W ad l ∧ (∀ r ∈ l, r.s.ok) ∧ ((∀ m ∈ x.1.weights Tryz.prog 22, m ≤ reachBytes) → l.length * 56 ≤ 140737488351232 ∧ (ad = none → cap = 0) ∧ ∀ r ∈ l, r.hv) := by
  rcases open_slice Tryz.underlying22 h with ⟨hcs, _⟩ | ⟨a, len, cap, m, n, D, Pl, hcs, hb, hl, hm, hmm, hxe, hx⟩
  · simp only [List.cons.injEq, and_true] at hcs
    subst hcs
    exact ⟨none, 0, [], rfl, by simp, fun hne => absurd rfl hne, by simp, fun _ => ⟨by simp, fun _ => rfl, by simp⟩⟩
  · simp only [List.cons.injEq, and_true] at hcs
    subst hcs
    have hlm : len ≤ m := by rw [hmm]; split <;> omega
    have each : ∀ i, i < len → ∃ y : SR, (W.cell? (a.add (i * 4)) = some (.string y.s.nm) ∧ W.cell? (a.add (i * 4 + 1)) = some (.int .i64 y.s.hw) ∧ W.cell? (a.add (i * 4 + 2)) = some (.bool y.s.mn) ∧ W.cell? (a.add (i * 4 + 3)) = some (.slice y.ad y.s.cd.length y.c)) ∧ y.s.ok ∧ PtsAt W y.ad y.s.cd ∧ ((∀ m ∈ (D i).weights Tryz.prog 51, m ≤ reachBytes) → y.hv) := by
      intro i hi
      obtain ⟨cs', h1, h2⟩ := hx i (by omega)
      rw [cells_Stage] at h1
      obtain ⟨_, hlen, hcell⟩ := World.cells?_some h1
      obtain ⟨y, hy, hok⟩ := open_stage (cs := cs'.toArray) (by simpa using hlen) (by simpa using h2)
      refine ⟨y, ?_, hok⟩
      have hy' : cs' = [.string y.s.nm, .int .i64 y.s.hw, .bool y.s.mn, .slice y.ad y.s.cd.length y.c] := by simpa using congrArg Array.toList hy
      subst hy'
      have e0 := hcell 0 (by omega)
      have e1 := hcell 1 (by omega)
      have e2 := hcell 2 (by omega)
      have e3 := hcell 3 (by omega)
      rw [Go.Deep.add_add] at e0 e1 e2 e3
      exact ⟨by simpa using e0, by simpa using e1, by simpa using e2, by simpa using e3⟩
    have hinh : Inhabited SR := ⟨⟨⟨⟨#[]⟩, 0, false, []⟩, none, 0⟩⟩
    obtain ⟨q, hq⟩ := choose_lt each
    refine ⟨some a, cap, (List.range len).map q, by simp, by simp; unfold maxLen at hm; omega, fun hne => ?_, fun y hy => ?_, fun hw => ⟨?_, (by intro e; cases e), fun y hy => ?_⟩⟩
    · have h0 : 0 < len := by
        rcases Nat.eq_zero_or_pos len with e | e
        · subst e; simp at hne
        · exact e
      obtain ⟨b, off, spot⟩ := a
      have hc0 := (hq 0 h0).1.1
      have hspot : spot = none := by simpa [Addr.add] using World.cell?_spot hc0
      subst hspot
      refine ⟨b, off, rfl, ?_, fun i hi => ?_⟩
      · rcases Nat.lt_or_ge b W.heap.size with hlt | hge
        · exact hlt
        · exfalso
          rw [Go.WideShapes.add_plain] at hc0
          simp [World.cell?, Array.getElem?_eq_none hge] at hc0
      · have hi' : i < len := by simpa using hi
        obtain ⟨⟨c0, c1, c2, c3⟩, _, c4, _⟩ := hq i hi'
        rw [Go.WideShapes.add_plain] at c0 c1 c2 c3
        simp only [List.getElem_map, List.getElem_range]
        exact ⟨c0, by rw [Nat.add_assoc]; exact c1, by rw [Nat.add_assoc]; exact c2, by rw [Nat.add_assoc]; exact c3, c4⟩
    · obtain ⟨i, hi, rfl⟩ := List.mem_map.1 hy
      exact (hq i (List.mem_range.1 hi)).2.1
    · have hw0 : (len + (m - len)) * 56 ≤ reachBytes := hw _ (by rw [hxe]; simp [DataW.weights, Tryz.underlying22, bytes_Stage])
      have hreach : reachBytes = 140737488351232 := by decide
      simp only [List.length_map, List.length_range]
      omega
    · obtain ⟨i, hi, rfl⟩ := List.mem_map.1 hy
      refine (hq i (List.mem_range.1 hi)).2.2.2 (fun m hm => hw m ?_)
      rw [hxe]
      simp only [DataW.weights, Tryz.underlying22]
      exact List.mem_cons_of_mem _ (List.mem_append.2 (Or.inl (weightsAll_mem (List.mem_map.2 ⟨i, hi, rfl⟩) hm)))
set_option maxRecDepth 100000 in
theorem open_pattern {cs : Array Value} (hsz : cs.size = Tryz.prog.cellsOf 24) (h : DataW.trod enc Tryz.prog W 0 spare held fuel 24 cs.toList = some x) :
    ∃ (sa : Option Addr) (sc : Nat) (l : List SR) (wi : Int), cs = #[.slice sa l.length sc, .int .i64 wi] ∧ l.length ≤ 9223372036854775807 ∧ StsAt W sa l ∧ (∀ r ∈ l, r.s.ok) ∧ (-9223372036854775808 ≤ wi ∧ wi ≤ 9223372036854775807) ∧ ((∀ m ∈ x.1.weights Tryz.prog 24, m ≤ reachBytes) → l.length * 56 ≤ 140737488351232 ∧ (sa = none → sc = 0) ∧ ∀ r ∈ l, r.hv) := by
  obtain ⟨f0, f1, hu, t0, t1, o0, o1⟩ := fields_Pattern
  rw [cells_Pattern] at hsz
  obtain ⟨xs, n, _, hxe, _, hxl, hf⟩ := DataW.trod_struct hu h
  obtain ⟨l⟩ := cs
  match xs, hxl, l, hsz with
  | [y0, y1], _, [v0, v1], _ =>
    have g0 := hf 0 f0 rfl
    have g1 := hf 1 f1 rfl
    simp [o0, o1, t0, t1, open_pts_cells_int, cells_stagesP] at g0 g1
    obtain ⟨k1, q1, _, w1⟩ := DataW.trod_int Tryz.underlying3 g1
    obtain ⟨sa, sc, l, rfl, h2, h3, h4, h5⟩ := open_stages g0
    simp only [List.cons.injEq, and_true] at q1
    subst q1
    have u1 := bounds_i64 w1
    refine ⟨sa, sc, l, k1, rfl, h2, h3, h4, ⟨u1.1, by omega⟩, fun hw => h5 (fun m hm => hw m ?_)⟩
    rw [hxe]
    simp only [DataW.weights, hu]
    exact DataW.weights_mem_each (j := 0) (t := 22) (d := y0.1) (by simp [t0]) rfl m hm
end
end Go.Proofs.YtgcmfcidmmjfiaaGreatDoor
namespace Go.Proofs.YtgcmfcidmmjfiaaGreatDoor
open Go.RowKit Go.Shelf

structure Nd where
  st : Int
  lp : Bool
  tk : Bool
theorem Nd.ext3 {a b : Nd} (h1 : a.st = b.st) (h2 : a.lp = b.lp) (h3 : a.tk = b.tk) : a = b := by
  obtain ⟨x, y, z⟩ := a
  obtain ⟨x', y', z'⟩ := b
  cases h1
  cases h2
  cases h3
  rfl
def Nd.c (n : Nd) : Array Value := #[.int .i64 n.st, .bool n.lp, .bool n.tk]
def zN : Nd := ⟨0, false, false⟩
def ndE (a b : Nd) : Bool := decide (a.st = b.st) && (a.lp == b.lp && a.tk == b.tk)
theorem ndE_iff (a b : Nd) : ndE a b = true ↔ a = b := by
  unfold ndE
  simp only [Bool.and_eq_true, decide_eq_true_eq, beq_iff_eq]
  exact ⟨fun h => Nd.ext3 h.1 h.2.1 h.2.2, fun h => by rw [h]; exact ⟨rfl, rfl, rfl⟩⟩
theorem ndE_self (a : Nd) : ndE a a = true := (ndE_iff a a).2 rfl
theorem ndE_no {a b : Nd} (h : a ≠ b) : ndE a b = false := by
  cases e : ndE a b with
  | true => exact absurd ((ndE_iff a b).1 e) h
  | false => rfl
/-- Does the stage at this place take many? How does it follow? -/
def mnAt (l : List Stg) (i : Nat) : Bool := match l[i]? with
  | some s => s.mn
  | none => false
def hwAt (l : List Stg) (i : Nat) : Int := match l[i]? with
  | some s => s.hw
  | none => 0
theorem mnAt_get {l : List Stg} {i : Nat} (h : i < l.length) : mnAt l i = l[i].mn := by unfold mnAt; rw [List.getElem?_eq_getElem h]
theorem hwAt_get {l : List Stg} {i : Nat} (h : i < l.length) : hwAt l i = l[i].hw := by unfold hwAt; rw [List.getElem?_eq_getElem h]
/-- The node behind an event that was taken into a stage (from 1 on). -/
def bgN (l : List Stg) (s : Nat) : Nd := ⟨(s : Int), mnAt l (s - 1), decide (s < l.length)⟩
def isS (l : List Stg) (s : Int) : Bool := decide (1 ≤ s) && decide (s ≤ (l.length : Int))
/-- May a node be? -/
def mayN (l : List Stg) (n : Nd) : Bool := isS l n.st && ((mnAt l (n.st.toNat - 1) || !n.lp) && (decide (n.st.toNat < l.length) || !n.tk))
def stay (h : Int) (b : Bool) : Bool := decide (h = 3) || (decide (h = 2) && !b)
/-- The node behind an event that was not taken, dead or not. -/
def psN (l : List Stg) (n : Nd) (lo ta : Bool) : Nd := ⟨n.st, n.lp && stay (hwAt l (n.st.toNat - 1)) lo, n.tk && stay (hwAt l n.st.toNat) ta⟩
def Nd.live (n : Nd) : Bool := n.lp || n.tk
structure Sps where
  lp : Nd
  tk : Nd
  wt : Nd
  cl : Bool
  ct : Bool
  cw : Bool
def Sps.c (s : Sps) : Array Value := #[.int .i64 s.lp.st, .bool s.lp.lp, .bool s.lp.tk, .int .i64 s.tk.st, .bool s.tk.lp, .bool s.tk.tk, .int .i64 s.wt.st, .bool s.wt.lp, .bool s.wt.tk, .bool s.cl, .bool s.ct, .bool s.cw]
def zS : Sps := ⟨zN, zN, zN, false, false, false⟩
/-- Where a partial match stands behind an event. -/
def stpN (l : List Stg) (n : Nd) (lo ta : Bool) : Sps :=
  ⟨if (n.lp && lo) = true then bgN l n.st.toNat else zN, if (n.tk && ta) = true then bgN l (n.st.toNat + 1) else zN, if (psN l n lo ta).live = true then psN l n lo ta else zN, n.lp && lo, n.tk && ta, (psN l n lo ta).live⟩
/-- The three nodes that may come out, of those that can be. -/
def outs (s : Sps) : List Nd := (if s.cl = true then [s.lp] else []) ++ ((if s.ct = true then [s.tk] else []) ++ (if s.cw = true then [s.wt] else []))
def beh (l : List Stg) (n : Nd) : List Nd := outs (stpN l n true true) ++ (outs (stpN l n true false) ++ (outs (stpN l n false true) ++ outs (stpN l n false false)))
theorem outs_len (s : Sps) : (outs s).length ≤ 3 := by
  unfold outs
  simp only [List.length_append]
  have h1 : (if s.cl = true then [s.lp] else []).length ≤ 1 := by split <;> simp
  have h2 : (if s.ct = true then [s.tk] else []).length ≤ 1 := by split <;> simp
  have h3 : (if s.cw = true then [s.wt] else []).length ≤ 1 := by split <;> simp
  omega
theorem beh_len (l : List Stg) (n : Nd) : (beh l n).length ≤ 12 := by
  unfold beh
  simp only [List.length_append]
  have h1 := outs_len (stpN l n true true)
  have h2 := outs_len (stpN l n true false)
  have h3 := outs_len (stpN l n false true)
  have h4 := outs_len (stpN l n false false)
  omega
theorem beh_has (l : List Stg) (n : Nd) (lo ta : Bool) {x : Nd} (h : x ∈ outs (stpN l n lo ta)) : x ∈ beh l n := by
  unfold beh
  simp only [List.mem_append]
  cases lo <;> cases ta
  · exact Or.inr (Or.inr (Or.inr h))
  · exact Or.inr (Or.inr (Or.inl h))
  · exact Or.inr (Or.inl h)
  · exact Or.inl h
/-! Which nodes come out. -/
def ol (o : Bool) (h : Int) (b : Bool) : Bool := if b then o && (decide (h = 3) || decide (h = 2)) else !(o && decide (h = 3))
def rch (l : List Stg) (n : Nd) : Bool := isS l n.st && ((n.lp == mnAt l (n.st.toNat - 1) && n.tk == decide (n.st.toNat < l.length)) || (ol (mnAt l (n.st.toNat - 1)) (hwAt l (n.st.toNat - 1)) n.lp && (ol (decide (n.st.toNat < l.length)) (hwAt l n.st.toNat) n.tk && n.live)))
theorem isS_iff {l : List Stg} {s : Int} : isS l s = true ↔ 1 ≤ s ∧ s ≤ (l.length : Int) := by unfold isS; simp
theorem isS_nat {l : List Stg} {s : Nat} (h1 : 1 ≤ s) (h2 : s ≤ l.length) : isS l (s : Int) = true := isS_iff.2 ⟨by omega, by omega⟩
theorem rch_tk {l : List Stg} {s : Nat} (h1 : 1 ≤ s) (h2 : s ≤ l.length) : rch l (bgN l s) = true := by
  unfold rch bgN
  simp [isS_nat h1 h2]
theorem ol_begun (o : Bool) (h : Int) (lo : Bool) : ol o h (o && stay h lo) = true := by
  unfold ol stay
  generalize decide (h = 3) = a
  generalize decide (h = 2) = b
  cases o <;> cases a <;> cases b <;> cases lo <;> rfl
theorem ol_next (o : Bool) (h : Int) (lo : Bool) {x : Bool} (hx : ol o h x = true) : ol o h (x && stay h lo) = true := by
  revert hx
  unfold ol stay
  generalize decide (h = 3) = a
  generalize decide (h = 2) = b
  cases o <;> cases a <;> cases b <;> cases lo <;> cases x <;> simp
theorem ol_comes (o : Bool) (h : Int) {x : Bool} (hx : ol o h x = true) : (o && stay h (!x)) = x := by
  revert hx
  unfold ol stay
  generalize decide (h = 3) = a
  generalize decide (h = 2) = b
  cases o <;> cases a <;> cases b <;> cases x <;> simp
theorem ol_le (o : Bool) (h : Int) {x : Bool} (hx : ol o h x = true) : (o || !x) = true := by
  revert hx
  unfold ol
  generalize decide (h = 3) = a
  generalize decide (h = 2) = b
  cases o <;> cases a <;> cases b <;> cases x <;> simp
theorem rch_split {l : List Stg} {n : Nd} (h : rch l n = true) : isS l n.st = true ∧ ((n.lp = mnAt l (n.st.toNat - 1) ∧ n.tk = decide (n.st.toNat < l.length)) ∨ (ol (mnAt l (n.st.toNat - 1)) (hwAt l (n.st.toNat - 1)) n.lp = true ∧ ol (decide (n.st.toNat < l.length)) (hwAt l n.st.toNat) n.tk = true ∧ n.live = true)) := by
  unfold rch at h
  simp only [Bool.and_eq_true, Bool.or_eq_true, beq_iff_eq] at h
  exact h
theorem rch_mk {l : List Stg} {n : Nd} (h1 : isS l n.st = true) (h2 : ol (mnAt l (n.st.toNat - 1)) (hwAt l (n.st.toNat - 1)) n.lp = true) (h3 : ol (decide (n.st.toNat < l.length)) (hwAt l n.st.toNat) n.tk = true) (h4 : n.live = true) : rch l n = true := by
  unfold rch
  rw [h1, h2, h3, h4]
  simp
/-- What waits comes out again. -/
theorem rch_ps {l : List Stg} {n : Nd} (h : rch l n = true) (lo ta : Bool) (hl : (psN l n lo ta).live = true) : rch l (psN l n lo ta) = true := by
  obtain ⟨h1, h2⟩ := rch_split h
  refine rch_mk h1 ?_ ?_ hl
  · rcases h2 with ⟨e, _⟩ | ⟨e, _, _⟩
    · show ol _ _ (n.lp && stay _ lo) = true
      rw [e]
      exact ol_begun _ _ _
    · exact ol_next _ _ _ e
  · rcases h2 with ⟨_, e⟩ | ⟨_, e, _⟩
    · show ol _ _ (n.tk && stay _ ta) = true
      rw [e]
      exact ol_begun _ _ _
    · exact ol_next _ _ _ e
theorem rch_may {l : List Stg} {n : Nd} (h : rch l n = true) : mayN l n = true := by
  obtain ⟨h1, h2⟩ := rch_split h
  unfold mayN
  rw [h1]
  rcases h2 with ⟨e1, e2⟩ | ⟨e1, e2, _⟩
  · rw [e1, e2]
    cases mnAt l (n.st.toNat - 1) <;> cases decide (n.st.toNat < l.length) <;> rfl
  · rw [ol_le _ _ e1, ol_le _ _ e2]
    rfl
theorem may_split {l : List Stg} {n : Nd} (h : mayN l n = true) : isS l n.st = true ∧ (n.lp = true → mnAt l (n.st.toNat - 1) = true) ∧ (n.tk = true → n.st.toNat < l.length) := by
  unfold mayN at h
  simp only [Bool.and_eq_true, Bool.or_eq_true, Bool.not_eq_true', decide_eq_true_eq] at h
  refine ⟨h.1, fun e => ?_, fun e => ?_⟩
  · rcases h.2.1 with h' | h'
    · exact h'
    · rw [e] at h'; cases h'
  · rcases h.2.2 with h' | h'
    · exact h'
    · rw [e] at h'; cases h'
/-- What comes out of a step of a node that comes out, comes out. -/
theorem rch_out {l : List Stg} {n : Nd} (h : rch l n = true) (lo ta : Bool) {x : Nd} (hx : x ∈ outs (stpN l n lo ta)) : rch l x = true := by
  obtain ⟨h1, h2, h3⟩ := may_split (rch_may h)
  obtain ⟨g1, g2⟩ := isS_iff.1 h1
  unfold outs stpN at hx
  simp only [List.mem_append] at hx
  rcases hx with hx | hx | hx
  · split at hx
    · rename_i hc
      rw [List.mem_singleton] at hx
      subst hx
      exact rch_tk (by omega) (by omega)
    · cases hx
  · split at hx
    · rename_i hc
      rw [List.mem_singleton] at hx
      subst hx
      rw [Bool.and_eq_true] at hc
      have := h3 hc.1
      exact rch_tk (by omega) (by omega)
    · cases hx
  · split at hx
    · rename_i hc
      rw [List.mem_singleton] at hx
      subst hx
      exact rch_ps h lo ta hc
    · cases hx
theorem rch_beh {l : List Stg} {n : Nd} (h : rch l n = true) {x : Nd} (hx : x ∈ beh l n) : rch l x = true := by
  unfold beh at hx
  simp only [List.mem_append] at hx
  rcases hx with hx | hx | hx | hx
  · exact rch_out h _ _ hx
  · exact rch_out h _ _ hx
  · exact rch_out h _ _ hx
  · exact rch_out h _ _ hx
/-- Each that comes out is a beginning, or waits out of one. -/
theorem rch_comes {l : List Stg} {n : Nd} (h : rch l n = true) : n = bgN l n.st.toNat ∨ (n = psN l (bgN l n.st.toNat) (!n.lp) (!n.tk) ∧ n.live = true) := by
  obtain ⟨h1, h2⟩ := rch_split h
  obtain ⟨g1, _⟩ := isS_iff.1 h1
  have hn : ((n.st.toNat : Nat) : Int) = n.st := by omega
  rcases h2 with ⟨e1, e2⟩ | ⟨e1, e2, e3⟩
  · exact Or.inl (Nd.ext3 hn.symm e1 e2)
  · refine Or.inr ⟨?_, e3⟩
    unfold psN bgN
    dsimp only
    rw [hn]
    exact Nd.ext3 rfl (ol_comes _ _ e1).symm (ol_comes _ _ e2).symm
theorem rch_in {l : List Stg} {n : Nd} (h : rch l n = true) : n = bgN l n.st.toNat ∨ ∃ lo ta, n ∈ outs (stpN l (bgN l n.st.toNat) lo ta) := by
  rcases rch_comes h with e | ⟨e, hl⟩
  · exact Or.inl e
  · refine Or.inr ⟨!n.lp, !n.tk, ?_⟩
    unfold outs stpN
    rw [← e, hl]
    simp
/-- A set that holds all beginnings, and what comes out of its own, holds all that comes out. -/
theorem rch_closed {l : List Stg} {S : Nd → Prop} (hb : ∀ s, 1 ≤ s → s ≤ l.length → S (bgN l s)) (hc : ∀ n, S n → ∀ x ∈ beh l n, S x) {n : Nd} (h : rch l n = true) : S n := by
  obtain ⟨h1, _⟩ := rch_split h
  obtain ⟨g1, g2⟩ := isS_iff.1 h1
  have h0 := hb n.st.toNat (by omega) (by omega)
  rcases rch_in h with e | ⟨lo, ta, hx⟩
  · rw [e]; exact h0
  · exact hc _ h0 _ (beh_has _ _ _ _ hx)
/-! All that could be told, in order. -/
def four (s : Nat) : List Nd := [⟨(s : Int), true, true⟩, ⟨(s : Int), true, false⟩, ⟨(s : Int), false, true⟩, ⟨(s : Int), false, false⟩]
def allN : Nat → List Nd
  | 0 => []
  | k + 1 => allN k ++ four (k + 1)
theorem allN_len (k : Nat) : (allN k).length = 4 * k := by
  induction k with
  | zero => rfl
  | succ k ih => rw [allN, List.length_append, ih]; simp [four]; omega
theorem four_has (n : Nd) (s : Nat) (h : n.st = (s : Int)) : n ∈ four s := by
  obtain ⟨st, lp, tk⟩ := n
  dsimp only at h
  subst h
  cases lp <;> cases tk <;> simp [four]
theorem four_st {n : Nd} {s : Nat} (h : n ∈ four s) : n.st = (s : Int) := by
  unfold four at h
  simp only [List.mem_cons, List.not_mem_nil, or_false] at h
  rcases h with rfl | rfl | rfl | rfl <;> rfl
theorem allN_has {n : Nd} {k : Nat} (h1 : 1 ≤ n.st) (h2 : n.st ≤ (k : Int)) : n ∈ allN k := by
  induction k with
  | zero => omega
  | succ k ih =>
    rw [allN, List.mem_append]
    by_cases h : n.st ≤ (k : Int)
    · exact Or.inl (ih h)
    · exact Or.inr (four_has n _ (by omega))
theorem allN_st {n : Nd} {k : Nat} (h : n ∈ allN k) : 1 ≤ n.st ∧ n.st ≤ (k : Int) := by
  induction k with
  | zero => cases h
  | succ k ih =>
    rw [allN, List.mem_append] at h
    rcases h with h | h
    · have := ih h; omega
    · have := four_st h; omega
theorem four_nodup (s : Nat) : (four s).Nodup := by
  unfold four
  simp
theorem allN_nodup (k : Nat) : (allN k).Nodup := by
  induction k with
  | zero => simp [allN]
  | succ k ih =>
    rw [allN, List.nodup_append]
    refine ⟨ih, four_nodup _, fun a ha b hb e => ?_⟩
    subst e
    have h1 := allN_st ha
    have h2 := four_st hb
    omega
/-- The nodes that a pattern tells. -/
def ndsR (l : List Stg) : List Nd := (allN l.length).filter (rch l)
theorem ndsR_has {l : List Stg} {n : Nd} : n ∈ ndsR l ↔ rch l n = true := by
  unfold ndsR
  rw [List.mem_filter]
  refine ⟨fun h => h.2, fun h => ⟨?_, h⟩⟩
  obtain ⟨h1, _⟩ := rch_split h
  obtain ⟨g1, g2⟩ := isS_iff.1 h1
  exact allN_has g1 g2
theorem ndsR_len (l : List Stg) : (ndsR l).length ≤ 4 * l.length := by
  unfold ndsR
  have := List.length_filter_le (rch l) (allN l.length)
  rw [allN_len] at this
  exact this
/-- As many unlike nodes as come out are at most four a stage. -/
theorem rch_few {l : List Stg} {S : List Nd} (hn : S.Nodup) (h : ∀ n ∈ S, rch l n = true) : S.length ≤ 4 * l.length := by
  have : S.length ≤ (allN l.length).length := List.Nodup.length_le_of_subset hn (fun n hs => by
    obtain ⟨h1, _⟩ := rch_split (h n hs)
    obtain ⟨g1, g2⟩ := isS_iff.1 h1
    exact allN_has g1 g2)
  rw [allN_len] at this
  exact this
end Go.Proofs.YtgcmfcidmmjfiaaGreatDoor
namespace Go.Proofs.YtgcmfcidmmjfiaaGreatDoor
open Go.RowKit

theorem results_row_tmp {P : Program} {fn : Func} {p u : Tmp} {ty : TypeId} (h : fn.results = #[.cell p ty, .tmp u]) (tmps : Array Value) (w : World) (g : Nat) (t : TypeId) (cs : Array Value) (fr : Nat × Nat) (d : TypeDesc)
    (hp : tmps.getD p undef = .pointer (some ⟨g, 0, none⟩)) (hg : w.heap[g]? = some (.cells cs t fr))
    (hu : P.underlying ty = some d) (hd : (match d with | .struct _ | .array _ _ => true | _ => false) = true) (hi : (P.info? ty).map (·.size) = some cs.size) :
    (results fn tmps).run P w = .ok (.tuple #[.agg cs, tmps.getD u undef]) w := by
  rw [results_cell_tmp h, hp]
  simp [asAddr, run_loadVar_row w g t ty cs fr d hg hu hd hi]
end Go.Proofs.YtgcmfcidmmjfiaaGreatDoor
