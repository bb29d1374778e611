/-
  A slice of parts that comes in as an argument, within the form's own reach: how long it and its texts may be.
  A pattern that comes in as an argument: its stages lie where it says.
  NfaNodes: which nodes a pattern has is as the document has it.
  NfaNodes is proved: for every pattern the law NfaNodes returns true (which nodes a pattern has is as the document has it), and its argument reads behind the call as before. Condition: the packages' tables and words, and strconv's and math/bits' variables, read as their own texts lay them (the card ties that to the program).
-/
import Derived.Test.YtjijhefmbmdbeaaGreatDoorD13
import Derived.SizedLaws
import Derived.Test.YtjijhefmbmdbeaaGreatDoorD23
import Derived.ChangeArms
import Derived.Test.YtjijhefmbmdbeaaGreatDoorD49
import Derived.Test.YtjijhefmbmdbeaaGreatDoorCards
import Derived.Test.YtjijhefmbmdbeaaGreatDoorTie
import Derived.Test.YtjijhefmbmdbeaaGreatDoorD36
import Derived.ProofKit
import Derived.OpenShut
import Derived.Deep.DeepHandedRow
import Derived.Lib.LaidTab
namespace Go.Proofs.YtjijhefmbmdbeaaGreatDoor
open Go.RowKit Go.Deep

theorem bytes_Pt : Tryz.prog.bytesOf 86 = 56 := by kernel_rfl
theorem weightsAll_mem {H : Type} {P : Program} {e : TypeId} {ds : List (DataW H)} {d : DataW H} {n : Nat} (hd : d ∈ ds) (hn : n ∈ d.weights P e) : n ∈ DataW.weightsAll P e ds := by
  induction ds with
  | nil => cases hd
  | cons x r ih =>
    simp only [DataW.weightsAll, List.mem_append]
    rcases List.mem_cons.1 hd with rfl | h
    · exact Or.inl hn
    · exact Or.inr (ih h)
set_option maxRecDepth 100000 in
theorem open_pts3 {H : Type} {enc : TypeId × Value → H} {W : World} {spare : Nat → Bool} {held : Bool} {fuel : Nat} {v : Value} {x : DataW H × List MemPlace}
    (h : DataW.trod enc Tryz.prog W 0 spare held fuel 52 [v] = some x) (hw : ∀ n ∈ x.1.weights Tryz.prog 52, n ≤ reachBytes) :
    ∃ (ad : Option Addr) (cap : Nat) (l : List Pt), v = .slice ad l.length cap ∧ l.length * 56 ≤ 140737488351232 ∧ l.length ≤ cap ∧ PtsAt W ad l ∧ (∀ y ∈ l, y.ok) ∧ (ad = none → cap = 0) ∧ ∀ y ∈ l, y.s.size ≤ 140737488351232 ∧ y.st.size ≤ 140737488351232 := by
  obtain ⟨ad, cap, l, hv, h1, h2, h3⟩ := open_pts h
  obtain ⟨f0, f1, f2, f3, f4, hu, t0, t1, t2, t3, t4, o0, o1, o2, o3, o4⟩ := open_pts_fields
  rcases open_slice Tryz.underlying52 h with ⟨hcs, _⟩ | ⟨a, len, cap', m, n, D, Pl, hcs, hb, hl, hm, hmm, rfl, hx⟩
  · simp only [List.cons.injEq, and_true] at hcs
    rw [hv] at hcs
    simp only [Value.slice.injEq] at hcs
    have hl0 : l = [] := List.eq_nil_of_length_eq_zero hcs.2.1
    subst hl0
    exact ⟨ad, cap, [], hv, by simp, by simp, h2, h3, fun _ => hcs.2.2, by simp⟩
  · simp only [List.cons.injEq, and_true] at hcs
    rw [hv] at hcs
    simp only [Value.slice.injEq] at hcs
    obtain ⟨rfl, hll, rfl⟩ := hcs
    have hlm : len ≤ m := by rw [hmm]; split <;> omega
    have hw0 : (len + (m - len)) * 56 ≤ reachBytes := by
      have := hw ((len + (m - len)) * 56) (by simp [DataW.weights, Tryz.underlying52, bytes_Pt])
      exact this
    have hreach : reachBytes = 140737488351232 := by decide
    refine ⟨some a, cap, l, hv, by omega, by omega, h2, h3, (by intro e; cases e), fun y hy => ?_⟩
    obtain ⟨i, hi, rfl⟩ := List.mem_iff_getElem.1 hy
    obtain ⟨b, off, ea, _, hc⟩ := h2 (fun e => by rw [e] at hi; simp at hi)
    obtain rfl := Option.some.inj ea
    obtain ⟨cs', k1, k2⟩ := hx i (by omega)
    rw [open_pts_cells] at k1
    obtain ⟨_, hlen, hcell⟩ := World.cells?_some k1
    obtain ⟨xs, k, hk, hxy, _, hxl, hf⟩ := DataW.trod_struct hu k2
    match xs, hxl, cs', hlen with
    | [y0, y1, y2, y3, y4], _, [v0, v1, v2, v3, v4], _ =>
      have g2 := hf 2 f2 rfl
      have g3 := hf 3 f3 rfl
      simp [o2, o3, t2, t3, open_pts_cells_string] at g2 g3
      have e2 := hcell 2 (by omega)
      have e3 := hcell 3 (by omega)
      rw [Go.Deep.add_add] at e2 e3
      obtain ⟨s, q2, q3, _⟩ := DataW.trod_string Tryz.underlying9 g2
      obtain ⟨s', q2', q3', _⟩ := DataW.trod_string Tryz.underlying9 g3
      simp only [List.cons.injEq, and_true] at q2 q2'
      subst q2 q2'
      have c2 := (hc i hi).2.2.1
      have c3 := (hc i hi).2.2.2.1
      rw [Go.WideShapes.add_plain] at e2 e3
      have e2' : W.cell? ⟨b, off + i * 5 + 2, none⟩ = some (.string s) := by rw [Nat.add_assoc]; simpa using e2
      have e3' : W.cell? ⟨b, off + i * 5 + 3, none⟩ = some (.string s') := by rw [Nat.add_assoc]; simpa using e3
      rw [c2] at e2'
      rw [c3] at e3'
      simp only [Option.some.injEq, Value.string.injEq] at e2' e3'
      rw [e2', e3']
      have hD : D i = .agg [y0.1, y1.1, y2.1, y3.1, y4.1] := by have := congrArg Prod.fst hxy; simpa using this
      have hwt : s.size ∈ (D i).weights Tryz.prog 86 := by
        rw [hD]
        simp only [DataW.weights, hu]
        refine DataW.weights_mem_each (j := 2) (t := 9) (d := y2.1) (by simp [t2]) rfl _ ?_
        rw [q3]
        simp [DataW.weights]
      have hwt' : s'.size ∈ (D i).weights Tryz.prog 86 := by
        rw [hD]
        simp only [DataW.weights, hu]
        refine DataW.weights_mem_each (j := 3) (t := 9) (d := y3.1) (by simp [t3]) rfl _ ?_
        rw [q3']
        simp [DataW.weights]
      have r1 := hw s.size (by
        simp only [DataW.weights, Tryz.underlying52, List.mem_cons, List.mem_append]
        exact Or.inr (Or.inl (weightsAll_mem (List.mem_map.2 ⟨i, List.mem_range.2 (by omega), rfl⟩) hwt)))
      have r2 := hw s'.size (by
        simp only [DataW.weights, Tryz.underlying52, List.mem_cons, List.mem_append]
        exact Or.inr (Or.inl (weightsAll_mem (List.mem_map.2 ⟨i, List.mem_range.2 (by omega), rfl⟩) hwt')))
      exact ⟨by omega, by omega⟩
end Go.Proofs.YtjijhefmbmdbeaaGreatDoor
namespace Go.Proofs.YtjijhefmbmdbeaaGreatDoor
open Go.RowKit Go.Deep

theorem cells_Stage : Tryz.prog.cellsOf 54 = 4 := by kernel_rfl
theorem cells_Pattern : Tryz.prog.cellsOf 24 = 2 := by kernel_rfl
theorem cells_boolP : Tryz.prog.cellsOf 4 = 1 := by kernel_rfl
theorem cells_partsP : Tryz.prog.cellsOf 52 = 1 := by kernel_rfl
theorem cells_stagesP : Tryz.prog.cellsOf 22 = 1 := by kernel_rfl
theorem bytes_Stage : Tryz.prog.bytesOf 54 = 56 := by kernel_rfl
theorem fields_Stage : ∃ f0 f1 f2 f3 : Field, Tryz.prog.underlying 54 = some (.struct #[f0, f1, f2, f3]) ∧ f0.type = 9 ∧ f1.type = 3 ∧ f2.type = 4 ∧ f3.type = 52 ∧ f0.offset = 0 ∧ f1.offset = 1 ∧ f2.offset = 2 ∧ f3.offset = 3 :=
  ⟨_, _, _, _, Tryz.underlying54, rfl, rfl, rfl, rfl, rfl, rfl, rfl, rfl⟩
theorem fields_Pattern : ∃ f0 f1 : Field, Tryz.prog.underlying 24 = some (.struct #[f0, f1]) ∧ f0.type = 22 ∧ f1.type = 3 ∧ f0.offset = 0 ∧ f1.offset = 1 :=
  ⟨_, _, Tryz.underlying24, rfl, rfl, rfl, rfl⟩
/-- Within the form's own reach: how long a stage's condition and its texts may be. -/
def SR.hv (r : SR) : Prop := r.s.cd.length * 56 ≤ 140737488351232 ∧ r.s.cd.length ≤ r.c ∧ (r.ad = none → r.c = 0) ∧ ∀ y ∈ r.s.cd, y.s.size ≤ 140737488351232 ∧ y.st.size ≤ 140737488351232
section
variable {H : Type} {enc : TypeId × Value → H} {W : World} {spare : Nat → Bool} {held : Bool} {fuel : Nat} {v : Value} {x : DataW H × List MemPlace}
theorem open_ptsB (h : DataW.trod enc Tryz.prog W 0 spare held fuel 52 [v] = some x) :
    ∃ (ad : Option Addr) (cap : Nat) (l : List Pt), v = .slice ad l.length cap ∧ l.length ≤ 9223372036854775807 ∧ PtsAt W ad l ∧ (∀ y ∈ l, y.ok) ∧ ((∀ n ∈ x.1.weights Tryz.prog 52, n ≤ reachBytes) → l.length * 56 ≤ 140737488351232 ∧ l.length ≤ cap ∧ (ad = none → cap = 0) ∧ ∀ y ∈ l, y.s.size ≤ 140737488351232 ∧ y.st.size ≤ 140737488351232) := by
  by_cases hw : ∀ n ∈ x.1.weights Tryz.prog 52, n ≤ reachBytes
  · obtain ⟨ad, cap, l, h1, h2, h3, h4, h5, h6, h7⟩ := open_pts3 h hw
    exact ⟨ad, cap, l, h1, by omega, h4, h5, fun _ => ⟨h2, h3, h6, h7⟩⟩
  · obtain ⟨ad, cap, l, h1, h2, h3, h4⟩ := open_pts h
    exact ⟨ad, cap, l, h1, h2, h3, h4, fun h => absurd h hw⟩
set_option maxRecDepth 100000 in
theorem open_stage {cs : Array Value} (hsz : cs.size = 4) (h : DataW.trod enc Tryz.prog W 0 spare held fuel 54 cs.toList = some x) :
    ∃ r : SR, cs = #[.string r.s.nm, .int .i64 r.s.hw, .bool r.s.mn, .slice r.ad r.s.cd.length r.c] ∧ r.s.ok ∧ PtsAt W r.ad r.s.cd ∧ ((∀ m ∈ x.1.weights Tryz.prog 54, m ≤ reachBytes) → r.hv) := by
  obtain ⟨f0, f1, f2, f3, hu, t0, t1, t2, t3, o0, o1, o2, o3⟩ := fields_Stage
  obtain ⟨xs, n, _, hxe, _, hxl, hf⟩ := DataW.trod_struct hu h
  obtain ⟨l⟩ := cs
  match xs, hxl, l, hsz with
  | [y0, y1, y2, y3], _, [v0, v1, v2, v3], _ =>
    have g0 := hf 0 f0 rfl
    have g1 := hf 1 f1 rfl
    have g2 := hf 2 f2 rfl
    have g3 := hf 3 f3 rfl
    simp [o0, o1, o2, o3, t0, t1, t2, t3, open_pts_cells_string, open_pts_cells_int, cells_boolP, cells_partsP] at g0 g1 g2 g3
    obtain ⟨k0, q0, _, w0⟩ := DataW.trod_string Tryz.underlying9 g0
    obtain ⟨k1, q1, _, w1⟩ := DataW.trod_int Tryz.underlying3 g1
    obtain ⟨k2, q2, _⟩ := DataW.trod_bool Tryz.underlying4 g2
    obtain ⟨ad, cp, cd, rfl, h2, h3, h4, h5⟩ := open_ptsB g3
    simp only [List.cons.injEq, and_true] at q0 q1 q2
    subst q0 q1 q2
    have u1 := bounds_i64 w1
    unfold maxLen at w0
    refine ⟨⟨⟨k0, k1, k2, cd⟩, ad, cp⟩, rfl, ⟨by show k0.size ≤ _; omega, ⟨u1.1, by show k1 ≤ _; omega⟩, h4⟩, h3, fun hw => h5 (fun m hm => hw m ?_)⟩
    rw [hxe]
    simp only [DataW.weights, hu]
    exact DataW.weights_mem_each (j := 3) (t := 52) (d := y3.1) (by simp [t3]) rfl m hm
set_option maxRecDepth 100000 in
theorem open_stages (h : DataW.trod enc Tryz.prog W 0 spare held fuel 22 [v] = some x) :
    ∃ (ad : Option Addr) (cap : Nat) (l : List SR), v = .slice ad l.length cap ∧ l.length ≤ 9223372036854775807 ∧ StsAt W ad l ∧ (∀ r ∈ l, r.s.ok) ∧ ((∀ m ∈ x.1.weights Tryz.prog 22, m ≤ reachBytes) → l.length * 56 ≤ 140737488351232 ∧ (ad = none → cap = 0) ∧ ∀ r ∈ l, r.hv) := by
  rcases open_slice Tryz.underlying22 h with ⟨hcs, _⟩ | ⟨a, len, cap, m, n, D, Pl, hcs, hb, hl, hm, hmm, hxe, hx⟩
  · simp only [List.cons.injEq, and_true] at hcs
    subst hcs
    exact ⟨none, 0, [], rfl, by simp, fun hne => absurd rfl hne, by simp, fun _ => ⟨by simp, fun _ => rfl, by simp⟩⟩
  · simp only [List.cons.injEq, and_true] at hcs
    subst hcs
    have hlm : len ≤ m := by rw [hmm]; split <;> omega
    have each : ∀ i, i < len → ∃ y : SR, (W.cell? (a.add (i * 4)) = some (.string y.s.nm) ∧ W.cell? (a.add (i * 4 + 1)) = some (.int .i64 y.s.hw) ∧ W.cell? (a.add (i * 4 + 2)) = some (.bool y.s.mn) ∧ W.cell? (a.add (i * 4 + 3)) = some (.slice y.ad y.s.cd.length y.c)) ∧ y.s.ok ∧ PtsAt W y.ad y.s.cd ∧ ((∀ m ∈ (D i).weights Tryz.prog 54, m ≤ reachBytes) → y.hv) := by
      intro i hi
      obtain ⟨cs', h1, h2⟩ := hx i (by omega)
      rw [cells_Stage] at h1
      obtain ⟨_, hlen, hcell⟩ := World.cells?_some h1
      obtain ⟨y, hy, hok⟩ := open_stage (cs := cs'.toArray) (by simpa using hlen) (by simpa using h2)
      refine ⟨y, ?_, hok⟩
      have hy' : cs' = [.string y.s.nm, .int .i64 y.s.hw, .bool y.s.mn, .slice y.ad y.s.cd.length y.c] := by simpa using congrArg Array.toList hy
      subst hy'
      have e0 := hcell 0 (by omega)
      have e1 := hcell 1 (by omega)
      have e2 := hcell 2 (by omega)
      have e3 := hcell 3 (by omega)
      rw [Go.Deep.add_add] at e0 e1 e2 e3
      exact ⟨by simpa using e0, by simpa using e1, by simpa using e2, by simpa using e3⟩
    have hinh : Inhabited SR := ⟨⟨⟨⟨#[]⟩, 0, false, []⟩, none, 0⟩⟩
    obtain ⟨q, hq⟩ := choose_lt each
    refine ⟨some a, cap, (List.range len).map q, by simp, by simp; unfold maxLen at hm; omega, fun hne => ?_, fun y hy => ?_, fun hw => ⟨?_, (by intro e; cases e), fun y hy => ?_⟩⟩
    · have h0 : 0 < len := by
        rcases Nat.eq_zero_or_pos len with e | e
        · subst e; simp at hne
        · exact e
      obtain ⟨b, off, spot⟩ := a
      have hc0 := (hq 0 h0).1.1
      have hspot : spot = none := by simpa [Addr.add] using World.cell?_spot hc0
      subst hspot
      refine ⟨b, off, rfl, ?_, fun i hi => ?_⟩
      · rcases Nat.lt_or_ge b W.heap.size with hlt | hge
        · exact hlt
        · exfalso
          rw [Go.WideShapes.add_plain] at hc0
          simp [World.cell?, Array.getElem?_eq_none hge] at hc0
      · have hi' : i < len := by simpa using hi
        obtain ⟨⟨c0, c1, c2, c3⟩, _, c4, _⟩ := hq i hi'
        rw [Go.WideShapes.add_plain] at c0 c1 c2 c3
        simp only [List.getElem_map, List.getElem_range]
        exact ⟨c0, by rw [Nat.add_assoc]; exact c1, by rw [Nat.add_assoc]; exact c2, by rw [Nat.add_assoc]; exact c3, c4⟩
    · obtain ⟨i, hi, rfl⟩ := List.mem_map.1 hy
      exact (hq i (List.mem_range.1 hi)).2.1
    · have hw0 : (len + (m - len)) * 56 ≤ reachBytes := hw _ (by rw [hxe]; simp [DataW.weights, Tryz.underlying22, bytes_Stage])
      have hreach : reachBytes = 140737488351232 := by decide
      simp only [List.length_map, List.length_range]
      omega
    · obtain ⟨i, hi, rfl⟩ := List.mem_map.1 hy
      refine (hq i (List.mem_range.1 hi)).2.2.2 (fun m hm => hw m ?_)
      rw [hxe]
      simp only [DataW.weights, Tryz.underlying22]
      exact List.mem_cons_of_mem _ (List.mem_append.2 (Or.inl (weightsAll_mem (List.mem_map.2 ⟨i, hi, rfl⟩) hm)))
set_option maxRecDepth 100000 in
theorem open_pattern {cs : Array Value} (hsz : cs.size = Tryz.prog.cellsOf 24) (h : DataW.trod enc Tryz.prog W 0 spare held fuel 24 cs.toList = some x) :
    ∃ (sa : Option Addr) (sc : Nat) (l : List SR) (wi : Int), cs = #[.slice sa l.length sc, .int .i64 wi] ∧ l.length ≤ 9223372036854775807 ∧ StsAt W sa l ∧ (∀ r ∈ l, r.s.ok) ∧ (-9223372036854775808 ≤ wi ∧ wi ≤ 9223372036854775807) ∧ ((∀ m ∈ x.1.weights Tryz.prog 24, m ≤ reachBytes) → l.length * 56 ≤ 140737488351232 ∧ (sa = none → sc = 0) ∧ ∀ r ∈ l, r.hv) := by
  obtain ⟨f0, f1, hu, t0, t1, o0, o1⟩ := fields_Pattern
  rw [cells_Pattern] at hsz
  obtain ⟨xs, n, _, hxe, _, hxl, hf⟩ := DataW.trod_struct hu h
  obtain ⟨l⟩ := cs
  match xs, hxl, l, hsz with
  | [y0, y1], _, [v0, v1], _ =>
    have g0 := hf 0 f0 rfl
    have g1 := hf 1 f1 rfl
    simp [o0, o1, t0, t1, open_pts_cells_int, cells_stagesP] at g0 g1
    obtain ⟨k1, q1, _, w1⟩ := DataW.trod_int Tryz.underlying3 g1
    obtain ⟨sa, sc, l, rfl, h2, h3, h4, h5⟩ := open_stages g0
    simp only [List.cons.injEq, and_true] at q1
    subst q1
    have u1 := bounds_i64 w1
    refine ⟨sa, sc, l, k1, rfl, h2, h3, h4, ⟨u1.1, by omega⟩, fun hw => h5 (fun m hm => hw m ?_)⟩
    rw [hxe]
    simp only [DataW.weights, hu]
    exact DataW.weights_mem_each (j := 0) (t := 22) (d := y0.1) (by simp [t0]) rfl m hm
end
end Go.Proofs.YtjijhefmbmdbeaaGreatDoor
namespace Go.Proofs.YtjijhefmbmdbeaaGreatDoor
open Go.RowKit Go.Shelf

set_option maxHeartbeats 4000000 in
set_option maxRecDepth 100000 in
theorem nnodes_walk (sa : Option Addr) (sc : Nat) (l : List SR) (wi : Int) (w : World) (hl : l.length ≤ 9223372036854775807) (h : StsAt w sa l) (hok : ∀ r ∈ l, r.s.ok) (hwt : l.length * 56 ≤ 140737488351232 ∧ (sa = none → sc = 0) ∧ ∀ r ∈ l, r.hv) (hTB : TbE w ∧ Both w) :
    Calls Tryz.prog 4 #[.agg #[.slice sa l.length sc, .int .i64 wi]] w fun e w' => e = .returned (.bool true) ∧ Kp [] w w' := by
  obtain ⟨hT, hbo⟩ := hTB
  obtain ⟨hw1, hw2, hw3⟩ := hwt
  have hHv : HvS l := fun r hr p hp => (hw3 r hr).2.2.2 p hp
  have k0 := Kp.alloc w (.cells #[.slice sa l.length sc, .int .i64 wi] 24)
  have hP := CBox.new w #[.slice sa l.length sc, .int .i64 wi] 24
  have ND := hide (nnodes_any sa sc l wi _ (h.kp k0) (hT.kp k0 (by simp)) (hbo.kp k0 (by simp)) hok hl)
  have RD := hide (fun W (hk : Kp [] w W) => rnnodes_any sa sc l wi W (h.kp hk) hok hHv hl)
  have WK := hide (fun W (hk : Kp [] w W) => nworks_any W (hT.kp hk (by simp)))
  have hLL : (nnL ⟨stgs l, wi⟩).length ≤ 32 := by
    unfold nnL
    by_cases h0 : (pcR ⟨stgs l, wi⟩).2 = 0
    · rw [if_pos h0]
      obtain ⟨_, p2, -, -⟩ := pc_ok h0
      dsimp only at p2 ⊢
      have := ndsR_len (stgs l)
      omega
    · rw [if_neg h0]; simp
  generalize nnE ⟨stgs l, wi⟩ = R at *
  generalize nnL ⟨stgs l, wi⟩ = LL at *
  have HK0 := hide k0
  have HP0 := hide hP
  clear h hok hl hT hbo hHv hw1 hw2 hw3 k0
  generalize l.length = nn at *
  have c0 := hP.cell (i := 0) (v := .slice sa nn sc) rfl
  have c1 := hP.cell (i := 1) (v := .int .i64 wi) rfl
  clear hP
  go_enter Tryz.func4, Tryz.ntmps4
  go_wp2_with fail
  refine (unhide ND).mono ?_
  rintro e w1 ⟨v1, rfl, ho1, hk1⟩
  have HK1 := hide ((unhide HK0).trans hk1 (by simp))
  have hp1 := (unhide HP0).kp hk1 (by simp)
  have d0 := hp1.cell (i := 0) (v := .slice sa nn sc) rfl
  have d1 := hp1.cell (i := 1) (v := .int .i64 wi) rfl
  have RD1 := hide (unhide RD w1 (unhide HK1))
  have HO1 := hide ho1
  clear ND RD HK0 HP0 hk1 hp1 c0 c1 ho1
  go_wp2_with fail
  refine (unhide RD1).mono ?_
  rintro e w2 ⟨v2, rfl, ho2, hk2⟩
  have HK2 := hide ((unhide HK1).trans hk2 (by simp))
  have ho1 := (unhide HO1).kp hk2
  have WK2 := hide (fun W (hk : Kp [] w2 W) => unhide WK W ((unhide HK2).trans hk (by simp)))
  clear RD1 WK HK1 HO1 hk2 d0 d1
  obtain ⟨a1, q1, hv1⟩ : ∃ a q, v1 = .slice a LL.length q := by
    rcases ho1.at with ⟨e1, e2⟩ | ⟨g, cap, e1, _⟩
    · exact ⟨none, 0, by rw [e1, e2]; rfl⟩
    · exact ⟨_, _, e1⟩
  obtain ⟨a2, q2, hv2⟩ : ∃ a q, v2 = .slice a LL.length q := by
    rcases ho2.at with ⟨e1, e2⟩ | ⟨g, cap, e1, _⟩
    · exact ⟨none, 0, by rw [e1, e2]; rfl⟩
    · exact ⟨_, _, e1⟩
  subst hv1 hv2
  have HN : Hid (∀ W, Kp [] w2 W → ∀ i (hi : i < LL.length), ∃ g1 g2, a1 = some ⟨g1, 0, none⟩ ∧ a2 = some ⟨g2, 0, none⟩ ∧ g1 < W.heap.size ∧ g2 < W.heap.size ∧ (W.cell? ⟨g1, i * 3, none⟩ = some (.int .i64 LL[i].st) ∧ W.cell? ⟨g1, i * 3 + 1, none⟩ = some (.bool LL[i].lp) ∧ W.cell? ⟨g1, i * 3 + 2, none⟩ = some (.bool LL[i].tk)) ∧ (W.cell? ⟨g2, i * 3, none⟩ = some (.int .i64 LL[i].st) ∧ W.cell? ⟨g2, i * 3 + 1, none⟩ = some (.bool LL[i].lp) ∧ W.cell? ⟨g2, i * 3 + 2, none⟩ = some (.bool LL[i].tk))) := hide (fun W hk i hi => by
    have o1 := ho1.kp hk
    have o2 := ho2.kp hk
    rcases o1.at with ⟨_, e⟩ | ⟨g1, c1, e1, _, b1, _⟩
    · rw [e] at hi; simp at hi
    rcases o2.at with ⟨_, e⟩ | ⟨g2, c2, e2, _, b2, _⟩
    · rw [e] at hi; simp at hi
    rw [e1] at o1
    rw [e2] at o2
    injection e1 with e1 _ _
    injection e2 with e2 _ _
    exact ⟨g1, g2, e1, e2, b1, b2, o1.get i hi, o2.get i hi⟩)
  obtain ⟨N, hNe⟩ : ∃ N, LL.length = N := ⟨_, rfl⟩
  have HNL := hide hNe
  rw [hNe] at hLL ⊢
  clear ho1 ho2 hNe
  go_wp2_with fail
  go_loopw [7] (fun iv wr => ∃ k : Nat, k ≤ N ∧ iv = .int .i64 (k : Int) ∧ Hid (Kp [] w2 wr)) (fun iv _ => N - (intOf iv).toNat)
  case atStart => exact ⟨0, Nat.zero_le _, rfl, hide (Kp.refl _ _)⟩
  case round =>
    obtain ⟨k, hk, rfl, HK⟩ := hrel
    by_cases hlt : k < N
    · have hli : (k : Int) < (N : Int) := by omega
      obtain ⟨g1, g2, rfl, rfl, b1, b2, ⟨x0, x1, x2⟩, y0, y1, y2⟩ := unhide HN wr (unhide HK) k (by rw [unhide HNL]; exact hlt)
      generalize LL[k]'(by rw [unhide HNL]; exact hlt) = X at *
      have EQ := fun W => eqN 9998 X X W
      unfold Nd.c at EQ
      have hnd : ndE X X = true := (ndE_iff _ _).2 rfl
      rw [hnd] at EQ
      clear hnd HN
      have HKW : Hid (∀ W, Kp [] wr W → Kp [] w2 W) := hide (fun W h => (unhide HK).trans h (by simp))
      go_wp2_with fail
      go_quiet (fail)
      go_wp2_with fail
      go_roundw
      case rel => exact ⟨k + 1, by omega, by go_num, hide (unhide HKW _ (by first | exact Kp.refl _ _ | exact Kp.drew _ | exact Kp.drewQ _ _))⟩
      case measure => simp [intOf]; omega
    · obtain rfl : k = N := by omega
      have hli : ((k : Int) < (k : Int)) = False := by simp
      have WK3 := hide (unhide WK2 wr (unhide HK))
      clear HN WK2
      go_wp2_with fail
      refine (unhide WK3).mono ?_
      rintro e w3 ⟨rfl, hk3⟩
      have HF := hide ((unhide HK2).trans ((unhide HK).trans hk3 (by simp)) (by simp))
      clear hk3 WK3
      go_wp2
      go_ret
      exact ⟨rfl, unhide HF⟩
end Go.Proofs.YtjijhefmbmdbeaaGreatDoor
namespace Go.Proofs.YtjijhefmbmdbeaaGreatDoor.nfaNodes
open Go.ChangeShapes Go.WideShapes Go.ChangeAt Go.RowKit
open Go.ChangeMaps (open_string shut_string)

theorem own : ownKnob Tryz.prog.godebug = none := by kernel_rfl
theorem laidOut : laidOutB Tryz.prog = true := by kernel_rfl
set_option maxRecDepth 100000 in
/-- What the walk gives, for every argument and every world that holds the table. -/
theorem contract (H : Type) (enc : TypeId × Value → H) (W : World) (base : Nat) (args : Array Value) (ds gs : List (DataW H)) (before : List MemPlace)
    (hval : ∀ (j : Nat) t v, Tryz.f4.params[j]? = some t → args[j]? = some v → Value.okWide Tryz.prog W .any base t v)
    (hW : DataW.Whole enc Tryz.prog Tryz.f4.params.toList Rows.nfaNodesSpec.vars false W args.toList ds gs before) (hsz0 : (DataW.weightsEach Tryz.prog (Tryz.f4.params.toList ++ (OpenSpec.ofChange Rows.nfaNodesSpec).bare.plain.varTypes Tryz.prog) (ds ++ gs)).all (· ≤ reachBytes) = true) (hL : laidMetH Tryz.prog Rows.nfaNodesRow.laid W) :
    Calls Tryz.prog 4 args W fun e W' => ∃ v, e = .returned v ∧ Rows.nfaNodesSpec.post enc Tryz.prog Tryz.f4 false true false false W args v W' := by
  have hW' := hW
  obtain ⟨p, q, hA0, hV, rfl, hfz, hnd⟩ := hW
  have hA : DataW.TrodAll enc Tryz.prog W 0 (fun _ => true) true Tryz.f4.params.toList args.toList ds p := hA0
  rw [Tryz.params4] at hA hval
  have hsz : (DataW.weightsEach Tryz.prog (Tryz.f4.params.toList ++ Rows.nfaNodesSpec.plain.varTypes Tryz.prog) (ds ++ gs)).all (· ≤ reachBytes) = true := hsz0
  rw [Tryz.params4] at hsz
  obtain ⟨v0, vs0, d0, ds0, p0, q0, hargs, rfl, rfl, h0, r0⟩ := trodAll_cons hA
  obtain ⟨rfl, rfl, rfl⟩ := trodAll_nil r0
  obtain rfl : args = #[v0] := by cases args; simp_all
  obtain ⟨rfl, rfl⟩ := trodVars_none hV
  have z0 : ∀ n ∈ d0.weights Tryz.prog 24, n ≤ reachBytes := fun n hn => of_decide_eq_true (List.all_eq_true.1 hsz n (DataW.weights_mem_each (j := 0) (t := 24) (d := d0) rfl rfl n hn))
  have h0k := h0
  obtain ⟨cs0, rfl, y0⟩ := okWide_struct Tryz.underlying24 (hval 0 24 v0 rfl rfl)
  obtain ⟨fuel0, hf0⟩ := h0
  obtain ⟨sa0, sc0, st0, wi0, rfl, b10, b20, b30, b40, b50⟩ := open_pattern y0 (by simpa [Value.cells] using hf0)
  clear hf0
  clear hA0
  simp only [List.append_nil] at hW'
  have hlt0 : ∀ x ∈ p0, x.block < W.heap.size := fun x hx => by simpa using hW'.lt x (by simp [hx])
  refine (nnodes_walk sa0 sc0 st0 wi0 W b10 b20 b30 (b50 z0) (tbN hL)).mono fun e W' ⟨he, hg0⟩ => ?_
  subst he
  have hg := hg0.below (Nat.le_refl W.heap.size) (by simp)
  exact ⟨_, rfl, _, _, _, [], p0 ++ [], [], hW', trodAll_cons_mk (shut_bool Tryz.underlying4 _) trodAll_mk0, trodAll_cons_mk (Below.trod laidOut (by kernel_rfl) (of_decide_eq_true (by kernel_rfl)) h0k hg hlt0) trodAll_mk0, rfl, hg.frame _, fun h => by cases h⟩

theorem laid_met (os : Os) : laidMet Tryz.prog Rows.nfaNodesRow.laid ({ World.holding Tryz.prog os ⟨errBlks, #[], []⟩ with heap := putN (World.holding Tryz.prog os ⟨errBlks, #[], []⟩).heap }.forCall (fun _ _ => 0) ⟨#[], #[.agg #[.slice none 0 0, .int .i64 0]], []⟩).memory :=
  laidMet_of_run' 8 (by kernel_rfl) (by kernel_rfl)
theorem reads (os : Os) {H : Type} (enc : TypeId × Value → H) : ∃ places, DataW.whole enc Tryz.prog ({ World.holding Tryz.prog os ⟨errBlks, #[], []⟩ with heap := putN (World.holding Tryz.prog os ⟨errBlks, #[], []⟩).heap }.forCall (fun _ _ => 0) ⟨#[], #[.agg #[.slice none 0 0, .int .i64 0]], []⟩).memory Tryz.f4.params.toList Rows.nfaNodesSpec.vars false #[Value.agg #[.slice none 0 0, .int .i64 0]].toList 8 = some ([.agg [.nil, .lit (.int .i64 0)]], [], places) :=
  ⟨[], by kernel_rfl⟩
set_option maxRecDepth 100000 in
theorem lifted (os : Os) (started : os.Started) (H : Type) (enc : TypeId × Value → H) (F : Stop.Interp) :
    ReturnsInHanded {} Tryz.checked os 4 .any ((OpenSpec.ofChange Rows.nfaNodesSpec).preRow enc Tryz.prog Tryz.f4 Rows.nfaNodesRow.domain false Rows.nfaNodesRow.laid) (((OpenSpec.ofChange Rows.nfaNodesSpec).at F).post enc Tryz.prog Tryz.f4 false true false false) := by
  obtain ⟨places, hx⟩ := reads os enc
  refine returnsInHanded_of_row (C := Tryz.checked) (s := OpenSpec.ofChange Rows.nfaNodesSpec) own started (by kernel_rfl) Tryz.func4
    (witness_row_at (enc := enc) (C := Tryz.checked) false { World.holding Tryz.prog os ⟨errBlks, #[], []⟩ with heap := putN (World.holding Tryz.prog os ⟨errBlks, #[], []⟩).heap } #[.agg #[.slice none 0 0, .int .i64 0]] rfl (by kernel_rfl) (by kernel_rfl) (by kernel_rfl)
      (OpenSpec.preRow_of_cond 8 hx (by kernel_rfl) (fun k hk => by cases hk) (by kernel_rfl) (laid_met os))) ?_
  intro W base args ds gs before hval hW _ _ hsz hL _ _
  exact contract H enc W base args ds gs before hval hW hsz hL
theorem said : Rows.NfaNodesSaid :=
  OpenClaim.holds_of_cond 4 Tryz.f4 rfl rfl rfl rfl rfl rfl rfl ⟨rfl, rfl, rfl, rfl, rfl⟩ rfl rfl rfl rfl rfl (by kernel_rfl) Tryz.func4 (by kernel_rfl)
    (of_decide_eq_true (by kernel_rfl)) (by unfold Func.isWrapper; first | (rw [if_pos (by decide +kernel)]; kernel_rfl) | (rw [if_neg (by decide +kernel)]; exact ⟨rfl, rfl⟩))
    (fun os started H enc _ F => by rw [OpenClaim.pre_eq_preRow]; exact lifted os started H enc F)
/-- No parameter wants a stand-in; the program's own looks are off. -/
theorem plain (f : FuncId) (fn : Func) (hf : Tryz.pinned.checked.prog.funcNamed "weaver/weaverlaw13.NfaNodes" = some f) (hfn : Tryz.pinned.checked.prog.funcs[f]? = some fn) :
    true = Tryz.pinned.checked.prog.looks [] ∧ ∀ (j : Nat) t, fn.params[j]? = some t → Tryz.pinned.checked.prog.wantsStandIn t = false := by
  obtain rfl : f = 4 := Option.some.inj ((show Tryz.prog.funcNamed "weaver/weaverlaw13.NfaNodes" = some 4 by kernel_rfl).symm.trans hf) |>.symm
  obtain rfl : fn = Tryz.f4 := (Option.some.inj (Tryz.func4.symm.trans hfn)).symm
  refine ⟨by kernel_rfl, fun j t ht => ?_⟩
  rw [Tryz.params4] at ht
  have hm := Array.mem_of_getElem? ht
  simp at hm
  subst hm
  exact (show Tryz.prog.wantsStandIn 24 = false by kernel_rfl)
end Go.Proofs.YtjijhefmbmdbeaaGreatDoor.nfaNodes
namespace Go.Proofs.YtjijhefmbmdbeaaGreatDoor
/-- The card. -/
theorem nfaNodes_card : Rows.NfaNodesCardSaid :=
  Claim7.holds_tied_plain_at .later [] _ _ _ _ nfaNodes.said (fun _ h => by cases h) (by kernel_rfl) (fun _ h => by cases h) nfaNodes_row_tie rfl ⟨rfl, rfl⟩ (by kernel_rfl) rfl nfaNodes.plain (by kernel_rfl)
end Go.Proofs.YtjijhefmbmdbeaaGreatDoor
