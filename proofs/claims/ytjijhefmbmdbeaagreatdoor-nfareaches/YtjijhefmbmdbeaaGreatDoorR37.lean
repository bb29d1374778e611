/-
  A pattern that comes in as an argument: its stages lie where it says.
  A node that comes in as an argument.
  A slice of numbers that comes in as an argument: its numbers lie where it says.
  reached: the nodes that come out of a pattern's beginnings.
-/
import Derived.Test.YtjijhefmbmdbeaaGreatDoorR23
import Derived.Test.YtjijhefmbmdbeaaGreatDoorR36
import Derived.ChangeArms
import Derived.Test.YtjijhefmbmdbeaaGreatDoorR21
import Derived.ProofKit
import Derived.OpenShut
import Derived.Test.YtjijhefmbmdbeaaGreatDoorR35
import Derived.Deep.Slices
import Derived.Carry
namespace Go.Proofs.YtjijhefmbmdbeaaGreatDoor
open Go.RowKit Go.Deep

theorem cells_Stage : Tryz.prog.cellsOf 54 = 4 := by kernel_rfl
theorem cells_Pattern : Tryz.prog.cellsOf 24 = 2 := by kernel_rfl
theorem cells_boolP : Tryz.prog.cellsOf 4 = 1 := by kernel_rfl
theorem cells_partsP : Tryz.prog.cellsOf 52 = 1 := by kernel_rfl
theorem cells_stagesP : Tryz.prog.cellsOf 22 = 1 := by kernel_rfl
theorem bytes_Stage : Tryz.prog.bytesOf 54 = 56 := by kernel_rfl
theorem fields_Stage : ∃ f0 f1 f2 f3 : Field, Tryz.prog.underlying 54 = some (.struct #[f0, f1, f2, f3]) ∧ f0.type = 9 ∧ f1.type = 3 ∧ f2.type = 4 ∧ f3.type = 52 ∧ f0.offset = 0 ∧ f1.offset = 1 ∧ f2.offset = 2 ∧ f3.offset = 3 :=
  ⟨_, _, _, _, Tryz.underlying54, rfl, rfl, rfl, rfl, rfl, rfl, rfl, rfl⟩
theorem fields_Pattern : ∃ f0 f1 : Field, Tryz.prog.underlying 24 = some (.struct #[f0, f1]) ∧ f0.type = 22 ∧ f1.type = 3 ∧ f0.offset = 0 ∧ f1.offset = 1 :=
  ⟨_, _, Tryz.underlying24, rfl, rfl, rfl, rfl⟩
/-- Within the form's own reach: how long a stage's condition and its texts may be. -/
def SR.hv (r : SR) : Prop := r.s.cd.length * 56 ≤ 140737488351232 ∧ r.s.cd.length ≤ r.c ∧ (r.ad = none → r.c = 0) ∧ ∀ y ∈ r.s.cd, y.s.size ≤ 140737488351232 ∧ y.st.size ≤ 140737488351232
section
variable {H : Type} {enc : TypeId × Value → H} {W : World} {spare : Nat → Bool} {held : Bool} {fuel : Nat} {v : Value} {x : DataW H × List MemPlace}
theorem open_ptsB (h : DataW.trod enc Tryz.prog W 0 spare held fuel 52 [v] = some x) :
    ∃ (ad : Option Addr) (cap : Nat) (l : List Pt), v = .slice ad l.length cap ∧ l.length ≤ 9223372036854775807 ∧ PtsAt W ad l ∧ (∀ y ∈ l, y.ok) ∧ ((∀ n ∈ x.1.weights Tryz.prog 52, n ≤ reachBytes) → l.length * 56 ≤ 140737488351232 ∧ l.length ≤ cap ∧ (ad = none → cap = 0) ∧ ∀ y ∈ l, y.s.size ≤ 140737488351232 ∧ y.st.size ≤ 140737488351232) := by
  by_cases hw : ∀ n ∈ x.1.weights Tryz.prog 52, n ≤ reachBytes
  · obtain ⟨ad, cap, l, h1, h2, h3, h4, h5, h6, h7⟩ := open_pts3 h hw
    exact ⟨ad, cap, l, h1, by omega, h4, h5, fun _ => ⟨h2, h3, h6, h7⟩⟩
  · obtain ⟨ad, cap, l, h1, h2, h3, h4⟩ := open_pts h
    exact ⟨ad, cap, l, h1, h2, h3, h4, fun h => absurd h hw⟩
set_option maxRecDepth 100000 in
theorem open_stage {cs : Array Value} (hsz : cs.size = 4) (h : DataW.trod enc Tryz.prog W 0 spare held fuel 54 cs.toList = some x) :
    ∃ r : SR, cs = #[.string r.s.nm, .int .i64 r.s.hw, .bool r.s.mn, .slice r.ad r.s.cd.length r.c] ∧ r.s.ok ∧ PtsAt W r.ad r.s.cd ∧ ((∀ m ∈ x.1.weights Tryz.prog 54, m ≤ reachBytes) → r.hv) := by
  obtain ⟨f0, f1, f2, f3, hu, t0, t1, t2, t3, o0, o1, o2, o3⟩ := fields_Stage
  obtain ⟨xs, n, _, hxe, _, hxl, hf⟩ := DataW.trod_struct hu h
  obtain ⟨l⟩ := cs
  match xs, hxl, l, hsz with
  | [y0, y1, y2, y3], _, [v0, v1, v2, v3], _ =>
    have g0 := hf 0 f0 rfl
    have g1 := hf 1 f1 rfl
    have g2 := hf 2 f2 rfl
    have g3 := hf 3 f3 rfl
    simp [o0, o1, o2, o3, t0, t1, t2, t3, open_pts_cells_string, open_pts_cells_int, cells_boolP, cells_partsP] at g0 g1 g2 g3
    obtain ⟨k0, q0, _, w0⟩ := DataW.trod_string Tryz.underlying9 g0
    obtain ⟨k1, q1, _, w1⟩ := DataW.trod_int Tryz.underlying3 g1
    obtain ⟨k2, q2, _⟩ := DataW.trod_bool Tryz.underlying4 g2
    obtain ⟨ad, cp, cd, rfl, h2, h3, h4, h5⟩ := open_ptsB g3
    simp only [List.cons.injEq, and_true] at q0 q1 q2
    subst q0 q1 q2
    have u1 := bounds_i64 w1
    unfold maxLen at w0
    refine ⟨⟨⟨k0, k1, k2, cd⟩, ad, cp⟩, rfl, ⟨by show k0.size ≤ _; omega, ⟨u1.1, by show k1 ≤ _; omega⟩, h4⟩, h3, fun hw => h5 (fun m hm => hw m ?_)⟩
    rw [hxe]
    simp only [DataW.weights, hu]
    exact DataW.weights_mem_each (j := 3) (t := 52) (d := y3.1) (by simp [t3]) rfl m hm
set_option maxRecDepth 100000 in
theorem open_stages (h : DataW.trod enc Tryz.prog W 0 spare held fuel 22 [v] = some x) :
    ∃ (ad : Option Addr) (cap : Nat) (l : List SR), v = .slice ad l.length cap ∧ l.length ≤ 9223372036854775807 ∧ StsAt W ad l ∧ (∀ r ∈ l, r.s.ok) ∧ ((∀ m ∈ x.1.weights Tryz.prog 22, m ≤ reachBytes) → l.length * 56 ≤ 140737488351232 ∧ (ad = none → cap = 0) ∧ ∀ r ∈ l, r.hv) := by
  rcases open_slice Tryz.underlying22 h with ⟨hcs, _⟩ | ⟨a, len, cap, m, n, D, Pl, hcs, hb, hl, hm, hmm, hxe, hx⟩
  · simp only [List.cons.injEq, and_true] at hcs
    subst hcs
    exact ⟨none, 0, [], rfl, by simp, fun hne => absurd rfl hne, by simp, fun _ => ⟨by simp, fun _ => rfl, by simp⟩⟩
  · simp only [List.cons.injEq, and_true] at hcs
    subst hcs
    have hlm : len ≤ m := by rw [hmm]; split <;> omega
    have each : ∀ i, i < len → ∃ y : SR, (W.cell? (a.add (i * 4)) = some (.string y.s.nm) ∧ W.cell? (a.add (i * 4 + 1)) = some (.int .i64 y.s.hw) ∧ W.cell? (a.add (i * 4 + 2)) = some (.bool y.s.mn) ∧ W.cell? (a.add (i * 4 + 3)) = some (.slice y.ad y.s.cd.length y.c)) ∧ y.s.ok ∧ PtsAt W y.ad y.s.cd ∧ ((∀ m ∈ (D i).weights Tryz.prog 54, m ≤ reachBytes) → y.hv) := by
      intro i hi
      obtain ⟨cs', h1, h2⟩ := hx i (by omega)
      rw [cells_Stage] at h1
      obtain ⟨_, hlen, hcell⟩ := World.cells?_some h1
      obtain ⟨y, hy, hok⟩ := open_stage (cs := cs'.toArray) (by simpa using hlen) (by simpa using h2)
      refine ⟨y, ?_, hok⟩
      have hy' : cs' = [.string y.s.nm, .int .i64 y.s.hw, .bool y.s.mn, .slice y.ad y.s.cd.length y.c] := by simpa using congrArg Array.toList hy
      subst hy'
      have e0 := hcell 0 (by omega)
      have e1 := hcell 1 (by omega)
      have e2 := hcell 2 (by omega)
      have e3 := hcell 3 (by omega)
      rw [Go.Deep.add_add] at e0 e1 e2 e3
      exact ⟨by simpa using e0, by simpa using e1, by simpa using e2, by simpa using e3⟩
    have hinh : Inhabited SR := ⟨⟨⟨⟨#[]⟩, 0, false, []⟩, none, 0⟩⟩
    obtain ⟨q, hq⟩ := choose_lt each
    refine ⟨some a, cap, (List.range len).map q, by simp, by simp; unfold maxLen at hm; omega, fun hne => ?_, fun y hy => ?_, fun hw => ⟨?_, (by intro e; cases e), fun y hy => ?_⟩⟩
    · have h0 : 0 < len := by
        rcases Nat.eq_zero_or_pos len with e | e
        · subst e; simp at hne
        · exact e
      obtain ⟨b, off, spot⟩ := a
      have hc0 := (hq 0 h0).1.1
      have hspot : spot = none := by simpa [Addr.add] using World.cell?_spot hc0
      subst hspot
      refine ⟨b, off, rfl, ?_, fun i hi => ?_⟩
      · rcases Nat.lt_or_ge b W.heap.size with hlt | hge
        · exact hlt
        · exfalso
          rw [Go.WideShapes.add_plain] at hc0
          simp [World.cell?, Array.getElem?_eq_none hge] at hc0
      · have hi' : i < len := by simpa using hi
        obtain ⟨⟨c0, c1, c2, c3⟩, _, c4, _⟩ := hq i hi'
        rw [Go.WideShapes.add_plain] at c0 c1 c2 c3
        simp only [List.getElem_map, List.getElem_range]
        exact ⟨c0, by rw [Nat.add_assoc]; exact c1, by rw [Nat.add_assoc]; exact c2, by rw [Nat.add_assoc]; exact c3, c4⟩
    · obtain ⟨i, hi, rfl⟩ := List.mem_map.1 hy
      exact (hq i (List.mem_range.1 hi)).2.1
    · have hw0 : (len + (m - len)) * 56 ≤ reachBytes := hw _ (by rw [hxe]; simp [DataW.weights, Tryz.underlying22, bytes_Stage])
      have hreach : reachBytes = 140737488351232 := by decide
      simp only [List.length_map, List.length_range]
      omega
    · obtain ⟨i, hi, rfl⟩ := List.mem_map.1 hy
      refine (hq i (List.mem_range.1 hi)).2.2.2 (fun m hm => hw m ?_)
      rw [hxe]
      simp only [DataW.weights, Tryz.underlying22]
      exact List.mem_cons_of_mem _ (List.mem_append.2 (Or.inl (weightsAll_mem (List.mem_map.2 ⟨i, hi, rfl⟩) hm)))
set_option maxRecDepth 100000 in
theorem open_pattern {cs : Array Value} (hsz : cs.size = Tryz.prog.cellsOf 24) (h : DataW.trod enc Tryz.prog W 0 spare held fuel 24 cs.toList = some x) :
    ∃ (sa : Option Addr) (sc : Nat) (l : List SR) (wi : Int), cs = #[.slice sa l.length sc, .int .i64 wi] ∧ l.length ≤ 9223372036854775807 ∧ StsAt W sa l ∧ (∀ r ∈ l, r.s.ok) ∧ (-9223372036854775808 ≤ wi ∧ wi ≤ 9223372036854775807) ∧ ((∀ m ∈ x.1.weights Tryz.prog 24, m ≤ reachBytes) → l.length * 56 ≤ 140737488351232 ∧ (sa = none → sc = 0) ∧ ∀ r ∈ l, r.hv) := by
  obtain ⟨f0, f1, hu, t0, t1, o0, o1⟩ := fields_Pattern
  rw [cells_Pattern] at hsz
  obtain ⟨xs, n, _, hxe, _, hxl, hf⟩ := DataW.trod_struct hu h
  obtain ⟨l⟩ := cs
  match xs, hxl, l, hsz with
  | [y0, y1], _, [v0, v1], _ =>
    have g0 := hf 0 f0 rfl
    have g1 := hf 1 f1 rfl
    simp [o0, o1, t0, t1, open_pts_cells_int, cells_stagesP] at g0 g1
    obtain ⟨k1, q1, _, w1⟩ := DataW.trod_int Tryz.underlying3 g1
    obtain ⟨sa, sc, l, rfl, h2, h3, h4, h5⟩ := open_stages g0
    simp only [List.cons.injEq, and_true] at q1
    subst q1
    have u1 := bounds_i64 w1
    refine ⟨sa, sc, l, k1, rfl, h2, h3, h4, ⟨u1.1, by omega⟩, fun hw => h5 (fun m hm => hw m ?_)⟩
    rw [hxe]
    simp only [DataW.weights, hu]
    exact DataW.weights_mem_each (j := 0) (t := 22) (d := y0.1) (by simp [t0]) rfl m hm
end
end Go.Proofs.YtjijhefmbmdbeaaGreatDoor
namespace Go.Proofs.YtjijhefmbmdbeaaGreatDoor
open Go.RowKit Go.Deep

section
variable {H : Type} {enc : TypeId × Value → H} {W : World} {spare : Nat → Bool} {held : Bool} {fuel : Nat} {x : DataW H × List MemPlace}
end
end Go.Proofs.YtjijhefmbmdbeaaGreatDoor
namespace Go.Proofs.YtjijhefmbmdbeaaGreatDoor
open Go.RowKit Go.Deep

theorem cells_int : Tryz.prog.cellsOf 3 = 1 := by kernel_rfl
section
variable {H : Type} {enc : TypeId × Value → H} {W : World} {spare : Nat → Bool} {held : Bool} {fuel : Nat} {v : Value} {x : DataW H × List MemPlace}
theorem open_ints (h : DataW.trod enc Tryz.prog W 0 spare held fuel 45 [v] = some x) :
    ∃ (ad : Option Addr) (cap : Nat) (l : List Int), v = .slice ad l.length cap ∧ l.length ≤ 9223372036854775807 ∧ IntsAt W ad l ∧ (∀ y ∈ l, -9223372036854775808 ≤ y ∧ y ≤ 9223372036854775807) ∧ (ad = none → cap = 0) := by
  rcases open_slice1 Tryz.underlying45 cells_int h with ⟨hcs, _⟩ | ⟨a, len, cap, m, n, V, D, Pl, hcs, hb, hl, hm, hmm, _, hx⟩
  · simp only [List.cons.injEq, and_true] at hcs
    subst hcs
    exact ⟨none, 0, [], rfl, by simp, fun hne => absurd rfl hne, by simp, fun _ => rfl⟩
  · simp only [List.cons.injEq, and_true] at hcs
    subst hcs
    have hlm : len ≤ m := by rw [hmm]; split <;> omega
    have each : ∀ i, i < len → ∃ y : Int, W.cell? (a.add i) = some (.int .i64 y) ∧ -9223372036854775808 ≤ y ∧ y ≤ 9223372036854775807 := by
      intro i hi
      obtain ⟨h1, h2⟩ := hx i (by omega)
      obtain ⟨k1, q1, _, wf⟩ := DataW.trod_int Tryz.underlying3 h2
      simp only [List.cons.injEq, and_true] at q1
      rw [q1] at h1
      have := bounds_i64 wf
      exact ⟨k1, h1, this.1, by omega⟩
    have hinh : Inhabited Int := ⟨0⟩
    obtain ⟨q, hq⟩ := choose_lt each
    refine ⟨some a, cap, (List.range len).map q, by simp, by simp; unfold maxLen at hm; omega, fun hne => ?_, fun y hy => ?_, fun e => by cases e⟩
    · have h0 : 0 < len := by
        rcases Nat.eq_zero_or_pos len with e | e
        · subst e; simp at hne
        · exact e
      obtain ⟨b, off, spot⟩ := a
      have hc0 := (hq 0 h0).1
      have hspot : spot = none := by simpa [Addr.add] using World.cell?_spot hc0
      subst hspot
      refine ⟨b, off, rfl, ?_, fun i hi => ?_⟩
      · rcases Nat.lt_or_ge b W.heap.size with hlt | hge
        · exact hlt
        · exfalso
          rw [Go.WideShapes.add_plain] at hc0
          simp [World.cell?, Array.getElem?_eq_none hge] at hc0
      · have hi' : i < len := by simpa using hi
        obtain ⟨c0, _⟩ := hq i hi'
        rw [Go.WideShapes.add_plain] at c0
        simp only [List.getElem_map, List.getElem_range]
        exact c0
    · obtain ⟨i, hi, rfl⟩ := List.mem_map.1 hy
      exact (hq i (List.mem_range.1 hi)).2
end
end Go.Proofs.YtjijhefmbmdbeaaGreatDoor
namespace Go.Proofs.YtjijhefmbmdbeaaGreatDoor
open Go.RowKit Go.Shelf

/-- What was seen, what waits. -/
structure RcI (l : List Stg) (S Q : List Nd) : Prop where
  nd : S.Nodup
  rs : ∀ n ∈ S, rch l n = true
  rq : ∀ n ∈ Q, rch l n = true
  bg : ∀ s, 1 ≤ s → s ≤ l.length → bgN l s ∈ S ∨ bgN l s ∈ Q
  cl : ∀ n ∈ S, ∀ x ∈ beh l n, x ∈ S ∨ x ∈ Q
  ln : Q.length ≤ 8 + 12 * S.length
def bgL (l : List Stg) (k : Nat) : List Nd := (List.range k).map fun i => bgN l (i + 1)
theorem bgL_next (l : List Stg) (k : Nat) : bgL l (k + 1) = bgL l k ++ [bgN l (k + 1)] := by unfold bgL; rw [List.range_succ, List.map_append]; rfl
theorem bgL_len (l : List Stg) (k : Nat) : (bgL l k).length = k := by unfold bgL; simp
theorem RcI.start (l : List Stg) (h8 : l.length ≤ 8) : RcI l [] (bgL l l.length) := by
  refine ⟨by simp, by simp, fun n hn => ?_, fun s h1 h2 => Or.inr ?_, by simp, by rw [bgL_len]; omega⟩
  · unfold bgL at hn
    obtain ⟨i, hi, rfl⟩ := List.mem_map.1 hn
    have := List.mem_range.1 hi
    exact rch_tk (by omega) (by omega)
  · unfold bgL
    exact List.mem_map.2 ⟨s - 1, List.mem_range.2 (by omega), by rw [Nat.sub_add_cancel h1]⟩
theorem RcI.old {l : List Stg} {S Q : List Nd} {n : Nd} (h : RcI l S (n :: Q)) (hn : n ∈ S) : RcI l S Q := by
  refine ⟨h.nd, h.rs, fun x hx => h.rq x (by simp [hx]), fun s h1 h2 => ?_, fun x hx y hy => ?_, by have := h.ln; simp at this; omega⟩
  · rcases h.bg s h1 h2 with e | e
    · exact Or.inl e
    · rcases List.mem_cons.1 e with e | e
      · rw [e]; exact Or.inl hn
      · exact Or.inr e
  · rcases h.cl x hx y hy with e | e
    · exact Or.inl e
    · rcases List.mem_cons.1 e with e | e
      · rw [e]; exact Or.inl hn
      · exact Or.inr e
theorem RcI.new {l : List Stg} {S Q : List Nd} {n : Nd} (h : RcI l S (n :: Q)) (hn : n ∉ S) : RcI l (S ++ [n]) (Q ++ beh l n) := by
  have hr := h.rq n (by simp)
  refine ⟨?_, fun x hx => ?_, fun x hx => ?_, fun s h1 h2 => ?_, fun x hx y hy => ?_, ?_⟩
  · rw [List.nodup_append]
    exact ⟨h.nd, by simp, fun a ha b hb e => hn (by simp at hb; rw [← hb, ← e]; exact ha)⟩
  · rcases List.mem_append.1 hx with e | e
    · exact h.rs x e
    · simp at e; rw [e]; exact hr
  · rcases List.mem_append.1 hx with e | e
    · exact h.rq x (by simp [e])
    · exact rch_beh hr e
  · rcases h.bg s h1 h2 with e | e
    · exact Or.inl (by simp [e])
    · rcases List.mem_cons.1 e with e | e
      · exact Or.inl (by simp [e])
      · exact Or.inr (by simp [e])
  · rcases List.mem_append.1 hx with e | e
    · rcases h.cl x e y hy with e | e
      · exact Or.inl (by simp [e])
      · rcases List.mem_cons.1 e with e | e
        · exact Or.inl (by simp [e])
        · exact Or.inr (by simp [e])
    · simp at e
      rw [e] at hy
      exact Or.inr (by simp [hy])
  · have := h.ln
    have := beh_len l n
    simp at *
    omega
theorem RcI.fin {l : List Stg} {S : List Nd} (h : RcI l S []) (n : Nd) : n ∈ S ↔ rch l n = true := by
  refine ⟨h.rs n, fun hr => rch_closed (S := fun x => x ∈ S) (fun s h1 h2 => ?_) (fun x hx y hy => ?_) hr⟩
  · rcases h.bg s h1 h2 with e | e
    · exact e
    · cases e
  · rcases h.cl x hx y hy with e | e
    · exact e
    · cases e
def mapSize (w : World) (b : Nat) : Nat := match w.heap[b]? with
  | some (.map es _) => es.size
  | _ => 0
theorem SetN.size {w : World} {b : Nat} {S : List Nd} (h : SetN w b S) : mapSize w b = S.length := by
  obtain ⟨es, c, h1, h2⟩ := h
  unfold mapSize
  rw [h1]
  have := congrArg List.length h2
  simpa using this
def sliceLen : Value → Nat
  | .slice _ n _ => n
  | _ => 0
/-- A pattern's box, what was seen, what waits. -/
structure RcS (w W : World) (pc : Array Value) (v : Value) (S Q : List Nd) : Prop where
  p : CBox w.heap.size pc 24 W
  m : SetN W (w.heap.size + 1) S
  q : QuD (w.heap.size + 2) W v Q
  k : Kp [] w W
theorem RcS.kp {w W W' : World} {pc : Array Value} {v : Value} {S Q : List Nd} (h : RcS w W pc v S Q) (hk : Kp [] W W') : RcS w W' pc v S Q :=
  ⟨h.p.kp hk (by simp), h.m.kp hk (by simp), h.q.kp hk (by simp), h.k.trans hk (by simp)⟩
theorem RcS.app {w W : World} {pc : Array Value} {v x : Value} {S Q ys : List Nd} (h : RcS w W pc v S Q) (hx : OwnsD (w.heap.size + 2) W x ys) (hl : Q.length + ys.length ≤ 1000000) (ty : TypeId) :
    ∃ ad cap w', (Builtin.append_ #[41, 41] ty #[v, x]).run Tryz.prog W = .ok (.slice ad (Q.length + ys.length) cap) w' ∧ RcS w w' pc (.slice ad (Q.length + ys.length) cap) S (Q ++ ys) := by
  have hlt : w.heap.size + 1 < W.heap.size := h.m.lt
  obtain ⟨ad, cap, w', hr, hq, hk⟩ := h.q.app (by omega) hx hl ty
  have hlow := h.q.low
  exact ⟨ad, cap, w', hr, h.p.kp hk (fun hm => by have := hlow _ hm; omega), h.m.kp hk (fun hm => by have := hlow _ hm; omega), hq, h.k.trans hk (fun q hq => Or.inr (by have := hlow _ hq; omega))⟩
theorem RcS.see {w W : World} {pc : Array Value} {v : Value} {S Q : List Nd} (h : RcS w W pc v S Q) (n : Nd) (hn : n ∉ S) : ∃ w', (Instr.mapUpdate 65 (.map (some (w.heap.size + 1))) (.agg #[.int .i64 n.st, .bool n.lp, .bool n.tk]) (.agg #[])).run Tryz.prog W = .ok () w' ∧ RcS w w' pc v (S ++ [n]) Q ∧ Kp [w.heap.size + 1] W w' := by
  obtain ⟨w', hr, hs, hk⟩ := h.m.store n hn
  refine ⟨w', hr, ⟨h.p.kp hk (by simp), hs, h.q.kp hk (fun g hg => ?_), h.k.trans hk (fun x hx => Or.inr (by simp at hx; omega))⟩, hk⟩
  have := h.q.low g (by simpa using hg)
  simp
  omega
end Go.Proofs.YtjijhefmbmdbeaaGreatDoor
