/-
  A disk with a tape, and the document's, beside one another.
  Both tapes are opened.
  works: the chapter's example holds.
  A number from 0 to n - 1: the plain fact.
-/
import Derived.Test.YtboffmbaaokbnaaGreatDoorG21
import Derived.Test.YtboffmbaaokbnaaGreatDoorG22
import Derived.Test.YtboffmbaaokbnaaGreatDoorG23
import Derived.Deep.RegionHeld3
import Derived.Deep.DeepCutAuto
import Derived.Test.YtboffmbaaokbnaaGreatDoorG01
namespace Go.Proofs.YtboffmbaaokbnaaGreatDoor
open Go.RowKit

/-- The cells of the law's world. -/
def twC (p q : Nat) (tv mv : Value) (n : ByteArray) (lost : Bool) : Array Value := #[.pointer (some ⟨p, 0, none⟩), tv, .pointer (some ⟨q, 0, none⟩), mv, .string n, .bool lost]
/-- Both disks, and the law's world. -/
structure TB (w0 w : World) (g p q : Nat) (n : ByteArray) (d e : Dk) (tv mv : Value) (lost : Bool) (F G : List Nat) : Prop where
  dk : DiskAt w p d F
  rd : RDk w q e G
  kp : Kp [] w0 w
  bx : CBox g (twC p q tv mv n lost) 34 w
  fF : ∀ k ∈ F, w0.heap.size ≤ k ∧ k ∉ G
  gG : ∀ k ∈ G, w0.heap.size ≤ k
  ge : w0.heap.size ≤ g
/-- Both tapes. -/
structure TS (w0 w : World) (t m p q : Nat) (n : ByteArray) (v u : Value) (ts : List (List UInt8)) (E : Nat) : Prop where
  tp : TpAt w t p n v ts
  rq : RqAt w m q n u ts E
  t0 : w0.heap.size ≤ t
  m0 : w0.heap.size ≤ m
  v0 : ∀ k, v.ownBlock = some k → w0.heap.size ≤ k
  u0 : ∀ k, u.ownBlock = some k → w0.heap.size ≤ k
  ap : ∀ k, v.ownBlock = some k → u.ownBlock ≠ some k
/-- An act's box stays. -/
def Pers (w w' : World) : Prop := ∀ b cs, CBox b cs 38 w → CBox b cs 38 w'
theorem Pers.refl (w : World) : Pers w w := fun _ _ h => h
theorem Pers.trans {a b c : World} (h : Pers a b) (k : Pers b c) : Pers a c := fun x y z => k x y (h x y z)
theorem Pers.kp {w w' : World} (h : Kp [] w w') : Pers w w' := fun _ _ hb => hb.kp h (by simp)
section
variable {w0 w w' : World} {g p q : Nat} {n : ByteArray} {d e : Dk} {tv mv : Value} {lost : Bool} {F G : List Nat}
variable {t m : Nat} {v u : Value} {ts : List (List UInt8)} {E : Nat}
theorem TB.cells (h : TB w0 w g p q n d e tv mv lost F G) : w.cell? ⟨g, 0, none⟩ = some (.pointer (some ⟨p, 0, none⟩)) ∧ w.cell? ⟨g, 1, none⟩ = some tv ∧ w.cell? ⟨g, 2, none⟩ = some (.pointer (some ⟨q, 0, none⟩)) ∧ w.cell? ⟨g, 3, none⟩ = some mv ∧ w.cell? ⟨g, 4, none⟩ = some (.string n) ∧ w.cell? ⟨g, 5, none⟩ = some (.bool lost) :=
  ⟨h.bx.cell rfl, h.bx.cell rfl, h.bx.cell rfl, h.bx.cell rfl, h.bx.cell rfl, h.bx.cell rfl⟩
theorem TB.gno (h : TB w0 w g p q n d e tv mv lost F G) : g ∉ F ∧ g ∉ G := ⟨h.dk.no h.bx (by decide) (by decide) (by decide), h.rd.no h.bx (by decide) (by decide) (by decide)⟩
theorem TB.kpn (h : TB w0 w g p q n d e tv mv lost F G) (hk : Kp [] w w') : TB w0 w' g p q n d e tv mv lost F G :=
  ⟨h.dk.kp hk (by simp), h.rd.kp hk (by simp), h.kp.trans hk (by simp), h.bx.kp hk (by simp), h.fF, h.gG, h.ge⟩
/-- A call of the program's disk. -/
theorem TB.left {d' : Dk} (h : TB w0 w g p q n d e tv mv lost F G) (hd : Did w F p d' w') : ∃ F', TB w0 w' g p q n d' e tv mv lost F' G ∧ Kp F w w' ∧ Pers w w' := by
  obtain ⟨F', hd', h3, h4⟩ := hd
  refine ⟨F', ⟨hd', h.rd.kp h3 (fun k hk hm => (h.fF k hm).2 hk), h.kp.trans h3 (fun x hx => Or.inr (h.fF x hx).1), h.bx.kp h3 h.gno.1, fun k hk => ?_, h.gG, h.ge⟩, h3, fun b cs hb => hb.kp h3 (h.dk.no hb (by decide) (by decide) (by decide))⟩
  rcases h4 k hk with h5 | h5
  · exact h.fF k h5
  · have := h.kp.size
    exact ⟨by omega, fun hm => by have := h.rd.lt k hm; omega⟩
/-- A call of the document's disk. -/
theorem TB.right {e' : Dk} (h : TB w0 w g p q n d e tv mv lost F G) (hd : RDid w G q e' w') : ∃ G', TB w0 w' g p q n d e' tv mv lost F G' ∧ Kp G w w' ∧ Pers w w' := by
  obtain ⟨G', hd', h3, h4⟩ := hd
  refine ⟨G', ⟨h.dk.kp h3 (fun k hk hm => (h.fF k hk).2 hm), hd', h.kp.trans h3 (fun x hx => Or.inr (h.gG x hx)), h.bx.kp h3 h.gno.2, fun k hk => ⟨(h.fF k hk).1, fun hm => ?_⟩, fun k hk => ?_, h.ge⟩, h3, fun b cs hb => hb.kp h3 (h.rd.no hb (by decide) (by decide) (by decide))⟩
  · rcases h4 k hm with h5 | h5
    · exact (h.fF k hk).2 h5
    · have := h.dk.lt k hk; omega
  · rcases h4 k hk with h5 | h5
    · exact h.gG k h5
    · have := h.kp.size; omega
/-- A cell of the law's world is set. -/
theorem TB.set {i : Nat} {x : Value} {tv' mv' : Value} {lost' : Bool} (h : TB w0 w g p q n d e tv mv lost F G) (he : (twC p q tv mv n lost).setIfInBounds i x = twC p q tv' mv' n lost') : TB w0 (w.setCell ⟨g, i, none⟩ x) g p q n d e tv' mv' lost' F G := by
  have hk := Kp.set w g i x
  exact ⟨h.dk.kp hk (fun k hF hm => h.gno.1 (by simp at hm; subst hm; exact hF)), h.rd.kp hk (fun k hG hm => h.gno.2 (by simp at hm; subst hm; exact hG)), h.kp.trans hk (fun y hy => Or.inr (by simp at hy; subst hy; exact h.ge)), by rw [← he]; exact h.bx.set i x, h.fF, h.gG, h.ge⟩
/-- Tapes stay while the program's disk changes. -/
theorem TS.left (h : TS w0 w t m p q n v u ts E) (hd : DiskAt w p d F) (hk : Kp F w w') : TS w0 w' t m p q n v u ts E := by
  obtain ⟨n1, n2⟩ := h.tp.no hd
  refine ⟨h.tp.kp hk n1 (fun k hv => (n2 k hv).1), h.rq.kp hk (hd.no h.rq.box (by decide) (by decide) (by decide)) (fun k hv => ?_), h.t0, h.m0, h.v0, h.u0, h.ap⟩
  obtain ⟨_, _, cur, hc⟩ := OwnsS.block h.rq.row hv
  exact hd.no hc (by decide) (by decide) (by decide)
theorem TS.right (h : TS w0 w t m p q n v u ts E) (hd : RDk w q e G) (hk : Kp G w w') : TS w0 w' t m p q n v u ts E := by
  obtain ⟨n1, n2⟩ := h.rq.no hd
  refine ⟨h.tp.kp hk (hd.no h.tp.box (by decide) (by decide) (by decide)) (fun k hv => ?_), h.rq.kp hk n1 (fun k hv => (n2 k hv).1), h.t0, h.m0, h.v0, h.u0, h.ap⟩
  obtain ⟨_, _, cur, hc⟩ := OwnsS.block h.tp.row hv
  exact hd.no hc (by decide) (by decide) (by decide)
theorem TS.kpn (h : TS w0 w t m p q n v u ts E) (hk : Kp [] w w') : TS w0 w' t m p q n v u ts E := ⟨h.tp.kp hk (by simp) (by simp), h.rq.kp hk (by simp) (by simp), h.t0, h.m0, h.v0, h.u0, h.ap⟩
theorem cell_ne {k b : Nat} {cur cur' : Array Value} {T T' : TypeId} {f f' : Nat × Nat} (h : w.heap[k]? = some (.cells cur T f)) (h' : w.heap[b]? = some (.cells cur' T' f')) (hT : T ≠ T') : k ≠ b := by
  rintro rfl
  rw [h] at h'
  injection h' with e; injection e with _ e; exact hT e
/-- Tapes stay while the law's world changes. -/
theorem TS.set {i : Nat} {x : Value} (h : TS w0 w t m p q n v u ts E) (hb : TB w0 w g p q n d e tv mv lost F G) : TS w0 (w.setCell ⟨g, i, none⟩ x) t m p q n v u ts E := by
  have hk := Kp.set w g i x
  refine ⟨h.tp.kp hk (by simpa using cell_ne h.tp.box hb.bx (by decide)) (fun k hv => ?_), h.rq.kp hk (by simpa using cell_ne h.rq.box hb.bx (by decide)) (fun k hv => ?_), h.t0, h.m0, h.v0, h.u0, h.ap⟩
  · obtain ⟨_, _, cur, hc⟩ := OwnsS.block h.tp.row hv
    simpa using cell_ne hc hb.bx (by decide)
  · obtain ⟨_, _, cur, hc⟩ := OwnsS.block h.rq.row hv
    simpa using cell_ne hc hb.bx (by decide)
end
/-- All that lies there between two acts: the state of both disks is one. -/
def TW (w0 w : World) (g p q : Nat) (n : ByteArray) (d : Dk) (c : Nat) : Prop :=
  ∃ tv mv lost F G, TB w0 w g p q n d d tv mv lost F G ∧ (lost = false → ∃ t m v u ts, tv = .pointer (some ⟨t, 0, none⟩) ∧ mv = .pointer (some ⟨m, 0, none⟩) ∧ TS w0 w t m p q n v u ts (hasF d.now n).length ∧ ts.length ≤ 300000 + c)
end Go.Proofs.YtboffmbaaokbnaaGreatDoor
namespace Go.Proofs.YtboffmbaaokbnaaGreatDoor
open Go.RowKit

theorem TB.tab {w0 w : World} {g p q : Nat} {n : ByteArray} {d e : Dk} {tv mv : Value} {lost : Bool} {F G : List Nat} (h : TB w0 w g p q n d e tv mv lost F G) (hT : TabW w0) : TabW w := hT.kp h.kp (by simp)
/-- The stores of the law's world behind an opening. -/
theorem TB.three {w0 w : World} {g p q : Nat} {n : ByteArray} {d e : Dk} {tv mv : Value} {lost : Bool} {F G : List Nat} (h : TB w0 w g p q n d e tv mv lost F G) (a b : Value) (l : Bool) :
    TB w0 (((w.setCell ⟨g, 1, none⟩ a).setCell ⟨g, 3, none⟩ b).setCell ⟨g, 5, none⟩ (.bool l)) g p q n d e a b l F G ∧ w.frozen? ⟨g, 1, none⟩ = false ∧ (w.setCell ⟨g, 1, none⟩ a).cell? ⟨g, 3, none⟩ = some mv ∧ (w.setCell ⟨g, 1, none⟩ a).frozen? ⟨g, 3, none⟩ = false ∧ ((w.setCell ⟨g, 1, none⟩ a).setCell ⟨g, 3, none⟩ b).cell? ⟨g, 5, none⟩ = some (.bool lost) ∧ ((w.setCell ⟨g, 1, none⟩ a).setCell ⟨g, 3, none⟩ b).frozen? ⟨g, 5, none⟩ = false := by
  have h1 := h.set (i := 1) (x := a) (tv' := a) (mv' := mv) (lost' := lost) rfl
  have h2 := h1.set (i := 3) (x := b) (tv' := a) (mv' := b) (lost' := lost) rfl
  have h3 := h2.set (i := 5) (x := .bool l) (tv' := a) (mv' := b) (lost' := l) rfl
  exact ⟨h3, h.bx.froz 1, h1.cells.2.2.2.1, h1.bx.froz 3, h2.cells.2.2.2.2.2, h2.bx.froz 5⟩
theorem TS.three {w0 w : World} {g p q t m : Nat} {n : ByteArray} {d e : Dk} {tv mv v u : Value} {lost : Bool} {F G : List Nat} {ts : List (List UInt8)} {E : Nat} (h : TS w0 w t m p q n v u ts E) (hb : TB w0 w g p q n d e tv mv lost F G) (a b : Value) (l : Bool) :
    TS w0 (((w.setCell ⟨g, 1, none⟩ a).setCell ⟨g, 3, none⟩ b).setCell ⟨g, 5, none⟩ (.bool l)) t m p q n v u ts E := by
  have h1 := hb.set (i := 1) (x := a) (tv' := a) (mv' := mv) (lost' := lost) rfl
  have h2 := h1.set (i := 3) (x := b) (tv' := a) (mv' := b) (lost' := lost) rfl
  exact ((h.set hb).set h1).set h2
theorem open_l {w0 w w2 : World} {g p q : Nat} {n : ByteArray} {d e : Dk} {tv mv : Value} {lost : Bool} {F G : List Nat} {r : Ending} (h : TB w0 w g p q n d e tv mv lost F G) (hE : d.opE n = 0)
    (hor : (d.opE n = 0 ∧ ∃ t v, r = .returned (.tuple #[.pointer (some ⟨t, 0, none⟩), .int .i64 0]) ∧ Opened w F p (d.opD n) n t v (d.opL n) w2) ∨ (d.opE n ≠ 0 ∧ r = .returned (.tuple #[.pointer none, .int .i64 (d.opE n)]) ∧ Did w F p (d.opD n) w2)) :
    ∃ t v, r = .returned (.tuple #[.pointer (some ⟨t, 0, none⟩), .int .i64 0]) ∧ ∃ F1, TB w0 w2 g p q n (d.opD n) e tv mv lost F1 G ∧ TpAt w2 t p n v (d.opL n) ∧ (w0.heap.size ≤ t ∧ ∀ k, v.ownBlock = some k → w0.heap.size ≤ k) := by
  rcases hor with ⟨_, t, v, hr, hd, ht, h1, h2⟩ | ⟨hne, _⟩
  · obtain ⟨F1, hb, _, _⟩ := h.left hd
    have := h.kp.size
    exact ⟨t, v, hr, F1, hb, ht, by omega, fun k hk => by have := h2 k hk; omega⟩
  · exact absurd hE hne
theorem open_r {w0 w w2 : World} {g p q t : Nat} {n : ByteArray} {d e : Dk} {tv mv v : Value} {lost : Bool} {F G : List Nat} {r : Ending} {ts : List (List UInt8)} (h : TB w0 w g p q n d e tv mv lost F G) (hE : e.opE n = 0) (ht : TpAt w t p n v ts) (hg : w0.heap.size ≤ t ∧ ∀ k, v.ownBlock = some k → w0.heap.size ≤ k) (hL : e.opL n = ts)
    (hor : RqO w G q e n r w2) :
    ∃ m u, r = .returned (.tuple #[.pointer (some ⟨m, 0, none⟩), .int .i64 0]) ∧ ∃ G1, TB w0 w2 g p q n d (e.opD n) tv mv lost F G1 ∧ TS w0 w2 t m p q n v u (e.opL n) (e.fEnd n) := by
  rcases hor with ⟨_, m, u, hr, hd, hq, h1, h2⟩ | ⟨hne, _⟩
  · obtain ⟨G1, hb, hk, _⟩ := h.right hd
    have := h.kp.size
    refine ⟨m, u, hr, G1, hb, ⟨?_, hq, hg.1, by omega, hg.2, fun k hk => by have := h2 k hk; omega, fun k hv hu => ?_⟩⟩
    · rw [hL]
      refine ht.kp hk (h.rd.no ht.box (by decide) (by decide) (by decide)) (fun k hv => ?_)
      obtain ⟨_, _, cur, hc⟩ := OwnsS.block ht.row hv
      exact h.rd.no hc (by decide) (by decide) (by decide)
    · have h3 := (OwnsS.block ht.row hv).2.1
      have h4 := h2 k hu
      omega
  · exact absurd hE hne
theorem open_ln {w0 w w2 : World} {g p q : Nat} {n : ByteArray} {d e : Dk} {tv mv : Value} {lost : Bool} {F G : List Nat} {r : Ending} {X : Int} (h : TB w0 w g p q n d e tv mv lost F G) (hE : X ≠ 0)
    (hor : (X = 0 ∧ ∃ t v, r = .returned (.tuple #[.pointer (some ⟨t, 0, none⟩), .int .i64 0]) ∧ Opened w F p (d.opD n) n t v (d.opL n) w2) ∨ (X ≠ 0 ∧ r = .returned (.tuple #[.pointer none, .int .i64 X]) ∧ Did w F p (d.opD n) w2)) :
    r = .returned (.tuple #[.pointer none, .int .i64 X]) ∧ ∃ F1, TB w0 w2 g p q n (d.opD n) e tv mv lost F1 G := by
  rcases hor with ⟨h0, _⟩ | ⟨_, hr, hd⟩
  · exact absurd h0 hE
  · obtain ⟨F1, hb, _, _⟩ := h.left hd
    exact ⟨hr, F1, hb⟩
theorem open_rn {w0 w w2 : World} {g p q : Nat} {n : ByteArray} {d e : Dk} {tv mv : Value} {lost : Bool} {F G : List Nat} {r : Ending} {X : Int} (h : TB w0 w g p q n d e tv mv lost F G) (hX : e.opE n = X) (hE : X ≠ 0) (hor : RqO w G q e n r w2) :
    r = .returned (.tuple #[.pointer none, .int .i64 X]) ∧ ∃ G1, TB w0 w2 g p q n d (e.opD n) tv mv lost F G1 := by
  unfold RqO at hor
  rw [hX] at hor
  rcases hor with ⟨h0, _⟩ | ⟨_, hr, hd⟩
  · exact absurd h0 hE
  · obtain ⟨G1, hb, _, _⟩ := h.right hd
    exact ⟨hr, G1, hb⟩
set_option maxHeartbeats 2000000 in
set_option maxRecDepth 100000 in
theorem wopen_yes (g p q : Nat) (n : ByteArray) (d : Dk) (tv mv : Value) (lost : Bool) (F G : List Nat) (w0 w : World) (h : TB w0 w g p q n d d tv mv lost F G) (hT : TabW w0) (hs : n.size ≤ 9223372036854775807) (hE : d.opE n = 0) :
    Calls Tryz.prog 7 #[.pointer (some ⟨g, 0, none⟩)] w fun r w' => r = .returned (.bool true) ∧ TW w0 w' g p q n (d.opD n) 0 := by
  have hi := h.dk.inv
  have hnd := h.dk.nodup
  have hlen := op_len hnd hE
  have hcnt : (d.opL n).length ≤ 300000 := by
    have h1 := opL_cnt d n
    have h2 := Nat.le_trans (hasF_le (fs := d.now) n) hi.now.1.1
    omega
  have H1 := hide (h.kpn (Kp.drew w))
  have TO : Hid _ := hide (topen_any p n d F w.drew (unhide H1).dk ((unhide H1).tab hT) hs)
  have RO := hide (fun W G' (hd : RDk W q d G') => rqopen_any q n d G' W hd hi hnd hs)
  have cS : w.drew.cell? ⟨g, 0, none⟩ = some (.pointer (some ⟨p, 0, none⟩)) ∧ w.drew.cell? ⟨g, 1, none⟩ = some tv ∧ w.drew.cell? ⟨g, 2, none⟩ = some (.pointer (some ⟨q, 0, none⟩)) ∧ w.drew.cell? ⟨g, 3, none⟩ = some mv ∧ w.drew.cell? ⟨g, 4, none⟩ = some (.string n) ∧ w.drew.cell? ⟨g, 5, none⟩ = some (.bool lost) := (unhide H1).cells
  have HLEN := hide hlen
  have HCNT := hide hcnt
  have HE := hide hE
  clear h hT hi hnd hlen hcnt hE
  go_enter Tryz.func7, Tryz.ntmps7
  go_upto_region 1 with fail
  go_cut [3, 4] (fun a b wc => ∃ t v F1, a = .pointer (some ⟨t, 0, none⟩) ∧ b = .int .i64 0 ∧ Hid (TB w0 wc g p q n (d.opD n) d tv mv lost F1 G) ∧ Hid (TpAt wc t p n v (d.opL n)) ∧ Hid (w0.heap.size ≤ t ∧ ∀ k, v.ownBlock = some k → w0.heap.size ≤ k))
  case first =>
    go_region_held3 (fun W => W.cell? ⟨g, 0, none⟩ = some (.pointer (some ⟨p, 0, none⟩)) ∧ W.cell? ⟨g, 1, none⟩ = some tv ∧ W.cell? ⟨g, 2, none⟩ = some (.pointer (some ⟨q, 0, none⟩)) ∧ W.cell? ⟨g, 3, none⟩ = some mv ∧ W.cell? ⟨g, 4, none⟩ = some (.string n) ∧ W.cell? ⟨g, 5, none⟩ = some (.bool lost))
      (first | with_reducible exact cS | with_reducible exact cS2)
      (first | (go_at_call 4; refine (unhide TO).mono ?_; rintro r w2 hor; obtain ⟨t, v, rfl, F1, hb1, ht1, hg1⟩ : ∃ t v, r = .returned (.tuple #[.pointer (some ⟨t, 0, none⟩), .int .i64 0]) ∧ ∃ F1, TB w0 w2 g p q n (d.opD n) d tv mv lost F1 G ∧ TpAt w2 t p n v (d.opL n) ∧ (w0.heap.size ≤ t ∧ ∀ k, v.ownBlock = some k → w0.heap.size ≤ k) := open_l (unhide H1) (unhide HE) hor; have HB1 := hide hb1; have HT1 := hide ht1; have HG1 := hide hg1; have cS2 := hb1.cells; clear hb1 ht1 hg1))
    go_wp2
    go_meet
    exact ⟨t, v, F1, rfl, rfl, HB1, HT1, HG1⟩
  case rest =>
    obtain ⟨t, v, F1, rfl, rfl, HB1, HT1, HG1⟩ := hcut
    clear cS TO H1
    have H2 := hide ((unhide HB1).kpn (Kp.drew wc))
    have RO2 := hide (unhide RO _ _ (unhide H2).rd)
    have cS : wc.drew.cell? ⟨g, 0, none⟩ = some (.pointer (some ⟨p, 0, none⟩)) ∧ wc.drew.cell? ⟨g, 1, none⟩ = some tv ∧ wc.drew.cell? ⟨g, 2, none⟩ = some (.pointer (some ⟨q, 0, none⟩)) ∧ wc.drew.cell? ⟨g, 3, none⟩ = some mv ∧ wc.drew.cell? ⟨g, 4, none⟩ = some (.string n) ∧ wc.drew.cell? ⟨g, 5, none⟩ = some (.bool lost) := (unhide H2).cells
    have HT2 := hide ((unhide HT1).kp (Kp.drew wc) (by simp) (by simp))
    go_upto_region 2 with fail
    go_cut [5, 6] (fun a b wd => ∃ m u G1, a = .pointer (some ⟨m, 0, none⟩) ∧ b = .int .i64 0 ∧ Hid (TB w0 wd g p q n (d.opD n) (d.opD n) tv mv lost F1 G1) ∧ Hid (TS w0 wd t m p q n v u (d.opL n) (d.fEnd n)))
    case first =>
      go_region_held3 (fun W => W.cell? ⟨g, 0, none⟩ = some (.pointer (some ⟨p, 0, none⟩)) ∧ W.cell? ⟨g, 1, none⟩ = some tv ∧ W.cell? ⟨g, 2, none⟩ = some (.pointer (some ⟨q, 0, none⟩)) ∧ W.cell? ⟨g, 3, none⟩ = some mv ∧ W.cell? ⟨g, 4, none⟩ = some (.string n) ∧ W.cell? ⟨g, 5, none⟩ = some (.bool lost))
        (first | with_reducible exact cS | with_reducible exact cS2)
        (first | (go_at_call 14; refine (unhide RO2).mono ?_; rintro r w2 hor; obtain ⟨m, u, rfl, G1, hb1, ht1⟩ : ∃ m u, r = .returned (.tuple #[.pointer (some ⟨m, 0, none⟩), .int .i64 0]) ∧ ∃ G1, TB w0 w2 g p q n (d.opD n) (d.opD n) tv mv lost F1 G1 ∧ TS w0 w2 t m p q n v u (d.opL n) (d.fEnd n) := open_r (unhide H2) (unhide HE) (unhide HT2) (unhide HG1) rfl hor; have HB2 := hide hb1; have HS2 := hide ht1; have cS2 := hb1.cells; clear hb1 ht1))
      go_wp2
      go_meet
      exact ⟨m, u, G1, rfl, rfl, HB2, HS2⟩
    case rest =>
      rename_i wd
      obtain ⟨m, u, G1, rfl, rfl, HB2, HS2⟩ := hcut
      clear cS RO RO2 H2 HB1 HT1 HT2 HG1
      obtain ⟨c0, c1, c2, c3, c4, c5⟩ := (unhide HB2).cells
      obtain ⟨b3, f1, c3', f3, c5', f5⟩ := (unhide HB2).three (.pointer (some ⟨t, 0, none⟩)) (.pointer (some ⟨m, 0, none⟩)) false
      have s3 := (unhide HS2).three (unhide HB2) (.pointer (some ⟨t, 0, none⟩)) (.pointer (some ⟨m, 0, none⟩)) false
      have FN : Hid (TW w0 _ g p q n (d.opD n) 0) := hide ⟨_, _, _, _, _, b3, fun _ => ⟨t, m, v, u, d.opL n, rfl, rfl, by rw [unhide HLEN]; exact s3, by have := unhide HCNT; omega⟩⟩
      clear b3 s3
      go_wp2
      go_ret
      exact ⟨rfl, unhide FN⟩
set_option maxHeartbeats 2000000 in
set_option maxRecDepth 100000 in
theorem wopen_not (g p q : Nat) (n : ByteArray) (d : Dk) (tv mv : Value) (lost : Bool) (F G : List Nat) (w0 w : World) (h : TB w0 w g p q n d d tv mv lost F G) (hT : TabW w0) (hs : n.size ≤ 9223372036854775807) (hE : d.opE n ≠ 0) :
    Calls Tryz.prog 7 #[.pointer (some ⟨g, 0, none⟩)] w fun r w' => r = .returned (.bool true) ∧ TW w0 w' g p q n (d.opD n) 0 := by
  have hi := h.dk.inv
  have hnd := h.dk.nodup
  have H1 := hide (h.kpn (Kp.drew w))
  have TO : Hid _ := hide (topen_any p n d F w.drew (unhide H1).dk ((unhide H1).tab hT) hs)
  have RO := hide (fun W G' (hd : RDk W q d G') => rqopen_any q n d G' W hd hi hnd hs)
  have cS : w.drew.cell? ⟨g, 0, none⟩ = some (.pointer (some ⟨p, 0, none⟩)) ∧ w.drew.cell? ⟨g, 1, none⟩ = some tv ∧ w.drew.cell? ⟨g, 2, none⟩ = some (.pointer (some ⟨q, 0, none⟩)) ∧ w.drew.cell? ⟨g, 3, none⟩ = some mv ∧ w.drew.cell? ⟨g, 4, none⟩ = some (.string n) ∧ w.drew.cell? ⟨g, 5, none⟩ = some (.bool lost) := (unhide H1).cells
  have HE := hide hE
  have hE2 : (d.opE n == 0) = false := by simpa using hE
  have hE3 : (d.opE n != 0) = true := by simpa using hE
  generalize hX : d.opE n = X at *
  have HX := hide hX
  clear h hT hi hnd hX
  go_enter Tryz.func7, Tryz.ntmps7
  go_upto_region 1 with fail
  go_cut [3, 4] (fun a b wc => ∃ F1, a = .pointer none ∧ b = .int .i64 X ∧ Hid (TB w0 wc g p q n (d.opD n) d tv mv lost F1 G))
  case first =>
    go_region_held3 (fun W => W.cell? ⟨g, 0, none⟩ = some (.pointer (some ⟨p, 0, none⟩)) ∧ W.cell? ⟨g, 1, none⟩ = some tv ∧ W.cell? ⟨g, 2, none⟩ = some (.pointer (some ⟨q, 0, none⟩)) ∧ W.cell? ⟨g, 3, none⟩ = some mv ∧ W.cell? ⟨g, 4, none⟩ = some (.string n) ∧ W.cell? ⟨g, 5, none⟩ = some (.bool lost))
      (first | with_reducible exact cS | with_reducible exact cS2)
      (first | (go_at_call 4; refine (unhide TO).mono ?_; rintro r w2 hor; obtain ⟨rfl, F1, hb1⟩ : r = .returned (.tuple #[.pointer none, .int .i64 X]) ∧ ∃ F1, TB w0 w2 g p q n (d.opD n) d tv mv lost F1 G := open_ln (unhide H1) (unhide HE) hor; have HB1 := hide hb1; have cS2 := hb1.cells; clear hb1))
    go_wp2
    go_meet
    exact ⟨F1, rfl, rfl, HB1⟩
  case rest =>
    obtain ⟨F1, rfl, rfl, HB1⟩ := hcut
    clear cS TO H1
    have H2 := hide ((unhide HB1).kpn (Kp.drew wc))
    have RO2 := hide (unhide RO _ _ (unhide H2).rd)
    have cS : wc.drew.cell? ⟨g, 0, none⟩ = some (.pointer (some ⟨p, 0, none⟩)) ∧ wc.drew.cell? ⟨g, 1, none⟩ = some tv ∧ wc.drew.cell? ⟨g, 2, none⟩ = some (.pointer (some ⟨q, 0, none⟩)) ∧ wc.drew.cell? ⟨g, 3, none⟩ = some mv ∧ wc.drew.cell? ⟨g, 4, none⟩ = some (.string n) ∧ wc.drew.cell? ⟨g, 5, none⟩ = some (.bool lost) := (unhide H2).cells
    go_upto_region 2 with fail
    go_cut [5, 6] (fun a b wd => ∃ G1, a = .pointer none ∧ b = .int .i64 X ∧ Hid (TB w0 wd g p q n (d.opD n) (d.opD n) tv mv lost F1 G1))
    case first =>
      go_region_held3 (fun W => W.cell? ⟨g, 0, none⟩ = some (.pointer (some ⟨p, 0, none⟩)) ∧ W.cell? ⟨g, 1, none⟩ = some tv ∧ W.cell? ⟨g, 2, none⟩ = some (.pointer (some ⟨q, 0, none⟩)) ∧ W.cell? ⟨g, 3, none⟩ = some mv ∧ W.cell? ⟨g, 4, none⟩ = some (.string n) ∧ W.cell? ⟨g, 5, none⟩ = some (.bool lost))
        (first | with_reducible exact cS | with_reducible exact cS2)
        (first | (go_at_call 14; refine (unhide RO2).mono ?_; rintro r w2 hor; obtain ⟨rfl, G1, hb1⟩ : r = .returned (.tuple #[.pointer none, .int .i64 X]) ∧ ∃ G1, TB w0 w2 g p q n (d.opD n) (d.opD n) tv mv lost F1 G1 := open_rn (unhide H2) (unhide HX) (unhide HE) hor; have HB2 := hide hb1; have cS2 := hb1.cells; clear hb1))
      go_wp2
      go_meet
      exact ⟨G1, rfl, rfl, HB2⟩
    case rest =>
      rename_i wd
      obtain ⟨G1, rfl, rfl, HB2⟩ := hcut
      clear cS RO RO2 H2 HB1
      obtain ⟨c0, c1, c2, c3, c4, c5⟩ := (unhide HB2).cells
      obtain ⟨b3, f1, c3', f3, c5', f5⟩ := (unhide HB2).three (.pointer none) (.pointer none) true
      have FN : Hid (TW w0 _ g p q n (d.opD n) 0) := hide ⟨_, _, _, _, _, b3, fun h => absurd h (by decide)⟩
      clear b3
      go_wp2
      go_ret
      exact ⟨rfl, unhide FN⟩
theorem wopen_any (g p q : Nat) (n : ByteArray) (d : Dk) (tv mv : Value) (lost : Bool) (F G : List Nat) (w0 w : World) (h : TB w0 w g p q n d d tv mv lost F G) (hT : TabW w0) (hs : n.size ≤ 9223372036854775807) :
    Calls Tryz.prog 7 #[.pointer (some ⟨g, 0, none⟩)] w fun r w' => r = .returned (.bool true) ∧ TW w0 w' g p q n (d.opD n) 0 := by
  by_cases hE : d.opE n = 0
  · exact wopen_yes g p q n d tv mv lost F G w0 w h hT hs hE
  · exact wopen_not g p q n d tv mv lost F G w0 w h hT hs hE
end Go.Proofs.YtboffmbaaokbnaaGreatDoor
namespace Go.Proofs.YtboffmbaaokbnaaGreatDoor
open Go.RowKit

def tk1 : Dk := Dk.new.apD ⟨#[97]⟩ ⟨#[97]⟩
def tk2 : Dk := tk1.syD
def tk3 : Dk := tk2.apD ⟨#[97]⟩ ⟨#[98]⟩
def tk4 : Dk := tk3.apD ⟨#[97]⟩ ⟨#[99]⟩
def tk5 : Dk := tk4.crash 1 5
theorem tkE : Dk.new.opE ⟨#[97]⟩ = 0 ∧ Dk.new.opL ⟨#[97]⟩ = [] ∧ Dk.new.apE ⟨#[97]⟩ ⟨#[97]⟩ = 0 ∧ tk1.syE = 0 ∧ tk2.apE ⟨#[97]⟩ ⟨#[98]⟩ = 0 ∧ tk3.apE ⟨#[97]⟩ ⟨#[99]⟩ = 0 ∧ tk5.opE ⟨#[97]⟩ = 0 ∧ tk5.opL ⟨#[97]⟩ = [[97], [98]] := by decide +kernel
theorem tkD : Dk.new.opD ⟨#[97]⟩ = Dk.new := rfl
/-- The calls where all goes well, as one way. -/
theorem OwnD.topenOk {w0 w : World} {p : Nat} {d : Dk} {n : ByteArray} (h : OwnD w0 w p d) (hT : TabW w0) (hs : n.size ≤ 9223372036854775807) (he : d.opE n = 0) :
    Calls Tryz.prog 4 #[.pointer (some ⟨p, 0, none⟩), .string n] w fun r w' => ∃ t v, r = .returned (.tuple #[.pointer (some ⟨t, 0, none⟩), .int .i64 0]) ∧ OwnT w0 w' p (d.opD n) t n v (d.opL n) ∧ Oth [] w w' ∧ w.heap.size ≤ t ∧ ∀ k, v.ownBlock = some k → w.heap.size ≤ k :=
  (h.topen hT hs).mono fun r w' hh => by
    rcases hh with ⟨_, t, v, h1⟩ | ⟨h1, _⟩
    · exact ⟨t, v, h1⟩
    · exact absurd he h1
theorem OwnT.appendOk {w0 w : World} {p t : Nat} {d : Dk} {n : ByteArray} {v : Value} {ts : List (List UInt8)} (h : OwnT w0 w p d t n v ts) (s : ByteArray) (hT : TabW w0) (hts : ts.length ≤ 1000000) (hs : s.size ≤ 9223372036854775807) (he : d.apE n s = 0) :
    Calls Tryz.prog 16 #[.pointer (some ⟨t, 0, none⟩), .string s] w fun r w' => r = .returned (.int .i64 0) ∧ ∃ v', OwnT w0 w' p (d.apD n s) t n v' (ts ++ [s.data.toList]) ∧ Oth (t :: v.ownBlock.toList) w w' ∧ (v'.ownBlock = v.ownBlock ∨ ∀ k, v'.ownBlock = some k → w.heap.size ≤ k) :=
  (h.append s hT hts hs).mono fun r w' hh => by
    rcases hh with ⟨_, h1⟩ | ⟨h1, _⟩
    · exact h1
    · exact absurd he h1
set_option maxHeartbeats 2000000 in
set_option maxRecDepth 100000 in
theorem works_any (w : World) (hT : TabW w) : Calls Tryz.prog 10 #[] w fun e w' => e = .returned (.bool true) ∧ Kp [] w w' := by
  obtain ⟨e1, e2, e3, e4, e5, e6, e7, e8⟩ := tkE
  have st1 : ∀ W p, OwnD w W p Dk.new → Calls Tryz.prog 4 #[.pointer (some ⟨p, 0, none⟩), .string ⟨#[97]⟩] W fun r w' => ∃ t v, r = .returned (.tuple #[.pointer (some ⟨t, 0, none⟩), .int .i64 0]) ∧ OwnT w w' p Dk.new t ⟨#[97]⟩ v [] := fun W p h => by
    have := h.topenOk (n := ⟨#[97]⟩) hT (by decide) e1
    rw [e2, tkD] at this
    exact this.mono fun r w' ⟨t, v, h1, h2, _⟩ => ⟨t, v, h1, h2⟩
  have st2 : ∀ W p t v, OwnT w W p Dk.new t ⟨#[97]⟩ v [] → Calls Tryz.prog 16 #[.pointer (some ⟨t, 0, none⟩), .string ⟨#[97]⟩] W fun r w' => r = .returned (.int .i64 0) ∧ ∃ v ts, OwnT w w' p tk1 t ⟨#[97]⟩ v ts ∧ ts.length = 1 := fun W p t v h =>
    (h.appendOk ⟨#[97]⟩ hT (by simp) (by decide) e3).mono fun r w' ⟨h1, v', h2, _⟩ => ⟨h1, v', _, h2, rfl⟩
  have st3 : ∀ W p t v ts, OwnT w W p tk1 t ⟨#[97]⟩ v ts → Calls Tryz.prog 18 #[.pointer (some ⟨t, 0, none⟩)] W fun r w' => r = .returned (.int .i64 0) ∧ OwnT w w' p tk2 t ⟨#[97]⟩ v ts := fun W p t v ts h => by
    have := h.sync
    rw [e4] at this
    exact this.mono fun r w' ⟨h1, h2, _⟩ => ⟨h1, h2⟩
  have st4 : ∀ W p t v ts, OwnT w W p tk2 t ⟨#[97]⟩ v ts → ts.length = 1 → Calls Tryz.prog 16 #[.pointer (some ⟨t, 0, none⟩), .string ⟨#[98]⟩] W fun r w' => r = .returned (.int .i64 0) ∧ ∃ v ts, OwnT w w' p tk3 t ⟨#[97]⟩ v ts ∧ ts.length = 2 := fun W p t v ts h hl =>
    (h.appendOk ⟨#[98]⟩ hT (by omega) (by decide) e5).mono fun r w' ⟨h1, v', h2, _⟩ => ⟨h1, v', _, h2, by rw [List.length_append, hl]; rfl⟩
  have st5 : ∀ W p t v ts, OwnT w W p tk3 t ⟨#[97]⟩ v ts → ts.length = 2 → Calls Tryz.prog 16 #[.pointer (some ⟨t, 0, none⟩), .string ⟨#[99]⟩] W fun r w' => r = .returned (.int .i64 0) ∧ OwnD w w' p tk4 := fun W p t v ts h hl =>
    (h.appendOk ⟨#[99]⟩ hT (by omega) (by decide) e6).mono fun r w' ⟨h1, v', h2, _⟩ => ⟨h1, h2.own⟩
  have st6 : ∀ W p, OwnD w W p tk4 → Calls Tryz.prog 26 #[.pointer (some ⟨p, 0, none⟩), .int .i64 1, .int .i64 5] W fun e w' => e = .returned (.tuple #[]) ∧ OwnD w w' p tk5 := fun W p h => h.crash 1 5 (by decide)
  have st7 : ∀ W p, OwnD w W p tk5 → Calls Tryz.prog 4 #[.pointer (some ⟨p, 0, none⟩), .string ⟨#[97]⟩] W fun r w' => ∃ t v, r = .returned (.tuple #[.pointer (some ⟨t, 0, none⟩), .int .i64 0]) ∧ TpAt w' t p ⟨#[97]⟩ v [[97], [98]] ∧ Kp [] w w' := fun W p h => by
    have := h.topenOk (n := ⟨#[97]⟩) hT (by decide) e7
    rw [e8] at this
    exact this.mono fun r w' ⟨t, v, h1, h2, _⟩ => ⟨t, v, h1, h2.at, h2.bel⟩
  have S1 := hide st1
  have S2 := hide st2
  have S3 := hide st3
  have S4 := hide st4
  have S5 := hide st5
  have S6 := hide st6
  have S7 := hide st7
  clear e1 e2 e3 e4 e5 e6 e7 e8 st1 st2 st3 st4 st5 st6 st7 hT
  go_enter Tryz.func10, Tryz.ntmps10
  go_wp2_with fail
  refine (new_own w).mono ?_
  rintro e w1 ⟨p, rfl, o1⟩
  go_wp2_with fail
  refine (unhide S1 w1 p o1).mono ?_
  rintro e w2 ⟨t, v, rfl, o2⟩
  go_wp2_with fail
  refine (unhide S2 w2 p t v o2).mono ?_
  rintro e w3 ⟨rfl, v3, ts3, o3, l3⟩
  have L3 := hide l3
  clear l3
  go_wp2_with fail
  refine (unhide S3 w3 p t v3 ts3 o3).mono ?_
  rintro e w5 ⟨rfl, o4⟩
  go_wp2_with fail
  refine (unhide S4 w5 p t v3 ts3 o4 (unhide L3)).mono ?_
  rintro e w6 ⟨rfl, v5, ts5, o5, l5⟩
  have L5 := hide l5
  clear l5
  go_wp2_with fail
  refine (unhide S5 w6 p t v5 ts5 o5 (unhide L5)).mono ?_
  rintro e w7 ⟨rfl, o6⟩
  go_wp2_with fail
  refine (unhide S6 w7 p o6).mono ?_
  rintro e w8 ⟨rfl, o7⟩
  go_wp2_with fail
  refine (unhide S7 w8 p o7).mono ?_
  rintro e w9 ⟨t9, v9, rfl, o8, k8⟩
  go_wp2_with fail
  refine (len_any t9 p ⟨#[97]⟩ v9 _ w9 o8).mono ?_
  rintro e w10 ⟨rfl, rfl⟩
  go_wp2_with fail
  refine (last_ok t9 p ⟨#[97]⟩ v9 _ 1 rfl w10 o8).mono ?_
  rintro e w11 ⟨rfl, k11⟩
  have HK := hide (k8.trans k11 (by simp))
  clear k8 k11
  go_wp2
  go_ret
  exact ⟨rfl, unhide HK⟩
end Go.Proofs.YtboffmbaaokbnaaGreatDoor
namespace Go.Proofs.YtboffmbaaokbnaaGreatDoor

theorem among_eq (x n : Int) (hn : 0 < n) : (x.tmod n + n).tmod n = x % n := by
  rcases Int.lt_or_le x 0 with h | h
  · have h1 := Int.tmod_eq_emod (a := x) (b := n)
    have h2 := Int.emod_nonneg x (by omega : n ≠ 0)
    have h3 := Int.emod_lt_of_pos x hn
    by_cases hd : n ∣ x
    · have e : x % n = 0 := Int.emod_eq_zero_of_dvd hd
      rw [h1, if_pos (Or.inr hd), e]
      simp
    · rw [h1, if_neg (by omega), show (n.natAbs : Int) = n by omega, show x % n - n + n = x % n by omega, Int.tmod_eq_emod_of_nonneg h2, Int.emod_emod_of_dvd x (Int.dvd_refl n)]
  · rw [Int.tmod_eq_emod_of_nonneg h, Int.tmod_eq_emod_of_nonneg (by have := Int.emod_nonneg x (by omega : n ≠ 0); omega)]
    simp
end Go.Proofs.YtboffmbaaokbnaaGreatDoor
