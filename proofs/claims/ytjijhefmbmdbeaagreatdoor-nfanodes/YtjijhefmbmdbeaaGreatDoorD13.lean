/-
  slices.Backward over parts: an iterator that tells them from the last on; statements whose order is drawn, within a round of a loop over an iterator.
  A slice of parts that comes in as an argument: they lie where it says.
  slices.Backward over parts: an iterator that tells them from the last on.
  Plain facts for a fold: rows of things of some cells each, of the call's own; what a loop over an iterator keeps.
  What the three folds share: new cells, what a round keeps, and how a fold returns.
-/
import Derived.Test.YtjijhefmbmdbeaaGreatDoorD10
import Derived.Test.YtjijhefmbmdbeaaGreatDoorD12
import Derived.RangeFuncNested
import Derived.RangeFuncBound
import Derived.RangeFuncCalls
import Derived.RangeFuncLeaves
import Derived.RangeFuncBox
import Derived.Shelf.Abstract
import Derived.Shelf.RegionOpen
import Derived.OwnWalkIn
import Derived.TacticsInMore
import Derived.LoopNIn
import Derived.LoopIn
import Derived.Test.YtjijhefmbmdbeaaGreatDoorD05
import Derived.ProofKit
import Derived.OpenShut
import Derived.Deep.Slices
import Derived.Laws.MakeOwn
import Derived.Laws.ResultCell
namespace Go.Proofs.YtjijhefmbmdbeaaGreatDoor
open Go.RowKit Go.Shelf
attribute [local go_sem] Oper.semAt_some

section
variable {P : Program} {ops : Array Oper} {Q : Exit → Act → World → Prop} {md : Region.Mode} {l n : Nat}
theorem rowsIn_of {row : String} {args : Array Value} {w : World} {R : Value → World → Prop} (h : Rows P row args w R) : RowsIn (Fence.wide.inRound l) n P row args w R := fun c cs _ =>
  let ⟨v, w', r, s⟩ := h c cs
  ⟨v, w', r, stepsIn_wide.2 s⟩
theorem operIn_of {o : Oper} {a : Act} {w : World} {K : Act → World → Prop} (hd : ∀ c, o.op ≠ .defer c) (h : o.wp P a w K Q) : o.wpIn (Fence.wide.inRound l) n P a w K Q := by
  refine ⟨fun _ _ => trivial, ?_⟩
  show o.uponIn _ _ _ _ _ _ ((o.semAt (some l) a.eval).run P w)
  rw [Oper.semAt_some l a.eval o hd]
  unfold Oper.wp at h
  generalize (execOp a.eval o).run P w = r at *
  cases r with
  | ok x w' =>
    cases x <;> first | exact h | exact h.elim | exact ⟨(fun e => by cases e), CallsIn.inRound l (callsIn_wide.2 h)⟩ | exact ⟨(fun e => by cases e), rowsIn_of h⟩
  | halt x w' => cases x <;> first | exact h | exact h.elim
theorem opIn_of {i : Nat} {K : Act → World → Prop} {a : Act} {w : World} (hd : ∀ (j : Nat) (o : Oper) c, ops[j]? = some o → o.op ≠ .defer c) (hl : ¬ LetsOut Q) (h : wpOp P ops Q i K a w) : wpOpIn (Fence.wide.inRound l) n P ops Q i K a w := by
  unfold wpOp at h
  unfold wpOpIn
  cases ho : ops[i]? with
  | none => rw [ho] at h; exact h
  | some o =>
    rw [ho] at h
    dsimp only at h ⊢
    split
    · rename_i hw
      rw [if_pos hw] at h
      rcases h with h | h
      · exact operIn_of (hd i o · ho) h
      · exact absurd h.2 hl
    · rename_i hw
      rw [if_neg hw] at h
      exact ⟨fun _ _ => trivial, h⟩
theorem anyIn_of (hd : ∀ (j : Nat) (o : Oper) c, ops[j]? = some o → o.op ≠ .defer c) (hl : ¬ LetsOut Q) : ∀ (fuel : Nat) (listed : Array Bool) (a : Act) (w : World), wpAny P md ops Q fuel listed a w → wpAnyIn (Fence.wide.inRound l) n P md ops Q fuel listed a w
  | 0, _, _, _, h => h
  | fuel + 1, _, _, _, h => ⟨h.1, fun i hi => wpOpIn_mono (fun a' w' h' => anyIn_of hd hl fuel _ a' w' h') (opIn_of hd hl (h.2 i hi))⟩
def noDefer (ops : Array Oper) : Bool := ops.all fun o => match o.op with | .defer _ => false | _ => true
theorem noDefer_spec (h : noDefer ops = true) : ∀ (j : Nat) (o : Oper) c, ops[j]? = some o → o.op ≠ .defer c := fun j o c ho e => by
  unfold noDefer at h
  rw [Array.all_eq_true] at h
  obtain ⟨hj, rfl⟩ := Array.getElem?_eq_some_iff.1 ho
  have := h j hj
  rw [e] at this
  cases this
/-- A statement whose order is drawn and that ends in a store, within a round. -/
theorem wpIn_region_late (S : World → Prop) (late : Nat) {id : Nat} {a : Act} {w : World} (hm : P.follows .mixedOrders = true) (hd : noDefer ops = true) (hl : ¬ LetsOut Q)
    (h : wpAnyL P .any ops Q S late ops.size (Array.replicate ops.size false) a w.drew) : (Code.region id ops true).wpIn (Fence.wide.inRound l) n P Q a w :=
  wpIn_region_any hm (anyIn_of (noDefer_spec hd) hl _ _ _ _ (wpAny_of_late _ _ _ _ h))
end
end Go.Proofs.YtjijhefmbmdbeaaGreatDoor
namespace Go.Proofs.YtjijhefmbmdbeaaGreatDoor
open Go.RowKit Go.Deep

def Pt.ok (a : Pt) : Prop := (-9223372036854775808 ≤ a.kd ∧ a.kd ≤ 9223372036854775807) ∧ (-9223372036854775808 ≤ a.n ∧ a.n ≤ 9223372036854775807) ∧ a.s.size ≤ 9223372036854775807 ∧ a.st.size ≤ 9223372036854775807 ∧ (-9223372036854775808 ≤ a.fl ∧ a.fl ≤ 9223372036854775807)
def PtsAt (w : World) (ad : Option Addr) (l : List Pt) : Prop :=
  l ≠ [] → ∃ b off, ad = some ⟨b, off, none⟩ ∧ b < w.heap.size ∧ ∀ i (h : i < l.length), w.cell? ⟨b, off + i * 5, none⟩ = some (.int .i64 l[i].kd) ∧ w.cell? ⟨b, off + i * 5 + 1, none⟩ = some (.int .i64 l[i].n) ∧ w.cell? ⟨b, off + i * 5 + 2, none⟩ = some (.string l[i].s) ∧ w.cell? ⟨b, off + i * 5 + 3, none⟩ = some (.string l[i].st) ∧ w.cell? ⟨b, off + i * 5 + 4, none⟩ = some (.int .i64 l[i].fl)
theorem PtsAt.kp {w w' : World} {ad : Option Addr} {l : List Pt} (h : PtsAt w ad l) (hk : Kp [] w w') : PtsAt w' ad l := fun hl => by
  obtain ⟨b, off, e, hlt, hc⟩ := h hl
  refine ⟨b, off, e, Nat.lt_of_lt_of_le hlt hk.size, fun i hi => ?_⟩
  obtain ⟨c0, c1, c2, c3, c4⟩ := hc i hi
  exact ⟨hk.cell c0 (by simp), hk.cell c1 (by simp), hk.cell c2 (by simp), hk.cell c3 (by simp), hk.cell c4 (by simp)⟩
theorem PtsAt.at {w : World} {ad : Option Addr} {l : List Pt} (h : PtsAt w ad l) (i : Nat) (hi : i < l.length) : ∃ b off, ad = some ⟨b, off, none⟩ ∧ b < w.heap.size ∧ w.cell? ⟨b, off + i * 5, none⟩ = some (.int .i64 l[i].kd) ∧ w.cell? ⟨b, off + i * 5 + 1, none⟩ = some (.int .i64 l[i].n) ∧ w.cell? ⟨b, off + i * 5 + 2, none⟩ = some (.string l[i].s) ∧ w.cell? ⟨b, off + i * 5 + 3, none⟩ = some (.string l[i].st) ∧ w.cell? ⟨b, off + i * 5 + 4, none⟩ = some (.int .i64 l[i].fl) := by
  obtain ⟨b, off, e, hlt, hc⟩ := h (by intro e; subst e; simp at hi)
  exact ⟨b, off, e, hlt, hc i hi⟩
theorem open_pts_cells : Tryz.prog.cellsOf 86 = 5 := by kernel_rfl
theorem open_pts_cells_int : Tryz.prog.cellsOf 3 = 1 := by kernel_rfl
theorem open_pts_cells_int64 : Tryz.prog.cellsOf 2 = 1 := by kernel_rfl
theorem open_pts_cells_string : Tryz.prog.cellsOf 9 = 1 := by kernel_rfl
theorem open_pts_fields : ∃ f0 f1 f2 f3 f4 : Field, Tryz.prog.underlying 86 = some (.struct #[f0, f1, f2, f3, f4]) ∧ f0.type = 3 ∧ f1.type = 2 ∧ f2.type = 9 ∧ f3.type = 9 ∧ f4.type = 3 ∧ f0.offset = 0 ∧ f1.offset = 1 ∧ f2.offset = 2 ∧ f3.offset = 3 ∧ f4.offset = 4 :=
  ⟨_, _, _, _, _, Tryz.underlying86, rfl, rfl, rfl, rfl, rfl, rfl, rfl, rfl, rfl, rfl⟩
theorem open_pts_list {α : Type} : ∀ (l : List α), l.length = 5 → ∃ x0 x1 x2 x3 x4, l = [x0, x1, x2, x3, x4]
  | [x0, x1, x2, x3, x4], _ => ⟨x0, x1, x2, x3, x4, rfl⟩
set_option maxRecDepth 100000 in
theorem open_pts {H : Type} {enc : TypeId × Value → H} {W : World} {spare : Nat → Bool} {held : Bool} {fuel : Nat} {v : Value} {x : DataW H × List MemPlace}
    (h : DataW.trod enc Tryz.prog W 0 spare held fuel 52 [v] = some x) :
    ∃ (ad : Option Addr) (cap : Nat) (l : List Pt), v = .slice ad l.length cap ∧ l.length ≤ 9223372036854775807 ∧ PtsAt W ad l ∧ ∀ y ∈ l, y.ok := by
  obtain ⟨f0, f1, f2, f3, f4, hu, t0, t1, t2, t3, t4, o0, o1, o2, o3, o4⟩ := open_pts_fields
  rcases open_slice Tryz.underlying52 h with ⟨hcs, _⟩ | ⟨a, len, cap, m, n, D, Pl, hcs, hb, hl, hm, hmm, _, hx⟩
  · simp only [List.cons.injEq, and_true] at hcs
    subst hcs
    exact ⟨none, 0, [], rfl, by simp, fun hne => absurd rfl hne, by simp⟩
  · simp only [List.cons.injEq, and_true] at hcs
    subst hcs
    have hlm : len ≤ m := by rw [hmm]; split <;> omega
    have each : ∀ i, i < len → ∃ y : Pt, W.cell? (a.add (i * 5)) = some (.int .i64 y.kd) ∧ W.cell? (a.add (i * 5 + 1)) = some (.int .i64 y.n) ∧ W.cell? (a.add (i * 5 + 2)) = some (.string y.s) ∧ W.cell? (a.add (i * 5 + 3)) = some (.string y.st) ∧ W.cell? (a.add (i * 5 + 4)) = some (.int .i64 y.fl) ∧ y.ok := by
      intro i hi
      obtain ⟨cs', h1, h2⟩ := hx i (by omega)
      rw [open_pts_cells] at h1
      obtain ⟨_, hlen, hcell⟩ := World.cells?_some h1
      obtain ⟨xs, k, hk, hxy, _, hxl, hf⟩ := DataW.trod_struct hu h2
      obtain ⟨y0, y1, y2, y3, y4, rfl⟩ := open_pts_list xs hxl
      obtain ⟨v0, v1, v2, v3, v4, rfl⟩ := open_pts_list cs' hlen
      have g0 := hf 0 f0 rfl
      have g1 := hf 1 f1 rfl
      have g2 := hf 2 f2 rfl
      have g3 := hf 3 f3 rfl
      have g4 := hf 4 f4 rfl
      simp [o0, o1, o2, o3, o4, t0, t1, t2, t3, t4, open_pts_cells_int, open_pts_cells_int64, open_pts_cells_string] at g0 g1 g2 g3 g4
      have e0 := hcell 0 (by omega)
      have e1 := hcell 1 (by omega)
      have e2 := hcell 2 (by omega)
      have e3 := hcell 3 (by omega)
      have e4 := hcell 4 (by omega)
      rw [Go.Deep.add_add] at e0 e1 e2 e3 e4
      obtain ⟨k0, q0, _, wf0⟩ := DataW.trod_int Tryz.underlying3 g0
      obtain ⟨k1, q1, _, wf1⟩ := DataW.trod_int Tryz.underlying2 g1
      obtain ⟨k2, q2, _, wf2⟩ := DataW.trod_string Tryz.underlying9 g2
      obtain ⟨k3, q3, _, wf3⟩ := DataW.trod_string Tryz.underlying9 g3
      obtain ⟨k4, q4, _, wf4⟩ := DataW.trod_int Tryz.underlying3 g4
      simp only [List.cons.injEq, and_true] at q0 q1 q2 q3 q4
      subst q0 q1 q2 q3 q4
      have b0 := bounds_i64 wf0
      have b1 := bounds_i64 wf1
      unfold maxLen at wf2
      unfold maxLen at wf3
      have b4 := bounds_i64 wf4
      exact ⟨⟨k0, k1, k2, k3, k4⟩, by simpa using e0, by simpa using e1, by simpa using e2, by simpa using e3, by simpa using e4, ⟨b0.1, by show k0 ≤ _; omega⟩, ⟨b1.1, by show k1 ≤ _; omega⟩, by show k2.size ≤ _; omega, by show k3.size ≤ _; omega, ⟨b4.1, by show k4 ≤ _; omega⟩⟩
    have hinh : Inhabited Pt := ⟨⟨0, 0, ⟨#[]⟩, ⟨#[]⟩, 0⟩⟩
    obtain ⟨q, hq⟩ := choose_lt each
    refine ⟨some a, cap, (List.range len).map q, by simp, by simp; unfold maxLen at hm; omega, fun hne => ?_, fun y hy => ?_⟩
    · have h0 : 0 < len := by
        rcases Nat.eq_zero_or_pos len with e | e
        · subst e; simp at hne
        · exact e
      obtain ⟨b, off, spot⟩ := a
      have hc0 := (hq 0 h0).1
      have hspot : spot = none := by simpa [Addr.add] using World.cell?_spot hc0
      subst hspot
      refine ⟨b, off, rfl, ?_, fun i hi => ?_⟩
      · rcases Nat.lt_or_ge b W.heap.size with hlt | hge
        · exact hlt
        · exfalso
          rw [Go.WideShapes.add_plain] at hc0
          simp [World.cell?, Array.getElem?_eq_none hge] at hc0
      · have hi' : i < len := by simpa using hi
        obtain ⟨c0, c1, c2, c3, c4, _⟩ := hq i hi'
        rw [Go.WideShapes.add_plain] at c0 c1 c2 c3 c4
        simp only [List.getElem_map, List.getElem_range]
        exact ⟨c0, by rw [Nat.add_assoc]; exact c1, by rw [Nat.add_assoc]; exact c2, by rw [Nat.add_assoc]; exact c3, by rw [Nat.add_assoc]; exact c4⟩
    · obtain ⟨i, hi, rfl⟩ := List.mem_map.1 hy
      exact (hq i (List.mem_range.1 hi)).2.2.2.2.2
end Go.Proofs.YtjijhefmbmdbeaaGreatDoor
namespace Go.Proofs.YtjijhefmbmdbeaaGreatDoor
open Go.RowKit Go.Shelf
attribute [local go_sem] Oper.semAt_some

/-- The places of the last k, from the back on. -/
def bkL (xs : List Pt) : Nat → List (Fin xs.length)
  | 0 => []
  | k + 1 => bkL xs k ++ (if h : k < xs.length then [⟨xs.length - 1 - k, by omega⟩] else [])
theorem bkL_len (xs : List Pt) (k : Nat) (h : k ≤ xs.length) : (bkL xs k).length = k := by
  induction k with
  | zero => rfl
  | succ k ih => rw [bkL, List.length_append, ih (by omega), dif_pos (by omega)]; rfl
theorem bkL_next (xs : List Pt) (k : Nat) (h : k < xs.length) : bkL xs (k + 1) = bkL xs k ++ [⟨xs.length - 1 - k, by omega⟩] := by rw [bkL, dif_pos h]
theorem bkL_map (xs : List Pt) (k : Nat) (h : k ≤ xs.length) : ((bkL xs k).map fun i => xs[i]).reverse = xs.drop (xs.length - k) := by
  induction k with
  | zero => rw [Nat.sub_zero, List.drop_length]; rfl
  | succ k ih =>
    rw [bkL_next xs k (by omega), List.map_append, List.reverse_append, ih (by omega)]
    have e : xs.length - (k + 1) = xs.length - 1 - k := by omega
    rw [e, List.drop_eq_getElem_cons (i := xs.length - 1 - k) (by omega), show xs.length - 1 - k + 1 = xs.length - k by omega]
    rfl
/-- Parts lie in a block below n₀. -/
def PtsLow (n₀ : Nat) (W : World) (ad : Option Addr) (xs : List Pt) : Prop := ∀ j (h : j < xs.length), ∃ b off, ad = some ⟨b, off, none⟩ ∧ b < n₀ ∧ W.cell? ⟨b, off + j * 5, none⟩ = some (.int .i64 xs[j].kd) ∧ W.cell? ⟨b, off + j * 5 + 1, none⟩ = some (.int .i64 xs[j].n) ∧ W.cell? ⟨b, off + j * 5 + 2, none⟩ = some (.string xs[j].s) ∧ W.cell? ⟨b, off + j * 5 + 3, none⟩ = some (.string xs[j].st) ∧ W.cell? ⟨b, off + j * 5 + 4, none⟩ = some (.int .i64 xs[j].fl)
theorem PtsLow.below {n₀ : Nat} {A B : World} {ad : Option Addr} {xs : List Pt} (h : PtsLow n₀ A ad xs) (hb : Below n₀ A B) : PtsLow n₀ B ad xs := fun j hj => by
  obtain ⟨b, off, e, hlt, c0, c1, c2, c3, c4⟩ := h j hj
  exact ⟨b, off, e, hlt, (hb.cell (p := ⟨b, _, none⟩) hlt).trans c0, (hb.cell (p := ⟨b, _, none⟩) hlt).trans c1, (hb.cell (p := ⟨b, _, none⟩) hlt).trans c2, (hb.cell (p := ⟨b, _, none⟩) hlt).trans c3, (hb.cell (p := ⟨b, _, none⟩) hlt).trans c4⟩
theorem PtsLow.of {w : World} {ad : Option Addr} {xs : List Pt} (h : PtsAt w ad xs) : PtsLow w.heap.size w ad xs := fun j hj => by
  obtain ⟨b, off, e, hlt, c⟩ := h.at j hj
  exact ⟨b, off, e, hlt, c⟩
/-- What a round keeps: what lay below n₀, and the box of the slice. -/
def KpB (n₀ Bs : Nat) (A B : World) : Prop := Below n₀ A B ∧ B.heap[Bs]? = A.heap[Bs]?
theorem KpB.trans {n₀ Bs : Nat} {A B C : World} (h : KpB n₀ Bs A B) (k : KpB n₀ Bs B C) : KpB n₀ Bs A C := ⟨h.1.trans k.1, k.2.trans h.2⟩
theorem KpB.put {n₀ Bs : Nat} {w : World} (hn : n₀ ≤ w.heap.size) (hB : Bs < w.heap.size) (W : World) (l : Nat) (o o' : Obj) (hl : w.heap.size ≤ l) (h : W.heap[l]? = some o) (h1 : o.isCells = false) (h2 : o.isWalk = false) : KpB n₀ Bs W (W.putObj l o') :=
  ⟨belowK_b hn W l o o' hl h h1 h2, World.putObj_heap_other (by omega)⟩
set_option maxRecDepth 100000 in
set_option maxHeartbeats 2000000 in
theorem back1_in (n : Nat) (l Bs n₀ cap : Nat) (ad : Option Addr) (xs : List Pt) (hsz : xs.length ≤ 1000000) (J Jx : List (Fin xs.length) → World → Prop)
    (hY : ∀ pre x W, J pre W → pre.length < xs.length → YieldAt Fence.wide (n - 1) Tryz.prog l #[.int .i64 (x.val : Int), (xs[x]).v] W fun e W' =>
      (e = .returned (.bool true) ∧ J (pre ++ [x]) W' ∧ KpB n₀ Bs W W') ∨ (e = .returned (.bool false) ∧ Jx (pre ++ [x]) W'))
    (W : World) (hBs : W.cell? ⟨Bs, 0, none⟩ = some (.slice ad xs.length cap)) (hc : PtsLow n₀ W ad xs) (h0 : J [] W) :
    CallsIn Fence.wide n Tryz.prog 142 #[.func (.yield l) #[] #[], .pointer (some ⟨Bs, 0, none⟩)] W fun e W' => (∃ v, e = .returned v) ∧
      ((∃ ys, ys = bkL xs xs.length ∧ J ys W') ∨ (∃ pre, (∃ k, k ≤ xs.length ∧ pre = bkL xs k) ∧ Jx pre W')) := by
  refine callsIn_of_wp Tryz.func142 rfl trivial ?_ rfl
  simp only [Tryz.ntmps142, List.size_toArray, List.length_cons, List.length_nil, Nat.reduceAdd, Nat.reduceSub, Array.replicate_succ, Array.replicate_zero, List.push_toArray, List.append_toArray, List.nil_append, List.cons_append]
  gi_wp2
  gi_loopw [3] (fun i wr => ∃ k : Nat, k ≤ xs.length ∧ i = .int .i64 ((xs.length : Int) - 1 - k) ∧ J (bkL xs k) wr ∧ Hid (KpB n₀ Bs W wr)) (fun i _ => (intOf i + 1).toNat)
  case atStart => exact ⟨0, Nat.zero_le _, by go_num, h0, hide ⟨Below.refl _ _, rfl⟩⟩
  case round =>
    obtain ⟨k, hk, rfl, hJs, HB⟩ := hrel
    have hBs' : wr.cell? ⟨Bs, 0, none⟩ = some (.slice ad xs.length cap) := (World.cell?_of_block (unhide HB).2).trans hBs
    by_cases hlt : k < xs.length
    · obtain ⟨b, off, rfl, hbn, c0, c1, c2, c3, c4⟩ := (hc.below (unhide HB).1) (xs.length - 1 - k) (by omega)
      obtain ⟨m, hm⟩ : ∃ m : Nat, xs.length - 1 - k = m := ⟨_, rfl⟩
      have d0 : wr.cell? ⟨b, off + m * 5, none⟩ = some (.int .i64 (xs[m]'(by omega)).kd) := by subst hm; exact c0
      have d1 : wr.cell? ⟨b, off + m * 5 + 1, none⟩ = some (.int .i64 (xs[m]'(by omega)).n) := by subst hm; exact c1
      have d2 : wr.cell? ⟨b, off + m * 5 + 2, none⟩ = some (.string (xs[m]'(by omega)).s) := by subst hm; exact c2
      have d3 : wr.cell? ⟨b, off + m * 5 + 3, none⟩ = some (.string (xs[m]'(by omega)).st) := by subst hm; exact c3
      have d4 : wr.cell? ⟨b, off + m * 5 + 4, none⟩ = some (.int .i64 (xs[m]'(by omega)).fl) := by subst hm; exact c4
      obtain ⟨fn, tmps, assign, body, hy, hR⟩ := hY _ ⟨xs.length - 1 - k, by omega⟩ wr hJs (by rw [bkL_len xs k hk]; exact hlt)
      have HR := hide hR
      have hm2 : m < xs.length := by omega
      have e1 : (xs.length : Int) - 1 - (k : Int) = (m : Int) := by omega
      have hy2 : Sem.run Tryz.prog (Instr.yield l #[.int .i64 (m : Int), .agg #[.int .i64 (xs[m]'hm2).kd, .int .i64 (xs[m]'hm2).n, .string (xs[m]'hm2).s, .string (xs[m]'hm2).st, .int .i64 (xs[m]'hm2).fl]]) wr = .ok (.round l fn tmps assign body) wr := by
        subst hm
        exact hy
      have HJ := hide hJs
      rw [e1]
      generalize xs[m]'hm2 = q at *
      obtain ⟨qk, qn, qs, qt, qf⟩ := q
      dsimp only at *
      clear hy hR hBs hc h0 c0 c1 c2 c3 c4 hJs
      gi_wp2
      refine ⟨(fun h => by cases h), ?_⟩
      refine (unhide HR).mono ?_
      rintro e W3 (⟨rfl, hJ3, hk3⟩ | ⟨rfl, hJx3⟩)
      all_goals clear HR
      · gi_wp2
        go_roundw
        case rel => exact ⟨k + 1, by omega, by go_num, by rw [bkL_next xs k hlt]; exact hJ3, hide ((unhide HB).trans hk3)⟩
        case measure => simp [intOf]
      · gi_wp2
        refine bodyPost_ret (results_none rfl _ _ _) rfl ?_
        exact ⟨⟨_, rfl⟩, .inr ⟨_, ⟨k + 1, by omega, (bkL_next xs k hlt).symm⟩, hJx3⟩⟩
    · obtain rfl : k = xs.length := by omega
      have e1 : (xs.length : Int) - 1 - (xs.length : Int) = -1 := by omega
      rw [e1]
      gi_wp2
      go_end0
      exact ⟨⟨_, rfl⟩, .inl ⟨_, rfl, hJs⟩⟩
theorem back_in (n : Nat) (ad : Option Addr) (len cap : Nat) (w : World) : CallsIn Fence.wide n Tryz.prog 121 #[.slice ad len cap] w fun e w' => e = .returned (.func (.func 142) #[] #[.pointer (some ⟨w.heap.size, 0, none⟩)]) ∧ w' = w.alloc (.cells #[.slice ad len cap] 52) := by
  refine callsIn_of_wp Tryz.func121 rfl trivial ?_ rfl
  simp only [Tryz.ntmps121, List.size_toArray, List.length_cons, List.length_nil, Nat.reduceAdd, Nat.reduceSub, Array.replicate_succ, Array.replicate_zero, List.push_toArray, List.append_toArray, List.nil_append, List.cons_append]
  gi_wp2
  go_ret
  exact ⟨rfl, rfl⟩
/-- What slices.Backward hands back tells the parts from the last on, to any loop that keeps them. -/
theorem back_stops (n : Nat) (Bs n₀ cap : Nat) (ad : Option Addr) (xs : List Pt) (hsz : xs.length ≤ 1000000) (w : World) (hn₀ : n₀ ≤ w.heap.size) (hBs : w.cell? ⟨Bs, 0, none⟩ = some (.slice ad xs.length cap)) (hc : PtsLow n₀ w ad xs) :
    SeqStopsK Fence.wide n Tryz.prog 142 #[.pointer (some ⟨Bs, 0, none⟩)] (fun x : Fin xs.length => #[.int .i64 (x.val : Int), (xs[x]).v]) (KpB n₀ Bs) (fun ys => ys = bkL xs xs.length) (fun pre => ∃ k, k ≤ xs.length ∧ pre = bkL xs k) xs.length w := fun l J Jx W hW _ _ hY h0 =>
  back1_in n l Bs n₀ cap ad xs hsz J Jx hY W ((hW.cell (p := ⟨Bs, 0, none⟩) (World.block_lt_of_cell? _ _ hBs)).trans hBs) (hc.below (hW.mono hn₀)) h0
end Go.Proofs.YtjijhefmbmdbeaaGreatDoor
namespace Go.Proofs.YtjijhefmbmdbeaaGreatDoor
open Go.RowKit

theorem flat_at {α : Type} (enc : α → List Value) (sz : Nat) (he : ∀ a, (enc a).length = sz) : ∀ (l : List α) (j i : Nat) (h : j < l.length), i < sz → (l.flatMap enc)[j * sz + i]? = (enc l[j])[i]?
  | a :: r, 0, i, _, hi => by
    rw [List.flatMap_cons, Nat.zero_mul, Nat.zero_add, List.getElem?_append_left (by rw [he]; exact hi)]
    rfl
  | a :: r, j + 1, i, h, hi => by
    rw [List.flatMap_cons, List.getElem?_append_right (by rw [he, Nat.add_mul]; omega), he, show (j + 1) * sz + i - sz = j * sz + i by rw [Nat.add_mul]; omega, flat_at enc sz he r j i (by simpa using h) hi]
    rfl
theorem flat_len {α : Type} (enc : α → List Value) (sz : Nat) (he : ∀ a, (enc a).length = sz) (l : List α) : (l.flatMap enc).length = l.length * sz := by
  induction l with
  | nil => simp
  | cons a r ih => rw [List.flatMap_cons, List.length_append, ih, he, List.length_cons, Nat.add_mul]; omega
theorem flat_take {α : Type} (enc : α → List Value) (sz : Nat) (he : ∀ a, (enc a).length = sz) (l : List α) (m : Nat) : (l.flatMap enc).take (m * sz) = (l.take m).flatMap enc := by
  induction l generalizing m with
  | nil => simp
  | cons a r ih =>
    cases m with
    | zero => simp
    | succ m =>
      rw [List.flatMap_cons, List.take_succ_cons, List.flatMap_cons, ← ih m, List.take_append, he, List.take_of_length_le (by rw [he, Nat.add_mul]; omega), show (m + 1) * sz - sz = m * sz by rw [Nat.add_mul]; omega]
/-- The beginning of a row of the call's own. -/
theorem own_take {w : World} {B e sz g n cap : Nat} {xs : List Value} (h : w.ownsRow B e sz (.slice (some ⟨g, 0, none⟩) n cap) n xs) (m : Nat) (hm : m ≤ n) : w.ownsRow B e sz (.slice (some ⟨g, 0, none⟩) m cap) m (xs.take (m * sz)) := by
  obtain ⟨h1, ⟨h2, _⟩ | ⟨g', cap', cur, h2, h3, h4, h5, h6, h7, h8⟩⟩ := h
  · cases h2
  · cases h2
    have hmn : m * sz ≤ n * sz := Nat.mul_le_mul_right _ hm
    refine ⟨by rw [List.length_take, h1]; omega, Or.inr ⟨g, cap, cur, rfl, h3, h4, by omega, h6, h7, ?_⟩⟩
    rw [← h8, List.take_take, Nat.min_eq_left hmn]
theorem own_cell {α : Type} {enc : α → List Value} {sz : Nat} (he : ∀ a, (enc a).length = sz) {w : World} {B e g cap : Nat} {l : List α} (h : w.ownsRow B e sz (.slice (some ⟨g, 0, none⟩) l.length cap) l.length (l.flatMap enc)) (j i : Nat) (hj : j < l.length) (hi : i < sz) : w.cell? ⟨g, j * sz + i, none⟩ = (enc l[j])[i]? := by
  have hlt : j * sz + i < l.length * sz := by
    have : (j + 1) * sz ≤ l.length * sz := Nat.mul_le_mul_right _ hj
    rw [Nat.add_mul] at this
    omega
  rw [World.ownsRow.cellAt h (j * sz + i) hlt]
  exact flat_at enc sz he l j i hj hi
theorem cbox_own {g : Nat} {cs : Array Value} {t : TypeId} {W W' : World} {row : Option Nat} (h : CBox g cs t W) (hg : W.grownBy W' row) (hr : ∀ r, row = some r → ∃ o : Obj, W.heap[r]? = some o ∧ o.isCells = false) : CBox g cs t W' := by
  unfold CBox at *
  rw [hg.block g (Array.getElem?_eq_some_iff.1 h).1 (fun e => by
    obtain ⟨o, ho, hc⟩ := hr g e.symm
    rw [h] at ho
    cases ho
    cases hc)]
  exact h
theorem row_own {W W' : World} {row : Option Nat} {B e sz n : Nat} {v : Value} {xs : List Value} (h : W.ownsRow B e sz v n xs) (hg : W.grownBy W' row) (hr : ∀ r, row = some r → ∃ o : Obj, W.heap[r]? = some o ∧ o.isCells = false) : W'.ownsRow B e sz v n xs := by
  obtain ⟨h1, h2 | ⟨g, cap, cur, h2, h3, h4, h5, h6, h7, h8⟩⟩ := h
  · exact ⟨h1, Or.inl h2⟩
  · exact ⟨h1, Or.inr ⟨g, cap, cur, h2, h3, cbox_own (show CBox g cur e W from h4) hg hr, h5, h6, h7, h8⟩⟩
/-- A row of the call's own stays, while other blocks change. -/
theorem row_kp {W W' : World} {F : List Nat} {B e sz n : Nat} {v : Value} {xs : List Value} (h : W.ownsRow B e sz v n xs) (hk : Kp F W W') (hF : ∀ g, v.ownBlock = some g → g ∉ F) : W'.ownsRow B e sz v n xs := by
  obtain ⟨h1, h2 | ⟨g, cap, cur, h2, h3, h4, h5, h6, h7, h8⟩⟩ := h
  · exact ⟨h1, Or.inl h2⟩
  · refine ⟨h1, Or.inr ⟨g, cap, cur, h2, h3, CBox.kp (show CBox g cur e W from h4) hk (hF g (by rw [h2]; rfl)), h5, h6, h7, h8⟩⟩
/-- A row's block is none that holds cells of another type. -/
theorem row_ne {W : World} {B e sz n g : Nat} {v : Value} {xs : List Value} {cs : Array Value} {t : TypeId} (h : W.ownsRow B e sz v n xs) (hg : CBox g cs t W) (ht : t ≠ e) : v.ownBlock ≠ some g := fun he => by
  obtain ⟨_, ⟨rfl, _⟩ | ⟨g', cap, cur, rfl, _, h4, _⟩⟩ := h
  · cases he
  · simp [Value.ownBlock] at he
    subst he
    unfold CBox at hg
    rw [h4] at hg
    cases hg
    exact ht rfl
theorem KeepsOthers.ofKp {W W' : World} (h : Kp [] W W') : KeepsOthers W W' := ⟨h.size, fun k _ hk _ => (h.block k (Array.getElem?_eq_some_iff.1 hk).1 (by simp)).trans hk⟩
theorem KeepsOthers.ofBelow {W W' : World} (h : Below W.heap.size W W') : KeepsOthers W W' := ⟨h.size, fun k _ hk _ => (h.block k (Array.getElem?_eq_some_iff.1 hk).1).trans hk⟩
theorem stk_len {α : Type} {ev : Pt → List α → α} {x : List Pt} {l : List α} (h : stk ev x = some l) : l.length ≤ x.length := by
  obtain ⟨ts, _, rfl, rfl⟩ := stk_some ev x l h
  rw [List.length_map]
  clear h
  induction ts with
  | nil => simp
  | cons t r ih => rw [List.flatMap_cons, List.length_append, List.length_cons]; have := t.flat_pos; have := ih (by simp_all); omega
theorem stk_suffix {α : Type} (ev : Pt → List α → α) (a b : List Pt) (h : stk ev b = none) : stk ev (a ++ b) = none := by
  induction a with
  | nil => exact h
  | cons p r ih => rw [List.cons_append, stk, ih]
end Go.Proofs.YtjijhefmbmdbeaaGreatDoor
namespace Go.Proofs.YtjijhefmbmdbeaaGreatDoor
open Go.RowKit Go.Shelf

theorem KeepsOthers.ofCells {W W' : World} {F : List Nat} (h : Kp F W W') (hF : ∀ y ∈ F, ∃ cs t, CBox y cs t W) : KeepsOthers W W' := ⟨h.size, fun k o hk ho => by
  refine (h.block k (Array.getElem?_eq_some_iff.1 hk).1 (fun hm => ?_)).trans hk
  obtain ⟨cs, t, hc⟩ := hF k hm
  unfold CBox at hc
  rw [hk] at hc
  cases hc
  cases ho⟩
theorem new_cells (W : World) (news : List Value) (t : TypeId) : ∀ (j : Nat) (u : Value), news[j]? = some u → (W.alloc (.cells news.toArray t)).cell? ((⟨W.heap.size, 0, none⟩ : Addr).add j) = some u := fun j u hj => by
  have := (CBox.new W news.toArray t).cell (i := j) (v := u) (by simpa using hj)
  rw [show (⟨W.heap.size, 0, none⟩ : Addr).add j = ⟨W.heap.size, j, none⟩ by cases j <;> simp [Addr.add]]
  exact this
theorem flat_take_le (ts : List Ex) (k : Nat) : ((ts.take k).flatMap Ex.flat).length ≤ (ts.flatMap Ex.flat).length := by
  conv => rhs; rw [← List.take_append_drop k ts, List.flatMap_append, List.length_append]
  omega
theorem tab_stF (w : World) : (storeCells ⟨w.heap.size, 0, none⟩ opsV.toList 0).run Tryz.prog (w.alloc (.cells Tryz.zeroCells168 168)) = .ok () (w.alloc (.cells opsV 168)) :=
  run_storeCells_new w _ _ opsV info_tab (by kernel_rfl) opsV_one
theorem results_row_cell {P : Program} {fn : Func} {p u : Tmp} {ty ty2 : TypeId} (h : fn.results = #[.cell p ty, .cell u ty2]) (tmps : Array Value) (w : World) (g : Nat) (t : TypeId) (cs : Array Value) (fr : Nat × Nat) (fs : Array Field)
    (hp : tmps.getD p undef = .pointer (some ⟨g, 0, none⟩)) (hg : w.heap[g]? = some (.cells cs t fr))
    (hu : P.underlying ty = some (.struct fs)) (hi : (P.info? ty).map (·.size) = some cs.size)
    (g2 : Nat) (v : Value) (hp2 : tmps.getD u undef = .pointer (some ⟨g2, 0, none⟩)) (h2 : (loadVar ty2 ⟨g2, 0, none⟩).run P w = .ok v w) :
    (results fn tmps).run P w = .ok (.tuple #[.agg cs, v]) w := by
  have hp' : tmps[p]?.getD undef = .pointer (some ⟨g, 0, none⟩) := by simpa using hp
  have hp2' : tmps[u]?.getD undef = .pointer (some ⟨g2, 0, none⟩) := by simpa using hp2
  simp [results, h, hp', hp2', asAddr, run_loadVar_row w g t ty cs fr (.struct fs) hg hu rfl hi, h2, Sem.run_bind, Result.andThen]
theorem load_bool {W : World} {g : Nat} {b : Bool} (h : CBox g #[.bool b] 4 W) : (loadVar 4 ⟨g, 0, none⟩).run Tryz.prog W = .ok (.bool b) W := by
  have c := h.cell (i := 0) (v := .bool b) rfl
  go_simp
theorem CBox.putObj {g D : Nat} {cs : Array Value} {t : TypeId} {W : World} {o o' : Obj} (h : CBox g cs t W) (hD : W.heap[D]? = some o) (ho : o.isCells = false) : CBox g cs t (W.putObj D o') := by
  unfold CBox at *
  rw [World.putObj_heap_other (fun e => by subst e; rw [h] at hD; cases hD; cases ho)]
  exact h
/-- How a fold returns. -/
theorem fo_ret {n : Nat} {fn : Func} {R : Ending → World → Prop} {tmps : Array Value} {W : World} {D b1 b2 n₀ : Nat} {ty : TypeId} {cs : Array Value} {b : Bool} {fs : Array Field} {w : World} (h : fn.results = #[.cell 4 ty, .cell 5 4])
    (h4 : tmps.getD 4 undef = .pointer (some ⟨b1, 0, none⟩)) (h5 : tmps.getD 5 undef = .pointer (some ⟨b2, 0, none⟩)) (hu : Tryz.prog.underlying ty = some (.struct fs)) (hi : (Tryz.prog.info? ty).map (·.size) = some cs.size)
    (hK : W.heap[D]? = some (.deferred (some []))) (c1 : CBox b1 cs ty W) (c2 : CBox b2 #[.bool b] 4 W) (hb : Below n₀ w W) (hD : n₀ ≤ D) 
    (hR : ∀ W', Below n₀ w W' → R (.returned (.tuple #[.agg cs, .bool b])) W') :
    bodyPostM Fence.wide n Tryz.prog fn R .ret { tmps := tmps, defers := [{ target := .collected D, args := #[] }] } W := by
  refine ⟨by simp, .inl ⟨_, _, rfl, run_takeDeferred hK, ?_⟩⟩
  have k1 := c1.putObj (o' := .deferred none) hK rfl
  have k2 := c2.putObj (o' := .deferred none) hK rfl
  refine ⟨_, results_row_cell h tmps _ b1 ty cs (0, 0) fs h4 k1 hu hi b2 (.bool b) h5 (load_bool k2), hR _ ?_⟩
  exact hb.trans ⟨rfl, rfl, rfl, by simp, fun k hk => World.putObj_heap_other (by omega)⟩
end Go.Proofs.YtjijhefmbmdbeaaGreatDoor
