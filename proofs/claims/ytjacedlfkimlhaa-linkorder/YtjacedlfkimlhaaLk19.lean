/-
  A slice of structs that comes in as an argument: they lie where it says.
  LinkOrder: three rows of texts beside one another.
-/
import Derived.Test.YtjacedlfkimlhaaLk05
import Derived.Test.YtjacedlfkimlhaaProg
import Derived.ProofKit
import Derived.OpenShut
import Derived.Deep.Slices
import Derived.Test.YtjacedlfkimlhaaLk17
import Derived.Test.YtjacedlfkimlhaaLk18
namespace Go.Proofs.Ytjacedlfkimlhaa
open Go.RowKit Go.Deep

/-- One of them. -/
structure M19 where
  k : Int
  n : Int
  b : ByteArray
def M19.ok (a : M19) : Prop := (-9223372036854775808 ≤ a.k ∧ a.k ≤ 9223372036854775807) ∧ (-9223372036854775808 ≤ a.n ∧ a.n ≤ 9223372036854775807) ∧ a.b.size ≤ 9223372036854775807
def M19At (w : World) (ad : Option Addr) (l : List M19) : Prop :=
  l ≠ [] → ∃ b off, ad = some ⟨b, off, none⟩ ∧ b < w.heap.size ∧ ∀ i (h : i < l.length), w.cell? ⟨b, off + i * 3, none⟩ = some (.int .i64 l[i].k) ∧ w.cell? ⟨b, off + i * 3 + 1, none⟩ = some (.int .i64 l[i].n) ∧ w.cell? ⟨b, off + i * 3 + 2, none⟩ = some (.string l[i].b)
theorem M19At.kp {w w' : World} {ad : Option Addr} {l : List M19} (h : M19At w ad l) (hk : Kp [] w w') : M19At w' ad l := fun hl => by
  obtain ⟨b, off, e, hlt, hc⟩ := h hl
  refine ⟨b, off, e, Nat.lt_of_lt_of_le hlt hk.size, fun i hi => ?_⟩
  obtain ⟨c0, c1, c2⟩ := hc i hi
  exact ⟨hk.cell c0 (by simp), hk.cell c1 (by simp), hk.cell c2 (by simp)⟩
theorem M19At.at {w : World} {ad : Option Addr} {l : List M19} (h : M19At w ad l) (i : Nat) (hi : i < l.length) : ∃ b off, ad = some ⟨b, off, none⟩ ∧ b < w.heap.size ∧ w.cell? ⟨b, off + i * 3, none⟩ = some (.int .i64 l[i].k) ∧ w.cell? ⟨b, off + i * 3 + 1, none⟩ = some (.int .i64 l[i].n) ∧ w.cell? ⟨b, off + i * 3 + 2, none⟩ = some (.string l[i].b) := by
  obtain ⟨b, off, e, hlt, hc⟩ := h (by intro e; subst e; simp at hi)
  exact ⟨b, off, e, hlt, hc i hi⟩
theorem open_mv19_cells : Try.prog.cellsOf 59 = 3 := by kernel_rfl
theorem open_mv19_cells_int : Try.prog.cellsOf 3 = 1 := by kernel_rfl
theorem open_mv19_cells_string : Try.prog.cellsOf 9 = 1 := by kernel_rfl
theorem open_mv19_fields : ∃ f0 f1 f2 : Field, Try.prog.underlying 59 = some (.struct #[f0, f1, f2]) ∧ f0.type = 3 ∧ f1.type = 3 ∧ f2.type = 9 ∧ f0.offset = 0 ∧ f1.offset = 1 ∧ f2.offset = 2 :=
  ⟨_, _, _, Try.underlying59, rfl, rfl, rfl, rfl, rfl, rfl⟩
theorem open_mv19_list {α : Type} : ∀ (l : List α), l.length = 3 → ∃ x0 x1 x2, l = [x0, x1, x2]
  | [x0, x1, x2], _ => ⟨x0, x1, x2, rfl⟩
set_option maxRecDepth 100000 in
theorem open_mv19 {H : Type} {enc : TypeId × Value → H} {W : World} {spare : Nat → Bool} {held : Bool} {fuel : Nat} {v : Value} {x : DataW H × List MemPlace}
    (h : DataW.trod enc Try.prog W 0 spare held fuel 57 [v] = some x) :
    ∃ (ad : Option Addr) (cap : Nat) (l : List M19), v = .slice ad l.length cap ∧ l.length ≤ 9223372036854775807 ∧ M19At W ad l ∧ ∀ y ∈ l, y.ok := by
  obtain ⟨f0, f1, f2, hu, t0, t1, t2, o0, o1, o2⟩ := open_mv19_fields
  rcases open_slice Try.underlying57 h with ⟨hcs, _⟩ | ⟨a, len, cap, m, n, D, Pl, hcs, hb, hl, hm, hmm, _, hx⟩
  · simp only [List.cons.injEq, and_true] at hcs
    subst hcs
    exact ⟨none, 0, [], rfl, by simp, fun hne => absurd rfl hne, by simp⟩
  · simp only [List.cons.injEq, and_true] at hcs
    subst hcs
    have hlm : len ≤ m := by rw [hmm]; split <;> omega
    have each : ∀ i, i < len → ∃ y : M19, W.cell? (a.add (i * 3)) = some (.int .i64 y.k) ∧ W.cell? (a.add (i * 3 + 1)) = some (.int .i64 y.n) ∧ W.cell? (a.add (i * 3 + 2)) = some (.string y.b) ∧ y.ok := by
      intro i hi
      obtain ⟨cs', h1, h2⟩ := hx i (by omega)
      rw [open_mv19_cells] at h1
      obtain ⟨_, hlen, hcell⟩ := World.cells?_some h1
      obtain ⟨xs, k, hk, hxy, _, hxl, hf⟩ := DataW.trod_struct hu h2
      obtain ⟨y0, y1, y2, rfl⟩ := open_mv19_list xs hxl
      obtain ⟨v0, v1, v2, rfl⟩ := open_mv19_list cs' hlen
      have g0 := hf 0 f0 rfl
      have g1 := hf 1 f1 rfl
      have g2 := hf 2 f2 rfl
      simp [o0, o1, o2, t0, t1, t2, open_mv19_cells_int, open_mv19_cells_string] at g0 g1 g2
      have e0 := hcell 0 (by omega)
      have e1 := hcell 1 (by omega)
      have e2 := hcell 2 (by omega)
      rw [Go.Deep.add_add] at e0 e1 e2
      obtain ⟨k0, q0, _, wf0⟩ := DataW.trod_int Try.underlying3 g0
      obtain ⟨k1, q1, _, wf1⟩ := DataW.trod_int Try.underlying3 g1
      obtain ⟨k2, q2, _, wf2⟩ := DataW.trod_string Try.underlying9 g2
      simp only [List.cons.injEq, and_true] at q0 q1 q2
      subst q0 q1 q2
      have b0 := bounds_i64 wf0
      have b1 := bounds_i64 wf1
      unfold maxLen at wf2
      exact ⟨⟨k0, k1, k2⟩, by simpa using e0, by simpa using e1, by simpa using e2, ⟨b0.1, by show k0 ≤ _; omega⟩, ⟨b1.1, by show k1 ≤ _; omega⟩, by show k2.size ≤ _; omega⟩
    have hinh : Inhabited M19 := ⟨⟨0, 0, ⟨#[]⟩⟩⟩
    obtain ⟨q, hq⟩ := choose_lt each
    refine ⟨some a, cap, (List.range len).map q, by simp, by simp; unfold maxLen at hm; omega, fun hne => ?_, fun y hy => ?_⟩
    · have h0 : 0 < len := by
        rcases Nat.eq_zero_or_pos len with e | e
        · subst e; simp at hne
        · exact e
      obtain ⟨b, off, spot⟩ := a
      have hc0 := (hq 0 h0).1
      have hspot : spot = none := by simpa [Addr.add] using World.cell?_spot hc0
      subst hspot
      refine ⟨b, off, rfl, ?_, fun i hi => ?_⟩
      · rcases Nat.lt_or_ge b W.heap.size with hlt | hge
        · exact hlt
        · exfalso
          rw [Go.WideShapes.add_plain] at hc0
          simp [World.cell?, Array.getElem?_eq_none hge] at hc0
      · have hi' : i < len := by simpa using hi
        obtain ⟨c0, c1, c2, _⟩ := hq i hi'
        rw [Go.WideShapes.add_plain] at c0 c1 c2
        simp only [List.getElem_map, List.getElem_range]
        exact ⟨c0, by rw [Nat.add_assoc]; exact c1, by rw [Nat.add_assoc]; exact c2⟩
    · obtain ⟨i, hi, rfl⟩ := List.mem_map.1 hy
      exact (hq i (List.mem_range.1 hi)).2.2.2
end Go.Proofs.Ytjacedlfkimlhaa
namespace Go.Proofs.Ytjacedlfkimlhaa
open Go.RowKit Lk

theorem TxQ.ko {P : Obj → Bool} {B B' : Nat} {w w' : World} {v : Value} {l : List ByteArray} (h : TxQ B w v l) (hk : Ko P B' w w') (hP : B' = w.heap.size ∨ ∀ o, P o = true → lkO o = true) : TxQ B w' v l := by
  rcases h with h | ⟨g, off, cap, cur, rfl, hb, hh, r⟩
  · exact Or.inl h
  · refine Or.inr ⟨g, off, cap, cur, rfl, hb, hk.block g _ hh ?_, r⟩
    rcases hP with rfl | hP
    · exact Or.inl (Array.getElem?_eq_some_iff.1 hh).1
    · cases hp : P (.cells cur 9 (0, 0)) with
      | false => exact Or.inr rfl
      | true =>
        have hn : lkO (.cells cur 9 (0, 0)) = false := rfl
        rw [hP _ hp] at hn
        cases hn
theorem CBox.ko {P : Obj → Bool} {B' g : Nat} {cs : Array Value} {t : TypeId} {w w' : World} (h : CBox g cs t w) (hk : Ko P B' w w') (hP : B' = w.heap.size ∨ P (.cells cs t (0, 0)) = false) : CBox g cs t w' := by
  refine hk.block g _ h ?_
  rcases hP with rfl | hP
  · exact Or.inl (Array.getElem?_eq_some_iff.1 h).1
  · exact Or.inr hP
structure Rws (B : Nat) (W : World) (pv wv av : Value) (P ways acks : List ByteArray) : Prop where
  p : TxO B W pv P
  w : TxQ B W wv ways
  a : TxO B W av acks
  pw : ∀ k, pv.ownBlock = some k → wv.ownBlock ≠ some k
  pa : ∀ k, pv.ownBlock = some k → av.ownBlock ≠ some k
  wa : ∀ k, wv.ownBlock = some k → av.ownBlock ≠ some k
theorem Rws.nil (B : Nat) (W : World) : Rws B W (.slice none 0 0) (.slice none 0 0) (.slice none 0 0) [] [] [] :=
  ⟨TxO.nil _ _, Or.inl ⟨rfl, rfl⟩, TxO.nil _ _, fun k h => (by cases h), fun k h => (by cases h), fun k h => (by cases h)⟩
theorem Rws.ko {Q : Obj → Bool} {B B' : Nat} {W W' : World} {pv wv av : Value} {P ways acks : List ByteArray} (h : Rws B W pv wv av P ways acks) (hk : Ko Q B' W W') (hP : B' = W.heap.size ∨ ∀ o, Q o = true → lkO o = true) : Rws B W' pv wv av P ways acks := ⟨h.p.ko hk hP, h.w.ko hk hP, h.a.ko hk hP, h.pw, h.pa, h.wa⟩
theorem Rws.kp {B : Nat} {W W' : World} {pv wv av : Value} {P ways acks : List ByteArray} (h : Rws B W pv wv av P ways acks) (hk : Kp [] W W') : Rws B W' pv wv av P ways acks := ⟨h.p.kp hk (by simp), h.w.kp hk (by simp), h.a.kp hk (by simp), h.pw, h.pa, h.wa⟩
theorem TxQ.lt {B : Nat} {w : World} {v : Value} {l : List ByteArray} (h : TxQ B w v l) {k : Nat} (hk : v.ownBlock = some k) : k < w.heap.size := by
  obtain ⟨_, cur, hc⟩ := h.block hk
  exact (Array.getElem?_eq_some_iff.1 hc).1
theorem opt_notin {o : Option Nat} {k : Nat} (h : o ≠ some k) : k ∉ o.toList := fun hm => h (by simpa using hm)
/-- A text is put behind those that were pushed. -/
theorem Rws.push {B : Nat} {W : World} {pv wv av : Value} {P ways acks : List ByteArray} (h : Rws B W pv wv av P ways acks) (x : ByteArray) (hB : B ≤ W.heap.size) (hl : P.length ≤ 1000) (ty : TypeId) :
    ∃ v' W', (Builtin.append_ #[39, 39] ty #[pv, .slice (some ⟨W.heap.size, 0, none⟩) 1 1]).run Try.prog (W.alloc (.cells #[.string x] 9)) = .ok v' W' ∧ Rws B W' v' wv av (P ++ [x]) ways acks ∧ Kp pv.ownBlock.toList W W' := by
  have ka := Kp.alloc W (.cells #[.string x] 9)
  have h1 := h.kp ka
  obtain ⟨v', W', hr, t1, t2, t3⟩ := h1.p.push (g := W.heap.size) (x := x) (by have := ka.size; omega) (CBox.new W _ _) (by omega) ty
  have hz := ka.size
  refine ⟨v', W', hr, ⟨t1, h1.w.kp t2 (fun k hk => opt_notin (fun e => h.pw k e hk)), h1.a.kp t2 (fun k hk => opt_notin (fun e => h.pa k e hk)), fun k hk e => ?_, fun k hk e => ?_, h.wa⟩, (ka.mono (by simp)).trans t2 (fun _ hx => Or.inl hx)⟩
  · rcases t3 with t3 | t3
    · exact h.pw k (by rw [← t3]; exact hk) e
    · rw [t3] at hk
      injection hk with hk
      have := h1.w.lt e
      omega
  · rcases t3 with t3 | t3
    · exact h.pa k (by rw [← t3]; exact hk) e
    · rw [t3] at hk
      injection hk with hk
      have := h1.a.lt e
      omega
/-- An acknowledgement is put behind the others. -/
theorem Rws.ack {B : Nat} {W : World} {pv wv av : Value} {P ways acks : List ByteArray} (h : Rws B W pv wv av P ways acks) (x : ByteArray) (hB : B ≤ W.heap.size) (hl : acks.length ≤ 1000) (ty : TypeId) :
    ∃ v' W', (Builtin.append_ #[39, 39] ty #[av, .slice (some ⟨W.heap.size, 0, none⟩) 1 1]).run Try.prog (W.alloc (.cells #[.string x] 9)) = .ok v' W' ∧ Rws B W' pv wv v' P ways (acks ++ [x]) ∧ Kp av.ownBlock.toList W W' := by
  have ka := Kp.alloc W (.cells #[.string x] 9)
  have h1 := h.kp ka
  obtain ⟨v', W', hr, t1, t2, t3⟩ := h1.a.push (g := W.heap.size) (x := x) (by have := ka.size; omega) (CBox.new W _ _) (by omega) ty
  have hz := ka.size
  refine ⟨v', W', hr, ⟨h1.p.kp t2 (fun k hk => opt_notin (h.pa k hk)), h1.w.kp t2 (fun k hk => opt_notin (h.wa k hk)), t1, h.pw, fun k hk e => ?_, fun k hk e => ?_⟩, (ka.mono (by simp)).trans t2 (fun _ hx => Or.inl hx)⟩
  · rcases t3 with t3 | t3
    · exact h.pa k hk (by rw [← t3]; exact e)
    · rw [t3] at e
      injection e with e
      have := h1.p.lt hk
      omega
  · rcases t3 with t3 | t3
    · exact h.wa k hk (by rw [← t3]; exact e)
    · rw [t3] at e
      injection e with e
      have := h1.w.lt hk
      omega
/-- The way anew. -/
theorem Rws.way {B : Nat} {W W' : World} {pv wv wv' av : Value} {P ways ways' acks : List ByteArray} (h : Rws B W pv wv av P ways acks) (hk : Kp wv.ownBlock.toList W W') (hw : TxQ B W' wv' ways') (ho : wv'.ownBlock = wv.ownBlock ∨ ∃ k, wv'.ownBlock = some k ∧ W.heap.size ≤ k) : Rws B W' pv wv' av P ways' acks := by
  refine ⟨h.p.kp hk (fun k hk1 => opt_notin (h.pw k hk1)), hw, h.a.kp hk (fun k hk1 => opt_notin (fun e => h.wa k e hk1)), fun k hk1 e => ?_, h.pa, fun k hk1 e => ?_⟩
  · rcases ho with ho | ⟨k', ho, hz⟩
    · exact h.pw k hk1 (by rw [← ho]; exact e)
    · rw [ho] at e
      injection e with e
      have := h.p.lt hk1
      omega
  · rcases ho with ho | ⟨k', ho, hz⟩
    · exact h.wa k (by rw [← ho]; exact hk1) e
    · rw [ho] at hk1
      injection hk1 with hk1
      have := h.a.lt e
      omega
/-- Packets are put on the way. -/
theorem Rws.app {B : Nat} {W : World} {pv wv av x : Value} {P ways acks ys : List ByteArray} (h : Rws B W pv wv av P ways acks) (hB : B ≤ W.heap.size) (hx : TxO 0 W x ys) (hl : ways.length + ys.length ≤ 1000000) (ty : TypeId) :
    ∃ ad cap W', (Builtin.append_ #[39, 39] ty #[wv, x]).run Try.prog W = .ok (.slice ad (ways.length + ys.length) cap) W' ∧ Rws B W' pv (.slice ad (ways.length + ys.length) cap) av P (ways ++ ys) acks ∧ Kp wv.ownBlock.toList W W' := by
  obtain ⟨ad, cap, W', hr, t1, t2, t3⟩ := h.w.app hB hx hl ty
  exact ⟨ad, cap, W', hr, h.way t2 t1 (t3.imp_right fun e => ⟨_, e, Nat.le_refl _⟩), t2⟩
/-- One packet is taken off the way. -/
theorem Rws.cut {B : Nat} {W : World} {pv av : Value} {g off cap n : Nat} {P ways acks : List ByteArray} (h : Rws B W pv (.slice (some ⟨g, off, none⟩) n cap) av P ways acks) (hn : n = ways.length) (k : Nat) (hk : k < ways.length) (hB : B ≤ W.heap.size) (hl : ways.length ≤ 100000) (hcap : ways.length ≤ cap) (hc : ∀ i (hi : i < ways.length), W.cell? ⟨g, off + i, none⟩ = some (.string ways[i])) (ty : TypeId) :
    ∃ g1 c1 W1, (Builtin.append_ #[39, 39] ty #[.slice (some ⟨W.heap.size, 0, none⟩) 0 0, .slice (some ⟨g, off, none⟩) k cap]).run Try.prog (W.alloc (.cells #[] 9)) = .ok (.slice (some ⟨g1, 0, none⟩) k c1) W1 ∧
    ∃ g2 c2 W2, (Builtin.append_ #[39, 39] ty #[.slice (some ⟨g1, 0, none⟩) k c1, .slice (if cap = k + 1 then some ⟨g, off, none⟩ else some ⟨g, off + (k + 1), none⟩) (n - (k + 1)) (cap - (k + 1))]).run Try.prog W1 = .ok (.slice (some ⟨g2, 0, none⟩) (ways.eraseIdx k).length c2) W2 ∧
    Rws B W2 pv (.slice (some ⟨g2, 0, none⟩) (ways.eraseIdx k).length c2) av P (ways.eraseIdx k) acks ∧ Kp [] W W2 := by
  subst hn
  have ka := Kp.alloc W (.cells #[] 9)
  have hz := ka.size
  have hgW : g < W.heap.size := h.w.lt (k := g) rfl
  have cV : ∀ i (hi : i < ways.length), (W.alloc (.cells #[] 9)).cell? ⟨g, off + i, none⟩ = some (.string ways[i]) := fun i hi => ka.cell (hc i hi) (by simp)
  have ltk : (ways.take k).length = k := by rw [List.length_take]; omega
  obtain ⟨g1, c1, W1, r1, t1, q1⟩ := (TxO.empty (B := W.heap.size) W (Nat.le_refl _)).appAny (ys := ways.take k) (some ⟨g, off, none⟩) cap (fun e => by cases e) (fun a e => by injection e with e; rw [← e]) (fun a e j u hj => by
    injection e with e
    subst e
    rw [Go.WideShapes.add_plain]
    have hj2 : j < ways.length := by
      have := (List.getElem?_eq_some_iff.1 hj).1
      rw [List.length_map, ltk] at this
      omega
    rw [List.getElem?_map, List.getElem?_take] at hj
    split at hj
    · rw [List.getElem?_eq_getElem hj2] at hj
      exact (cV j hj2).trans hj
    · cases hj) rfl (by omega) (by simp; omega) ty
  rw [ltk, Nat.zero_add] at r1 t1
  have k1 : Kp [] W W1 := ka.trans q1 (by simp)
  rw [List.nil_append] at t1
  have hg1 := (t1.block (k := g1) rfl).1
  have ldk : (ways.drop (k + 1)).length = ways.length - (k + 1) := List.length_drop
  obtain ⟨g2, c2, W2, r2, t2, q2⟩ := t1.appAny (ys := ways.drop (k + 1)) (if cap = k + 1 then some ⟨g, off, none⟩ else some ⟨g, off + (k + 1), none⟩) (cap - (k + 1)) (fun e => by split at e <;> cases e) (fun a e => by split at e <;> (rw [← Option.some.inj e])) (fun a e j u hj => by
    have hj2 : k + 1 + j < ways.length := by
      have := (List.getElem?_eq_some_iff.1 hj).1
      rw [List.length_map, ldk] at this
      omega
    split at e
    · omega
    · have e := Option.some.inj e
      subst e
      rw [Go.WideShapes.add_plain, Nat.add_assoc, k1.cell (hc (k + 1 + j) hj2) (by simp)]
      rw [List.getElem?_map, List.getElem?_drop, List.getElem?_eq_getElem hj2] at hj
      exact hj) ltk.symm (by have := k1.size; omega) (by rw [ltk, ldk]; omega) ty
  have he : ways.take k ++ ways.drop (k + 1) = ways.eraseIdx k := (List.eraseIdx_eq_take_drop_succ ways k).symm
  have hlen : k + (ways.drop (k + 1)).length = (ways.eraseIdx k).length := by rw [← he, List.length_append, ltk]
  rw [he] at t2
  rw [hlen] at r2 t2
  rw [ldk] at r2
  have hg2 := (t2.block (k := g2) rfl).1
  have k2 : Kp [] W W2 := k1.trans q2 (fun x hx => Or.inr (by simp at hx; omega))
  exact ⟨g1, c1, W1, r1, g2, c2, W2, r2, h.way (k2.mono (by simp)) (TxQ.of (t2.lower hB)) (Or.inr ⟨g2, rfl, hg2⟩), k2⟩
theorem Rws.below {B : Nat} {W W' : World} {F : List Nat} (hk : Kp F W W') (hB : B ≤ W.heap.size) (hF : ∀ k ∈ F, B ≤ k) : Below B W W' := hk.below hB hF
theorem TxO.own {B : Nat} {w : World} {v : Value} {l : List ByteArray} (h : TxO B w v l) : ∀ k ∈ v.ownBlock.toList, B ≤ k := fun k hk => (h.block (by simpa using hk)).1
theorem TxQ.own {B : Nat} {w : World} {v : Value} {l : List ByteArray} (h : TxQ B w v l) : ∀ k ∈ v.ownBlock.toList, B ≤ k := fun k hk => (h.block (by simpa using hk)).1
/-- The objects of rows of texts. -/
def strO : Obj → Bool
  | .cells _ t _ => t == 9
  | _ => false
/-- Links stay where rows of texts change. -/
theorem str_ne {W : World} {F : List Nat} (hF : ∀ k ∈ F, ∃ cur, W.heap[k]? = some (.cells cur 9 (0, 0))) {W' : World} (hk : Kp F W W') : Ko strO 0 W W' :=
  Ko.of hk (fun k hm _ => by
    obtain ⟨cur, hc⟩ := hF k hm
    exact ⟨Nat.zero_le _, _, hc, rfl⟩)
theorem lk_str (o : Obj) (h : sdO o = true ∨ rcO o = true) : strO o = false := by
  cases o with
  | cells cs t f =>
    rcases h with h | h
    · have h1 : (t == 65 || t == 71) = true := h
      rw [Bool.or_eq_true, beq_iff_eq, beq_iff_eq] at h1
      rcases h1 with rfl | rfl <;> rfl
    · have h1 : (t == 68) = true := h
      rw [beq_iff_eq] at h1
      subst h1
      rfl
  | _ => rfl
theorem mcell {w W : World} {ad : Option Addr} {l : List M19} (h : M19At w ad l) (hb : Below w.heap.size w W) (i : Nat) (hi : i < l.length) : ∃ b o, ad = some ⟨b, o, none⟩ ∧ W.cell? ⟨b, o + i * 3, none⟩ = some (.int .i64 l[i].k) ∧ W.cell? ⟨b, o + i * 3 + 1, none⟩ = some (.int .i64 l[i].n) ∧ W.cell? ⟨b, o + i * 3 + 2, none⟩ = some (.string l[i].b) := by
  obtain ⟨b, o, e, hlt, c0, c1, c2⟩ := h.at i hi
  exact ⟨b, o, e, (hb.cell (p := ⟨b, o + i * 3, none⟩) hlt).trans c0, (hb.cell (p := ⟨b, o + i * 3 + 1, none⟩) hlt).trans c1, (hb.cell (p := ⟨b, o + i * 3 + 2, none⟩) hlt).trans c2⟩
end Go.Proofs.Ytjacedlfkimlhaa
