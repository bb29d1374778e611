/-
  Rows of items that are held: how they lie.
  A slice of structs that comes in as an argument: they lie where it says.
-/
import Derived.Test.YthdfaidjdddagaaJ07
import Derived.Test.YthdfaidjdddagaaJ08
import Derived.ProofKit
import Derived.Test.YthdfaidjdddagaaJ06
import Derived.OpenShut
import Derived.Deep.Slices
namespace Go.Proofs.Ythdfaidjdddagaa
open Go.RowKit

/-- Items as cells. -/
def itC (L : List It) : List Value := L.flatMap fun x => [.int .i64 (x.id : Int), x.v]
theorem itC_len (L : List It) : (itC L).length = L.length * 2 := by
  unfold itC
  induction L with
  | nil => rfl
  | cons x l ih => simp only [List.flatMap_cons, List.length_append, ih, List.length_cons, List.length_nil]; omega
theorem itC_app (L K : List It) : itC (L ++ K) = itC L ++ itC K := by unfold itC; simp
theorem itC_snoc (L : List It) (x : It) : itC (L ++ [x]) = itC L ++ [.int .i64 (x.id : Int), x.v] := by unfold itC; simp
theorem itC_at (L : List It) : ∀ (i : Nat) (h : i < L.length), (itC L)[i * 2]? = some (.int .i64 (L[i].id : Int)) ∧ (itC L)[i * 2 + 1]? = some L[i].v := by
  induction L with
  | nil => intro i h; simp at h
  | cons x l ih =>
    intro i h
    have e : itC (x :: l) = .int .i64 (x.id : Int) :: x.v :: itC l := by unfold itC; simp
    rw [e]
    cases i with
    | zero => exact ⟨rfl, rfl⟩
    | succ i =>
      have := ih i (by simp at h; omega)
      rw [show (i + 1) * 2 = i * 2 + 1 + 1 by omega]
      simpa using this
theorem itC_take (L : List It) (k : Nat) : itC (L.take k) = (itC L).take (k * 2) := by
  induction L generalizing k with
  | nil => simp [itC]
  | cons x l ih =>
    cases k with
    | zero => simp [itC]
    | succ k =>
      have e : ∀ l : List It, itC (x :: l) = .int .i64 (x.id : Int) :: x.v :: itC l := fun l => by unfold itC; simp
      rw [List.take_succ_cons, e, e, ih, show (k + 1) * 2 = k * 2 + 1 + 1 by omega, List.take_succ_cons, List.take_succ_cons]
theorem itC_drop (L : List It) (k : Nat) : itC (L.drop k) = (itC L).drop (k * 2) := by
  induction L generalizing k with
  | nil => simp [itC]
  | cons x l ih =>
    cases k with
    | zero => simp [itC]
    | succ k =>
      have e : ∀ l : List It, itC (x :: l) = .int .i64 (x.id : Int) :: x.v :: itC l := fun l => by unfold itC; simp
      rw [List.drop_succ_cons, e, ih, show (k + 1) * 2 = k * 2 + 1 + 1 by omega, List.drop_succ_cons, List.drop_succ_cons]
theorem info_held : (Try.prog.info? 48).map (fun i => (i.zero, i.size, i.bytes)) = some (some (.agg #[.int .i64 0, .slice none 0 0]), 2, 32) := by kernel_rfl
/-- All that lies there between two acts. -/
structure StS (w wr : World) (v : Value) (L : List It) (c : Nat → Ent) (m t : Nat) : Prop where
  row : wr.ownsRow (w.heap.size + 1) 48 2 v L.length (itC L)
  bu : Bu w.heap.size c (m : Int) wr
  pl : StP c m L t
  ways : ∀ x ∈ L, OwP (w.heap.size + 1) wr x.v x.way
  kp : Kp [] w wr
theorem OwP.form {B : Nat} {w : World} {v : Value} {l : List (Int × Int)} (h : OwP B w v l) : ∃ ad cap, v = .slice ad l.length cap := by
  obtain ⟨_, ⟨rfl, h0⟩ | ⟨g, cap, cur, rfl, _⟩⟩ := h
  · exact ⟨none, 0, by rw [h0]⟩
  · exact ⟨_, _, rfl⟩
theorem StS.one {w wr : World} {v : Value} {L : List It} {c : Nat → Ent} {m t : Nat} (h : StS w wr v L c m t) : ∀ u ∈ itC L, u.oneCell' = true := fun u hu => by
  unfold itC at hu
  obtain ⟨x, hx, hu⟩ := List.mem_flatMap.1 hu
  simp at hu
  rcases hu with rfl | rfl
  · rfl
  · obtain ⟨ad, cap, e⟩ := (h.ways x hx).form
    rw [e]; rfl
theorem StS.form {w wr : World} {v : Value} {L : List It} {c : Nat → Ent} {m t : Nat} (h : StS w wr v L c m t) : ∃ ad cap, v = .slice ad L.length cap := by
  obtain ⟨_, ⟨rfl, h0⟩ | ⟨g, cap, cur, rfl, _⟩⟩ := h.row
  · exact ⟨none, 0, by rw [h0]⟩
  · exact ⟨_, _, rfl⟩
/-- The row's cells. -/
theorem StS.at {w wr : World} {v : Value} {L : List It} {c : Nat → Ent} {m t : Nat} (h : StS w wr v L c m t) (h0 : 0 < L.length) : ∃ g cap, v = .slice (some ⟨g, 0, none⟩) L.length cap ∧ w.heap.size + 1 ≤ g ∧ L.length ≤ cap ∧ cap ≤ maxLen ∧ g < wr.heap.size ∧ ∀ j u, (itC L)[j]? = some u → wr.cell? ⟨g, j, none⟩ = some u := by
  obtain ⟨h0', ⟨rfl, h1⟩ | ⟨g, cap, cur, rfl, hg, hh, h2, h3, h4, h5⟩⟩ := h.row
  · omega
  · refine ⟨g, cap, rfl, hg, h2, h3, (Array.getElem?_eq_some_iff.1 hh).1, fun j u hj => ?_⟩
    have hlt : j < L.length * 2 := by
      have := (List.getElem?_eq_some_iff.1 hj).1
      rw [itC_len] at this
      exact this
    rw [← h5, List.getElem?_take_of_lt hlt] at hj
    simp at hj
    simp [World.cell?, hh, hj]
/-- The buffer changes, or what is new. -/
theorem StS.step {w wr w' : World} {v : Value} {L : List It} {c d : Nat → Ent} {m n t : Nat} (h : StS w wr v L c m t) (hk : Kp [w.heap.size] wr w') (hb : Bu w.heap.size d (n : Int) w') : w'.ownsRow (w.heap.size + 1) 48 2 v L.length (itC L) ∧ Bu w.heap.size d (n : Int) w' ∧ (∀ x ∈ L, OwP (w.heap.size + 1) w' x.v x.way) ∧ Kp [] w w' :=
  ⟨own_kp h.row hk (fun b hb => by have := own_ge h.row b hb; simp; omega), hb, fun x hx => own_kp (h.ways x hx) hk (fun b hb => by have := own_ge (h.ways x hx) b hb; simp; omega), h.kp.trans hk (by simp)⟩
theorem StS.kp0 {w wr w' : World} {v : Value} {L : List It} {c : Nat → Ent} {m t : Nat} (h : StS w wr v L c m t) (hk : Kp [] wr w') : StS w w' v L c m t := by
  obtain ⟨a, b, e, f⟩ := h.step (hk.mono (by simp)) (h.bu.kp hk (by simp))
  exact ⟨a, b, h.pl, e, f⟩
theorem src1 {W : World} {g : Nat} {L : List It} (k : Nat) (h : ∀ j u, (itC L)[j]? = some u → W.cell? ⟨g, j, none⟩ = some u) : ∀ a, some (⟨g, 0, none⟩ : Addr) = some a → ∀ j u, (itC (L.take k))[j]? = some u → W.cell? (a.add j) = some u := fun a ha j u hu => by
  injection ha with ha
  subst ha
  rw [itC_take, List.getElem?_take] at hu
  split at hu
  · have := h j u hu
    rw [Go.WideShapes.add_plain, Nat.zero_add]
    exact this
  · cases hu
theorem src2 {W : World} {g : Nat} {L : List It} (k : Nat) (h : ∀ j u, (itC L)[j]? = some u → W.cell? ⟨g, j, none⟩ = some u) : ∀ a, some (⟨g, k * 2, none⟩ : Addr) = some a → ∀ j u, (itC (L.drop k))[j]? = some u → W.cell? (a.add j) = some u := fun a ha j u hu => by
  injection ha with ha
  subst ha
  rw [itC_drop, List.getElem?_drop] at hu
  rw [Go.WideShapes.add_plain]
  exact h _ u hu
theorem it_empty (w : World) : (w.alloc (.cells #[] 48)).ownsRow 0 48 2 (.slice (some ⟨w.heap.size, 0, none⟩) 0 0) 0 [] :=
  ⟨rfl, Or.inr ⟨w.heap.size, 0, #[], rfl, Nat.zero_le _, CBox.new w _ _, Nat.le_refl _, by unfold maxLen; omega, rfl, rfl⟩⟩
/-- One more item. -/
theorem StS.push {w w4 w6 : World} {v : Value} {L : List It} {x : It} {d : Nat → Ent} {n t' g6 cap6 : Nat} {o : Obj} (row : w4.ownsRow (w.heap.size + 1) 48 2 v L.length (itC L)) (bu : Bu w.heap.size d (n : Int) w4) (ways : ∀ y ∈ L ++ [x], OwP (w.heap.size + 1) w4 y.v y.way) (kp : Kp [] w w4) (pl : StP d n (L ++ [x]) t')
    (hown : w6.ownsRow (w.heap.size + 1) 48 2 (.slice (some ⟨g6, 0, none⟩) (L.length + 1) cap6) (L.length + 1) (itC L ++ [.int .i64 (x.id : Int), x.v])) (hgr : (w4.alloc o).grownBy w6 v.ownBlock) : StS w w6 (.slice (some ⟨g6, 0, none⟩) (L.length + 1) cap6) (L ++ [x]) d n t' := by
  have k6 : Kp v.ownBlock.toList w4 w6 := ((Kp.alloc _ _).mono (by simp)).trans (Kp.of hgr) (fun x hx => Or.inl hx)
  refine ⟨?_, bu.kp k6 (fun hm => by have := own_ge row w.heap.size (by simpa using hm); omega), pl, fun y hy => own_kp (ways y hy) k6 (fun b hb hm => own_ne row (ways y hy) (by decide) b hb (by simpa using hm)), kp.trans k6 (fun x hx => Or.inr (by have := own_ge row x (by simpa using hx); omega))⟩
  rw [List.length_append, itC_snoc]
  exact hown
/-- An item less: the row is made anew. -/
theorem StS.less {w w4 w6 : World} {v : Value} {L K : List It} {d : Nat → Ent} {n t' g6 cap6 : Nat} (bu : Bu w.heap.size d (n : Int) w4) (ways : ∀ y ∈ L, OwP (w.heap.size + 1) w4 y.v y.way) (hK : ∀ y ∈ K, y ∈ L) (kp : Kp [] w w4) (pl : StP d n K t') (hg : w4.heap.size ≤ g6) (hv : v = .slice (some ⟨g6, 0, none⟩) K.length cap6) (hs : w.heap.size + 1 ≤ w4.heap.size)
    (hown : w6.ownsRow 0 48 2 v K.length (itC K)) (hgr : Kp [] w4 w6) : StS w w6 v K d n t' := by
  refine ⟨?_, bu.kp hgr (by simp), pl, fun y hy => own_kp (ways y (hK y hy)) hgr (fun _ _ => by simp), kp.trans hgr (by simp)⟩
  subst hv
  obtain ⟨h0, ⟨h, _⟩ | ⟨g, cap, cur, e, _, hh, h2⟩⟩ := hown
  · cases h
  · refine ⟨h0, Or.inr ⟨g, cap, cur, e, ?_, hh, h2⟩⟩
    injection e with e1
    injection e1 with e1
    injection e1 with e1
    omega
theorem OwP.src {B : Nat} {w : World} {v : Value} {l : List (Int × Int)} (h : OwP B w v l) (hl : l ≠ []) : ∃ g cap, v = .slice (some ⟨g, 0, none⟩) l.length cap ∧ ∀ j u, (prC l)[j]? = some u → w.cell? ((⟨g, 0, none⟩ : Addr).add j) = some u := by
  obtain ⟨h0, ⟨_, h1⟩ | ⟨g, cap, cur, rfl, hg, hh, h2, h3, h4, h5⟩⟩ := h
  · exact absurd (List.eq_nil_of_length_eq_zero h1) hl
  · refine ⟨g, cap, rfl, fun j u hj => ?_⟩
    have hlt : j < l.length * 2 := by
      have := (List.getElem?_eq_some_iff.1 hj).1
      rw [prC_len] at this
      exact this
    rw [← h5, List.getElem?_take_of_lt hlt] at hj
    simp at hj
    rw [Go.WideShapes.add_plain, Nat.zero_add]
    simp [World.cell?, hh, hj]
theorem own_lt {B : Nat} {w : World} {e : TypeId} {sz n : Nat} {v : Value} {xs : List Value} (h : w.ownsRow B e sz v n xs) : ∀ b, v.ownBlock = some b → b < w.heap.size := by
  obtain ⟨h0, ⟨rfl, h1⟩ | ⟨g, cap, cur, rfl, hg, hh, h2⟩⟩ := h
  · intro b hb; cases hb
  · intro b hb
    simp [Value.ownBlock] at hb
    subst hb
    exact (Array.getElem?_eq_some_iff.1 hh).1
theorem own_mono {B B' : Nat} {w : World} {e : TypeId} {sz n : Nat} {v : Value} {xs : List Value} (h : w.ownsRow B e sz v n xs) (hB : B' ≤ B) : w.ownsRow B' e sz v n xs := by
  obtain ⟨h0, ⟨rfl, h1⟩ | ⟨g, cap, cur, rfl, hg, h2⟩⟩ := h
  · exact ⟨h0, Or.inl ⟨rfl, h1⟩⟩
  · exact ⟨h0, Or.inr ⟨g, cap, cur, rfl, by omega, h2⟩⟩
/-- A way of an item that is to come is made longer. -/
theorem StS.wayed {w w4 w6 w7 : World} {v u : Value} {L : List It} {d : Nat → Ent} {n g7 cap7 i : Nat} {s p : Int} {wy : List (Int × Int)} {o : Obj} (row : w6.ownsRow (w.heap.size + 1) 48 2 v L.length (itC L)) (bu : Bu w.heap.size d (n : Int) w6) (ways : ∀ y ∈ L, OwP (w.heap.size + 1) w6 y.v y.way) (ways4 : ∀ y ∈ L, OwP (w.heap.size + 1) w4 y.v y.way) (kp : Kp [] w w6) (hs : w.heap.size + 1 ≤ w4.heap.size)
    (ow : OwP w4.heap.size w6 u wy)
    (hown : w7.ownsRow w4.heap.size 41 2 (.slice (some ⟨g7, 0, none⟩) (wy.length + 1) cap7) (wy.length + 1) (prC wy ++ [.int .i64 s, .int .i64 p])) (hgr : (w6.alloc o).grownBy w7 u.ownBlock) :
    w7.ownsRow (w.heap.size + 1) 48 2 v L.length (itC L) ∧ Bu w.heap.size d (n : Int) w7 ∧ (∀ y ∈ L ++ [⟨i, wy ++ [(s, p)], .slice (some ⟨g7, 0, none⟩) (wy.length + 1) cap7⟩], OwP (w.heap.size + 1) w7 y.v y.way) ∧ Kp [] w w7 := by
  have k7 : Kp u.ownBlock.toList w6 w7 := ((Kp.alloc _ _).mono (by simp)).trans (Kp.of hgr) (fun x hx => Or.inl hx)
  have hu : ∀ b, b ∈ u.ownBlock.toList → w4.heap.size ≤ b := fun b hb => own_ge ow b (by simpa using hb)
  refine ⟨own_kp row k7 (fun b hb hm => own_ne ow row (by decide) b hb (by simpa using hm)), bu.kp k7 (fun hm => by have := hu _ hm; omega), fun y hy => ?_, kp.trans k7 (fun x hx => Or.inr (by have := hu x hx; omega))⟩
  rcases List.mem_append.1 hy with h | h
  · exact own_kp (ways y h) k7 (fun b hb hm => by have := hu b hm; have := own_lt (ways4 y h) b hb; omega)
  · simp at h
    subst h
    unfold OwP
    rw [prC_snoc, List.length_append]
    exact own_mono hown hs
theorem itr_at {B : Nat} {wr : World} {v : Value} {L : List It} (h : wr.ownsRow B 48 2 v L.length (itC L)) (h0 : 0 < L.length) : ∃ g cap, v = .slice (some ⟨g, 0, none⟩) L.length cap ∧ ∀ j u, (itC L)[j]? = some u → wr.cell? ⟨g, j, none⟩ = some u := by
  obtain ⟨h0', ⟨rfl, h1⟩ | ⟨g, cap, cur, rfl, hg, hh, h2, h3, h4, h5⟩⟩ := h
  · omega
  · refine ⟨g, cap, rfl, fun j u hj => ?_⟩
    have hlt : j < L.length * 2 := by
      have := (List.getElem?_eq_some_iff.1 hj).1
      rw [itC_len] at this
      exact this
    rw [← h5, List.getElem?_take_of_lt hlt] at hj
    simp at hj
    simp [World.cell?, hh, hj]
/-- What lies there while all is dropped. -/
structure EnS (w wr : World) (v : Value) (L : List It) (c : Nat → Ent) (m t j : Nat) : Prop where
  row : wr.ownsRow (w.heap.size + 1) 48 2 v L.length (itC L)
  bu : Bu w.heap.size c (m : Int) wr
  pl : StP c m (L.drop j) t
  kp : Kp [] w wr
  sl : ∀ x ∈ L, ∃ ad n cp, x.v = .slice ad n cp
theorem EnS.held {w wr : World} {v : Value} {L : List It} {c : Nat → Ent} {m t j : Nat} (h : EnS w wr v L c m t j) (hj : j < L.length) : L[j].id < 4096 ∧ 0 < (c L[j].id).h := by
  have hx : L[j] ∈ L.drop j := by
    rw [← List.getElem_cons_drop hj]
    exact List.mem_cons_self
  exact ⟨(h.pl.held hx).1, (h.pl.held hx).2.1⟩
theorem EnS.next {w wr w' : World} {v : Value} {L : List It} {c d : Nat → Ent} {m n t j : Nat} (h : EnS w wr v L c m t j) (hj : j < L.length) (hs : Swp (lgE c L[j].id) (L[j].id : Int) n d) (hd : BIv d (-1) (m - n) (t : Int)) (hb : Bu w.heap.size d ((m - n : Nat) : Int) w') (hk : Kp [w.heap.size] wr w') : EnS w w' v L d (m - n) t (j + 1) := by
  have h0 : 0 < (L.drop j).length := by rw [List.length_drop]; omega
  have e : (L.drop j)[0] = L[j] := by rw [List.getElem_drop]; simp
  have := h.pl.drop (k := 0) h0 (by rw [e]; exact hs) hd
  rw [List.take_zero, List.nil_append, List.drop_drop] at this
  exact ⟨own_kp h.row hk (fun b hb => by have := own_ge h.row b hb; simp; omega), hb, by rw [show j + 1 = j + (0 + 1) by omega]; exact this, h.kp.trans hk (by simp), h.sl⟩
end Go.Proofs.Ythdfaidjdddagaa
namespace Go.Proofs.Ythdfaidjdddagaa
open Go.RowKit Go.Deep

/-- One of them. -/
structure Act16 where
  kind : Int
  stage : Int
  place : Int
  id : Int
def Act16.ok (a : Act16) : Prop := (-9223372036854775808 ≤ a.kind ∧ a.kind ≤ 9223372036854775807) ∧ (-9223372036854775808 ≤ a.stage ∧ a.stage ≤ 9223372036854775807) ∧ (-9223372036854775808 ≤ a.place ∧ a.place ≤ 9223372036854775807) ∧ (-9223372036854775808 ≤ a.id ∧ a.id ≤ 9223372036854775807)
def Acs16 (w : World) (ad : Option Addr) (l : List Act16) : Prop :=
  l ≠ [] → ∃ b off, ad = some ⟨b, off, none⟩ ∧ b < w.heap.size ∧ ∀ i (h : i < l.length), w.cell? ⟨b, off + i * 4, none⟩ = some (.int .i64 l[i].kind) ∧ w.cell? ⟨b, off + i * 4 + 1, none⟩ = some (.int .i64 l[i].stage) ∧ w.cell? ⟨b, off + i * 4 + 2, none⟩ = some (.int .i64 l[i].place) ∧ w.cell? ⟨b, off + i * 4 + 3, none⟩ = some (.int .i64 l[i].id)
theorem Acs16.kp {w w' : World} {ad : Option Addr} {l : List Act16} (h : Acs16 w ad l) (hk : Kp [] w w') : Acs16 w' ad l := fun hl => by
  obtain ⟨b, off, e, hlt, hc⟩ := h hl
  refine ⟨b, off, e, Nat.lt_of_lt_of_le hlt hk.size, fun i hi => ?_⟩
  obtain ⟨c0, c1, c2, c3⟩ := hc i hi
  exact ⟨hk.cell c0 (by simp), hk.cell c1 (by simp), hk.cell c2 (by simp), hk.cell c3 (by simp)⟩
theorem Acs16.at {w : World} {ad : Option Addr} {l : List Act16} (h : Acs16 w ad l) (i : Nat) (hi : i < l.length) : ∃ b off, ad = some ⟨b, off, none⟩ ∧ b < w.heap.size ∧ w.cell? ⟨b, off + i * 4, none⟩ = some (.int .i64 l[i].kind) ∧ w.cell? ⟨b, off + i * 4 + 1, none⟩ = some (.int .i64 l[i].stage) ∧ w.cell? ⟨b, off + i * 4 + 2, none⟩ = some (.int .i64 l[i].place) ∧ w.cell? ⟨b, off + i * 4 + 3, none⟩ = some (.int .i64 l[i].id) := by
  obtain ⟨b, off, e, hlt, hc⟩ := h (by intro e; subst e; simp at hi)
  exact ⟨b, off, e, hlt, hc i hi⟩
theorem open_acts16_cells : Try.prog.cellsOf 30 = 4 := by kernel_rfl
theorem open_acts16_cells_int : Try.prog.cellsOf 3 = 1 := by kernel_rfl
theorem open_acts16_fields : ∃ f0 f1 f2 f3 : Field, Try.prog.underlying 30 = some (.struct #[f0, f1, f2, f3]) ∧ f0.type = 3 ∧ f1.type = 3 ∧ f2.type = 3 ∧ f3.type = 3 ∧ f0.offset = 0 ∧ f1.offset = 1 ∧ f2.offset = 2 ∧ f3.offset = 3 :=
  ⟨_, _, _, _, Try.underlying30, rfl, rfl, rfl, rfl, rfl, rfl, rfl, rfl⟩
theorem open_acts16_list {α : Type} : ∀ (l : List α), l.length = 4 → ∃ x0 x1 x2 x3, l = [x0, x1, x2, x3]
  | [x0, x1, x2, x3], _ => ⟨x0, x1, x2, x3, rfl⟩
set_option maxRecDepth 100000 in
theorem open_acts16 {H : Type} {enc : TypeId × Value → H} {W : World} {spare : Nat → Bool} {held : Bool} {fuel : Nat} {v : Value} {x : DataW H × List MemPlace}
    (h : DataW.trod enc Try.prog W 0 spare held fuel 22 [v] = some x) :
    ∃ (ad : Option Addr) (cap : Nat) (l : List Act16), v = .slice ad l.length cap ∧ l.length ≤ 9223372036854775807 ∧ Acs16 W ad l ∧ ∀ y ∈ l, y.ok := by
  obtain ⟨f0, f1, f2, f3, hu, t0, t1, t2, t3, o0, o1, o2, o3⟩ := open_acts16_fields
  rcases open_slice Try.underlying22 h with ⟨hcs, _⟩ | ⟨a, len, cap, m, n, D, Pl, hcs, hb, hl, hm, hmm, _, hx⟩
  · simp only [List.cons.injEq, and_true] at hcs
    subst hcs
    exact ⟨none, 0, [], rfl, by simp, fun hne => absurd rfl hne, by simp⟩
  · simp only [List.cons.injEq, and_true] at hcs
    subst hcs
    have hlm : len ≤ m := by rw [hmm]; split <;> omega
    have each : ∀ i, i < len → ∃ y : Act16, W.cell? (a.add (i * 4)) = some (.int .i64 y.kind) ∧ W.cell? (a.add (i * 4 + 1)) = some (.int .i64 y.stage) ∧ W.cell? (a.add (i * 4 + 2)) = some (.int .i64 y.place) ∧ W.cell? (a.add (i * 4 + 3)) = some (.int .i64 y.id) ∧ y.ok := by
      intro i hi
      obtain ⟨cs', h1, h2⟩ := hx i (by omega)
      rw [open_acts16_cells] at h1
      obtain ⟨_, hlen, hcell⟩ := World.cells?_some h1
      obtain ⟨xs, k, hk, hxy, _, hxl, hf⟩ := DataW.trod_struct hu h2
      obtain ⟨y0, y1, y2, y3, rfl⟩ := open_acts16_list xs hxl
      obtain ⟨v0, v1, v2, v3, rfl⟩ := open_acts16_list cs' hlen
      have g0 := hf 0 f0 rfl
      have g1 := hf 1 f1 rfl
      have g2 := hf 2 f2 rfl
      have g3 := hf 3 f3 rfl
      simp [o0, o1, o2, o3, t0, t1, t2, t3, open_acts16_cells_int] at g0 g1 g2 g3
      have e0 := hcell 0 (by omega)
      have e1 := hcell 1 (by omega)
      have e2 := hcell 2 (by omega)
      have e3 := hcell 3 (by omega)
      rw [Go.Deep.add_add] at e0 e1 e2 e3
      obtain ⟨k0, q0, _, wf0⟩ := DataW.trod_int Try.underlying3 g0
      obtain ⟨k1, q1, _, wf1⟩ := DataW.trod_int Try.underlying3 g1
      obtain ⟨k2, q2, _, wf2⟩ := DataW.trod_int Try.underlying3 g2
      obtain ⟨k3, q3, _, wf3⟩ := DataW.trod_int Try.underlying3 g3
      simp only [List.cons.injEq, and_true] at q0 q1 q2 q3
      subst q0 q1 q2 q3
      have b0 := bounds_i64 wf0
      have b1 := bounds_i64 wf1
      have b2 := bounds_i64 wf2
      have b3 := bounds_i64 wf3
      exact ⟨⟨k0, k1, k2, k3⟩, by simpa using e0, by simpa using e1, by simpa using e2, by simpa using e3, ⟨b0.1, by show k0 ≤ _; omega⟩, ⟨b1.1, by show k1 ≤ _; omega⟩, ⟨b2.1, by show k2 ≤ _; omega⟩, ⟨b3.1, by show k3 ≤ _; omega⟩⟩
    have hinh : Inhabited Act16 := ⟨⟨0, 0, 0, 0⟩⟩
    obtain ⟨q, hq⟩ := choose_lt each
    refine ⟨some a, cap, (List.range len).map q, by simp, by simp; unfold maxLen at hm; omega, fun hne => ?_, fun y hy => ?_⟩
    · have h0 : 0 < len := by
        rcases Nat.eq_zero_or_pos len with e | e
        · subst e; simp at hne
        · exact e
      obtain ⟨b, off, spot⟩ := a
      have hc0 := (hq 0 h0).1
      have hspot : spot = none := by simpa [Addr.add] using World.cell?_spot hc0
      subst hspot
      refine ⟨b, off, rfl, ?_, fun i hi => ?_⟩
      · rcases Nat.lt_or_ge b W.heap.size with hlt | hge
        · exact hlt
        · exfalso
          rw [Go.WideShapes.add_plain] at hc0
          simp [World.cell?, Array.getElem?_eq_none hge] at hc0
      · have hi' : i < len := by simpa using hi
        obtain ⟨c0, c1, c2, c3, _⟩ := hq i hi'
        rw [Go.WideShapes.add_plain] at c0 c1 c2 c3
        simp only [List.getElem_map, List.getElem_range]
        exact ⟨c0, by rw [Nat.add_assoc]; exact c1, by rw [Nat.add_assoc]; exact c2, by rw [Nat.add_assoc]; exact c3⟩
    · obtain ⟨i, hi, rfl⟩ := List.mem_map.1 hy
      exact (hq i (List.mem_range.1 hi)).2.2.2.2
end Go.Proofs.Ythdfaidjdddagaa
