/-
  BufferPlays: what lies there between two acts: the buffer beside the document's.
  A slice of structs that comes in as an argument: they lie where it says.
-/
import Derived.Test.YthdfaidjdddagaaL09
import Derived.Test.YthdfaidjdddagaaL13
import Derived.Test.YthdfaidjdddagaaL08
import Derived.ProofKit
import Derived.OpenShut
import Derived.Deep.Slices
namespace Go.Proofs.Ythdfaidjdddagaa
open Go.RowKit

/-- Both buffers lie there, with the same entries. -/
structure PlS (w wr : World) (br : Nat) (v : Value) (n : Nat) (es c : Nat → Ent) (m t : Nat) : Prop where
  bu : Bu w.heap.size c (m : Int) wr
  rb : Rb br v n es c (-1) wr
  iv : BIv c (-1) m (t : Int)
  lt : w.heap.size < br
  kp : Kp [] w wr
theorem Bu.kpB {b br : Nat} {c : Nat → Ent} {m : Int} {w w' : World} (h : Bu b c m w) (hk : KpB br w w') (hb : b < br) : Bu b c m w' := by
  obtain ⟨F, hF, hk⟩ := hk
  exact h.kp hk (fun hm => by have := hF b hm; omega)
theorem KpB.kp0 {br : Nat} {a b c : World} (h : Kp [] a b) (k : KpB br b c) (hb : a.heap.size < br) : Kp [] a c := by
  obtain ⟨F, hF, hk⟩ := k
  exact h.trans hk (fun x hx => Or.inr (by have := hF x hx; omega))
theorem CBox.kpB {b br : Nat} {cs : Array Value} {t : TypeId} {w w' : World} (h : CBox b cs t w) (hk : KpB br w w') (hb : b < br) : CBox b cs t w' := by
  obtain ⟨F, hF, hk⟩ := hk
  exact h.kp hk (fun hm => by have := hF b hm; omega)
/-- Nothing changes. -/
theorem PlS.kp0 {w wr w' : World} {br n m t : Nat} {v : Value} {es c : Nat → Ent} (h : PlS w wr br v n es c m t) (hk : Kp [] wr w') : PlS w w' br v n es c m t :=
  ⟨h.bu.kp hk (by simp), h.rb.kp hk, h.iv, h.lt, h.kp.trans hk (by simp)⟩
theorem PlS.up {w wr : World} {br n m t t' : Nat} {v : Value} {es c : Nat → Ent} (h : PlS w wr br v n es c m t) (ht : t ≤ t') : PlS w wr br v n es c m t' :=
  ⟨h.bu, h.rb, h.iv.up (by omega), h.lt, h.kp⟩
/-- The buffer has changed, the document's not yet. -/
theorem PlS.half {w wr w' : World} {br n m t : Nat} {v : Value} {es c : Nat → Ent} (h : PlS w wr br v n es c m t) (hk : Kp [w.heap.size] wr w') : Rb br v n es c (-1) w' ∧ Kp [] w w' :=
  ⟨h.rb.below hk (fun b hb => by simp at hb; have := h.lt; omega), h.kp.trans hk (by simp)⟩
/-- Both have changed. -/
theorem PlS.both {w wr w1 w2 : World} {br n n' m m' t : Nat} {v v' : Value} {es es' c d : Nat → Ent} (h : PlS w wr br v n es c m t) (hk : Kp [w.heap.size] wr w1) (hb : Bu w.heap.size d (m' : Int) w1) (hr : Rb br v' n' es' d (-1) w2) (hk2 : KpB br w1 w2) (hI : BIv d (-1) m' ((t : Int) + 1)) : PlS w w2 br v' n' es' d m' (t + 1) :=
  ⟨hb.kpB hk2 h.lt, hr, by rw [show ((t + 1 : Nat) : Int) = (t : Int) + 1 by omega]; exact hI, h.lt, KpB.kp0 (h.half hk).2 hk2 h.lt⟩
/-- Both have put the same. -/
theorem PlS.put {w wr w1 w2 : World} {br n n' m m' m2 t : Nat} {v v' : Value} {es es' c d d2 : Nat → Ent} {s p q id er id2 er2 : Int} (h : PlS w wr br v n es c m t) (hp : PutR c m s p q id er d m') (hp2 : PutR c m s p q id2 er2 d2 m2) (hk : Kp [w.heap.size] wr w1) (hb : Bu w.heap.size d (m' : Int) w1) (hr : Rb br v' n' es' d2 (-1) w2) (hk2 : KpB br w1 w2) : id = id2 ∧ er = er2 ∧ PlS w w2 br v' n' es' d m' (t + 1) := by
  obtain ⟨e1, e2, rfl, rfl⟩ := hp.one hp2 h.iv
  exact ⟨e1, e2, h.both hk hb hr hk2 (hp.iv h.iv (by omega))⟩
/-- Both have dropped the same. -/
theorem PlS.drop {w wr w1 w2 : World} {br n i k k2 m t : Nat} {v : Value} {es es' c d d2 : Nat → Ent} (h : PlS w wr br v n es c m t) (hs : Swp (lgE c i) (i : Int) k d) (hs2 : Swp (lgE c i) (i : Int) k2 d2) (hd : BIv d (-1) (m - k) (t : Int)) (hk : Kp [w.heap.size] wr w1) (hb : Bu w.heap.size d ((m - k : Nat) : Int) w1) (hr : Rb br v n es' d2 (-1) w2) (hk2 : KpB br w1 w2) : k = k2 ∧ PlS w w2 br v n es' d (m - k) (t + 1) := by
  obtain ⟨e1, rfl⟩ := hs.one hs2
  exact ⟨e1, h.both hk hb hr hk2 (hd.up (by omega))⟩
/-- No entries at all in the document's buffer. -/
theorem Rb.new (w : World) (es : Nat → Ent) : Rb w.heap.size (.slice none 0 0) 0 es (fun _ => zeE) (-1) (w.alloc (.cells #[.slice none 0 0] 28)) :=
  ⟨CBox.new w _ _, Or.inl ⟨rfl, rfl⟩, ⟨fun i hi => by omega, fun i hi => by omega, fun i _ _ => by rw [prE_neg]; rfl, Nat.zero_le _⟩⟩
end Go.Proofs.Ythdfaidjdddagaa
namespace Go.Proofs.Ythdfaidjdddagaa
open Go.RowKit Go.Deep

/-- One of them. -/
structure Act16 where
  kind : Int
  stage : Int
  place : Int
  id : Int
def Act16.ok (a : Act16) : Prop := (-9223372036854775808 ≤ a.kind ∧ a.kind ≤ 9223372036854775807) ∧ (-9223372036854775808 ≤ a.stage ∧ a.stage ≤ 9223372036854775807) ∧ (-9223372036854775808 ≤ a.place ∧ a.place ≤ 9223372036854775807) ∧ (-9223372036854775808 ≤ a.id ∧ a.id ≤ 9223372036854775807)
def Acs16 (w : World) (ad : Option Addr) (l : List Act16) : Prop :=
  l ≠ [] → ∃ b off, ad = some ⟨b, off, none⟩ ∧ b < w.heap.size ∧ ∀ i (h : i < l.length), w.cell? ⟨b, off + i * 4, none⟩ = some (.int .i64 l[i].kind) ∧ w.cell? ⟨b, off + i * 4 + 1, none⟩ = some (.int .i64 l[i].stage) ∧ w.cell? ⟨b, off + i * 4 + 2, none⟩ = some (.int .i64 l[i].place) ∧ w.cell? ⟨b, off + i * 4 + 3, none⟩ = some (.int .i64 l[i].id)
theorem Acs16.kp {w w' : World} {ad : Option Addr} {l : List Act16} (h : Acs16 w ad l) (hk : Kp [] w w') : Acs16 w' ad l := fun hl => by
  obtain ⟨b, off, e, hlt, hc⟩ := h hl
  refine ⟨b, off, e, Nat.lt_of_lt_of_le hlt hk.size, fun i hi => ?_⟩
  obtain ⟨c0, c1, c2, c3⟩ := hc i hi
  exact ⟨hk.cell c0 (by simp), hk.cell c1 (by simp), hk.cell c2 (by simp), hk.cell c3 (by simp)⟩
theorem Acs16.at {w : World} {ad : Option Addr} {l : List Act16} (h : Acs16 w ad l) (i : Nat) (hi : i < l.length) : ∃ b off, ad = some ⟨b, off, none⟩ ∧ b < w.heap.size ∧ w.cell? ⟨b, off + i * 4, none⟩ = some (.int .i64 l[i].kind) ∧ w.cell? ⟨b, off + i * 4 + 1, none⟩ = some (.int .i64 l[i].stage) ∧ w.cell? ⟨b, off + i * 4 + 2, none⟩ = some (.int .i64 l[i].place) ∧ w.cell? ⟨b, off + i * 4 + 3, none⟩ = some (.int .i64 l[i].id) := by
  obtain ⟨b, off, e, hlt, hc⟩ := h (by intro e; subst e; simp at hi)
  exact ⟨b, off, e, hlt, hc i hi⟩
theorem open_acts16_cells : Try.prog.cellsOf 30 = 4 := by kernel_rfl
theorem open_acts16_cells_int : Try.prog.cellsOf 3 = 1 := by kernel_rfl
theorem open_acts16_fields : ∃ f0 f1 f2 f3 : Field, Try.prog.underlying 30 = some (.struct #[f0, f1, f2, f3]) ∧ f0.type = 3 ∧ f1.type = 3 ∧ f2.type = 3 ∧ f3.type = 3 ∧ f0.offset = 0 ∧ f1.offset = 1 ∧ f2.offset = 2 ∧ f3.offset = 3 :=
  ⟨_, _, _, _, Try.underlying30, rfl, rfl, rfl, rfl, rfl, rfl, rfl, rfl⟩
theorem open_acts16_list {α : Type} : ∀ (l : List α), l.length = 4 → ∃ x0 x1 x2 x3, l = [x0, x1, x2, x3]
  | [x0, x1, x2, x3], _ => ⟨x0, x1, x2, x3, rfl⟩
set_option maxRecDepth 100000 in
theorem open_acts16 {H : Type} {enc : TypeId × Value → H} {W : World} {spare : Nat → Bool} {held : Bool} {fuel : Nat} {v : Value} {x : DataW H × List MemPlace}
    (h : DataW.trod enc Try.prog W 0 spare held fuel 22 [v] = some x) :
    ∃ (ad : Option Addr) (cap : Nat) (l : List Act16), v = .slice ad l.length cap ∧ l.length ≤ 9223372036854775807 ∧ Acs16 W ad l ∧ ∀ y ∈ l, y.ok := by
  obtain ⟨f0, f1, f2, f3, hu, t0, t1, t2, t3, o0, o1, o2, o3⟩ := open_acts16_fields
  rcases open_slice Try.underlying22 h with ⟨hcs, _⟩ | ⟨a, len, cap, m, n, D, Pl, hcs, hb, hl, hm, hmm, _, hx⟩
  · simp only [List.cons.injEq, and_true] at hcs
    subst hcs
    exact ⟨none, 0, [], rfl, by simp, fun hne => absurd rfl hne, by simp⟩
  · simp only [List.cons.injEq, and_true] at hcs
    subst hcs
    have hlm : len ≤ m := by rw [hmm]; split <;> omega
    have each : ∀ i, i < len → ∃ y : Act16, W.cell? (a.add (i * 4)) = some (.int .i64 y.kind) ∧ W.cell? (a.add (i * 4 + 1)) = some (.int .i64 y.stage) ∧ W.cell? (a.add (i * 4 + 2)) = some (.int .i64 y.place) ∧ W.cell? (a.add (i * 4 + 3)) = some (.int .i64 y.id) ∧ y.ok := by
      intro i hi
      obtain ⟨cs', h1, h2⟩ := hx i (by omega)
      rw [open_acts16_cells] at h1
      obtain ⟨_, hlen, hcell⟩ := World.cells?_some h1
      obtain ⟨xs, k, hk, hxy, _, hxl, hf⟩ := DataW.trod_struct hu h2
      obtain ⟨y0, y1, y2, y3, rfl⟩ := open_acts16_list xs hxl
      obtain ⟨v0, v1, v2, v3, rfl⟩ := open_acts16_list cs' hlen
      have g0 := hf 0 f0 rfl
      have g1 := hf 1 f1 rfl
      have g2 := hf 2 f2 rfl
      have g3 := hf 3 f3 rfl
      simp [o0, o1, o2, o3, t0, t1, t2, t3, open_acts16_cells_int] at g0 g1 g2 g3
      have e0 := hcell 0 (by omega)
      have e1 := hcell 1 (by omega)
      have e2 := hcell 2 (by omega)
      have e3 := hcell 3 (by omega)
      rw [Go.Deep.add_add] at e0 e1 e2 e3
      obtain ⟨k0, q0, _, wf0⟩ := DataW.trod_int Try.underlying3 g0
      obtain ⟨k1, q1, _, wf1⟩ := DataW.trod_int Try.underlying3 g1
      obtain ⟨k2, q2, _, wf2⟩ := DataW.trod_int Try.underlying3 g2
      obtain ⟨k3, q3, _, wf3⟩ := DataW.trod_int Try.underlying3 g3
      simp only [List.cons.injEq, and_true] at q0 q1 q2 q3
      subst q0 q1 q2 q3
      have b0 := bounds_i64 wf0
      have b1 := bounds_i64 wf1
      have b2 := bounds_i64 wf2
      have b3 := bounds_i64 wf3
      exact ⟨⟨k0, k1, k2, k3⟩, by simpa using e0, by simpa using e1, by simpa using e2, by simpa using e3, ⟨b0.1, by show k0 ≤ _; omega⟩, ⟨b1.1, by show k1 ≤ _; omega⟩, ⟨b2.1, by show k2 ≤ _; omega⟩, ⟨b3.1, by show k3 ≤ _; omega⟩⟩
    have hinh : Inhabited Act16 := ⟨⟨0, 0, 0, 0⟩⟩
    obtain ⟨q, hq⟩ := choose_lt each
    refine ⟨some a, cap, (List.range len).map q, by simp, by simp; unfold maxLen at hm; omega, fun hne => ?_, fun y hy => ?_⟩
    · have h0 : 0 < len := by
        rcases Nat.eq_zero_or_pos len with e | e
        · subst e; simp at hne
        · exact e
      obtain ⟨b, off, spot⟩ := a
      have hc0 := (hq 0 h0).1
      have hspot : spot = none := by simpa [Addr.add] using World.cell?_spot hc0
      subst hspot
      refine ⟨b, off, rfl, ?_, fun i hi => ?_⟩
      · rcases Nat.lt_or_ge b W.heap.size with hlt | hge
        · exact hlt
        · exfalso
          rw [Go.WideShapes.add_plain] at hc0
          simp [World.cell?, Array.getElem?_eq_none hge] at hc0
      · have hi' : i < len := by simpa using hi
        obtain ⟨c0, c1, c2, c3, _⟩ := hq i hi'
        rw [Go.WideShapes.add_plain] at c0 c1 c2 c3
        simp only [List.getElem_map, List.getElem_range]
        exact ⟨c0, by rw [Nat.add_assoc]; exact c1, by rw [Nat.add_assoc]; exact c2, by rw [Nat.add_assoc]; exact c3⟩
    · obtain ⟨i, hi, rfl⟩ := List.mem_map.1 hy
      exact (hq i (List.mem_range.1 hi)).2.2.2.2
end Go.Proofs.Ythdfaidjdddagaa
