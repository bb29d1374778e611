/-
  A slice of structs that comes in as an argument: they lie where it says.
  CreditPlays: a store and a purse beside the document's; an act.
  A drawn statement: what is held may be made stronger as it goes.
-/
import Derived.Test.YtcogcfnbgicjcaaP01
import Derived.Test.YtcogcfnbgicjcaaProg
import Derived.ProofKit
import Derived.OpenShut
import Derived.Deep.Slices
import Derived.SizedLaws
import Derived.Test.YtcogcfnbgicjcaaP05
import Derived.Deep.RegionHeld3
import Derived.Deep.RegionHeld
namespace Go.Proofs.Ytcogcfnbgicjcaa
open Go.RowKit Go.Deep

/-- One of them. -/
structure A20 where
  k : Int
  n : Int
  t : ByteArray
def A20.ok (a : A20) : Prop := (-9223372036854775808 ≤ a.k ∧ a.k ≤ 9223372036854775807) ∧ (-9223372036854775808 ≤ a.n ∧ a.n ≤ 9223372036854775807) ∧ a.t.size ≤ 9223372036854775807
def A20At (w : World) (ad : Option Addr) (l : List A20) : Prop :=
  l ≠ [] → ∃ b off, ad = some ⟨b, off, none⟩ ∧ b < w.heap.size ∧ ∀ i (h : i < l.length), w.cell? ⟨b, off + i * 3, none⟩ = some (.int .i64 l[i].k) ∧ w.cell? ⟨b, off + i * 3 + 1, none⟩ = some (.int .i64 l[i].n) ∧ w.cell? ⟨b, off + i * 3 + 2, none⟩ = some (.string l[i].t)
theorem A20At.kp {w w' : World} {ad : Option Addr} {l : List A20} (h : A20At w ad l) (hk : Kp [] w w') : A20At w' ad l := fun hl => by
  obtain ⟨b, off, e, hlt, hc⟩ := h hl
  refine ⟨b, off, e, Nat.lt_of_lt_of_le hlt hk.size, fun i hi => ?_⟩
  obtain ⟨c0, c1, c2⟩ := hc i hi
  exact ⟨hk.cell c0 (by simp), hk.cell c1 (by simp), hk.cell c2 (by simp)⟩
theorem A20At.at {w : World} {ad : Option Addr} {l : List A20} (h : A20At w ad l) (i : Nat) (hi : i < l.length) : ∃ b off, ad = some ⟨b, off, none⟩ ∧ b < w.heap.size ∧ w.cell? ⟨b, off + i * 3, none⟩ = some (.int .i64 l[i].k) ∧ w.cell? ⟨b, off + i * 3 + 1, none⟩ = some (.int .i64 l[i].n) ∧ w.cell? ⟨b, off + i * 3 + 2, none⟩ = some (.string l[i].t) := by
  obtain ⟨b, off, e, hlt, hc⟩ := h (by intro e; subst e; simp at hi)
  exact ⟨b, off, e, hlt, hc i hi⟩
theorem open_ac20_cells : Try.prog.cellsOf 37 = 3 := by kernel_rfl
theorem open_ac20_cells_int : Try.prog.cellsOf 3 = 1 := by kernel_rfl
theorem open_ac20_cells_string : Try.prog.cellsOf 9 = 1 := by kernel_rfl
theorem open_ac20_fields : ∃ f0 f1 f2 : Field, Try.prog.underlying 37 = some (.struct #[f0, f1, f2]) ∧ f0.type = 3 ∧ f1.type = 3 ∧ f2.type = 9 ∧ f0.offset = 0 ∧ f1.offset = 1 ∧ f2.offset = 2 :=
  ⟨_, _, _, Try.underlying37, rfl, rfl, rfl, rfl, rfl, rfl⟩
theorem open_ac20_list {α : Type} : ∀ (l : List α), l.length = 3 → ∃ x0 x1 x2, l = [x0, x1, x2]
  | [x0, x1, x2], _ => ⟨x0, x1, x2, rfl⟩
set_option maxRecDepth 100000 in
theorem open_ac20 {H : Type} {enc : TypeId × Value → H} {W : World} {spare : Nat → Bool} {held : Bool} {fuel : Nat} {v : Value} {x : DataW H × List MemPlace}
    (h : DataW.trod enc Try.prog W 0 spare held fuel 22 [v] = some x) :
    ∃ (ad : Option Addr) (cap : Nat) (l : List A20), v = .slice ad l.length cap ∧ l.length ≤ 9223372036854775807 ∧ A20At W ad l ∧ ∀ y ∈ l, y.ok := by
  obtain ⟨f0, f1, f2, hu, t0, t1, t2, o0, o1, o2⟩ := open_ac20_fields
  rcases open_slice Try.underlying22 h with ⟨hcs, _⟩ | ⟨a, len, cap, m, n, D, Pl, hcs, hb, hl, hm, hmm, _, hx⟩
  · simp only [List.cons.injEq, and_true] at hcs
    subst hcs
    exact ⟨none, 0, [], rfl, by simp, fun hne => absurd rfl hne, by simp⟩
  · simp only [List.cons.injEq, and_true] at hcs
    subst hcs
    have hlm : len ≤ m := by rw [hmm]; split <;> omega
    have each : ∀ i, i < len → ∃ y : A20, W.cell? (a.add (i * 3)) = some (.int .i64 y.k) ∧ W.cell? (a.add (i * 3 + 1)) = some (.int .i64 y.n) ∧ W.cell? (a.add (i * 3 + 2)) = some (.string y.t) ∧ y.ok := by
      intro i hi
      obtain ⟨cs', h1, h2⟩ := hx i (by omega)
      rw [open_ac20_cells] at h1
      obtain ⟨_, hlen, hcell⟩ := World.cells?_some h1
      obtain ⟨xs, k, hk, hxy, _, hxl, hf⟩ := DataW.trod_struct hu h2
      obtain ⟨y0, y1, y2, rfl⟩ := open_ac20_list xs hxl
      obtain ⟨v0, v1, v2, rfl⟩ := open_ac20_list cs' hlen
      have g0 := hf 0 f0 rfl
      have g1 := hf 1 f1 rfl
      have g2 := hf 2 f2 rfl
      simp [o0, o1, o2, t0, t1, t2, open_ac20_cells_int, open_ac20_cells_string] at g0 g1 g2
      have e0 := hcell 0 (by omega)
      have e1 := hcell 1 (by omega)
      have e2 := hcell 2 (by omega)
      rw [Go.Deep.add_add] at e0 e1 e2
      obtain ⟨k0, q0, _, wf0⟩ := DataW.trod_int Try.underlying3 g0
      obtain ⟨k1, q1, _, wf1⟩ := DataW.trod_int Try.underlying3 g1
      obtain ⟨k2, q2, _, wf2⟩ := DataW.trod_string Try.underlying9 g2
      simp only [List.cons.injEq, and_true] at q0 q1 q2
      subst q0 q1 q2
      have b0 := bounds_i64 wf0
      have b1 := bounds_i64 wf1
      unfold maxLen at wf2
      exact ⟨⟨k0, k1, k2⟩, by simpa using e0, by simpa using e1, by simpa using e2, ⟨b0.1, by show k0 ≤ _; omega⟩, ⟨b1.1, by show k1 ≤ _; omega⟩, by show k2.size ≤ _; omega⟩
    have hinh : Inhabited A20 := ⟨⟨0, 0, ⟨#[]⟩⟩⟩
    obtain ⟨q, hq⟩ := choose_lt each
    refine ⟨some a, cap, (List.range len).map q, by simp, by simp; unfold maxLen at hm; omega, fun hne => ?_, fun y hy => ?_⟩
    · have h0 : 0 < len := by
        rcases Nat.eq_zero_or_pos len with e | e
        · subst e; simp at hne
        · exact e
      obtain ⟨b, off, spot⟩ := a
      have hc0 := (hq 0 h0).1
      have hspot : spot = none := by simpa [Addr.add] using World.cell?_spot hc0
      subst hspot
      refine ⟨b, off, rfl, ?_, fun i hi => ?_⟩
      · rcases Nat.lt_or_ge b W.heap.size with hlt | hge
        · exact hlt
        · exfalso
          rw [Go.WideShapes.add_plain] at hc0
          simp [World.cell?, Array.getElem?_eq_none hge] at hc0
      · have hi' : i < len := by simpa using hi
        obtain ⟨c0, c1, c2, _⟩ := hq i hi'
        rw [Go.WideShapes.add_plain] at c0 c1 c2
        simp only [List.getElem_map, List.getElem_range]
        exact ⟨c0, by rw [Nat.add_assoc]; exact c1, by rw [Nat.add_assoc]; exact c2⟩
    · obtain ⟨i, hi, rfl⟩ := List.mem_map.1 hy
      exact (hq i (List.mem_range.1 hi)).2.2.2
theorem open_ac20_all {H : Type} : ∀ (L : List (DataW H)) (d : DataW H), d ∈ L → ∀ m ∈ d.weights Try.prog 37, m ∈ DataW.weightsAll Try.prog 37 L
  | [], d, hd, _, _ => by cases hd
  | y :: L, d, hd, m, hm => by
    simp only [DataW.weightsAll]
    rcases List.mem_cons.1 hd with rfl | hd
    · exact List.mem_append.2 (Or.inl hm)
    · exact List.mem_append.2 (Or.inr (open_ac20_all L d hd m hm))
set_option maxRecDepth 100000 in
theorem open_ac20W {H : Type} {enc : TypeId × Value → H} {W : World} {spare : Nat → Bool} {held : Bool} {fuel : Nat} {v : Value} {x : DataW H × List MemPlace}
    (h : DataW.trod enc Try.prog W 0 spare held fuel 22 [v] = some x) :
    ∃ (ad : Option Addr) (cap : Nat) (l : List A20), v = .slice ad l.length cap ∧ l.length ≤ 9223372036854775807 ∧ A20At W ad l ∧ (∀ y ∈ l, y.ok) ∧ ((∀ m ∈ x.1.weights Try.prog 22, m ≤ reachBytes) → ∀ y ∈ l, y.t.size ≤ reachBytes) := by
  obtain ⟨f0, f1, f2, hu, t0, t1, t2, o0, o1, o2⟩ := open_ac20_fields
  rcases open_slice Try.underlying22 h with ⟨hcs, _⟩ | ⟨a, len, cap, m, n, D, Pl, hcs, hb, hl, hm, hmm, hxe, hx⟩
  · simp only [List.cons.injEq, and_true] at hcs
    subst hcs
    exact ⟨none, 0, [], rfl, by simp, fun hne => absurd rfl hne, by simp, by simp⟩
  · simp only [List.cons.injEq, and_true] at hcs
    subst hcs
    have hlm : len ≤ m := by rw [hmm]; split <;> omega
    have each : ∀ i, i < len → ∃ y : A20, W.cell? (a.add (i * 3)) = some (.int .i64 y.k) ∧ W.cell? (a.add (i * 3 + 1)) = some (.int .i64 y.n) ∧ W.cell? (a.add (i * 3 + 2)) = some (.string y.t) ∧ y.ok ∧ ((∀ m ∈ (D i).weights Try.prog 37, m ≤ reachBytes) → y.t.size ≤ reachBytes) := by
      intro i hi
      obtain ⟨cs', h1, h2⟩ := hx i (by omega)
      rw [open_ac20_cells] at h1
      obtain ⟨_, hlen, hcell⟩ := World.cells?_some h1
      obtain ⟨xs, k, hk, hxy, _, hxl, hf⟩ := DataW.trod_struct hu h2
      obtain ⟨y0, y1, y2, rfl⟩ := open_ac20_list xs hxl
      obtain ⟨v0, v1, v2, rfl⟩ := open_ac20_list cs' hlen
      have g0 := hf 0 f0 rfl
      have g1 := hf 1 f1 rfl
      have g2 := hf 2 f2 rfl
      simp [o0, o1, o2, t0, t1, t2, open_ac20_cells_int, open_ac20_cells_string] at g0 g1 g2
      have e0 := hcell 0 (by omega)
      have e1 := hcell 1 (by omega)
      have e2 := hcell 2 (by omega)
      rw [Go.Deep.add_add] at e0 e1 e2
      obtain ⟨k0, q0, _, wf0⟩ := DataW.trod_int Try.underlying3 g0
      obtain ⟨k1, q1, _, wf1⟩ := DataW.trod_int Try.underlying3 g1
      obtain ⟨k2, q2, hy2, wf2⟩ := DataW.trod_string Try.underlying9 g2
      simp only [List.cons.injEq, and_true] at q0 q1 q2
      subst q0 q1 q2
      have b0 := bounds_i64 wf0
      have b1 := bounds_i64 wf1
      unfold maxLen at wf2
      exact ⟨⟨k0, k1, k2⟩, by simpa using e0, by simpa using e1, by simpa using e2, ⟨⟨b0.1, by show k0 ≤ _; omega⟩, ⟨b1.1, by show k1 ≤ _; omega⟩, by show k2.size ≤ _; omega⟩, fun hw => by
        have := hw k2.data.toList.length (by
          rw [show D i = _ from congrArg Prod.fst hxy]
          have hu' : Try.prog.underlying 37 = some (.struct #[f0, f1, f2]) := hu
          simp only [DataW.weights, hu']
          refine DataW.weights_mem_each (j := 2) (t := 9) (d := y2.1) ?_ rfl _ ?_
          · simp [t2]
          · rw [hy2]; simp [DataW.weights])
        simpa using this⟩
    have hinh : Inhabited A20 := ⟨⟨0, 0, ⟨#[]⟩⟩⟩
    obtain ⟨q, hq⟩ := choose_lt each
    refine ⟨some a, cap, (List.range len).map q, by simp, by simp; unfold maxLen at hm; omega, fun hne => ?_, fun y hy => ?_, fun hw y hy => ?_⟩
    · have h0 : 0 < len := by
        rcases Nat.eq_zero_or_pos len with e | e
        · subst e; simp at hne
        · exact e
      obtain ⟨b, off, spot⟩ := a
      have hc0 := (hq 0 h0).1
      have hspot : spot = none := by simpa [Addr.add] using World.cell?_spot hc0
      subst hspot
      refine ⟨b, off, rfl, ?_, fun i hi => ?_⟩
      · rcases Nat.lt_or_ge b W.heap.size with hlt | hge
        · exact hlt
        · exfalso
          rw [Go.WideShapes.add_plain] at hc0
          simp [World.cell?, Array.getElem?_eq_none hge] at hc0
      · have hi' : i < len := by simpa using hi
        obtain ⟨c0, c1, c2, _⟩ := hq i hi'
        rw [Go.WideShapes.add_plain] at c0 c1 c2
        simp only [List.getElem_map, List.getElem_range]
        exact ⟨c0, by rw [Nat.add_assoc]; exact c1, by rw [Nat.add_assoc]; exact c2⟩
    · obtain ⟨i, hi, rfl⟩ := List.mem_map.1 hy
      exact (hq i (List.mem_range.1 hi)).2.2.2.1
    · obtain ⟨i, hi, rfl⟩ := List.mem_map.1 hy
      refine (hq i (List.mem_range.1 hi)).2.2.2.2 (fun m hm => hw m ?_)
      rw [hxe]
      simp only [DataW.weights, Try.underlying22]
      refine List.mem_cons_of_mem _ (List.mem_append.2 (Or.inl ?_))
      exact open_ac20_all _ (D i) (List.mem_map.2 ⟨i, List.mem_range.1 hi |> fun h => by first | exact List.mem_range.2 h | exact h, rfl⟩) m hm
end Go.Proofs.Ytcogcfnbgicjcaa
namespace Go.Proofs.Ytcogcfnbgicjcaa
open Go.RowKit Cr

theorem cb_ne {b b' : Nat} {cs cs' : Array Value} {t t' : TypeId} {w : World} (h : CBox b cs t w) (h' : CBox b' cs' t' w) (ht : t ≠ t') : b ≠ b' := by
  rintro rfl
  unfold CBox at h h'
  rw [h] at h'
  injection h' with e
  injection e with _ e
  exact ht e
/-- A store, the document's, a purse, the document's: all of the call's own. -/
structure Cq (w W : World) (b r p q : Nat) (s s2 : Sto) (n n2 : Nat) : Prop where
  st : CrAt W b s
  rf : RcAt W r s2
  ps : PsAt W p n
  rp : RpAt W q n2
  kp : Kp [] w W
  gb : w.heap.size ≤ b
  gr : w.heap.size ≤ r
  gp : w.heap.size ≤ p
  gq : w.heap.size ≤ q
  hn : n ≤ 256
  hn2 : n2 ≤ 256
  sz : ∀ x ∈ s.q, x.size ≤ 281474976710656
theorem Cq.bx {w W : World} {b r p q : Nat} {s s2 : Sto} {n n2 : Nat} (h : Cq w W b r p q s s2 n n2) : ∃ c1 c2, CBox b c1 60 W ∧ CBox r c2 41 W := by
  obtain ⟨cs, f, h1⟩ := h.st
  obtain ⟨_, v, h2, _⟩ := h.rf
  exact ⟨_, _, h1.box, h2⟩
theorem Cq.ne {w W : World} {b r p q : Nat} {s s2 : Sto} {n n2 : Nat} (h : Cq w W b r p q s s2 n n2) : b ≠ r ∧ b ≠ p ∧ b ≠ q ∧ r ≠ p ∧ r ≠ q ∧ p ≠ q := by
  obtain ⟨_, _, h1, h2⟩ := h.bx
  exact ⟨cb_ne h1 h2 (by decide), cb_ne h1 h.ps (by decide), cb_ne h1 h.rp (by decide), cb_ne h2 h.ps (by decide), cb_ne h2 h.rp (by decide), cb_ne h.ps h.rp (by decide)⟩
theorem Cq.quiet {w W W' : World} {b r p q : Nat} {s s2 : Sto} {n n2 : Nat} (h : Cq w W b r p q s s2 n n2) (k : Kp [] W W') : Cq w W' b r p q s s2 n n2 :=
  ⟨h.st.kp k (by simp), h.rf.kp k (by simp) (by simp), CBox.kp h.ps k (by simp), CBox.kp h.rp k (by simp), h.kp.trans k (by simp), h.gb, h.gr, h.gp, h.gq, h.hn, h.hn2, h.sz⟩
theorem Cq.cb {w W W' : World} {b r p q : Nat} {s s2 s' : Sto} {n n2 : Nat} (h : Cq w W b r p q s s2 n n2) (a : CrAt W' b s') (k : Kp [b] W W') (hz : ∀ x ∈ s'.q, x.size ≤ 281474976710656) : Cq w W' b r p q s' s2 n n2 := by
  obtain ⟨n1, n2, n3, n4, n5, n6⟩ := h.ne
  obtain ⟨c1, c2, h1, h2⟩ := h.bx
  exact ⟨a, h.rf.kp k (by simpa using n1.symm) (fun x hx => by rw [List.mem_singleton] at hx; subst hx; exact ⟨_, _, h1, by decide⟩), CBox.kp h.ps k (by simpa using n2.symm), CBox.kp h.rp k (by simpa using n3.symm), kp_own h.kp k h.gb, h.gb, h.gr, h.gp, h.gq, h.hn, h.hn2, hz⟩
theorem Cq.cr {w W W' : World} {b r p q : Nat} {s s2 s' : Sto} {n n2 : Nat} (h : Cq w W b r p q s s2 n n2) (a : RcAt W' r s') (k : Kp [r] W W') : Cq w W' b r p q s s' n n2 := by
  obtain ⟨n1, n2, n3, n4, n5, n6⟩ := h.ne
  exact ⟨h.st.kp k (by simpa using n1), a, CBox.kp h.ps k (by simpa using n4.symm), CBox.kp h.rp k (by simpa using n5.symm), kp_own h.kp k h.gr, h.gb, h.gr, h.gp, h.gq, h.hn, h.hn2, h.sz⟩
theorem Cq.cp {w W W' : World} {b r p q : Nat} {s s2 : Sto} {n n2 m : Nat} (h : Cq w W b r p q s s2 n n2) (a : PsAt W' p m) (k : Kp [p] W W') (hm : m ≤ 256) : Cq w W' b r p q s s2 m n2 := by
  obtain ⟨n1, n2, n3, n4, n5, n6⟩ := h.ne
  exact ⟨h.st.kp k (by simpa using n2), h.rf.kp k (by simpa using n4) (fun x hx => by rw [List.mem_singleton] at hx; subst hx; exact ⟨_, _, h.ps, by decide⟩), a, CBox.kp h.rp k (by simpa using n6.symm), kp_own h.kp k h.gp, h.gb, h.gr, h.gp, h.gq, hm, h.hn2, h.sz⟩
theorem Cq.cq {w W W' : World} {b r p q : Nat} {s s2 : Sto} {n n2 m : Nat} (h : Cq w W b r p q s s2 n n2) (a : RpAt W' q m) (k : Kp [q] W W') (hm : m ≤ 256) : Cq w W' b r p q s s2 n m := by
  obtain ⟨n1, n2, n3, n4, n5, n6⟩ := h.ne
  exact ⟨h.st.kp k (by simpa using n3), h.rf.kp k (by simpa using n5) (fun x hx => by rw [List.mem_singleton] at hx; subst hx; exact ⟨_, _, h.rp, by decide⟩), CBox.kp h.ps k (by simpa using n6), a, kp_own h.kp k h.gq, h.gb, h.gr, h.gp, h.gq, h.hn, hm, h.sz⟩
theorem pt_sz {s : Sto} {t : ByteArray} (h : ∀ x ∈ s.q, x.size ≤ 281474976710656) (ht : t.size ≤ 281474976710656) : ∀ x ∈ (ptS s t).q, x.size ≤ 281474976710656 := by
  unfold ptS
  split
  · exact h
  · intro x hx
    rcases List.mem_append.1 hx with hx | hx
    · exact h x hx
    · rw [List.mem_singleton] at hx; subst hx; exact ht
/-- All four, and an act's box. -/
structure Ca (w W : World) (b r p q g : Nat) (s s2 : Sto) (n n2 : Nat) (a : A20) : Prop where
  cq : Cq w W b r p q s s2 n n2
  box : CBox g #[.int .i64 a.k, .int .i64 a.n, .string a.t] 37 W
theorem Ca.ne {w W : World} {b r p q g : Nat} {s s2 : Sto} {n n2 : Nat} {a : A20} (h : Ca w W b r p q g s s2 n n2 a) : g ≠ b ∧ g ≠ r ∧ g ≠ p ∧ g ≠ q := by
  obtain ⟨_, _, h1, h2⟩ := h.cq.bx
  exact ⟨cb_ne h.box h1 (by decide), cb_ne h.box h2 (by decide), cb_ne h.box h.cq.ps (by decide), cb_ne h.box h.cq.rp (by decide)⟩
theorem Ca.quiet {w W W' : World} {b r p q g : Nat} {s s2 : Sto} {n n2 : Nat} {a : A20} (h : Ca w W b r p q g s s2 n n2 a) (k : Kp [] W W') : Ca w W' b r p q g s s2 n n2 a := ⟨h.cq.quiet k, h.box.kp k (by simp)⟩
theorem Ca.cb {w W W' : World} {b r p q g : Nat} {s s2 s' : Sto} {n n2 : Nat} {a : A20} (h : Ca w W b r p q g s s2 n n2 a) (x : CrAt W' b s') (k : Kp [b] W W') (hz : ∀ x ∈ s'.q, x.size ≤ 281474976710656) : Ca w W' b r p q g s' s2 n n2 a := ⟨h.cq.cb x k hz, h.box.kp k (by simpa using h.ne.1)⟩
theorem Ca.cr {w W W' : World} {b r p q g : Nat} {s s2 s' : Sto} {n n2 : Nat} {a : A20} (h : Ca w W b r p q g s s2 n n2 a) (x : RcAt W' r s') (k : Kp [r] W W') : Ca w W' b r p q g s s' n n2 a := ⟨h.cq.cr x k, h.box.kp k (by simpa using h.ne.2.1)⟩
theorem Ca.cp {w W W' : World} {b r p q g : Nat} {s s2 : Sto} {n n2 m : Nat} {a : A20} (h : Ca w W b r p q g s s2 n n2 a) (x : PsAt W' p m) (k : Kp [p] W W') (hm : m ≤ 256) : Ca w W' b r p q g s s2 m n2 a := ⟨h.cq.cp x k hm, h.box.kp k (by simpa using h.ne.2.2.1)⟩
theorem Ca.cq' {w W W' : World} {b r p q g : Nat} {s s2 : Sto} {n n2 m : Nat} {a : A20} (h : Ca w W b r p q g s s2 n n2 a) (x : RpAt W' q m) (k : Kp [q] W W') (hm : m ≤ 256) : Ca w W' b r p q g s s2 n m a := ⟨h.cq.cq x k hm, h.box.kp k (by simpa using h.ne.2.2.2)⟩
theorem Ca.cells {w W : World} {b r p q g : Nat} {s s2 : Sto} {n n2 : Nat} {a : A20} (h : Ca w W b r p q g s s2 n n2 a) : W.cell? ⟨g, 0, none⟩ = some (.int .i64 a.k) ∧ W.cell? ⟨g, 1, none⟩ = some (.int .i64 a.n) ∧ W.cell? ⟨g, 2, none⟩ = some (.string a.t) := ⟨h.box.cell rfl, h.box.cell rfl, h.box.cell rfl⟩
/-- What an act leaves. -/
def Stp20 (w W : World) (b r p q : Nat) : Prop := ∃ s n, Cq w W b r p q s s n n
set_option maxHeartbeats 4000000 in
set_option maxRecDepth 100000 in
theorem cstep_any (b r p q : Nat) (s : Sto) (n : Nat) (a : A20) (w0 w : World) (hz : a.t.size ≤ 281474976710656) (h : Cq w0 w b r p q s s n n) :
    Calls Try.prog 9 #[.pointer (some ⟨b, 0, none⟩), .pointer (some ⟨r, 0, none⟩), .pointer (some ⟨p, 0, none⟩), .pointer (some ⟨q, 0, none⟩), .agg #[.int .i64 a.k, .int .i64 a.n, .string a.t]] w fun e w' => e = .returned (.bool true) ∧ Stp20 w0 w' b r p q := by
  have AM := hide (fun W => cAmong_any a.k 6 W (by decide) (by decide))
  have HB : Hid (Ca w0 (w.alloc (.cells #[.int .i64 a.k, .int .i64 a.n, .string a.t] 37)) b r p q w.heap.size s s n n a) := hide ⟨h.quiet (Kp.alloc _ _), CBox.new w _ _⟩
  have HZ := hide hz
  clear h hz
  have hx0 : 0 ≤ a.k % 6 := Int.emod_nonneg _ (by decide)
  have hx1 : a.k % 6 < 6 := Int.emod_lt_of_pos _ (by decide)
  generalize a.k % 6 = x at *
  go_enter Try.func9, Try.ntmps9
  go_wp2_with fail
  generalize w.heap.size = g at *
  refine (unhide AM _).mono ?_
  rintro _ w1 ⟨rfl, hw1⟩
  obtain rfl := hw1.symm
  clear AM
  generalize w.alloc (.cells #[.int .i64 a.k, .int .i64 a.n, .string a.t] 37) = W1 at *
  obtain ⟨x0, x1, x2⟩ := (unhide HB).cells
  rcases (by omega : x = 0 ∨ x = 1 ∨ x = 2 ∨ x = 3 ∨ x = 4 ∨ x = 5) with rfl | rfl | rfl | rfl | rfl | rfl
  · clear hx0 hx1
    have A1 := hide (cGive_any b s a.n W1 (unhide HB).cq.st)
    have A2 := hide (fun W => rcGive_any r s a.n W)
    generalize (gvN s a.n : Int) = V at *
    generalize gvE a.n = E at *
    go_wp2_with fail
    refine (unhide A1).mono ?_
    rintro _ w2 ⟨rfl, m1, k1⟩
    have HB2 := hide ((unhide HB).cb m1 k1 (unhide HB).cq.sz)
    clear A1 HB x0 x1 x2
    obtain ⟨x0, x1, x2⟩ := (unhide HB2).cells
    go_wp2_with fail
    refine (unhide A2 w2 (unhide HB2).cq.rf).mono ?_
    rintro _ w3 ⟨rfl, m2, k2⟩
    have HB3 := hide ((unhide HB2).cr m2 k2)
    clear A2 HB2 x0 x1 x2 HZ
    go_wp2
    go_ret
    exact ⟨rfl, _, _, (unhide HB3).cq⟩
  · clear hx0 hx1
    have A1 := hide (fun W h => cPut_any b s a.t W h (unhide HZ))
    have A2 := hide (fun W h => rcPut_any r s a.t W h)
    have SZ := hide (pt_sz (unhide HB).cq.sz (unhide HZ))
    have HD := hide ((unhide HB).quiet (Kp.drew _))
    have y0 := (unhide HD).cells.2.2
    generalize ptE s = E at *
    generalize ptS s a.t = s' at *
    clear HB HZ x0 x1
    go_wp2_with fail
    go_region_held3 (fun W => W.cell? ⟨g, 2, none⟩ = some (.string a.t)) (first | with_reducible exact y0 | with_reducible exact y1 | with_reducible exact y2 | exact x2)
      (first
        | (go_at_call 22; refine (unhide A2 _ (unhide HB2).cq.rf).mono ?_; rintro _ w3 ⟨rfl, m2, k2⟩; have HB3 := hide ((unhide HB2).cr m2 k2); have y2 := (unhide HB3).cells.2.2; clear m2 k2)
        | (go_at_call 16; refine (unhide A1 _ (unhide HD).cq.st).mono ?_; rintro _ w2 ⟨rfl, m1, k1⟩; have HB2 := hide ((unhide HD).cb m1 k1 (unhide SZ)); have y1 := (unhide HB2).cells.2.2; clear m1 k1))
    go_wp2
    go_ret
    exact ⟨rfl, _, _, (unhide HB3).cq⟩
  · clear hx0 hx1
    have A1 := hide (cTake_any b s W1 (unhide HB).cq.st)
    have A2 := hide (fun W => rcTake_any r s W)
    generalize tkT s = V at *
    generalize tkE s = E at *
    go_wp2_with fail
    refine (unhide A1).mono ?_
    rintro _ w2 ⟨rfl, m1, k1⟩
    have HB2 := hide ((unhide HB).cb m1 k1 (fun x hx => (unhide HB).cq.sz x (List.mem_of_mem_tail hx)))
    clear A1 HB x0 x1 x2
    obtain ⟨x0, x1, x2⟩ := (unhide HB2).cells
    go_wp2_with fail
    refine (unhide A2 w2 (unhide HB2).cq.rf).mono ?_
    rintro _ w3 ⟨rfl, m2, k2⟩
    have HB3 := hide ((unhide HB2).cr m2 k2)
    clear A2 HB2 x0 x1 x2 HZ
    go_wp2
    go_ret
    exact ⟨rfl, _, _, (unhide HB3).cq⟩
  · clear hx0 hx1
    have A1 := hide (cPeek_any b s W1 (unhide HB).cq.st (unhide HB).cq.sz)
    have A2 := hide (fun W => rcPeek_any r s W)
    generalize tkT s = V at *
    generalize tkE s = E at *
    go_wp2_with fail
    refine (unhide A1).mono ?_
    rintro _ w2 ⟨rfl, k1⟩
    have HB2 := hide ((unhide HB).quiet k1)
    clear A1 HB x0 x1 x2
    obtain ⟨x0, x1, x2⟩ := (unhide HB2).cells
    go_wp2_with fail
    refine (unhide A2 w2 (unhide HB2).cq.rf).mono ?_
    rintro _ w3 ⟨rfl, hw3⟩
    obtain rfl := hw3.symm
    have HB3 := hide (unhide HB2)
    clear A2 HB2 x0 x1 x2 HZ
    go_wp2
    go_ret
    exact ⟨rfl, _, _, (unhide HB3).cq⟩
  · clear hx0 hx1
    have A1 := hide (fun W h => pAdd_any p n a.n W h (unhide HB).cq.hn)
    have A2 := hide (fun W h => rpAdd_any q n a.n W h (unhide HB).cq.hn)
    have HM := hide (adN_le (unhide HB).cq.hn a.n)
    have HD := hide ((unhide HB).quiet (Kp.drew _))
    have y0 := (unhide HD).cells.2.1
    generalize adE n a.n = E at *
    generalize adN n a.n = m at *
    clear HB HZ x0 x2
    go_wp2_with fail
    go_region_held3 (fun W => W.cell? ⟨g, 1, none⟩ = some (.int .i64 a.n)) (first | with_reducible exact y0 | with_reducible exact y1 | with_reducible exact y2 | exact x1)
      (first
        | (go_at_call 25; refine (unhide A2 _ (unhide HB2).cq.rp).mono ?_; rintro _ w3 ⟨rfl, m2, k2⟩; have HB3 := hide ((unhide HB2).cq' m2 k2 (unhide HM)); have y2 := (unhide HB3).cells.2.1; clear m2 k2)
        | (go_at_call 19; refine (unhide A1 _ (unhide HD).cq.ps).mono ?_; rintro _ w2 ⟨rfl, m1, k1⟩; have HB2 := hide ((unhide HD).cp m1 k1 (unhide HM)); have y1 := (unhide HB2).cells.2.1; clear m1 k1))
    go_wp2
    go_ret
    exact ⟨rfl, _, _, (unhide HB3).cq⟩
  · have HN := hide (unhide HB).cq.hn
    clear hx0 hx1
    have A1 := hide (pSpend_any p n W1 (unhide HB).cq.ps (unhide HB).cq.hn)
    have A2 := hide (fun W => (fun h => rpSpend_any q n W h (unhide HN)))
    generalize spE n = E at *
    go_wp2_with fail
    refine (unhide A1).mono ?_
    rintro _ w2 ⟨rfl, m1, k1⟩
    have HB2 := hide ((unhide HB).cp m1 k1 (by have := unhide HN; omega))
    clear A1 HB x0 x1 x2
    obtain ⟨x0, x1, x2⟩ := (unhide HB2).cells
    go_wp2_with fail
    refine (unhide A2 w2 (unhide HB2).cq.rp).mono ?_
    rintro _ w3 ⟨rfl, m2, k2⟩
    have HB3 := hide ((unhide HB2).cq' m2 k2 (by have := unhide HN; omega))
    clear A2 HB2 x0 x1 x2 HZ
    go_wp2
    go_ret
    exact ⟨rfl, _, _, (unhide HB3).cq⟩
end Go.Proofs.Ytcogcfnbgicjcaa
namespace Go.HeldUp
open Go

/-- What is held may be made stronger. -/
theorem wpAnyH_up {P : Program} {md : Region.Mode} {ops : Array Oper} {Q : Exit → Act → World → Prop} {S S' : World → Prop} (h : ∀ w, S' w → S w) :
    ∀ (fuel : Nat) (listed : Array Bool) (a : Act) (w : World), wpAnyH P md ops Q S' fuel listed a w → wpAnyH P md ops Q S fuel listed a w
  | 0, _, _, _, x => x
  | fuel + 1, _, _, _, x => ⟨x.1, fun i hi => wpOp_mono (fun a' w' h' => ⟨h w' h'.1, wpAnyH_up h fuel _ a' w' h'.2⟩) (x.2 i hi)⟩
end Go.HeldUp
