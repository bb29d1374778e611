/-
  The document's gate: rows of items, how it lies, what a cell written over leaves.
  The document's gate: is there such a channel; Give.
-/
import Derived.Test.YtcgmoadahdkbbaaGp08
import Derived.Lib.MinMax
namespace Go.Proofs.Ytcgmoadahdkbbaa
open Go.RowKit Gt Cr

theorem info_rq : (Try.prog.info? 73).map (fun i => (i.zero, i.size, i.bytes)) = some (some (.agg #[.string ⟨#[]⟩, .int .i64 0]), 2, 24) := by kernel_rfl
theorem info_rq2 : (Try.prog.info? 73).map (fun i => i.size) = some 2 := by kernel_rfl
/-- A row of items that nobody writes over: it may begin anywhere in its block. -/
def RqQ (w : World) (v : Value) (l : List It) : Prop :=
  (v = .slice none 0 0 ∧ l = []) ∨ ∃ g off cap, v = .slice (some ⟨g, off, none⟩) l.length cap ∧ (∃ cur, CBox g cur 73 w) ∧ l.length ≤ cap ∧ cap ≤ 9223372036854775807 ∧ ∀ j u, (itC l)[j]? = some u → w.cell? ⟨g, off + j, none⟩ = some u
theorem RqQ.slice {w : World} {v : Value} {l : List It} (h : RqQ w v l) : ∃ ad cap, v = .slice ad l.length cap := by
  rcases h with ⟨rfl, rfl⟩ | ⟨g, off, cap, rfl, _⟩
  · exact ⟨_, _, rfl⟩
  · exact ⟨_, _, rfl⟩
theorem RqQ.kp {w w' : World} {v : Value} {l : List It} (h : RqQ w v l) (hk : Kp [] w w') : RqQ w' v l := by
  rcases h with h | ⟨g, off, cap, rfl, ⟨cur, hb⟩, h1, h2, h3⟩
  · exact Or.inl h
  · exact Or.inr ⟨g, off, cap, rfl, ⟨cur, hb.kp hk (by simp)⟩, h1, h2, fun j u hj => hk.cell (h3 j u hj) (by simp)⟩
theorem CBox.cells {g : Nat} {cs : Array Value} {t : TypeId} {w : World} (h : CBox g cs t w) (i : Nat) : w.cell? ⟨g, i, none⟩ = cs[i]? := by
  unfold CBox at h
  simp [World.cell?, h]
theorem RqQ.to {w w' : World} {v : Value} {l : List It} (h : RqQ w v l) (hk : ∀ g cur, CBox g cur 73 w → CBox g cur 73 w') : RqQ w' v l := by
  rcases h with h | ⟨g, off, cap, rfl, ⟨cur, hb⟩, h1, h2, h3⟩
  · exact Or.inl h
  · have hb' := hk g cur hb
    exact Or.inr ⟨g, off, cap, rfl, ⟨cur, hb'⟩, h1, h2, fun j u hj => by
      have := h3 j u hj
      rw [hb.cells] at this
      rw [hb'.cells]
      exact this⟩
theorem rq_of {w : World} {g n cap : Nat} {l : List It} (h : w.ownsRow 0 73 2 (.slice (some ⟨g, 0, none⟩) n cap) n (itC l)) (hn : n = l.length) : RqQ w (.slice (some ⟨g, 0, none⟩) n cap) l := by
  subst hn
  obtain ⟨_, ⟨e, _⟩ | ⟨g', cap', cur, e, _, hh, hn, hm, _⟩⟩ := id h
  · cases e
  · injection e with e1 e2 e3
    injection e1 with e1
    injection e1 with e1
    subst e1 e3
    refine Or.inr ⟨g, 0, cap, rfl, ⟨cur, hh⟩, hn, by unfold maxLen at hm; omega, fun j u hj => ?_⟩
    have := World.ownsRow.cells h (g := g) rfl j u hj
    rw [Go.WideShapes.add_plain] at this
    exact this
set_option maxRecDepth 100000 in
/-- A row put together anew. -/
theorem rq_app0 {w : World} {ad : Option Addr} {cp : Nat} {l : List It} (hl : l.length ≤ 100000) (hnone : ad = none → l.length = 0 ∧ cp = 0) (hsp : ∀ a, ad = some a → a.spot = none) (hc : ∀ a, ad = some a → ∀ j u, (itC l)[j]? = some u → w.cell? (a.add j) = some u) (ty : TypeId) :
    ∃ g3 cap3 W3, (Builtin.append_ #[65, 65] ty #[.slice (some ⟨w.heap.size, 0, none⟩) 0 0, .slice ad l.length cp]).run Try.prog (w.alloc (.cells #[] 73)) = .ok (.slice (some ⟨g3, 0, none⟩) l.length cap3) W3 ∧
    W3.ownsRow 0 73 2 (.slice (some ⟨g3, 0, none⟩) l.length cap3) l.length (itC l) ∧ Kp [] w W3 ∧ w.heap.size ≤ g3 := by
  obtain ⟨i0, hi, hz0, hz1, hz2⟩ := info_parts info_rq
  have k2 := Kp.alloc w (.cells #[] 73)
  have r2 : (w.alloc (.cells #[] 73)).ownsRow 0 73 2 (.slice (some ⟨w.heap.size, 0, none⟩) 0 0) 0 [] :=
    ⟨rfl, Or.inr ⟨w.heap.size, 0, #[], rfl, Nat.zero_le _, heap_alloc_new w _, Nat.le_refl _, Nat.zero_le _, rfl, rfl⟩⟩
  have hc2 : ∀ a, ad = some a → ∀ j u, (itC l)[j]? = some u → (w.alloc (.cells #[] 73)).cell? (a.add j) = some u := fun a e j u hj => by
    have h0 := hc a e j u hj
    have hs := hsp a e
    obtain ⟨g, off, spot⟩ := a
    dsimp only at hs
    subst hs
    exact k2.cell h0 (by simp)
  obtain ⟨g3, cap3, W3, run3, r3, gr3, at3⟩ := run_app_any (P := Try.prog) 65 ty 73 i0 _ 2 24 Try.underlying65 hi hz0 hz1 hz2 rfl (by decide) r2 ad l.length cp (itC l) (itC_len l) hnone hsp hc2 (itC_cell l) (by unfold maxLen; omega) (by omega)
  simp only [List.nil_append, Nat.zero_add] at run3 r3
  refine ⟨g3, cap3, W3, run3, r3, k2.trans (Kp.of gr3) (by simp), ?_⟩
  rcases at3 with e | e
  · omega
  · rw [e, World.size_alloc]; omega
set_option maxRecDepth 100000 in
/-- A row put together anew, with an item behind. -/
theorem rq_push {w : World} {v : Value} {l : List It} (h : RqQ w v l) (hl : l.length ≤ 100000) (x : It) (ty ty' : TypeId) :
    ∃ g3 cap3 W3, (Builtin.append_ #[65, 65] ty #[.slice (some ⟨w.heap.size, 0, none⟩) 0 0, v]).run Try.prog (w.alloc (.cells #[] 73)) = .ok (.slice (some ⟨g3, 0, none⟩) l.length cap3) W3 ∧ Kp [] w W3 ∧
    ∃ g5 cap5 W5, (Builtin.append_ #[65, 65] ty' #[.slice (some ⟨g3, 0, none⟩) l.length cap3, .slice (some ⟨W3.heap.size, 0, none⟩) 1 1]).run Try.prog (W3.alloc (.cells #[.string x.t, .int .i64 (x.n : Int)] 73)) = .ok (.slice (some ⟨g5, 0, none⟩) (l.length + 1) cap5) W5 ∧
    RqQ W5 (.slice (some ⟨g5, 0, none⟩) (l.length + 1) cap5) (l ++ [x]) ∧ Kp [] w W5 := by
  obtain ⟨i0, hi, hz0, hz1, hz2⟩ := info_parts info_rq
  obtain ⟨ad, cp, rfl⟩ := h.slice
  obtain ⟨g3, cap3, W3, run3, r3, k3, hg3⟩ := rq_app0 (w := w) (ad := ad) (cp := cp) (l := l) hl (fun e => by
    rcases h with ⟨e1, e2⟩ | ⟨g, off, cap, e1, _⟩
    · injection e1 with _ _ e3; exact ⟨by rw [e2]; rfl, e3⟩
    · injection e1 with e2; rw [e] at e2; cases e2) (fun a e => by
    rcases h with ⟨e1, _⟩ | ⟨g, off, cap, e1, _⟩
    · injection e1 with e2; rw [e] at e2; cases e2
    · injection e1 with e2; rw [e] at e2; injection e2 with e2; rw [e2]) (fun a e j u hj => by
    rcases h with ⟨e1, _⟩ | ⟨g, off, cap, e1, _, _, _, hcs⟩
    · injection e1 with e2; rw [e] at e2; cases e2
    · injection e1 with e2; rw [e] at e2; injection e2 with e2; rw [e2, Go.WideShapes.add_plain]; exact hcs j u hj) ty
  refine ⟨g3, cap3, W3, run3, k3, ?_⟩
  have k4 := Kp.alloc W3 (.cells #[.string x.t, .int .i64 (x.n : Int)] 73)
  have nb := CBox.new W3 #[.string x.t, .int .i64 (x.n : Int)] 73
  have r4 : (W3.alloc (.cells #[.string x.t, .int .i64 (x.n : Int)] 73)).ownsRow 0 73 2 (.slice (some ⟨g3, 0, none⟩) l.length cap3) l.length (itC l) := World.ownsRow.alloc r3 _
  obtain ⟨g5, cap5, W5, run5, r5, gr5, at5⟩ := run_app_any (P := Try.prog) 65 ty' 73 i0 _ 2 24 Try.underlying65 hi hz0 hz1 hz2 rfl (by decide) r4 (some ⟨W3.heap.size, 0, none⟩) 1 1 (itC [x]) rfl (fun e => by cases e) (fun a e => by injection e with e; subst e; rfl) (fun a e j u hj => by
    injection e with e
    subst e
    rw [Go.WideShapes.add_plain, Nat.zero_add]
    exact nb.cell (by
      have : (itC [x])[j]? = (#[Value.string x.t, .int .i64 (x.n : Int)] : Array Value)[j]? := by
        rw [← Array.getElem?_toList]
        rfl
      rw [← this]
      exact hj)) (itC_cell _) (by unfold maxLen; omega) (by omega)
  rw [← itC_append] at r5
  exact ⟨g5, cap5, W5, run5, rq_of r5 (by simp), (k3.trans k4 (by simp)).trans (Kp.of gr5) (by simp; omega)⟩
/-- A channel of the document's gate. -/
structure Rc where
  free : Nat
  owed : Nat
  q : List It
  next : Nat
def upR (R : Nat → Rc) (k : Nat) (c : Rc) : Nat → Rc := fun j => if j = k then c else R j
theorem upR_same (R : Nat → Rc) (k : Nat) (c : Rc) : upR R k c k = c := if_pos rfl
theorem upR_ne (R : Nat → Rc) {j k : Nat} (c : Rc) (h : j ≠ k) : upR R k c j = R j := if_neg h
theorem upR_upR (R : Nat → Rc) (k : Nat) (c d : Rc) : upR (upR R k c) k d = upR R k d := by
  funext j
  unfold upR
  split <;> rfl
def rc (c : Ch) : Rc := ⟨c.cap - c.q.length - c.owed, c.owed, c.q, c.next⟩
def rcs (g : Gt) : Nat → Rc := fun k => rc (g.ch k)
theorem rcs_upd (g : Gt) (k : Nat) (c : Ch) : rcs (g.upd k c) = upR (rcs g) k (rc c) := by
  funext j
  unfold rcs upR
  by_cases h : j = k
  · subst h; rw [Gt.upd_same, if_pos rfl]
  · rw [Gt.upd_ne g c h, if_neg h]
/-- What is written over of the document's gate; what it lies in. -/
def rgO : Obj → Bool
  | .cells _ t _ => t == 64 || t == 67
  | _ => false
def rgA : Obj → Bool
  | .cells _ t _ => t == 64 || t == 67 || t == 73
  | _ => false
structure RgV (w : World) (b L : Nat) (cs : Array Value) (vs : Nat → Value) (n t : Nat) (R : Nat → Rc) : Prop where
  box : CBox b #[.slice (some ⟨L, 0, none⟩) n n, .int .i64 (t : Int)] 64 w
  lb : CBox L cs 67 w
  sz : cs.size = n * 4
  c0 : ∀ k, k < n → cs[k * 4]? = some (.int .i64 ((R k).free : Int))
  c1 : ∀ k, k < n → cs[k * 4 + 1]? = some (.int .i64 ((R k).owed : Int))
  c2 : ∀ k, k < n → cs[k * 4 + 2]? = some (vs k)
  c3 : ∀ k, k < n → cs[k * 4 + 3]? = some (.int .i64 ((R k).next : Int))
  it : ∀ k, k < n → RqQ w (vs k) (R k).q
def RgE (B : Nat) (w : World) (b L n t : Nat) (R : Nat → Rc) : Prop := ∃ cs vs, RgV w b L cs vs n t R ∧ B ≤ b ∧ B ≤ L
def RgAt (B : Nat) (w : World) (b L : Nat) (G : Gt) : Prop := RgE B w b L G.n G.turn (rcs G) ∧ G.Ok
theorem RgE.ko {P : Obj → Bool} {B B' : Nat} {w w' : World} {b L n t : Nat} {R : Nat → Rc} (h : RgE B w b L n t R) (hk : Ko P B' w w') (hP : B' = w.heap.size ∨ ∀ o, rgA o = true → P o = false) : RgE B w' b L n t R := by
  obtain ⟨cs, vs, h1, h2⟩ := h
  have keep : ∀ (k : Nat) (cur : Array Value) (t : TypeId), (rgA (Obj.cells cur t (0, 0)) = true) → w.heap[k]? = some (Obj.cells cur t (0, 0)) → w'.heap[k]? = some (Obj.cells cur t (0, 0)) := fun k cur t ht hc => by
    refine hk.block k _ hc ?_
    rcases hP with rfl | hP
    · exact Or.inl (Array.getElem?_eq_some_iff.1 hc).1
    · exact Or.inr (hP _ ht)
  exact ⟨cs, vs, { h1 with
    box := keep _ _ _ rfl h1.box
    lb := keep _ _ _ rfl h1.lb
    it := fun k hk => (h1.it k hk).to fun g cur hb => keep _ _ _ rfl hb }, h2⟩
theorem RgE.kp {B : Nat} {w w' : World} {b L n t : Nat} {R : Nat → Rc} (h : RgE B w b L n t R) (hk : Kp [] w w') : RgE B w' b L n t R :=
  h.ko (P := fun _ => false) (B' := w.heap.size) (Ko.nil hk) (Or.inl rfl)
theorem RgAt.ko {P : Obj → Bool} {B B' : Nat} {w w' : World} {b L : Nat} {G : Gt} (h : RgAt B w b L G) (hk : Ko P B' w w') (hP : B' = w.heap.size ∨ ∀ o, rgA o = true → P o = false) : RgAt B w' b L G := ⟨h.1.ko hk hP, h.2⟩
theorem RgAt.kp {B : Nat} {w w' : World} {b L : Nat} {G : Gt} (h : RgAt B w b L G) (hk : Kp [] w w') : RgAt B w' b L G := ⟨h.1.kp hk, h.2⟩
section
variable {B : Nat} {w : World} {b L n t : Nat} {R : Nat → Rc}
theorem RgE.lines (h : RgE B w b L n t R) : w.cell? ⟨b, 0, none⟩ = some (.slice (some ⟨L, 0, none⟩) n n) ∧ w.cell? ⟨b, 1, none⟩ = some (.int .i64 (t : Int)) ∧ w.frozen? ⟨b, 1, none⟩ = false := by
  obtain ⟨cs, vs, h, _⟩ := h
  exact ⟨h.box.cell rfl, h.box.cell rfl, h.box.froz 1⟩
theorem RgE.at (h : RgE B w b L n t R) {k : Nat} (hk : k < n) : w.cell? ⟨L, k * 4, none⟩ = some (.int .i64 ((R k).free : Int)) ∧ w.cell? ⟨L, k * 4 + 1, none⟩ = some (.int .i64 ((R k).owed : Int)) ∧ w.cell? ⟨L, k * 4 + 3, none⟩ = some (.int .i64 ((R k).next : Int)) ∧ ∃ v, w.cell? ⟨L, k * 4 + 2, none⟩ = some v ∧ RqQ w v (R k).q := by
  obtain ⟨cs, vs, h, _⟩ := h
  exact ⟨h.lb.cell (h.c0 k hk), h.lb.cell (h.c1 k hk), h.lb.cell (h.c3 k hk), _, h.lb.cell (h.c2 k hk), h.it k hk⟩
theorem RgE.froz (h : RgE B w b L n t R) (i : Nat) : w.frozen? ⟨L, i, none⟩ = false := by
  obtain ⟨cs, vs, h, _⟩ := h
  exact h.lb.froz i
theorem rg_ko {cs : Array Value} {vs : Nat → Value} (h : RgV w b L cs vs n t R) (hL : B ≤ L) (i : Nat) (v : Value) : Ko rgO B w (w.setCell ⟨L, i, none⟩ v) := Ko.of (Kp.set w L i v) (fun x hm _ => by
  simp only [List.mem_singleton] at hm
  subst hm
  exact ⟨hL, _, h.lb, rfl⟩)
theorem rg_it {cs : Array Value} {vs : Nat → Value} (h : RgV w b L cs vs n t R) (i : Nat) (v : Value) {u : Value} {l : List It} (hu : RqQ w u l) : RqQ (w.setCell ⟨L, i, none⟩ v) u l := hu.to fun g cur hb => hb.kp (Kp.set w L i v) (by simpa using ty_ne hb h.lb (by decide))
/-- One cell of one channel written over. -/
theorem rg_cellV {cs : Array Value} {vs : Nat → Value} (h : RgV w b L cs vs n t R) (hL : B ≤ L) {k : Nat} (hk : k < n) (c : Rc) (i : Nat) (hi : i < 4) (v : Value)
    (h0 : if i = 0 then v = .int .i64 (c.free : Int) else c.free = (R k).free) (h1 : if i = 1 then v = .int .i64 (c.owed : Int) else c.owed = (R k).owed) (h2 : if i = 2 then RqQ w v c.q else c.q = (R k).q) (h3 : if i = 3 then v = .int .i64 (c.next : Int) else c.next = (R k).next) :
    RgV (w.setCell ⟨L, k * 4 + i, none⟩ v) b L (cs.setIfInBounds (k * 4 + i) v) (fun j => if j = k ∧ i = 2 then v else vs j) n t (upR R k c) ∧ Ko rgO B w (w.setCell ⟨L, k * 4 + i, none⟩ v) := by
  have ks := Kp.set w L (k * 4 + i) v
  have hbL : b ≠ L := ty_ne h.box h.lb (by decide)
  have hsz : k * 4 + i < cs.size := by rw [h.sz]; omega
  have get : ∀ j m, m < 4 → (cs.setIfInBounds (k * 4 + i) v)[j * 4 + m]? = if j = k ∧ m = i then some v else cs[j * 4 + m]? := fun j m hm => by
    by_cases e : j = k ∧ m = i
    · obtain ⟨rfl, rfl⟩ := e
      rw [if_pos ⟨rfl, rfl⟩, Array.getElem?_setIfInBounds_self_of_lt hsz]
    · rw [if_neg e, Array.getElem?_setIfInBounds_ne (by omega)]
  refine ⟨⟨h.box.kp ks (by simpa using hbL), h.lb.set _ _, by rw [Array.size_setIfInBounds]; exact h.sz, ?_, ?_, ?_, ?_, ?_⟩, rg_ko h hL _ _⟩
  · intro j hj
    have := get j 0 (by omega)
    rw [Nat.add_zero] at this
    rw [this]
    by_cases e : j = k
    · subst e
      rw [upR_same]
      by_cases e2 : i = 0
      · rw [if_pos ⟨rfl, e2.symm⟩]; rw [if_pos e2] at h0; rw [h0]
      · rw [if_neg (fun x => e2 x.2.symm)]; rw [if_neg e2] at h0; rw [h0]; exact h.c0 j hj
    · rw [if_neg (fun x => e x.1), upR_ne R c e]; exact h.c0 j hj
  · intro j hj
    rw [get j 1 (by omega)]
    by_cases e : j = k
    · subst e
      rw [upR_same]
      by_cases e2 : i = 1
      · rw [if_pos ⟨rfl, e2.symm⟩]; rw [if_pos e2] at h1; rw [h1]
      · rw [if_neg (fun x => e2 x.2.symm)]; rw [if_neg e2] at h1; rw [h1]; exact h.c1 j hj
    · rw [if_neg (fun x => e x.1), upR_ne R c e]; exact h.c1 j hj
  · intro j hj
    rw [get j 2 (by omega)]
    by_cases e : j = k ∧ i = 2
    · rw [if_pos e, if_pos ⟨e.1, e.2.symm⟩]
    · rw [if_neg e, if_neg (fun x => e ⟨x.1, x.2.symm⟩)]; exact h.c2 j hj
  · intro j hj
    rw [get j 3 (by omega)]
    by_cases e : j = k
    · subst e
      rw [upR_same]
      by_cases e2 : i = 3
      · rw [if_pos ⟨rfl, e2.symm⟩]; rw [if_pos e2] at h3; rw [h3]
      · rw [if_neg (fun x => e2 x.2.symm)]; rw [if_neg e2] at h3; rw [h3]; exact h.c3 j hj
    · rw [if_neg (fun x => e x.1), upR_ne R c e]; exact h.c3 j hj
  · intro j hj
    (try dsimp only)
    by_cases e : j = k
    · subst e
      rw [upR_same]
      by_cases e2 : i = 2
      · rw [if_pos ⟨rfl, e2⟩]; rw [if_pos e2] at h2; exact rg_it h _ _ h2
      · rw [if_neg (fun x => e2 x.2)]; rw [if_neg e2] at h2; rw [h2]; exact rg_it h _ _ (h.it j hj)
    · rw [if_neg (fun x => e x.1), upR_ne R c e]; exact rg_it h _ _ (h.it j hj)
theorem rg_cell (h : RgE B w b L n t R) {k : Nat} (hk : k < n) (c : Rc) (i : Nat) (hi : i < 4) (v : Value)
    (h0 : if i = 0 then v = .int .i64 (c.free : Int) else c.free = (R k).free) (h1 : if i = 1 then v = .int .i64 (c.owed : Int) else c.owed = (R k).owed) (h2 : if i = 2 then RqQ w v c.q else c.q = (R k).q) (h3 : if i = 3 then v = .int .i64 (c.next : Int) else c.next = (R k).next) :
    RgE B (w.setCell ⟨L, k * 4 + i, none⟩ v) b L n t (upR R k c) ∧ Ko rgO B w (w.setCell ⟨L, k * 4 + i, none⟩ v) := by
  obtain ⟨cs, vs, h, hb, hL⟩ := h
  obtain ⟨a, b'⟩ := rg_cellV h hL hk c i hi v h0 h1 h2 h3
  exact ⟨⟨_, _, a, hb, hL⟩, b'⟩
theorem RqQ.lt {w : World} {v : Value} {l : List It} (h : RqQ w v l) {g : Nat} (hg : v.ownBlock = some g) : g < w.heap.size := by
  rcases h with ⟨rfl, _⟩ | ⟨g', off, cap, rfl, ⟨cur, hb⟩, _⟩
  · cases hg
  · simp [Value.ownBlock] at hg
    subst hg
    exact (Array.getElem?_eq_some_iff.1 hb).1
theorem RqQ.kpF {F : List Nat} {w w' : World} {v : Value} {l : List It} (h : RqQ w v l) (hk : Kp F w w') (hF : ∀ g, v.ownBlock = some g → g ∉ F) : RqQ w' v l := by
  rcases h with h | ⟨g, off, cap, rfl, ⟨cur, hb⟩, h1, h2, h3⟩
  · exact Or.inl h
  · have hg : g ∉ F := hF g rfl
    exact Or.inr ⟨g, off, cap, rfl, ⟨cur, hb.kp hk hg⟩, h1, h2, fun j u hj => hk.cell (h3 j u hj) hg⟩
theorem RgV.kpF {F : List Nat} {w' : World} {cs : Array Value} {vs : Nat → Value} (h : RgV w b L cs vs n t R) (hk : Kp F w w') (hb : b ∉ F) (hL : L ∉ F) (hv : ∀ k, k < n → ∀ g, (vs k).ownBlock = some g → g ∉ F) : RgV w' b L cs vs n t R :=
  { h with
    box := h.box.kp hk hb
    lb := h.lb.kp hk hL
    it := fun k hl => (h.it k hl).kpF hk (hv k hl) }
theorem rg_turn (h : RgE B w b L n t R) (t' : Nat) : RgE B (w.setCell ⟨b, 1, none⟩ (.int .i64 (t' : Int))) b L n t' R ∧ Ko rgO B w (w.setCell ⟨b, 1, none⟩ (.int .i64 (t' : Int))) := by
  obtain ⟨cs, vs, h, hb, hL⟩ := h
  have ks := Kp.set w b 1 (.int .i64 (t' : Int))
  have hbL : L ≠ b := ty_ne h.lb h.box (by decide)
  refine ⟨⟨cs, vs, ⟨h.box.set 1 (.int .i64 (t' : Int)), h.lb.kp ks (by simpa using hbL), h.sz, h.c0, h.c1, h.c2, h.c3, fun k hk => (h.it k hk).to fun g cur hb => hb.kp ks (by simpa using ty_ne hb h.box (by decide))⟩, hb, hL⟩, Ko.of ks (fun x hm _ => ?_)⟩
  simp only [List.mem_singleton] at hm
  subst hm
  exact ⟨hb, _, h.box, rfl⟩
end
end Go.Proofs.Ytcgmoadahdkbbaa
namespace Go.Proofs.Ytcgmoadahdkbbaa
open Go.RowKit Gt Cr

theorem rNone_not {B : Nat} {w : World} {b L n t : Nat} {R : Nat → Rc} (h : RgE B w b L n t R) {k : Nat} (hk : k < n) :
    Calls Try.prog 37 #[.pointer (some ⟨b, 0, none⟩), .int .i64 (k : Int)] w fun e w' => e = .returned (.bool false) ∧ w' = w := by
  have c := h.lines.1
  clear h
  have h0 : ¬ (k : Int) < 0 := by omega
  have h1 : ¬ (k : Int) ≥ (n : Int) := by omega
  go_enter Try.func37, Try.ntmps37
  go_wp2
  go_ret
  exact ⟨rfl, rfl⟩
theorem rNone_is {B : Nat} {w : World} {b L n t : Nat} {R : Nat → Rc} (h : RgE B w b L n t R) {c : Int} (hc : ¬ (0 ≤ c ∧ c < (n : Int))) :
    Calls Try.prog 37 #[.pointer (some ⟨b, 0, none⟩), .int .i64 c] w fun e w' => e = .returned (.bool true) ∧ w' = w := by
  have c0 := h.lines.1
  clear h
  by_cases h0 : c < 0
  · clear hc
    go_enter Try.func37, Try.ntmps37
    go_wp2
    go_ret
    exact ⟨rfl, rfl⟩
  · have h1 : c ≥ (n : Int) := by omega
    clear hc
    go_enter Try.func37, Try.ntmps37
    go_wp2
    go_ret
    exact ⟨rfl, rfl⟩
theorem rg_back {B : Nat} {w : World} {b L : Nat} {G : Gt} {R : Nat → Rc} {k : Nat} {c : Ch} (h : RgE B w b L G.n G.turn R) (hR : R = upR (rcs G) k (rc c)) (ok : G.Ok) (hc : c.sto.Ok) : RgAt B w b L (G.upd k c) := by
  subst hR
  rw [← rcs_upd] at h
  exact ⟨h, ok.upd k hc⟩
theorem rg_give {B : Nat} {w : World} {b L : Nat} {G : Gt} (h : RgAt B w b L G) {k : Nat} (hk : k < G.n) (most : Int) {F m : Nat} (hF : F = (rc (G.ch k)).free) (hm : m = Cr.gvN (G.ch k).sto most) :
    m ≤ F ∧ F ≤ 256 ∧ (w.setCell ⟨L, k * 4, none⟩ (.int .i64 ((F : Int) - (m : Int)))).cell? ⟨b, 0, none⟩ = some (.slice (some ⟨L, 0, none⟩) G.n G.n) ∧ (w.setCell ⟨L, k * 4, none⟩ (.int .i64 ((F : Int) - (m : Int)))).cell? ⟨L, k * 4 + 1, none⟩ = some (.int .i64 ((G.ch k).owed : Int)) ∧ (w.setCell ⟨L, k * 4, none⟩ (.int .i64 ((F : Int) - (m : Int)))).frozen? ⟨L, k * 4 + 1, none⟩ = false ∧
    RgAt B ((w.setCell ⟨L, k * 4, none⟩ (.int .i64 ((F : Int) - (m : Int)))).setCell ⟨L, k * 4 + 1, none⟩ (.int .i64 (((G.ch k).owed : Int) + (m : Int)))) b L (G.upd k ((G.ch k).gv most)) ∧ Ko rgO B w ((w.setCell ⟨L, k * 4, none⟩ (.int .i64 ((F : Int) - (m : Int)))).setCell ⟨L, k * 4 + 1, none⟩ (.int .i64 (((G.ch k).owed : Int) + (m : Int)))) := by
  have hlq := Ch.lq (h.2.ch k hk)
  have hF' : F = (G.ch k).cap - (G.ch k).q.length - (G.ch k).owed := hF
  have hm' : m = min most.toNat ((G.ch k).cap - (G.ch k).q.length - (G.ch k).owed) := by
    rw [hm]
    unfold Cr.gvN Ch.sto
    simp
  have hmF : m ≤ F := by omega
  obtain ⟨e1, k1⟩ := rg_cell h.1 hk ⟨F - m, (G.ch k).owed, (G.ch k).q, (G.ch k).next⟩ 0 (by omega) (.int .i64 ((F : Int) - (m : Int))) (by rw [if_pos rfl]; refine congrArg _ ?_; (try dsimp only); omega) rfl rfl rfl
  obtain ⟨e2, k2⟩ := rg_cell e1 hk ⟨F - m, (G.ch k).owed + m, (G.ch k).q, (G.ch k).next⟩ 1 (by omega) (.int .i64 (((G.ch k).owed : Int) + (m : Int))) (by rw [if_neg (by decide), upR_same]) (by rw [if_pos rfl]; refine congrArg _ ?_; (try dsimp only); omega) (by rw [if_neg (by decide), upR_same]) (by rw [if_neg (by decide), upR_same])
  have e3 := (e1.at hk).2.1
  rw [upR_same] at e3
  refine ⟨hmF, by omega, e1.lines.1, e3, e1.froz _, rg_back (c := (G.ch k).gv most) e2 ?_ h.2 ((h.2.ch k hk).gv most), k1.trans k2⟩
  rw [upR_upR]
  unfold rc Ch.gv
  rw [← hm]
  dsimp only
  rw [hF', show (G.ch k).cap - (G.ch k).q.length - (G.ch k).owed - m = (G.ch k).cap - (G.ch k).q.length - ((G.ch k).owed + m) by omega]
set_option maxHeartbeats 2000000 in
theorem rGive_any (B b L : Nat) (G : Gt) (c most : Int) (w : World) (h : RgAt B w b L G) :
    Calls Try.prog 21 #[.pointer (some ⟨b, 0, none⟩), .int .i64 c, .int .i64 most] w fun e w' => e = .returned (.tuple #[.int .i64 (G.gvN c most : Int), .int .i64 (G.gvE c most)]) ∧ RgAt B w' b L (G.gvS c most) ∧ Ko rgO B w w' := by
  have c0 := h.1.lines.1
  by_cases hc : 0 ≤ c ∧ c < (G.n : Int)
  · obtain ⟨k, rfl, hk, e⟩ := has_nat hc
    have e1 : G.gvN (k : Int) most = Cr.gvN (G.ch k).sto most := if_pos hc
    have e2 : G.gvE (k : Int) most = Cr.gvE most := if_pos hc
    have e3 : G.gvS (k : Int) most = G.upd k ((G.ch k).gv most) := if_pos hc
    rw [e1, e2, e3]
    have LN := hide (rNone_not h.1 hk)
    have hki : (k : Int) < (G.n : Int) := by omega
    by_cases hm : most < 0
    · have hE : Cr.gvE most = 1 := if_pos hm
      have hS : (G.ch k).gv most = G.ch k := by
        unfold Ch.gv
        rw [gvN_neg _ hm]
        rfl
      rw [hE, gvN_neg _ hm, hS, Gt.upd_self]
      have HH := hide h
      clear h e1 e2 e3 hE hS hc e
      generalize G.n = n at *
      go_enter Try.func21, Try.ntmps21
      go_wp2_with fail
      refine (unhide LN).mono ?_
      rintro r w1 ⟨rfl, rfl⟩
      go_wp2
      go_ret2
      exact ⟨rfl, unhide HH, Ko.refl _ _ _⟩
    · have hE : Cr.gvE most = 0 := if_neg hm
      rw [hE]
      obtain ⟨F, hF⟩ : ∃ F, F = (rc (G.ch k)).free := ⟨_, rfl⟩
      obtain ⟨m, hmm⟩ : ∃ m, m = Cr.gvN (G.ch k).sto most := ⟨_, rfl⟩
      obtain ⟨p1, p2, p3, p4, p5, p6, p7⟩ := rg_give h hk most hF hmm
      have a0 : w.cell? ⟨L, k * 4, none⟩ = some (.int .i64 (F : Int)) := by rw [hF]; exact (h.1.at hk).1
      have z0 := h.1.froz (k * 4)
      have P6 := hide p6
      have P7 := hide p7
      have ho : (G.ch k).owed ≤ 256 := by have := Ch.lq (h.2.ch k hk); omega
      have hmi : min most (F : Int) = (m : Int) := by
        have hm' : m = min most.toNat F := by
          rw [hmm, hF]
          unfold Cr.gvN Ch.sto rc
          simp
        omega
      rw [← hmm]
      clear h e1 e2 e3 hE hc e p6 p7 hF hmm
      generalize G.upd k ((G.ch k).gv most) = G2 at *
      generalize (G.ch k).owed = o at *
      generalize G.n = n at *
      have hw1 : IntKind.i64.wrap ((F : Int) - (m : Int)) = (F : Int) - (m : Int) := by simp [IntKind.wrap, IntKind.signed, go_sem]; omega
      have hw2 : IntKind.i64.wrap ((o : Int) + (m : Int)) = (o : Int) + (m : Int) := by simp [IntKind.wrap, IntKind.signed, go_sem]; omega
      go_enter Try.func21, Try.ntmps21
      go_wp2_with fail
      refine (unhide LN).mono ?_
      rintro r w1 ⟨rfl, rfl⟩
      go_wp2
      go_ret2
      exact ⟨rfl, unhide P6, unhide P7⟩
  · have e1 : G.gvN c most = 0 := if_neg hc
    have e2 : G.gvE c most = 210 := if_neg hc
    have e3 : G.gvS c most = G := if_neg hc
    rw [e1, e2, e3]
    have LN := hide (rNone_is h.1 hc)
    have HH := hide h
    clear h e1 e2 e3 hc
    go_enter Try.func21, Try.ntmps21
    go_wp2_with fail
    refine (unhide LN).mono ?_
    rintro r w1 ⟨rfl, rfl⟩
    go_wp2
    go_ret2
    exact ⟨rfl, unhide HH, Ko.refl _ _ _⟩
end Go.Proofs.Ytcgmoadahdkbbaa
