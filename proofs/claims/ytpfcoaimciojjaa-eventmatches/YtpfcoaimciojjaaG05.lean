/-
  append to a row of the call's own, of cells that lie anywhere: what it gives, and where the new row lies. Of no program.
  EventGrows: a match whose stages the call itself makes, row by row.
-/
import Derived.Test.YtpfcoaimciojjaaG04
import Derived.Laws.AppendOwnNone
import Derived.Deep.RegionHeld3
import Derived.Deep.RegionLaw
namespace Go.Proofs.Ytpfcoaimciojjaa
open Go.RowKit

theorem run_app_any {P : Program} {w : World} (t ty e : TypeId) (i : TypeInfo) (z : Value) (size bytes : Nat) (h1 : P.underlying t = some (.slice e)) (h2 : P.info? e = some i) (h3 : i.zero = some z) (h4 : i.size = size) (h5 : i.bytes = bytes) (h6 : z.cells.size = size) (h7 : 0 < size)
    {g2 n2 cap2 : Nat} {xs : List Value} (ho : w.ownsRow 0 e size (.slice (some ⟨g2, 0, none⟩) n2 cap2) n2 xs)
    (ad : Option Addr) (m c : Nat) (news : List Value) (hn : news.length = m * size) (hnone : ad = none → m = 0 ∧ c = 0) (hsp : ∀ a, ad = some a → a.spot = none) (hc : ∀ a, ad = some a → ∀ j u, news[j]? = some u → w.cell? (a.add j) = some u) (h1c : ∀ u ∈ news, u.oneCell' = true)
    (b1 : n2 + m ≤ maxLen) (b2 : (n2 + m) * bytes ≤ 140737488355328) :
    ∃ g cap w', (Builtin.append_ #[t, t] ty #[.slice (some ⟨g2, 0, none⟩) n2 cap2, .slice ad m c]).run P w = .ok (.slice (some ⟨g, 0, none⟩) (n2 + m) cap) w' ∧ w'.ownsRow 0 e size (.slice (some ⟨g, 0, none⟩) (n2 + m) cap) (n2 + m) (xs ++ news) ∧ w.grownBy w' (some g2) ∧ (g = g2 ∨ g = w.heap.size) := by
  have hcp : n2 ≤ cap2 := by
    obtain ⟨_, ⟨e, _⟩ | ⟨g, cp, cur, e, _, _, hn, _⟩⟩ := id ho
    · cases e
    · injection e with _ e2 e3; omega
  cases ad with
  | none =>
    obtain ⟨rfl, rfl⟩ := hnone rfl
    obtain rfl : news = [] := List.eq_nil_of_length_eq_zero (by omega)
    exact ⟨g2, cap2, w, by simpa using run_append_owned_none (P := P) (w := w) 0 t ty e i size h1 h2 _ _ _ ho, by simpa using ho, World.grownBy.refl _ _, Or.inl rfl⟩
  | some a =>
    obtain ⟨b, off, spot⟩ := a
    obtain rfl : spot = none := hsp _ rfl
    rcases Nat.eq_zero_or_pos m with h0 | hpos
    · subst h0
      obtain rfl : news = [] := List.eq_nil_of_length_eq_zero (by omega)
      have := run_append_room_cells (P := P) (w := w) t ty e i h1 h2 g2 0 n2 cap2 ⟨b, off, none⟩ 0 c [] (by simp) (fun j u hj => by simp at hj) (fun u hu => by cases hu) (by omega) (fun j hj => absurd hj (by simp)) (fun j hj => absurd hj (by simp))
      exact ⟨g2, cap2, w, by simpa [World.setCells] using this, by simpa using ho, World.grownBy.refl _ _, Or.inl rfl⟩
    · obtain ⟨g3, cap3, w', hr, r1, r2, r3, _⟩ := run_append_lies (P := P) (w := w) t ty 0 e i z size bytes h1 h2 h3 h4 h5 h6 h7 _ _ _ ho ⟨b, off, none⟩ m c news hn (hc _ rfl) h1c hpos b1 b2 (Nat.zero_le _) _ rfl
      refine ⟨g3, cap3, w', hr, r1, r2, ?_⟩
      rcases r3 with r3 | r3
      · exact Or.inl (by simpa [Value.ownBlock] using r3.symm)
      · exact Or.inr r3
/-- The same, as one step of a statement whose order is drawn. -/
theorem step_app_any {P : Program} {ops : Array Oper} {o : Oper} {a : Act} {w : World} {K : Act → World → Prop} {Q : Exit → Act → World → Prop} {E : Prop}
    (hg : o.guard = none) (s x : Operand) (t : TypeId) (hop : o.op = Op.call { callee := Callee.builtin Builtin.append, args := #[s, x], argTypes := #[t, t] })
    (e : TypeId) (i : TypeInfo) (z : Value) (size bytes : Nat) (h1 : P.underlying t = some (.slice e)) (h2 : P.info? e = some i) (h3 : i.zero = some z) (h4 : i.size = size) (h5 : i.bytes = bytes) (h6 : z.cells.size = size) (h7 : 0 < size)
    {g2 n2 cap2 : Nat} {xs : List Value} (hs : a.eval s = .slice (some ⟨g2, 0, none⟩) n2 cap2) (ho : w.ownsRow 0 e size (.slice (some ⟨g2, 0, none⟩) n2 cap2) n2 xs)
    (ad : Option Addr) (m c : Nat) (news : List Value) (hx : a.eval x = .slice ad m c) (hn : news.length = m * size) (hnone : ad = none → m = 0 ∧ c = 0) (hsp : ∀ a, ad = some a → a.spot = none) (hc : ∀ a, ad = some a → ∀ j u, news[j]? = some u → w.cell? (a.add j) = some u) (h1c : ∀ u ∈ news, u.oneCell' = true)
    (b1 : n2 + m ≤ maxLen) (b2 : (n2 + m) * bytes ≤ 140737488355328) (N : Nat) (hN : n2 + m = N)
    (hK : ∀ g cap w', w'.ownsRow 0 e size (.slice (some ⟨g, 0, none⟩) N cap) N (xs ++ news) → w.grownBy w' (some g2) → (g = g2 ∨ g = w.heap.size) → K (a.put o.dst (.slice (some ⟨g, 0, none⟩) N cap)) w') :
    if Region.wanted o (yielded ops a.tmps) = true then Oper.wp P o a w K Q else E := by
  subst hN
  have hw : Region.wanted o (yielded ops a.tmps) = true := by simp [Region.wanted, hg]
  rw [if_pos hw]
  obtain ⟨g, cap, w', hrun, r1, r2, r3⟩ := run_app_any (P := P) (w := w) t o.type e i z size bytes h1 h2 h3 h4 h5 h6 h7 ho ad m c news hn hnone hsp hc h1c b1 b2
  unfold Oper.wp
  simp [execOp, hop, resolve, invoke, builtin, hs, hx, hrun, Result.andThen]
  exact hK g cap w' r1 r2 r3
/-- What stays while a row of the call's own grows. -/
theorem kp_gr {wx W w5 : World} {g2 : Nat} (hk : Kp [] wx W) (hg : W.grownBy w5 (some g2)) (hle : wx.heap.size ≤ g2) : Kp [] wx w5 := hk.trans (Kp.of hg) (by simp; omega)
end Go.Proofs.Ytpfcoaimciojjaa
namespace Go.Proofs.Ytpfcoaimciojjaa
open Go.RowKit

theorem info_intT : (Try.prog.info? 3).map (fun i => (i.zero, i.size, i.bytes)) = some (some (.int .i64 0), 1, 8) := by kernel_rfl
theorem info_intsT : (Try.prog.info? 61).map (fun i => (i.zero, i.size, i.bytes)) = some (some (.slice none 0 0), 1, 24) := by kernel_rfl
def iC (p : List Int) : List Value := p.map (Value.int .i64)
theorem iC_one (p : List Int) : ∀ u ∈ iC p, u.oneCell' = true := fun u hu => by
  unfold iC at hu
  obtain ⟨_, _, rfl⟩ := List.mem_map.1 hu
  rfl
theorem iC_len (p : List Int) : (iC p).length = p.length * 1 := by unfold iC; simp
/-- A row of numbers of the call's own. -/
def IRo (w : World) (v : Value) (p : List Int) : Prop := w.ownsRow 0 3 1 v p.length (iC p)
theorem IRo.empty (w : World) : IRo (w.alloc (.cells #[] 3)) (.slice (some ⟨w.heap.size, 0, none⟩) 0 0) [] :=
  ⟨rfl, Or.inr ⟨w.heap.size, 0, #[], rfl, Nat.zero_le _, CBox.new w _ _, Nat.le_refl _, by unfold maxLen; omega, rfl, rfl⟩⟩
theorem IRo.nil (w : World) : IRo w (.slice none 0 0) [] := ⟨rfl, Or.inl ⟨rfl, rfl⟩⟩
/-- Its block is one of numbers. -/
theorem IRo.block {w : World} {v : Value} {p : List Int} (h : IRo w v p) {b : Nat} (hb : v.ownBlock = some b) : ∃ cur, w.heap[b]? = some (.cells cur 3 (0, 0)) := by
  obtain ⟨_, ⟨rfl, _⟩ | ⟨g, cp, cur, rfl, _, hh, _⟩⟩ := h
  · cases hb
  · simp [Value.ownBlock] at hb
    subst hb
    exact ⟨cur, hh⟩
theorem IRo.lt {w : World} {v : Value} {p : List Int} (h : IRo w v p) {b : Nat} (hb : v.ownBlock = some b) : b < w.heap.size := by
  obtain ⟨cur, hc⟩ := h.block hb
  exact (Array.getElem?_eq_some_iff.1 hc).1
theorem IRo.kp {F : List Nat} {w w' : World} {v : Value} {p : List Int} (h : IRo w v p) (hk : Kp F w w') (hF : ∀ b, v.ownBlock = some b → b ∉ F) : IRo w' v p := by
  obtain ⟨h0, ⟨rfl, h1⟩ | ⟨g, cap, cur, rfl, hg, hh, h2, h3, h4, h5⟩⟩ := h
  · exact ⟨h0, Or.inl ⟨rfl, h1⟩⟩
  · exact ⟨h0, Or.inr ⟨g, cap, cur, rfl, hg, (hk.block g (Array.getElem?_eq_some_iff.1 hh).1 (hF g rfl)).trans hh, h2, h3, h4, h5⟩⟩
/-- No block of numbers is among those. -/
def NoI (w : World) (F : List Nat) : Prop := ∀ f ∈ F, ∀ cur fr, w.heap[f]? ≠ some (.cells cur 3 fr)
theorem IRo.kpT {F : List Nat} {w w' : World} {v : Value} {p : List Int} (h : IRo w v p) (hk : Kp F w w') (hF : NoI w F) : IRo w' v p :=
  h.kp hk fun b hb hm => by
    obtain ⟨cur, hc⟩ := h.block hb
    exact hF b hm _ _ hc
theorem IRo.at {w : World} {v : Value} {p : List Int} (h : IRo w v p) : ∃ a c, v = .slice a p.length c ∧ IntsAt w a p := by
  obtain ⟨h0, ⟨rfl, h1⟩ | ⟨g, cap, cur, rfl, hg, hh, h2, h3, h4, h5⟩⟩ := h
  · exact ⟨none, 0, by rw [h1], fun hne => absurd (List.eq_nil_of_length_eq_zero h1) hne⟩
  · refine ⟨_, _, rfl, fun _ => ⟨g, 0, rfl, (Array.getElem?_eq_some_iff.1 hh).1, fun i hi => ?_⟩⟩
    have hx : (iC p)[i]? = some (.int .i64 p[i]) := by unfold iC; simp [hi]
    rw [← h5, List.getElem?_take_of_lt (by omega)] at hx
    simp at hx
    rw [Nat.zero_add]
    simp [World.cell?, hh, hx]
/-- Rows of numbers, one by one. -/
def RowsI (w : World) (vs : List Value) (ps : List (List Int)) : Prop := vs.length = ps.length ∧ ∀ (i : Nat) (v : Value) (p : List Int), vs[i]? = some v → ps[i]? = some p → IRo w v p
theorem RowsI.nil (w : World) : RowsI w [] [] := ⟨rfl, fun i v p h => by simp at h⟩
theorem RowsI.kpT {F : List Nat} {w w' : World} {vs : List Value} {ps : List (List Int)} (h : RowsI w vs ps) (hk : Kp F w w') (hF : NoI w F) : RowsI w' vs ps := ⟨h.1, fun i v p a b => (h.2 i v p a b).kpT hk hF⟩
theorem RowsI.snoc {w : World} {vs : List Value} {ps : List (List Int)} (h : RowsI w vs ps) {v : Value} {p : List Int} (hv : IRo w v p) : RowsI w (vs ++ [v]) (ps ++ [p]) := by
  refine ⟨by rw [List.length_append, List.length_append, h.1]; rfl, fun i x q a b => ?_⟩
  rcases Nat.lt_or_ge i vs.length with hi | hi
  · rw [List.getElem?_append_left hi] at a
    rw [List.getElem?_append_left (by rw [← h.1]; exact hi)] at b
    exact h.2 i x q a b
  · rw [List.getElem?_append_right hi] at a
    rw [List.getElem?_append_right (by rw [← h.1]; exact hi)] at b
    have hl := (List.getElem?_eq_some_iff.1 a).1
    have hz : i - vs.length = 0 := by simp at hl; omega
    rw [hz] at a
    rw [← h.1, hz] at b
    simp at a b
    subst a b
    exact hv
theorem RowsI.lt {w : World} {vs : List Value} {ps : List (List Int)} (h : RowsI w vs ps) {v : Value} (hv : v ∈ vs) {b : Nat} (hb : v.ownBlock = some b) : b < w.heap.size := by
  obtain ⟨i, hi, rfl⟩ := List.getElem_of_mem hv
  exact (h.2 i vs[i] (ps[i]'(by rw [← h.1]; exact hi)) (List.getElem?_eq_getElem hi) (List.getElem?_eq_getElem _)).lt hb
/-- A row of slices of the call's own. -/
def VRo (w : World) (v : Value) (vs : List Value) : Prop := w.ownsRow 0 61 1 v vs.length vs
theorem VRo.block {w : World} {v : Value} {vs : List Value} (h : VRo w v vs) {b : Nat} (hb : v.ownBlock = some b) : ∃ cur, w.heap[b]? = some (.cells cur 61 (0, 0)) := by
  obtain ⟨_, ⟨rfl, _⟩ | ⟨g, cp, cur, rfl, _, hh, _⟩⟩ := h
  · cases hb
  · simp [Value.ownBlock] at hb
    subst hb
    exact ⟨cur, hh⟩
theorem VRo.kp {F : List Nat} {w w' : World} {v : Value} {vs : List Value} (h : VRo w v vs) (hk : Kp F w w') (hF : ∀ b, v.ownBlock = some b → b ∉ F) : VRo w' v vs := by
  obtain ⟨h0, ⟨rfl, h1⟩ | ⟨g, cap, cur, rfl, hg, hh, h2, h3, h4, h5⟩⟩ := h
  · exact ⟨h0, Or.inl ⟨rfl, h1⟩⟩
  · exact ⟨h0, Or.inr ⟨g, cap, cur, rfl, hg, (hk.block g (Array.getElem?_eq_some_iff.1 hh).1 (hF g rfl)).trans hh, h2, h3, h4, h5⟩⟩
/-- A match in the making: its box, the row of its stages, and they. -/
structure Side (w : World) (g : Nat) (k : ByteArray) (v : Value) (vs : List Value) (ps : List (List Int)) : Prop where
  box : CBox g #[.string k, v] 35 w
  row : VRo w v vs
  inn : RowsI w vs ps
/-- The blocks that a push writes. -/
def sideF (g : Nat) (v : Value) : List Nat := g :: v.ownBlock.toList
theorem Side.noI {w : World} {g : Nat} {k : ByteArray} {v : Value} {vs : List Value} {ps : List (List Int)} (h : Side w g k v vs ps) : NoI w (sideF g v) := fun f hf cur fr hc => by
  rcases List.mem_cons.1 hf with rfl | hf
  · have hb : w.heap[f]? = _ := h.box
    rw [hc] at hb
    injection hb with e; injection e with _ e; exact absurd e (by decide)
  · have hb : v.ownBlock = some f := by simpa using hf
    obtain ⟨cur', hc'⟩ := h.row.block hb
    rw [hc] at hc'
    injection hc' with e; injection e with _ e; exact absurd e (by decide)
theorem Side.kpT {F : List Nat} {w w' : World} {g : Nat} {k : ByteArray} {v : Value} {vs : List Value} {ps : List (List Int)} (h : Side w g k v vs ps) (hk : Kp F w w') (hg : g ∉ F) (hv : ∀ b, v.ownBlock = some b → b ∉ F) (hF : NoI w F) : Side w' g k v vs ps :=
  ⟨h.box.kp hk hg, h.row.kp hk hv, h.inn.kpT hk hF⟩
theorem Side.kp {w w' : World} {g : Nat} {k : ByteArray} {v : Value} {vs : List Value} {ps : List (List Int)} (h : Side w g k v vs ps) (hk : Kp [] w w') : Side w' g k v vs ps :=
  h.kpT hk (by simp) (by simp) (fun f hf => by cases hf)
/-- A box and a row of slices are not the same block. -/
theorem Side.apart {w : World} {g g' : Nat} {k k' : ByteArray} {v v' : Value} {vs vs' : List Value} {ps ps' : List (List Int)} (h : Side w g k v vs ps) (h' : Side w g' k' v' vs' ps') {b : Nat} (hb : v'.ownBlock = some b) : b ≠ g := by
  rintro rfl
  obtain ⟨cur, hc⟩ := h'.row.block hb
  have hx : w.heap[b]? = _ := h.box
  rw [hc] at hx
  injection hx with e; injection e with _ e; exact absurd e (by decide)
/-- One stage more. -/
theorem Side.push {w w7 : World} {g : Nat} {k : ByteArray} {v r : Value} {vs : List Value} {ps : List (List Int)} {p : List Int} (h : Side w g k v vs ps) (hr : IRo w r p) {g7 cap7 : Nat}
    (hown : w7.ownsRow 0 61 1 (.slice (some ⟨g7, 0, none⟩) (vs.length + 1) cap7) (vs.length + 1) (vs ++ [r])) (hgr : (w.alloc (.cells #[r] 61)).grownBy w7 v.ownBlock) (hat : v.ownBlock = some g7 ∨ g7 = (w.alloc (.cells #[r] 61)).heap.size) :
    Side (w7.setCell ⟨g, 1, none⟩ (.slice (some ⟨g7, 0, none⟩) (vs.length + 1) cap7)) g k (.slice (some ⟨g7, 0, none⟩) (vs.length + 1) cap7) (vs ++ [r]) (ps ++ [p]) ∧ Kp (sideF g v) w (w7.setCell ⟨g, 1, none⟩ (.slice (some ⟨g7, 0, none⟩) (vs.length + 1) cap7)) ∧ w7.cell? ⟨g, 1, none⟩ = some v ∧ w7.frozen? ⟨g, 1, none⟩ = false := by
  have hgl : g < w.heap.size := (Array.getElem?_eq_some_iff.1 h.box).1
  have h1 := h.kp (Kp.alloc w (.cells #[r] 61))
  have hr1 := hr.kpT (Kp.alloc w (.cells #[r] 61)) (fun f hf => by cases hf)
  have hgv : g ∉ v.ownBlock.toList := fun hm => h1.apart h1 (by simpa using hm : v.ownBlock = some g) rfl
  have k7 := Kp.of hgr
  have b7 := h1.box.kp k7 hgv
  have hn1 : NoI (w.alloc (.cells #[r] 61)) v.ownBlock.toList := fun f hf => h1.noI f (List.mem_cons_of_mem _ hf)
  have i7 := (h1.inn.kpT k7 hn1).snoc (hr1.kpT k7 hn1)
  have b8 := b7.set 1 (.slice (some ⟨g7, 0, none⟩) (vs.length + 1) cap7)
  have hg7 : g7 ≠ g := by
    rcases hat with e | e
    · exact h1.apart h1 e
    · rw [e]; simp; omega
  have hset := Kp.set w7 g 1 (.slice (some ⟨g7, 0, none⟩) (vs.length + 1) cap7)
  have hno : NoI w7 [g] := fun f hf cur fr hc => by
    rw [List.mem_singleton] at hf
    subst hf
    have hx : w7.heap[f]? = _ := b7
    rw [hc] at hx
    injection hx with e; injection e with _ e; exact absurd e (by decide)
  refine ⟨⟨b8, ?_, i7.kpT hset hno⟩, ?_, b7.cell rfl, b7.froz 1⟩
  · have hv7 : VRo w7 (.slice (some ⟨g7, 0, none⟩) (vs.length + 1) cap7) (vs ++ [r]) := by
      unfold VRo
      rw [List.length_append]
      exact hown
    exact hv7.kp hset (fun b hb => by simp [Value.ownBlock] at hb; subst hb; simpa using hg7)
  · refine (((Kp.alloc w _).mono (by simp)).trans k7 ?_).trans hset ?_
    · intro x hx
      left
      exact List.mem_cons_of_mem _ hx
    · intro x hx
      rw [List.mem_singleton] at hx
      left
      rw [hx]
      exact List.mem_cons_self
/-- As stages that lie there. -/
theorem Side.stages {w : World} {g : Nat} {k : ByteArray} {v : Value} {vs : List Value} {ps : List (List Int)} (h : Side w g k v vs ps) : ∃ a c, v = .slice a ps.length c ∧ StagesAt w a ps := by
  have hlen := h.inn.1
  obtain ⟨h0, ⟨rfl, h1⟩ | ⟨g', cap, cur, rfl, hg, hh, h2, h3, h4, h5⟩⟩ := h.row
  · exact ⟨none, 0, by rw [← hlen, h1], fun hne => absurd (List.eq_nil_of_length_eq_zero (by omega)) hne⟩
  · refine ⟨_, _, by rw [← hlen], fun _ => ⟨g', 0, rfl, (Array.getElem?_eq_some_iff.1 hh).1, fun i hi => ?_⟩⟩
    have hiv : i < vs.length := by omega
    obtain ⟨a, c, e, hI⟩ := (h.inn.2 i vs[i] ps[i] (List.getElem?_eq_getElem hiv) (List.getElem?_eq_getElem hi)).at
    refine ⟨a, c, ?_, hI⟩
    have hx : vs[i]? = some vs[i] := List.getElem?_eq_getElem hiv
    conv at hx => lhs; rw [← h5]
    rw [List.getElem?_take_of_lt (by omega)] at hx
    simp at hx
    rw [Nat.zero_add, ← e]
    simp [World.cell?, hh, hx]
end Go.Proofs.Ytpfcoaimciojjaa
