/-
  append to a row of the call's own, of cells that lie anywhere: what it gives, and where the new row lies. Of no program.
  Rows of pairs of numbers: how they lie, held against one another, turned about.
  Rows of pairs: held against one another; turned about.
-/
import Derived.Test.YthdfaidjdddagaaL01
import Derived.Laws.AppendOwnNone
import Derived.Test.YthdfaidjdddagaaChecked
import Derived.WalkKit
import Derived.WalkLawsBesides
import Derived.Deep.DeepCutAuto
import Derived.Deep.QuietTactic
import Derived.BigQuiet
import Derived.Deep.RegionHeld3
import Derived.Deep.RegionLaw
namespace Go.Proofs.Ythdfaidjdddagaa
open Go.RowKit

theorem run_app_any {P : Program} {w : World} (t ty e : TypeId) (i : TypeInfo) (z : Value) (size bytes : Nat) (h1 : P.underlying t = some (.slice e)) (h2 : P.info? e = some i) (h3 : i.zero = some z) (h4 : i.size = size) (h5 : i.bytes = bytes) (h6 : z.cells.size = size) (h7 : 0 < size)
    {g2 n2 cap2 : Nat} {xs : List Value} (ho : w.ownsRow 0 e size (.slice (some ⟨g2, 0, none⟩) n2 cap2) n2 xs)
    (ad : Option Addr) (m c : Nat) (news : List Value) (hn : news.length = m * size) (hnone : ad = none → m = 0 ∧ c = 0) (hsp : ∀ a, ad = some a → a.spot = none) (hc : ∀ a, ad = some a → ∀ j u, news[j]? = some u → w.cell? (a.add j) = some u) (h1c : ∀ u ∈ news, u.oneCell' = true)
    (b1 : n2 + m ≤ maxLen) (b2 : (n2 + m) * bytes ≤ 140737488355328) :
    ∃ g cap w', (Builtin.append_ #[t, t] ty #[.slice (some ⟨g2, 0, none⟩) n2 cap2, .slice ad m c]).run P w = .ok (.slice (some ⟨g, 0, none⟩) (n2 + m) cap) w' ∧ w'.ownsRow 0 e size (.slice (some ⟨g, 0, none⟩) (n2 + m) cap) (n2 + m) (xs ++ news) ∧ w.grownBy w' (some g2) ∧ (g = g2 ∨ g = w.heap.size) := by
  have hcp : n2 ≤ cap2 := by
    obtain ⟨_, ⟨e, _⟩ | ⟨g, cp, cur, e, _, _, hn, _⟩⟩ := id ho
    · cases e
    · injection e with _ e2 e3; omega
  cases ad with
  | none =>
    obtain ⟨rfl, rfl⟩ := hnone rfl
    obtain rfl : news = [] := List.eq_nil_of_length_eq_zero (by omega)
    exact ⟨g2, cap2, w, by simpa using run_append_owned_none (P := P) (w := w) 0 t ty e i size h1 h2 _ _ _ ho, by simpa using ho, World.grownBy.refl _ _, Or.inl rfl⟩
  | some a =>
    obtain ⟨b, off, spot⟩ := a
    obtain rfl : spot = none := hsp _ rfl
    rcases Nat.eq_zero_or_pos m with h0 | hpos
    · subst h0
      obtain rfl : news = [] := List.eq_nil_of_length_eq_zero (by omega)
      have := run_append_room_cells (P := P) (w := w) t ty e i h1 h2 g2 0 n2 cap2 ⟨b, off, none⟩ 0 c [] (by simp) (fun j u hj => by simp at hj) (fun u hu => by cases hu) (by omega) (fun j hj => absurd hj (by simp)) (fun j hj => absurd hj (by simp))
      exact ⟨g2, cap2, w, by simpa [World.setCells] using this, by simpa using ho, World.grownBy.refl _ _, Or.inl rfl⟩
    · obtain ⟨g3, cap3, w', hr, r1, r2, r3, _⟩ := run_append_lies (P := P) (w := w) t ty 0 e i z size bytes h1 h2 h3 h4 h5 h6 h7 _ _ _ ho ⟨b, off, none⟩ m c news hn (hc _ rfl) h1c hpos b1 b2 (Nat.zero_le _) _ rfl
      refine ⟨g3, cap3, w', hr, r1, r2, ?_⟩
      rcases r3 with r3 | r3
      · exact Or.inl (by simpa [Value.ownBlock] using r3.symm)
      · exact Or.inr r3
/-- The same, as one step of a statement whose order is drawn. -/
theorem step_app_any {P : Program} {ops : Array Oper} {o : Oper} {a : Act} {w : World} {K : Act → World → Prop} {Q : Exit → Act → World → Prop} {E : Prop}
    (hg : o.guard = none) (s x : Operand) (t : TypeId) (hop : o.op = Op.call { callee := Callee.builtin Builtin.append, args := #[s, x], argTypes := #[t, t] })
    (e : TypeId) (i : TypeInfo) (z : Value) (size bytes : Nat) (h1 : P.underlying t = some (.slice e)) (h2 : P.info? e = some i) (h3 : i.zero = some z) (h4 : i.size = size) (h5 : i.bytes = bytes) (h6 : z.cells.size = size) (h7 : 0 < size)
    {g2 n2 cap2 : Nat} {xs : List Value} (hs : a.eval s = .slice (some ⟨g2, 0, none⟩) n2 cap2) (ho : w.ownsRow 0 e size (.slice (some ⟨g2, 0, none⟩) n2 cap2) n2 xs)
    (ad : Option Addr) (m c : Nat) (news : List Value) (hx : a.eval x = .slice ad m c) (hn : news.length = m * size) (hnone : ad = none → m = 0 ∧ c = 0) (hsp : ∀ a, ad = some a → a.spot = none) (hc : ∀ a, ad = some a → ∀ j u, news[j]? = some u → w.cell? (a.add j) = some u) (h1c : ∀ u ∈ news, u.oneCell' = true)
    (b1 : n2 + m ≤ maxLen) (b2 : (n2 + m) * bytes ≤ 140737488355328) (N : Nat) (hN : n2 + m = N)
    (hK : ∀ g cap w', w'.ownsRow 0 e size (.slice (some ⟨g, 0, none⟩) N cap) N (xs ++ news) → w.grownBy w' (some g2) → (g = g2 ∨ g = w.heap.size) → K (a.put o.dst (.slice (some ⟨g, 0, none⟩) N cap)) w') :
    if Region.wanted o (yielded ops a.tmps) = true then Oper.wp P o a w K Q else E := by
  subst hN
  have hw : Region.wanted o (yielded ops a.tmps) = true := by simp [Region.wanted, hg]
  rw [if_pos hw]
  obtain ⟨g, cap, w', hrun, r1, r2, r3⟩ := run_app_any (P := P) (w := w) t o.type e i z size bytes h1 h2 h3 h4 h5 h6 h7 ho ad m c news hn hnone hsp hc h1c b1 b2
  unfold Oper.wp
  simp [execOp, hop, resolve, invoke, builtin, hs, hx, hrun, Result.andThen]
  exact hK g cap w' r1 r2 r3
/-- append, by its run. -/
theorem wpList_app_run {P : Program} {ops : Array Oper} {rest : List Oper} {o : Oper} {a : Act} {w w' : World} {Q : Exit → Act → World → Prop} {v u1 u2 : Value} (hgd : o.guard = none) (s x : Operand) (t : TypeId)
    (ho : o.op = .call { callee := .builtin .append, args := #[s, x], argTypes := #[t, t] }) (hs : a.eval s = u1) (hx : a.eval x = u2) (hr : (Builtin.append_ #[t, t] o.type #[u1, u2]).run P w = .ok v w')
    (h : wpList P ops Q rest (a.put o.dst v) w') : wpList P ops Q (o :: rest) a w :=
  wpList_plain hgd fun _ hK => by
    unfold Oper.wp
    simp [execOp, ho, resolve, invoke, builtin, hs, hx, hr, Result.andThen]
    exact hK _ _ h
/-- What stays while a row of the call's own grows. -/
theorem kp_gr {wx W w5 : World} {g2 : Nat} (hk : Kp [] wx W) (hg : W.grownBy w5 (some g2)) (hle : wx.heap.size ≤ g2) : Kp [] wx w5 := hk.trans (Kp.of hg) (by simp; omega)
end Go.Proofs.Ythdfaidjdddagaa
namespace Go.Proofs.Ythdfaidjdddagaa
open Go.RowKit

/-- Pairs as cells. -/
def prC (l : List (Int × Int)) : List Value := l.flatMap fun x => [.int .i64 x.1, .int .i64 x.2]
theorem prC_len (l : List (Int × Int)) : (prC l).length = l.length * 2 := by
  unfold prC
  induction l with
  | nil => rfl
  | cons x l ih => simp only [List.flatMap_cons, List.length_append, ih, List.length_cons, List.length_nil]; omega
theorem prC_app (l k : List (Int × Int)) : prC (l ++ k) = prC l ++ prC k := by unfold prC; simp
theorem prC_snoc (l : List (Int × Int)) (x : Int × Int) : prC (l ++ [x]) = prC l ++ [.int .i64 x.1, .int .i64 x.2] := by unfold prC; simp
theorem prC_one (l : List (Int × Int)) : ∀ u ∈ prC l, u.oneCell' = true := fun u hu => by
  unfold prC at hu
  obtain ⟨x, _, hx⟩ := List.mem_flatMap.1 hu
  simp at hx
  rcases hx with rfl | rfl <;> rfl
theorem prC_at (l : List (Int × Int)) : ∀ (i : Nat) (h : i < l.length), (prC l)[i * 2]? = some (.int .i64 l[i].1) ∧ (prC l)[i * 2 + 1]? = some (.int .i64 l[i].2) := by
  induction l with
  | nil => intro i h; simp at h
  | cons x l ih =>
    intro i h
    have e : prC (x :: l) = .int .i64 x.1 :: .int .i64 x.2 :: prC l := by unfold prC; simp
    rw [e]
    cases i with
    | zero => exact ⟨rfl, rfl⟩
    | succ i =>
      have := ih i (by simp at h; omega)
      rw [show (i + 1) * 2 = i * 2 + 1 + 1 by omega]
      simpa using this
/-- A row of pairs lies there, its numbers by their places. -/
def PrF (g n cap : Nat) (f : Nat → Int × Int) (w : World) : Prop := ∃ cur : Array Value, w.heap[g]? = some (.cells cur 41 (0, 0)) ∧ cur.size = cap * 2 ∧ n ≤ cap ∧ cap ≤ maxLen ∧ ∀ i, i < n → cur[i * 2]? = some (.int .i64 (f i).1) ∧ cur[i * 2 + 1]? = some (.int .i64 (f i).2)
theorem PrF.kp {g n cap : Nat} {f : Nat → Int × Int} {w w' : World} {F : List Nat} (h : PrF g n cap f w) (hk : Kp F w w') (hF : g ∉ F) : PrF g n cap f w' := by
  obtain ⟨cur, h1, h2⟩ := h
  exact ⟨cur, (hk.block g (Array.getElem?_eq_some_iff.1 h1).1 hF).trans h1, h2⟩
theorem PrF.fst {g n cap : Nat} {f : Nat → Int × Int} {w : World} (h : PrF g n cap f w) (i : Nat) (hi : i < n) : w.cell? ⟨g, i * 2, none⟩ = some (.int .i64 (f i).1) := by
  obtain ⟨cur, h1, _, _, _, h2⟩ := h
  simp [World.cell?, h1, (h2 i hi).1]
theorem PrF.snd {g n cap : Nat} {f : Nat → Int × Int} {w : World} (h : PrF g n cap f w) (i : Nat) (hi : i < n) : w.cell? ⟨g, i * 2 + 1, none⟩ = some (.int .i64 (f i).2) := by
  obtain ⟨cur, h1, _, _, _, h2⟩ := h
  simp [World.cell?, h1, (h2 i hi).2]
theorem PrF.froz {g n cap : Nat} {f : Nat → Int × Int} {w : World} (h : PrF g n cap f w) (i : Nat) : w.frozen? ⟨g, i, none⟩ = false := by
  obtain ⟨cur, h1, _⟩ := h
  simp [World.frozen?, h1]
theorem PrF.ext {g n cap : Nat} {f f' : Nat → Int × Int} {w : World} (h : PrF g n cap f w) (e : ∀ i, i < n → f i = f' i) : PrF g n cap f' w := by
  obtain ⟨cur, h1, h2, h3, h4, h5⟩ := h
  exact ⟨cur, h1, h2, h3, h4, fun i hi => by rw [← e i hi]; exact h5 i hi⟩
theorem heap_set2 {w : World} {b k : Nat} {t : TypeId} {cur : Array Value} (h : w.heap[b]? = some (.cells cur t (0, 0))) (v : Value) : (w.setCell ⟨b, k, none⟩ v).heap[b]? = some (.cells (cur.setIfInBounds k v) t (0, 0)) := by
  unfold World.setCell
  simp [h, Array.getElem?_modify]
/-- A pair set. -/
def put2 (g k : Nat) (x : Int × Int) (w : World) : World := (w.setCell ⟨g, k * 2, none⟩ (.int .i64 x.1)).setCell ⟨g, k * 2 + 1, none⟩ (.int .i64 x.2)
theorem PrF.put {g n cap : Nat} {f : Nat → Int × Int} {w : World} (h : PrF g n cap f w) (k : Nat) (hk : k < n) (x : Int × Int) : PrF g n cap (fun i => if i = k then x else f i) (put2 g k x w) := by
  obtain ⟨cur, h1, h2, h3, h4, h5⟩ := h
  refine ⟨_, heap_set2 (heap_set2 h1 _) _, by simp [h2], h3, h4, fun i hi => ?_⟩
  obtain ⟨a1, a2⟩ := h5 i hi
  by_cases e : i = k
  · subst e
    simp only [Array.getElem?_setIfInBounds, Array.size_setIfInBounds]
    have g1 : i * 2 < cur.size := by omega
    have g2 : i * 2 + 1 < cur.size := by omega
    simp [g1, g2]
  · simp only [if_neg e]
    refine ⟨?_, ?_⟩ <;> (repeat rw [Array.getElem?_setIfInBounds_ne (by omega)]) <;> assumption
theorem Kp.put2 (g k : Nat) (x : Int × Int) (w : World) : Kp [g] w (put2 g k x w) := by
  unfold Go.Proofs.Ythdfaidjdddagaa.put2
  exact (Kp.set w g _ _).trans (Kp.set _ g _ _) (by simp)
/-- A row of pairs of the call's own. -/
def OwP (B : Nat) (w : World) (v : Value) (l : List (Int × Int)) : Prop := w.ownsRow B 41 2 v l.length (prC l)
theorem OwP.nil (B : Nat) (w : World) : OwP B w (.slice none 0 0) [] := World.ownsRow_nil _ _ _ _
theorem OwP.at {B : Nat} {w : World} {v : Value} {l : List (Int × Int)} (h : OwP B w v l) (hl : l ≠ []) : ∃ g cap, v = .slice (some ⟨g, 0, none⟩) l.length cap ∧ B ≤ g ∧ PrF g l.length cap (fun i => l.getD i (0, 0)) w := by
  obtain ⟨h0, ⟨_, h1⟩ | ⟨g, cap, cur, rfl, hg, hh, h2, h3, h4, h5⟩⟩ := h
  · exact absurd (List.eq_nil_of_length_eq_zero h1) hl
  · refine ⟨g, cap, rfl, hg, cur, hh, h4, h2, h3, fun i hi => ?_⟩
    obtain ⟨a1, a2⟩ := prC_at l i hi
    rw [← h5] at a1 a2
    rw [List.getElem?_take_of_lt (by omega)] at a1 a2
    simp only [List.getD_eq_getElem?_getD, List.getElem?_eq_getElem hi, Option.getD_some]
    exact ⟨by simpa using a1, by simpa using a2⟩
theorem OwP.of {B g cap : Nat} {w : World} {l : List (Int × Int)} {f : Nat → Int × Int} (h : PrF g l.length cap f w) (hf : ∀ i (hi : i < l.length), l[i] = f i) (hB : B ≤ g) : OwP B w (.slice (some ⟨g, 0, none⟩) l.length cap) l := by
  obtain ⟨cur, h1, h2, h3, h4, h5⟩ := h
  refine ⟨prC_len l, Or.inr ⟨g, cap, cur, rfl, hB, h1, h3, h4, h2, ?_⟩⟩
  apply List.ext_getElem?
  intro j
  rcases Nat.lt_or_ge j (l.length * 2) with hj | hj
  · rw [List.getElem?_take_of_lt hj]
    have hi : j / 2 < l.length := by omega
    obtain ⟨a1, a2⟩ := h5 (j / 2) hi
    obtain ⟨b1, b2⟩ := prC_at l (j / 2) hi
    rw [← hf (j / 2) hi] at a1 a2
    rcases Nat.mod_two_eq_zero_or_one j with e | e
    · rw [show j / 2 * 2 = j by omega] at a1 b1
      rw [b1]; simpa using a1
    · rw [show j / 2 * 2 + 1 = j by omega] at a2 b2
      rw [b2]; simpa using a2
  · rw [List.getElem?_eq_none (by simp; omega), List.getElem?_eq_none (by rw [prC_len]; exact hj)]
theorem info_parts {i : Option TypeInfo} {z : Option Value} {s b : Nat} (h : i.map (fun i => (i.zero, i.size, i.bytes)) = some (z, s, b)) : ∃ j, i = some j ∧ j.zero = z ∧ j.size = s ∧ j.bytes = b := by
  cases i with
  | none => cases h
  | some j => simp at h; exact ⟨j, rfl, h.1, h.2.1, h.2.2⟩
theorem info_pair : (Try.prog.info? 41).map (fun i => (i.zero, i.size, i.bytes)) = some (some (.agg #[.int .i64 0, .int .i64 0]), 2, 16) := by kernel_rfl
theorem two_new (W : World) (n : Nat) (hn : W.heap.size = n) (x y : Value) (t : TypeId) : ∀ (j : Nat) (u : Value), [x, y][j]? = some u → (W.alloc (.cells #[x, y] t)).cell? ((⟨n, 0, none⟩ : Addr).add j) = some u := fun j u hj => by
  subst hn
  match j, hj with
  | 0, hj => simp at hj; subst hj; exact (CBox.new W #[x, y] t).cell rfl
  | 1, hj => simp at hj; subst hj; exact (CBox.new W #[x, y] t).cell rfl
/-- Two pairs held against one another. -/
theorem eqP (d : Nat) (a0 a1 b0 b1 : Int) (w : World) : (Op.equalIn (d + 2) 41 (.agg #[.int .i64 a0, .int .i64 a1]) (.agg #[.int .i64 b0, .int .i64 b1])).run Try.prog w = .ok (a0 == b0 && a1 == b1) w := by
  have hi := fun (a b : Int) (w : World) => run_equalIn_int (P := Try.prog) w d 3 .i64 .i64 a b Try.underlying3
  unfold Op.equalIn
  simp only [Sem.run_bind, run_underlying Try.underlying41, Result.andThen_ok]
  simp [part, Try.sizeOf3, go_sem, hi, Std.Legacy.Range.forIn_eq_forIn_range', List.range'_succ]
  by_cases h0 : a0 = b0 <;> by_cases h1 : a1 = b1 <;> simp [h0, h1]
end Go.Proofs.Ythdfaidjdddagaa
namespace Go.Proofs.Ythdfaidjdddagaa
open Go.RowKit

/-- A row of pairs lies there, to be read. -/
def PrAt (w : World) (v : Value) (l : List (Int × Int)) : Prop := ∃ ad cap, v = .slice ad l.length cap ∧ ∀ i (h : i < l.length), ∃ g, ad = some ⟨g, 0, none⟩ ∧ w.cell? ⟨g, i * 2, none⟩ = some (.int .i64 l[i].1) ∧ w.cell? ⟨g, i * 2 + 1, none⟩ = some (.int .i64 l[i].2)
theorem OwP.read {B : Nat} {w : World} {v : Value} {l : List (Int × Int)} (h : OwP B w v l) : PrAt w v l := by
  by_cases hl : l = []
  · subst hl
    obtain ⟨h0, ⟨rfl, h1⟩ | ⟨g, cap, cur, rfl, hg, hh, h2, h3, h4, h5⟩⟩ := h
    · exact ⟨none, 0, rfl, fun i hi => by simp at hi⟩
    · exact ⟨_, _, rfl, fun i hi => by simp at hi⟩
  · obtain ⟨g, cap, rfl, _, hf⟩ := OwP.at h hl
    refine ⟨_, _, rfl, fun i hi => ⟨g, rfl, ?_, ?_⟩⟩
    · have := hf.fst i hi
      simpa [List.getD_eq_getElem?_getD, List.getElem?_eq_getElem hi] using this
    · have := hf.snd i hi
      simpa [List.getD_eq_getElem?_getD, List.getElem?_eq_getElem hi] using this
theorem PrAt.kp {w w' : World} {v : Value} {l : List (Int × Int)} {F : List Nat} (h : PrAt w v l) (hk : Kp F w w') (hF : ∀ b, v.ownBlock = some b → b ∉ F) : PrAt w' v l := by
  obtain ⟨ad, cap, rfl, h1⟩ := h
  refine ⟨ad, cap, rfl, fun i hi => ?_⟩
  obtain ⟨g, rfl, h2, h3⟩ := h1 i hi
  have hg := hF g rfl
  exact ⟨g, rfl, hk.cell h2 hg, hk.cell h3 hg⟩
theorem PrAt.kp0 {w w' : World} {v : Value} {l : List (Int × Int)} (h : PrAt w v l) (hk : Kp [] w w') : PrAt w' v l := h.kp hk (fun _ _ => by simp)
set_option maxHeartbeats 1000000 in
set_option maxRecDepth 100000 in
theorem ways_any (v u : Value) (l k : List (Int × Int)) (w : World) (hv : PrAt w v l) (hu : PrAt w u k) (hk : k.length ≤ 9223372036854775807) (B : Bool) (hB : B = true ↔ l = k) : Calls Try.prog 20 #[v, u] w fun e w' => e = .returned (.bool B) ∧ Kp [] w w' := by
  obtain ⟨ad, cv, rfl, h1⟩ := hv
  obtain ⟨bd, cu, rfl, h2⟩ := hu
  have H1 := hide h1
  have H2 := hide h2
  have HB := hide hB
  clear h1 h2 hB
  by_cases hlk : l.length = k.length
  · have HN := hide hlk
    rw [hlk]
    clear hlk
    go_enter Try.func20, Try.ntmps20
    go_wp2_with fail
    go_loopw [5] (fun i wr => ∃ t : Nat, t ≤ k.length ∧ i = .int .i64 (t : Int) ∧ Hid (∀ i (h : i < l.length) (h' : i < k.length), i < t → l[i] = k[i]) ∧ Hid (Kp [] w wr)) (fun i _ => k.length - (intOf i).toNat)
    case atStart => exact ⟨0, Nat.zero_le _, rfl, hide (fun i _ _ h => by omega), hide (Kp.refl _ _)⟩
    case round =>
      obtain ⟨t, ht, rfl, HE, HK⟩ := hrel
      by_cases htl : t < k.length
      · have hti : (t : Int) < (k.length : Int) := by omega
        have htl2 : t < l.length := by rw [unhide HN]; exact htl
        obtain ⟨g1, e1, c1, c2⟩ := unhide H1 t htl2
        obtain ⟨g2, e2, c3, c4⟩ := unhide H2 t htl
        obtain rfl := e1
        obtain rfl := e2
        have d1 := (unhide HK).cell c1 (by simp)
        have d2 := (unhide HK).cell c2 (by simp)
        have d3 := (unhide HK).cell c3 (by simp)
        have d4 := (unhide HK).cell c4 (by simp)
        have EQ : ∀ W, (Op.equalIn 10000 41 (.agg #[.int .i64 l[t].1, .int .i64 l[t].2]) (.agg #[.int .i64 k[t].1, .int .i64 k[t].2])).run Try.prog W = .ok (l[t].1 == k[t].1 && l[t].2 == k[t].2) W := fun W => eqP 9998 _ _ _ _ W
        have HQ : Hid ((l[t].1 == k[t].1 && l[t].2 == k[t].2) = true ↔ l[t] = k[t]) := hide (by simp [Prod.ext_iff])
        generalize (l[t].1 == k[t].1 && l[t].2 == k[t].2) = Q at *
        generalize l[t].1 = x1 at *
        generalize l[t].2 = x2 at *
        generalize k[t].1 = x3 at *
        generalize k[t].2 = x4 at *
        clear c1 c2 c3 c4
        cases Q with
        | true =>
          go_wp2_with fail
          go_quiet (fail)
          go_wp2_with fail
          go_roundw
          case rel =>
            refine ⟨t + 1, by omega, by go_num, hide (fun i h h' hi => ?_), hide ((unhide HK).trans (Kp.drewQ _ _) (by simp))⟩
            rcases Nat.lt_or_ge i t with g | g
            · exact unhide HE i h h' g
            · obtain rfl : i = t := by omega
              have := unhide HQ
              simpa using this
          case measure => simp [intOf]; omega
        | false =>
          go_wp2_with fail
          go_quiet (fail)
          go_wp2_with fail
          go_ret
          refine ⟨ret_bool ?_, (unhide HK).trans (Kp.drewQ _ _) (by simp)⟩
          cases B with
          | false => rfl
          | true =>
            have e := (unhide HB).1 rfl
            subst e
            have := (unhide HQ).2 rfl
            cases this
      · obtain rfl : t = k.length := by omega
        have hkk : ¬ (k.length : Int) < (k.length : Int) := by omega
        go_wp2_with fail
        go_ret
        refine ⟨ret_bool ?_, unhide HK⟩
        refine ((unhide HB).2 ?_).symm
        exact List.ext_getElem (unhide HN) (fun i h h' => unhide HE i h h' h')
  · have hli : ¬ (l.length : Int) = (k.length : Int) := by omega
    have HL := hide hlk
    clear hlk
    go_enter Try.func20, Try.ntmps20
    go_wp2_with fail
    go_ret
    refine ⟨ret_bool ?_, Kp.refl _ _⟩
    cases B with
    | false => rfl
    | true => exact absurd (congrArg List.length ((unhide HB).1 rfl)) (unhide HL)
set_option maxHeartbeats 1000000 in
set_option maxRecDepth 100000 in
theorem reverse_any (g n cap : Nat) (f : Nat → Int × Int) (w : World) (h : PrF g n cap f w) (hn : n ≤ 4611686018427387904) : Calls Try.prog 33 #[.slice (some ⟨g, 0, none⟩) n cap] w fun e w' => e = .returned (.tuple #[]) ∧ PrF g n cap (fun i => f (n - 1 - i)) w' ∧ Kp [g] w w' := by
  have HH := hide h
  clear h
  go_enter Try.func33, Try.ntmps33
  go_wp2_with fail
  go_loopw [2, 3] (fun i j wr => ∃ k : Nat, k ≤ n ∧ k * 2 ≤ n + 1 ∧ i = .int .i64 (k : Int) ∧ j = .int .i64 ((n : Int) - 1 - (k : Int)) ∧ Hid (PrF g n cap (fun i => if i < k ∨ n ≤ i + k then f (n - 1 - i) else f i) wr) ∧ Hid (Kp [g] w wr)) (fun i _ _ => n + 1 - (intOf i).toNat)
  case atStart => exact ⟨0, Nat.zero_le _, by omega, rfl, by simp, hide ((unhide HH).ext fun i hi => by rw [if_neg (by omega)]), hide (Kp.refl _ _)⟩
  case round =>
    clear HH
    obtain ⟨k, hk, hk2, rfl, rfl, HP, HK⟩ := hrel
    by_cases hlt : (k : Int) < (n : Int) - 1 - (k : Int)
    · obtain ⟨j, hj⟩ : ∃ j : Nat, j = n - 1 - k := ⟨_, rfl⟩
      have ej : (n : Int) - 1 - (k : Int) = (j : Int) := by omega
      rw [ej] at hlt ⊢
      have hkn : k < n := by omega
      have hjn : j < n := by omega
      have hki : (k : Int) < (n : Int) := by omega
      have hji : (j : Int) < (n : Int) := by omega
      have a1 := (unhide HP).fst k hkn
      have a2 := (unhide HP).snd k hkn
      have a3 := (unhide HP).fst j hjn
      have a4 := (unhide HP).snd j hjn
      rw [if_neg (by omega)] at a1 a2 a3 a4
      have f1 := (unhide HP).froz (k * 2)
      have f2 := (unhide HP).froz (k * 2 + 1)
      have f3 := (unhide HP).froz (j * 2)
      have f4 := (unhide HP).froz (j * 2 + 1)
      have HF : Hid (PrF g n cap (fun i => if i < k + 1 ∨ n ≤ i + (k + 1) then f (n - 1 - i) else f i) (put2 g j (f k) (put2 g k (f j) wr)).drew ∧ Kp [g] w (put2 g j (f k) (put2 g k (f j) wr)).drew) := hide ⟨by
          refine ((((unhide HP).put k hkn (f j)).put j hjn (f k)).kp (Kp.drew _) (by simp)).ext fun i hi => ?_
          by_cases e1 : i = j
          · rw [if_pos e1, if_pos (by omega), e1, show n - 1 - j = k by omega]
          · rw [if_neg e1]
            by_cases e2 : i = k
            · rw [if_pos e2, if_pos (by omega), e2, ← hj]
            · rw [if_neg e2]
              by_cases e3 : i < k ∨ n ≤ i + k
              · rw [if_pos e3, if_pos (by omega)]
              · rw [if_neg e3, if_neg (by omega)], (((unhide HK).trans (Kp.put2 g k (f j) wr) (by simp)).trans (Kp.put2 g j (f k) _) (by simp)).trans (Kp.drew _) (by simp)⟩
      have hw1 : IntKind.i64.wrap ((j : Int) - 1) = (n : Int) - 1 - ((k + 1 : Nat) : Int) := by rw [IntKind.wrap_i64] <;> omega
      have hk3 : (k + 1) * 2 ≤ n + 1 := by omega
      clear HP hj ej
      generalize f k = X at *
      generalize f j = Y at *
      obtain ⟨x1, x2⟩ := X
      obtain ⟨y1, y2⟩ := Y
      go_wp2_with fail
      go_region
      all_goals
        clear a1 a2 a3 a4 f1 f2 f3 f4 HK
        go_wp2_with fail
        go_roundw
        case rel => exact ⟨k + 1, by omega, hk3, by go_num, by first | rfl | (congr 1; omega) | (rw [← hw1]), hide (unhide HF).1, hide (unhide HF).2⟩
        case measure => simp [intOf]; omega
    · go_wp2_with fail
      go_end0
      exact ⟨rfl, (unhide HP).ext fun i hi => by
        by_cases e : i < k ∨ n ≤ i + k
        · rw [if_pos e]
        · rw [if_neg e, show n - 1 - i = i by omega], unhide HK⟩
end Go.Proofs.Ythdfaidjdddagaa
