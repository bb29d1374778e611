/-
  LendItems and KeptItems: a copy of a list with one item more behind its end; that it is as it was.
-/
import Derived.Test.YtijckimjcogfjaaDoorSame
import Derived.Laws.AppendOwnNone
import Derived.Deep.DeepAppendWide
namespace Go.Proofs.YtijckimjcogfjaaDoor
open Go.RowKit

theorem lend_cells {w : World} {g : Addr} {l : List It} (h : ItemsAt w (some g) l) : ∀ j u, (itemC l)[j]? = some u → w.cell? (g.add j) = some u := by
  intro j u hj
  have hlen : (itemC l).length = l.length * 3 := by
    clear h hj
    induction l with
    | nil => rfl
    | cons x r ih =>
      have e : itemC (x :: r) = [.bool x.t, .int .i64 x.n, .string x.s] ++ itemC r := by unfold itemC; rw [List.flatMap_cons]
      rw [e, List.length_append, ih, List.length_cons]; simp; omega
  have hjl : j < l.length * 3 := by
    rcases Nat.lt_or_ge j (itemC l).length with h1 | h1
    · omega
    · rw [List.getElem?_eq_none h1] at hj; cases hj
  have hne : l ≠ [] := fun e => by rw [e] at hjl; simp at hjl
  obtain ⟨b, off, e, _, hc⟩ := h hne
  obtain rfl := Option.some.inj e
  rw [Go.WideShapes.add_plain]
  obtain ⟨c0, c1, c2⟩ := hc (j / 3) (by omega)
  obtain ⟨g0, g1, g2⟩ := itemC_get l (j / 3) (by omega)
  rcases (by omega : j = j / 3 * 3 ∨ j = j / 3 * 3 + 1 ∨ j = j / 3 * 3 + 2) with e | e | e
  · rw [e] at hj; rw [g0] at hj; rw [e, ← hj]; exact c0
  · rw [e] at hj; rw [g1] at hj; rw [e, ← hj, ← Nat.add_assoc]; exact c1
  · rw [e] at hj; rw [g2] at hj; rw [e, ← hj, ← Nat.add_assoc]; exact c2
theorem lendC_one (l : List It) : ∀ u ∈ itemC l, u.oneCell' = true := by
  intro u hu
  obtain ⟨x, _, hx⟩ := List.mem_flatMap.1 hu
  simp at hx
  rcases hx with rfl | rfl | rfl <;> rfl
theorem lendC_len (l : List It) : (itemC l).length = l.length * 3 := by
  induction l with
  | nil => rfl
  | cons x r ih =>
    have e : itemC (x :: r) = [.bool x.t, .int .i64 x.n, .string x.s] ++ itemC r := by unfold itemC; rw [List.flatMap_cons]
    rw [e, List.length_append, ih, List.length_cons]; simp; omega
/-- A list of items put at the end of a row of the call's own. -/
theorem wpList_itemsW {w : World} {ops : Array Oper} {rest : List Oper} {o : Oper} {a : Act} {Q : Exit → Act → World → Prop} (hgd : o.guard = none) (s x : Operand)
    (ho : o.op = .call { callee := .builtin .append, args := #[s, x], argTypes := #[22, 22] })
    (B : Nat) (v : Value) (xs : List It) (hs : a.eval s = v) (hown : OwnsI B w v xs) (ad : Option Addr) (cap : Nat) (l : List It) (hx : a.eval x = .slice ad l.length cap) (hnil : ad = none → cap = 0) (hI : ItemsAt w ad l)
    (hb : xs.length + l.length ≤ 4398046511105) (hbase : B ≤ w.heap.size)
    (h : ∀ v' w', OwnsI B w' v' (xs ++ l) → Fr B 35 w w' → wpList Tryd.prog ops Q rest (a.put o.dst v') w') : wpList Tryd.prog ops Q (o :: rest) a w := by
  obtain ⟨i0, hi, hz0, hz1, hz2⟩ := info_parts info_Item
  cases ad with
  | none =>
    have hl : l = [] := by
      by_cases e : l = []
      · exact e
      · obtain ⟨_, _, e2, _⟩ := hI e; cases e2
    subst hl
    refine wpList_append_own_none hgd s x 22 ho B 35 i0 3 Tryd.underlying22 hi v xs.length (itemC xs) hs hown (by rw [hx, hnil rfl]; rfl) ?_
    exact h v w (by rw [List.append_nil]; exact hown) (Fr.refl _ _ _)
  | some g =>
    refine wpList_append_own_wide w hgd s x 22 ho B 35 i0 (.agg #[.bool false, .int .i64 0, .string ⟨#[]⟩]) 3 32 Tryd.underlying22 hi hz0 hz1 hz2 rfl (by decide) v xs.length (itemC xs) hs hown g l.length cap (itemC l) hx (lendC_len l) (lend_cells hI) (lendC_one l) (by unfold maxLen; omega) (by omega) hbase ?_
    intro v' w' h1 h2 _
    refine h v' w' ?_ ((Fr.refl _ _ _).grown hown h2 hbase)
    unfold OwnsI
    rw [itemC_append, List.length_append]
    exact h1
theorem lend_hold {B : Nat} {w : World} {v : Value} {l : List It} {x : It} (h : OwnsI B w v (l ++ [x])) : ∃ g cp, v = .slice (some ⟨g, 0, none⟩) (l.length + 1) cp ∧ l.length + 1 ≤ cp ∧ cp ≤ maxLen ∧ g < w.heap.size ∧ ItemsAt w (some ⟨g, 0, none⟩) l ∧ w.cell? ⟨g, l.length * 3 + 1, none⟩ = some (.int .i64 x.n) := by
  have hl : (l ++ [x]).length = l.length + 1 := by simp
  obtain ⟨ad, cp, hv, hi⟩ := h.items
  obtain ⟨b, off, e, hb, hc⟩ := hi (by simp)
  obtain ⟨_, ⟨e2, _⟩ | ⟨g, cp', cur, e2, _, _, hn, hm, _⟩⟩ := id h
  · rw [hv] at e2; simp at e2
  · rw [hl] at e2 hn
    rw [hv] at e2
    rw [e] at e2
    simp only [Value.slice.injEq, Option.some.injEq, Addr.mk.injEq] at e2
    obtain ⟨⟨rfl, rfl, _⟩, _, rfl⟩ := e2
    subst e
    refine ⟨b, cp, by rw [hv, hl], hn, hm, hb, fun hne => ⟨b, 0, rfl, hb, fun i hi' => ?_⟩, ?_⟩
    · have := hc i (by rw [hl]; omega)
      rw [List.getElem_append_left hi'] at this
      exact this
    · have := (hc l.length (by rw [hl]; omega)).2.1
      rw [List.getElem_append_right (Nat.le_refl _)] at this
      simpa using this
set_option maxHeartbeats 1000000 in
theorem lendItems_any (ad : Option Addr) (cap : Nat) (l : List It) (w : World) (hlen : l.length ≤ 4398046511104) (hA : ItemsAt w ad l) (hn : ad = none → cap = 0) :
    Calls Tryd.prog 4 #[.slice ad l.length cap] w fun e w' => ∃ g cp, e = .returned (.slice (some ⟨g, 0, none⟩) l.length cp) ∧ OwnsI w.heap.size w' (.slice (some ⟨g, 0, none⟩) (l.length + 1) cp) (l ++ [⟨false, -77, ⟨#[]⟩⟩]) ∧ Below w.heap.size w w' := by
  have ow : OwnsI w.heap.size (w.alloc (.cells #[] 35)) (.slice (some ⟨w.heap.size, 0, none⟩) 0 0) [] := World.ownsRow_made w #[] 0 (Nat.le_refl _) (by unfold maxLen; omega) (by simp)
  have hb0 : Below w.heap.size w (w.alloc (.cells #[] 35)) := (Below.refl _ _).alloc (Nat.le_refl _) _
  have ia := hA.below hb0 (Nat.le_refl _)
  have OW := hide ow
  have IA := hide ia
  have HN := hide hn
  have HB0 := hide hb0
  obtain ⟨i0, hi, hz0, hz1, hz2⟩ := info_parts info_Item
  clear ow ia hn hA hb0
  go_enter Tryd.func4, Tryd.ntmps4
  go_wp2_with (at_builtin; refine wpList_itemsW rfl (.tmp 4) (.tmp 5) rfl w.heap.size _ [] rfl (unhide OW) ad cap l rfl (unhide HN) (unhide IA) (by simp; omega) (unhide HB0).size ?_)
  intro v4 w4 ho4 hf4
  have hb4 := (unhide HB0).trans hf4.below
  have hz4 := hb4.size
  clear hf4 OW IA HB0
  go_wp2_with (at_builtin; refine wpList_append_own_wide _ rfl _ _ 22 rfl w.heap.size 35 i0 (.agg #[.bool false, .int .i64 0, .string ⟨#[]⟩]) 3 32 Tryd.underlying22 hi hz0 hz1 hz2 rfl (by decide) v4 l.length (itemC l) rfl ((ho4.alloc _)) ⟨w4.heap.size, 0, none⟩ 1 1 [.bool false, .int .i64 (-77), .string ⟨#[]⟩] rfl rfl ?c1 ?c2 ?c3 ?c4 ?c5 ?_)
  case c1 =>
    intro q u hq
    match q, hq with
    | 0, hq => simp at hq; subst hq; simp [Addr.add]
    | 1, hq => simp at hq; subst hq; simp [Addr.add]
    | 2, hq => simp at hq; subst hq; simp [Addr.add]
  case c2 => intro u hu; simp at hu; rcases hu with rfl | rfl | rfl <;> rfl
  case c3 => unfold maxLen; omega
  case c4 => omega
  case c5 => simp; omega
  intro v5 w5 ho5 hg5 _
  have hf5 : Fr w.heap.size 35 w4 w5 := ((Fr.refl _ _ w4).alloc hz4 _).grown (ho4.alloc _) hg5 (by simp; omega)
  have ho6 : OwnsI w.heap.size w5 v5 (l ++ [⟨false, -77, ⟨#[]⟩⟩]) := by
    unfold OwnsI
    rw [itemC_append, List.length_append]
    exact ho5
  have hb6 := hb4.trans hf5.below
  obtain ⟨g, cp, rfl, hcp, hcm, _⟩ := lend_hold ho6
  have HO := hide ho6
  unfold maxLen at hcm
  clear ho5 hg5 hf5 ho4 hb4 ho6
  go_wp2
  go_ret
  exact ⟨g, cp, rfl, unhide HO, hb6⟩
set_option maxHeartbeats 1000000 in
theorem keptItems_any (B g cp : Nat) (ad : Option Addr) (cap : Nat) (l : List It) (w : World) (hlen : l.length ≤ 4398046511104) (hO : OwnsI B w (.slice (some ⟨g, 0, none⟩) (l.length + 1) cp) (l ++ [⟨false, -77, ⟨#[]⟩⟩])) (hA : ItemsAt w ad l) :
    Calls Tryd.prog 11 #[.slice (some ⟨g, 0, none⟩) l.length cp, .slice ad l.length cap] w fun e w' => e = .returned (.bool true) ∧ ∃ n, w' = w.drewN n := by
  obtain ⟨g', cp', e, hcp, hcm, hgl, hI, hc⟩ := lend_hold hO
  simp only [Value.slice.injEq, Option.some.injEq, Addr.mk.injEq] at e
  obtain ⟨⟨rfl, _⟩, _, rfl⟩ := e
  unfold maxLen at hcm
  have sm := sameItems_true (some ⟨g, 0, none⟩) ad cp cap l w hI hA (by omega)
  have SM := hide sm
  dsimp only at hc
  clear sm hI hA hO
  go_enter Tryd.func11, Tryd.ntmps11
  go_wp2_with fail
  refine (unhide SM).mono ?_
  rintro e w1 ⟨rfl, n, rfl⟩
  go_wp2
  go_ret
  exact ⟨rfl, n, rfl⟩
set_option maxHeartbeats 400000 in
theorem names_any (w : World) : Calls Tryd.prog 9 #[] w fun e w' => e = .returned (.bool true) ∧ w' = w := by
  go_enter Tryd.func9, Tryd.ntmps9
  go_wp2
  go_ret
  exact ⟨rfl, rfl⟩
end Go.Proofs.YtijckimjcogfjaaDoor
