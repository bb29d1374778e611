/-
  A source beside the keys that were seen: Put, Part, a key more, a mark.
-/
import Derived.Test.YtkcbjjpbcgdabaaSKy0
namespace Go.Proofs.Ytkcbjjpbcgdabaa
open Go.RowKit

theorem SrcAt.noMap {w : World} {g b : Nat} {F : List Nat} {ps : List (List Ev)} {es : Array MapEntry} {c : Nat} (h : SrcAt w g F ps) (hb : w.heap[b]? = some (.map es c)) : b ∉ F := by
  obtain ⟨q, vs, hs, rfl⟩ := h
  intro hm
  unfold soF at hm
  rw [List.mem_cons, List.mem_cons] at hm
  rcases hm with rfl | rfl | hm
  · have hc : w.heap[b]? = _ := hs.box
    rw [hc] at hb; cases hb
  · have hc : w.heap[b]? = _ := hs.row
    rw [hc] at hb; cases hb
  · obtain ⟨v, hv, hk⟩ := List.mem_filterMap.1 hm
    obtain ⟨i, hi, rfl⟩ := List.mem_iff_getElem.1 hv
    obtain ⟨cur, hc⟩ := (hs.inn i _ (ps[i]'(by rw [← hs.len]; exact hi)) (List.getElem?_eq_getElem hi) (List.getElem?_eq_getElem _)).block hk
    rw [hc] at hb; cases hb
theorem strBlock {w : World} {B n k : Nat} {e s : Nat} {v : Value} {xs : List Value} (h : w.ownsRow B e s v n xs) (hk : v.ownBlock = some k) : ∃ cur, CBox k cur e w := by
  obtain ⟨_, ⟨rfl, h0⟩ | ⟨g, cp, cur, rfl, _, hh, _⟩⟩ := h
  · simp [Value.ownBlock] at hk
  · simp [Value.ownBlock] at hk
    subst hk
    exact ⟨cur, hh⟩
theorem rowKp2 {F : List Nat} {w w' : World} {B e s n : Nat} {v : Value} {xs : List Value} (h : w.ownsRow B e s v n xs) (hk : Kp F w w') (hF : ∀ k, v.ownBlock = some k → k ∉ F) : w'.ownsRow B e s v n xs := by
  obtain ⟨h1, h2 | ⟨g, cp, cur, rfl, hb, hh, r⟩⟩ := h
  · exact ⟨h1, Or.inl h2⟩
  · exact ⟨h1, Or.inr ⟨g, cp, cur, rfl, hb, (hk.block g (Array.getElem?_eq_some_iff.1 hh).1 (hF g rfl)).trans hh, r⟩⟩
/-- A source, a row of keys, and a map of keys. -/
structure KyS (w0 w : World) (g bm : Nat) (v : Value) (ks ss : List ByteArray) (ps : List (List Ev)) : Prop where
  src : ∃ F, SrcAt w g F ps ∧ ∀ k ∈ F, w0.heap.size ≤ k
  kp : Kp [] w0 w
  row : w.ownsRow w0.heap.size 9 1 v ks.length (ks.map Value.string)
  seen : SeenIs w bm ss
  bm0 : w0.heap.size ≤ bm
section
variable {w0 w w' : World} {g bm : Nat} {v : Value} {ks ss : List ByteArray} {ps : List (List Ev)}
theorem KyS.next (h : KyS w0 w g bm v ks ss ps) (hk : Kp [] w w') : KyS w0 w' g bm v ks ss ps := by
  obtain ⟨F, hd, hF⟩ := h.src
  exact ⟨⟨F, hd.kp hk (by simp), hF⟩, h.kp.trans hk (by simp), rowKp2 h.row hk (by simp), h.seen.kp hk (by simp), h.bm0⟩
theorem KyS.own (h : KyS w0 w g bm v ks ss ps) : OwnSo w0 w g ps := let ⟨F, hd, hF⟩ := h.src; ⟨F, hd, h.kp, hF⟩
theorem KyS.put (h : KyS w0 w g bm v ks ss ps) (e : Ev) (hok : e.ok) : Calls Try.prog 16 #[.pointer (some ⟨g, 0, none⟩), .agg e.c] w fun r w' => r = .returned (.tuple #[.int .i64 (puA ps e), .int .i64 (puO ps e), .int .i64 (puE ps e)]) ∧ KyS w0 w' g bm v ks ss (puS ps e) := by
  obtain ⟨F, hd, hF⟩ := h.src
  refine (sput_any g F ps e w hd hok).mono fun r w' hh => ⟨hh.1, ?_⟩
  have ho := hh.2.own h.kp hF
  obtain ⟨F2, hd2, hk2, hF2⟩ := ho
  obtain ⟨F', _, hk, _⟩ := hh.2
  obtain ⟨es, c, hm⟩ := h.seen.here
  exact ⟨⟨F2, hd2, hF2⟩, hk2, rowKp2 h.row hk (fun k hv => by
    obtain ⟨cur, hb⟩ := strBlock h.row hv
    exact hd.no hb (by decide) (by decide) (by decide)), h.seen.kp hk (hd.noMap hm), h.bm0⟩
theorem KyS.part (h : KyS w0 w g bm v ks ss ps) (s : ByteArray) (hs : s.size ≤ 9223372036854775807) : Calls Try.prog 25 #[.pointer (some ⟨g, 0, none⟩), .string s] w fun r w' => r = .returned (.int .i64 ((partOf ps.length s : Nat) : Int)) ∧ KyS w0 w' g bm v ks ss ps ∧ Kp [] w w' := by
  obtain ⟨q, vs, h1⟩ := h.own.src
  exact (part_any g q vs ps s w h1 hs).mono fun r w' hh => ⟨hh.1, h.next hh.2, hh.2⟩
theorem KyS.push {o : Obj} {v' : Value} {s : ByteArray} (h : KyS w0 w g bm v ks ss ps) (hown : w'.ownsRow w0.heap.size 9 1 v' (ks.length + 1) (ks.map Value.string ++ [.string s])) (hg : (w.alloc o).grownBy w' v.ownBlock) : KyS w0 w' g bm v' (ks ++ [s]) ss ps := by
  have hA := h.next (Kp.alloc w o)
  have hk := Kp.of hg
  obtain ⟨F, hd, hF⟩ := hA.src
  obtain ⟨es, c, hm⟩ := hA.seen.here
  refine ⟨⟨F, hd.kp hk (fun k hkF hv => ?_), hF⟩, hA.kp.trans hk (fun k hv => Or.inr (World.ownsRow.lt hA.row k (by simpa using hv)).1), by rw [List.length_append, List.map_append]; exact hown, hA.seen.kp hk (fun hv => ?_), h.bm0⟩
  · obtain ⟨cur, hb⟩ := strBlock hA.row (k := k) (by simpa using hv)
    exact hd.no hb (by decide) (by decide) (by decide) hkF
  · obtain ⟨cur, hb⟩ := strBlock hA.row (k := bm) (by simpa using hv)
    unfold CBox at hb
    rw [hm] at hb; cases hb
theorem KyS.mark {ss' : List ByteArray} (h : KyS w0 w g bm v ks ss ps) (hs : SeenIs w' bm ss') (hg : w.grownBy w' (some bm)) : KyS w0 w' g bm v ks ss' ps := by
  have hk := Kp.of hg
  obtain ⟨F, hd, hF⟩ := h.src
  obtain ⟨es, c, hm⟩ := h.seen.here
  refine ⟨⟨F, hd.kp hk (fun k hkF hv => ?_), hF⟩, h.kp.trans hk (fun k hv => Or.inr (by simp at hv; rw [hv]; exact h.bm0)), rowKp2 h.row hk (fun k hv hx => ?_), hs, h.bm0⟩
  · simp at hv
    subst hv
    exact hd.noMap hm hkF
  · simp at hx
    subst hx
    obtain ⟨cur, hb⟩ := strBlock h.row hv
    unfold CBox at hb
    rw [hm] at hb; cases hb
end
theorem wpList_seen {w : World} {ops : Array Oper} {rest : List Oper} {o : Oper} {a : Act} {Q : Exit → Act → World → Prop} {b : Nat} {ks : List ByteArray} (hg : o.guard = none) (m x : Operand) (hop : o.op = Op.lookup 66 m x false) (hm : a.eval m = .map (some b)) (h : SeenIs w b ks) (s : ByteArray) (hx : a.eval x = .string s)
    (hK : wpList Try.prog ops Q rest (a.put o.dst (.bool (kHas ks s))) w) : wpList Try.prog ops Q (o :: rest) a w := by
  refine wpList_plain hg fun K' hK' => ?_
  have hrun := h.look s
  unfold Oper.wp
  simp [execOp, hop, hm, hx, hrun, Result.andThen]
  exact hK' _ _ hK
theorem wpList_mark {w : World} {ops : Array Oper} {rest : List Oper} {o : Oper} {a : Act} {Q : Exit → Act → World → Prop} {b : Nat} {ks : List ByteArray} (hg : o.guard = none) (m x y : Operand) (hop : o.op = Op.mapUpdate 66 m x y) (hm : a.eval m = .map (some b)) (h : SeenIs w b ks) (s : ByteArray) (hx : a.eval x = .string s) (hy : a.eval y = .bool true)
    (hK : ∀ w', SeenIs w' b (kAdd ks s) → w.grownBy w' (some b) → wpList Try.prog ops Q rest (a.put o.dst undef) w') : wpList Try.prog ops Q (o :: rest) a w := by
  refine wpList_plain hg fun K' hK' => ?_
  obtain ⟨w', hrun, r1, r2⟩ := h.store s
  unfold Oper.wp
  simp [execOp, hop, hm, hx, hy, hrun, Result.andThen]
  exact hK' _ _ (hK w' r1 r2)
end Go.Proofs.Ytkcbjjpbcgdabaa
