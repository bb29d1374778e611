/-
  LendInts: the walk.
-/
import Derived.Test.YtnikkjbjidhhlaaLdI
namespace Go.Proofs.Ytnikkjbjidhhlaa
open Go.RowKit

theorem wpList_ints {w : World} {ops : Array Oper} {rest : List Oper} {o : Oper} {a : Act} {Q : Exit → Act → World → Prop} (hg : o.guard = none) (s x : Operand) (hop : o.op = .call { callee := .builtin .append, args := #[s, x], argTypes := #[34, 34] })
    {ad : Option Addr} {m c g2 n2 cap2 : Nat} {A l : List Int} (hs : a.eval s = .slice (some ⟨g2, 0, none⟩) n2 cap2) (hx : a.eval x = .slice ad m c) (hm : m = l.length) (h : IntsAt w ad l) (ha : ad = none → l = [] ∧ c = 0) (ho : IRw w (.slice (some ⟨g2, 0, none⟩) n2 cap2) A) (hl : A.length + l.length ≤ 17592186044416)
    (hK : ∀ g cap N w', Hid (N = (A ++ l).length) → Hid (IRw w' (.slice (some ⟨g, 0, none⟩) N cap) (A ++ l)) → Hid (w.grownBy w' (some g2)) → Hid (g = g2 ∨ g = w.heap.size) → wpList Try.prog ops Q rest (a.put o.dst (.slice (some ⟨g, 0, none⟩) N cap)) w') : wpList Try.prog ops Q (o :: rest) a w := by
  subst hm
  refine wpList_plain hg fun K' hK' => ?_
  obtain ⟨g, cap, w', hrun, h1, h2, h3⟩ := appInts h ha ho hl o.type
  have hk := hK' _ _ (hK g cap _ w' rfl h1 h2 h3)
  unfold Oper.wp
  simp [execOp, hop, resolve, invoke, builtin, hs, hx, hrun, Result.andThen]
  simp at hk
  exact hk
theorem IRw.kp {F : List Nat} {w w' : World} {v : Value} {l : List Int} (h : IRw w v l) (hk : Kp F w w') (hF : ∀ k, v.ownBlock = some k → k ∉ F) : IRw w' v l := by
  obtain ⟨h1, h2 | ⟨g, cp, cur, rfl, hb, hh, r⟩⟩ := h
  · exact ⟨h1, Or.inl h2⟩
  · exact ⟨h1, Or.inr ⟨g, cp, cur, rfl, hb, (hk.block g (Array.getElem?_eq_some_iff.1 hh).1 (hF g rfl)).trans hh, r⟩⟩
theorem ints_mark (W : World) : IntsAt (W.alloc (.cells #[.int .i64 (-77)] 3)) (some ⟨W.heap.size, 0, none⟩) [-77] := fun _ => by
  refine ⟨W.heap.size, 0, rfl, by simp, fun i hi => ?_⟩
  have h := CBox.new W #[.int .i64 (-77)] 3
  obtain rfl : i = 0 := by simpa using hi
  exact h.cell rfl
theorem IRw.cap {w : World} {g n c : Nat} {l : List Int} (h : IRw w (.slice (some ⟨g, 0, none⟩) n c) l) : n = l.length ∧ l.length ≤ c ∧ c ≤ 9223372036854775807 := by
  obtain ⟨_, ⟨e, _⟩ | ⟨g', cp, cur, e, _, _, hn, hm, _⟩⟩ := h
  · cases e
  · injection e with _ e2 e3
    unfold maxLen at hm
    exact ⟨e2, by omega, by omega⟩
theorem lend_cap {w : World} {g n c : Nat} {l : List Int} (h : IRw w (.slice (some ⟨g, 0, none⟩) n c) ([] ++ l ++ [-77])) : l.length + 1 ≤ c := by
  have := h.cap.2.1
  rw [List.length_append, List.nil_append] at this
  exact this
set_option maxHeartbeats 1000000 in
set_option maxRecDepth 100000 in
theorem lendInts_any (ad : Option Addr) (cap : Nat) (l : List Int) (w : World) (hl : l.length + 1 ≤ 17592186044416) (h : IntsAt w ad l) (ha : ad = none → l = [] ∧ cap = 0) :
    Calls Try.prog 21 #[.slice ad l.length cap] w fun r w' => ∃ g c, r = .returned (.slice (some ⟨g, 0, none⟩) l.length c) ∧ l.length + 1 ≤ c ∧ IRw w' (.slice (some ⟨g, 0, none⟩) (l.length + 1) c) (l ++ [-77]) ∧ w.heap.size ≤ g ∧ Kp [] w w' := by
  have hA : IntsAt (w.alloc (.cells #[] 3)) ad l := fun hne => by
    obtain ⟨b, off, e, hlt, hc⟩ := h hne
    have hk := Kp.alloc w (.cells #[] 3)
    exact ⟨b, off, e, Nat.lt_of_lt_of_le hlt hk.size, fun i hi => hk.cell (hc i hi) (by simp)⟩
  have HA := hide hA
  have HR0 := hide (IRw.empty w)
  have HAD := hide ha
  have hL0 : ([] : List Int).length + l.length ≤ 17592186044416 := by rw [List.length_nil]; omega
  have hL1 : ([] ++ l : List Int).length + ([-77] : List Int).length ≤ 17592186044416 := by rw [List.nil_append]; simp; omega
  clear h ha hA
  go_enter Try.func21, Try.ntmps21
  go_wp2_with (first
    | (at_builtin; refine wpList_ints (l := [-77]) rfl _ _ rfl rfl rfl rfl (ints_mark w3) (fun hx => nomatch hx) (unhide HR4) hL1 ?_; intro g4 cap4 N4 w4 HN4 HR5 HG4 HAT4; have hcap := lend_cap (unhide HR5); have hcap0 : l.length ≤ cap4 := Nat.le_of_succ_le hcap)
    | (at_builtin; refine wpList_ints (l := l) rfl _ _ rfl rfl rfl rfl (unhide HA) (unhide HAD) (unhide HR0) hL0 ?_; intro g3 cap3 N3 w3 HN3 HR3 HG3 HAT3; have HR4 := hide ((unhide HR3).kp (Kp.alloc w3 (.cells #[.int .i64 (-77)] 3)) (by simp))))
  go_ret
  have k3 : Kp [] w w3 := (Kp.alloc w (.cells #[] 3)).trans (Kp.of (unhide HG3)) (fun x hx => Or.inr (by simp at hx; omega))
  have hz : (w.alloc (.cells #[] 3)).heap.size = w.heap.size + 1 := by simp
  have hg3 : w.heap.size ≤ g3 := by rcases unhide HAT3 with e | e <;> omega
  have k4 := (k3.trans (Kp.alloc w3 (.cells #[.int .i64 (-77)] 3)) (by simp)).trans (Kp.of (unhide HG4)) (fun x hx => Or.inr (by simp at hx; omega))
  have hz3 : (w3.alloc (.cells #[.int .i64 (-77)] 3)).heap.size = w3.heap.size + 1 := by simp
  have hs3 := k3.size
  have hg4 : w.heap.size ≤ g4 := by rcases unhide HAT4 with e | e <;> omega
  have hr5 := unhide HR5
  rw [unhide HN4] at hr5
  exact ⟨g4, cap4, rfl, hcap, by simpa using hr5, hg4, k4⟩
end Go.Proofs.Ytnikkjbjidhhlaa
