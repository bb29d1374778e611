/-
  A source as it lies in memory; Part, end, isOffset.
-/
import Derived.Test.YtnikkjbjidhhlaaSoA
import Derived.Deep.QuietTactic
import Derived.BigQuiet
namespace Go.Proofs.Ytnikkjbjidhhlaa
open Go.RowKit

theorem info_event : (Try.prog.info? 45).map (fun i => (i.zero, i.size, i.bytes)) = some (some (.agg #[.string ⟨#[]⟩, .string ⟨#[]⟩, .int .i64 0, .int .i64 0, .int .i64 0, .int .i64 0, .string ⟨#[]⟩]), 7, 80) := by kernel_rfl
/-- Events as cells. -/
def evC (l : List Ev) : List Value := l.flatMap fun e => e.c.toList
theorem evC_append (a b : List Ev) : evC (a ++ b) = evC a ++ evC b := by unfold evC; exact List.flatMap_append ..
theorem evC_one (e : Ev) : evC [e] = e.c.toList := by unfold evC; simp
theorem Ev.c_size (e : Ev) : e.c.toList.length = 7 := rfl
theorem evC_length (l : List Ev) : (evC l).length = l.length * 7 := by
  induction l with
  | nil => rfl
  | cons e r ih =>
    have : evC (e :: r) = e.c.toList ++ evC r := rfl
    rw [this, List.length_append, ih, e.c_size, List.length_cons]; omega
/-- A row of events of one's own. -/
def EvRow (w : World) (v : Value) (l : List Ev) : Prop := w.ownsRow 0 45 7 v l.length (evC l)
theorem EvRow.nil (w : World) : EvRow w (.slice none 0 0) [] := World.ownsRow_nil _ _ _ _
theorem EvRow.form {w : World} {v : Value} {l : List Ev} (h : EvRow w v l) : ∃ ad cap, v = .slice ad l.length cap ∧ l.length ≤ cap ∧ cap ≤ 9223372036854775807 ∧ (l ≠ [] → ∃ g, ad = some ⟨g, 0, none⟩) := by
  obtain ⟨_, ⟨rfl, h0⟩ | ⟨g, cp, cur, rfl, _, _, hn, hm, _⟩⟩ := h
  · exact ⟨_, _, by rw [h0], by omega, by simp, fun hne => absurd (List.eq_nil_of_length_eq_zero h0) hne⟩
  · exact ⟨_, _, rfl, hn, by unfold maxLen at hm; omega, fun _ => ⟨g, rfl⟩⟩
theorem EvRow.lt {w : World} {v : Value} {l : List Ev} (h : EvRow w v l) {k : Nat} (hk : v.ownBlock = some k) : k < w.heap.size := (World.ownsRow.lt h k hk).2
theorem EvRow.block {w : World} {v : Value} {l : List Ev} (h : EvRow w v l) {k : Nat} (hk : v.ownBlock = some k) : ∃ cur, w.heap[k]? = some (.cells cur 45 (0, 0)) := by
  obtain ⟨_, ⟨rfl, h0⟩ | ⟨g, cp, cur, rfl, _, hh, _⟩⟩ := h
  · simp [Value.ownBlock] at hk
  · simp [Value.ownBlock] at hk
    subst hk
    exact ⟨cur, hh⟩
theorem EvRow.kp {F : List Nat} {w w' : World} {v : Value} {l : List Ev} (h : EvRow w v l) (hk : Kp F w w') (hF : ∀ k, v.ownBlock = some k → k ∉ F) : EvRow w' v l := by
  obtain ⟨h1, h2 | ⟨g, cp, cur, rfl, hb, hh, r⟩⟩ := h
  · exact ⟨h1, Or.inl h2⟩
  · exact ⟨h1, Or.inr ⟨g, cp, cur, rfl, hb, (hk.block g (Array.getElem?_eq_some_iff.1 hh).1 (hF g rfl)).trans hh, r⟩⟩
/-- A source lies there: its box at g, its row of rows at q, the rows vs. -/
structure SrcV (w : World) (g q : Nat) (vs : List Value) (ps : List (List Ev)) : Prop where
  box : CBox g #[.slice (some ⟨q, 0, none⟩) ps.length ps.length] 78 w
  row : CBox q vs.toArray 51 w
  len : vs.length = ps.length
  pos : 1 ≤ ps.length
  few : ps.length ≤ 16
  inn : ∀ (i : Nat) (v : Value) (p : List Ev), vs[i]? = some v → ps[i]? = some p → EvRow w v p
  apa : ∀ (i j : Nat) (u v : Value) (b : Nat), vs[i]? = some u → vs[j]? = some v → u.ownBlock = some b → v.ownBlock = some b → i = j
  lim : ∀ p ∈ ps, p.length ≤ 4096
  sm : ∀ p ∈ ps, ∀ e ∈ p, e.sm
def soF (g q : Nat) (vs : List Value) : List Nat := g :: q :: vs.filterMap Value.ownBlock
theorem SrcV.kp {F : List Nat} {w w' : World} {g q : Nat} {vs : List Value} {ps : List (List Ev)} (h : SrcV w g q vs ps) (hk : Kp F w w') (hF : ∀ k ∈ soF g q vs, k ∉ F) : SrcV w' g q vs ps :=
  ⟨h.box.kp hk (hF g (by simp [soF])), h.row.kp hk (hF q (by simp [soF])), h.len, h.pos, h.few, fun i v p hv hp => (h.inn i v p hv hp).kp hk (fun k hk1 => hF k (by unfold soF; exact List.mem_cons_of_mem _ (List.mem_cons_of_mem _ (List.mem_filterMap.2 ⟨v, List.mem_of_getElem? hv, hk1⟩)))), h.apa, h.lim, h.sm⟩
theorem SrcV.lt {w : World} {g q : Nat} {vs : List Value} {ps : List (List Ev)} (h : SrcV w g q vs ps) : ∀ k ∈ soF g q vs, k < w.heap.size := fun k hk => by
  unfold soF at hk
  rw [List.mem_cons, List.mem_cons] at hk
  rcases hk with rfl | rfl | hk
  · exact (Array.getElem?_eq_some_iff.1 h.box).1
  · exact (Array.getElem?_eq_some_iff.1 h.row).1
  · obtain ⟨v, hv, hb⟩ := List.mem_filterMap.1 hk
    obtain ⟨i, hi, rfl⟩ := List.mem_iff_getElem.1 hv
    exact (h.inn i _ (ps[i]'(by rw [← h.len]; exact hi)) (List.getElem?_eq_getElem hi) (List.getElem?_eq_getElem _)).lt hb
theorem SrcV.cells {w : World} {g q : Nat} {vs : List Value} {ps : List (List Ev)} (h : SrcV w g q vs ps) : w.cell? ⟨g, 0, none⟩ = some (.slice (some ⟨q, 0, none⟩) ps.length ps.length) := h.box.cell rfl
theorem SrcV.at {w : World} {g q : Nat} {vs : List Value} {ps : List (List Ev)} (h : SrcV w g q vs ps) (i : Nat) (hi : i < ps.length) : ∃ ad cap, w.cell? ⟨q, i, none⟩ = some (.slice ad (ps[i]).length cap) ∧ vs[i]? = some (.slice ad (ps[i]).length cap) ∧ EvRow w (.slice ad (ps[i]).length cap) ps[i] := by
  have hv : i < vs.length := by rw [h.len]; exact hi
  have hr := h.inn i vs[i] ps[i] (List.getElem?_eq_getElem hv) (List.getElem?_eq_getElem hi)
  obtain ⟨ad, cap, e, _⟩ := hr.form
  rw [e] at hr
  refine ⟨ad, cap, ?_, by rw [List.getElem?_eq_getElem hv, e], hr⟩
  exact h.row.cell (by simp [List.getElem?_eq_getElem hv, e])
/-- The partition of a key. -/
def partN (n : Nat) : List UInt8 → Nat → Nat
  | [], a => a
  | b :: r, a => partN n r ((a + b.toNat) % n)
theorem partN_lt (n : Nat) (hn : 0 < n) : ∀ (l : List UInt8) (a : Nat), a < n → partN n l a < n
  | [], _, h => h
  | _ :: r, _, _ => partN_lt n hn r _ (Nat.mod_lt _ hn)
def partOf (n : Nat) (s : ByteArray) : Nat := partN n s.data.toList 0
theorem partOf_lt (n : Nat) (hn : 0 < n) (s : ByteArray) : partOf n s < n := partN_lt n hn _ 0 hn
set_option maxHeartbeats 1000000 in
set_option maxRecDepth 100000 in
theorem part_any (g q : Nat) (vs : List Value) (ps : List (List Ev)) (s : ByteArray) (w : World) (h : SrcV w g q vs ps) (hs : s.size ≤ 9223372036854775807) :
    Calls Try.prog 25 #[.pointer (some ⟨g, 0, none⟩), .string s] w fun r w' => r = .returned (.int .i64 ((partOf ps.length s : Nat) : Int)) ∧ Kp [] w w' := by
  have c0 := h.cells
  have h1 := h.pos
  have h2 := h.few
  generalize hR : partOf ps.length s = R
  have HR := hide hR
  clear hR h
  generalize ps.length = n at *
  go_enter Try.func25, Try.ntmps25
  go_wp2_with fail
  go_loopw [5, 9] (fun p i wr => ∃ k a m : Nat, k ≤ s.size ∧ p = .int .i64 (a : Int) ∧ i = .int .i64 (k : Int) ∧ a < n ∧ Hid (partN n (s.data.toList.drop k) a = R) ∧ wr = w.drewN m) (fun _ i _ => s.size - (intOf i).toNat)
  case atStart => exact ⟨0, 0, 0, Nat.zero_le _, rfl, rfl, by omega, hide (by simpa [partOf] using unhide HR), rfl⟩
  case round =>
    obtain ⟨k, a, m, hk, rfl, rfl, ha, HK, rfl⟩ := hrel
    have c1 : (w.drewN m).cell? ⟨g, 0, none⟩ = some (.slice (some ⟨q, 0, none⟩) n n) := c0
    by_cases hlt : k < s.size
    · have hK := unhide HK
      rw [drop_get s k hlt, partN] at hK
      have hb := s[k].toNat_lt
      have HK2 := hide hK
      clear hK HK HR
      have hm : (a + s[k].toNat) % n < n := Nat.mod_lt _ (by omega)
      go_wp2
      go_quiet (fail)
      go_wp2
      go_roundw
      case rel => exact ⟨k + 1, (a + s[k].toNat) % n, _, by omega, by go_num, by go_num, hm, HK2, rfl⟩
      case measure => simp [intOf]; omega
    · have hK := unhide HK
      rw [List.drop_of_length_le (by rw [Array.length_toList]; exact Nat.le_of_not_lt hlt), partN] at hK
      subst hK
      clear HK HR
      go_wp2
      go_ret
      exact ⟨rfl, Kp.drewQ _ _⟩
end Go.Proofs.Ytnikkjbjidhhlaa
