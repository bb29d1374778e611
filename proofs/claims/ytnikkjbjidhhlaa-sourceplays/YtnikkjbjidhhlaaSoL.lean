/-
  among; a source beside a row of numbers.
-/
import Derived.Test.YtnikkjbjidhhlaaSoK
import Derived.Test.YtnikkjbjidhhlaaAmo
namespace Go.Proofs.Ytnikkjbjidhhlaa
open Go.RowKit

set_option maxHeartbeats 400000 in
theorem soAmong_any (x n : Int) (w : World) (hn : 0 < n) (hn1 : n ≤ 1099511627776) :
    Calls Try.prog 15 #[.int .i64 x, .int .i64 n] w fun e w' => e = .returned (.int .i64 (x % n)) ∧ w' = w := by
  have hne : (n == 0) = false := beq_eq_false_iff_ne.2 (by omega)
  have e1 := among_eq x n hn
  have b1 : -n < x.tmod n := Int.lt_tmod_of_pos x hn
  have b2 : x.tmod n < n := Int.tmod_lt_of_pos x hn
  go_enter Try.func15, Try.ntmps15
  go_wp2
  go_ret
  exact ⟨rfl, rfl⟩
/-- A block of another type is none of a source's. -/
theorem SrcAt.no {w : World} {g b : Nat} {F : List Nat} {ps : List (List Ev)} {cs : Array Value} {t : TypeId} (h : SrcAt w g F ps) (hb : CBox b cs t w) (h1 : t ≠ 78) (h2 : t ≠ 51) (h3 : t ≠ 45) : b ∉ F := by
  obtain ⟨q, vs, hs, rfl⟩ := h
  unfold CBox at hb
  intro hm
  unfold soF at hm
  rw [List.mem_cons, List.mem_cons] at hm
  rcases hm with rfl | rfl | hm
  · have hc : w.heap[b]? = _ := hs.box
    rw [hc] at hb
    injection hb with e; injection e with _ e; exact h1 e.symm
  · have hc : w.heap[b]? = _ := hs.row
    rw [hc] at hb
    injection hb with e; injection e with _ e; exact h2 e.symm
  · obtain ⟨v, hv, hk⟩ := List.mem_filterMap.1 hm
    obtain ⟨i, hi, rfl⟩ := List.mem_iff_getElem.1 hv
    obtain ⟨cur, hc⟩ := (hs.inn i _ (ps[i]'(by rw [← hs.len]; exact hi)) (List.getElem?_eq_getElem hi) (List.getElem?_eq_getElem _)).block hk
    rw [hc] at hb
    injection hb with e; injection e with _ e; exact h3 e.symm
/-- Put, beside a row of numbers. -/
theorem OwnSo.putB {w0 w : World} {g b : Nat} {ps : List (List Ev)} {cs : Array Value} (h : OwnSo w0 w g ps) (hb : CBox b cs 3 w) (e : Ev) (hok : e.ok) : Calls Try.prog 16 #[.pointer (some ⟨g, 0, none⟩), .agg e.c] w fun r w' => r = .returned (.tuple #[.int .i64 (puA ps e), .int .i64 (puO ps e), .int .i64 (puE ps e)]) ∧ OwnSo w0 w' g (puS ps e) ∧ CBox b cs 3 w' := by
  obtain ⟨F, hd, hk, hF⟩ := h
  refine (sput_any g F ps e w hd hok).mono fun r w' hh => ⟨hh.1, hh.2.own hk hF, ?_⟩
  obtain ⟨F', _, hk2, _⟩ := hh.2
  exact hb.kp hk2 (hd.no hb (by decide) (by decide) (by decide))
/-- A number is set in a row beside a source. -/
theorem OwnSo.setB {w0 w : World} {g b i : Nat} {ps : List (List Ev)} {cs : Array Value} {v : Value} (h : OwnSo w0 w g ps) (hb : CBox b cs 3 w) (h0 : w0.heap.size ≤ b) : OwnSo w0 (w.setCell ⟨b, i, none⟩ v) g ps := by
  obtain ⟨F, hd, hk, hF⟩ := h
  have hk2 := Kp.set w b i v
  exact ⟨F, hd.kp hk2 (fun k hk hm => hd.no hb (by decide) (by decide) (by decide) (by simp at hm; subst hm; exact hk)), hk.new hk2 h0, hF⟩
theorem OwnSo.ends {w0 w : World} {g : Nat} {ps : List (List Ev)} (h : OwnSo w0 w g ps) : Calls Try.prog 27 #[.pointer (some ⟨g, 0, none⟩)] w fun r w' => r = .returned (.slice (some ⟨w.heap.size, 0, none⟩) ps.length ps.length) ∧ CBox w.heap.size (intC (ps.map List.length)).toArray 3 w' ∧ OwnSo w0 w' g ps ∧ Kp [] w w' := by
  obtain ⟨q, vs, h1⟩ := h.src
  exact (ends_any g q vs ps w h1).mono fun r w' hh => ⟨hh.1, hh.2.1, h.kp hh.2.2, hh.2.2⟩
theorem puS_len (ps : List (List Ev)) (e : Ev) : (puS ps e).length = ps.length := by
  unfold puS soAdd
  split
  · simp
  · rfl
theorem OwnSo.few {w0 w : World} {g : Nat} {ps : List (List Ev)} (h : OwnSo w0 w g ps) : 1 ≤ ps.length ∧ ps.length ≤ 16 := by
  obtain ⟨q, vs, h1⟩ := h.src
  exact ⟨h1.pos, h1.few⟩
theorem OwnSo.lim {w0 w : World} {g : Nat} {ps : List (List Ev)} (h : OwnSo w0 w g ps) : ∀ p ∈ ps, p.length ≤ 4096 := by
  obtain ⟨q, vs, h1⟩ := h.src
  exact h1.lim
theorem puE_cases (ps : List (List Ev)) (e : Ev) : puE ps e = 0 ∨ puE ps e ≠ 0 := Classical.em _
end Go.Proofs.Ytnikkjbjidhhlaa
