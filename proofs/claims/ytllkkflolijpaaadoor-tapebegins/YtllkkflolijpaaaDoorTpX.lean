/-
  among: a number from 0 to n - 1; rows of numbers, and what a slice of texts that came in reads.
-/
import Derived.Test.YtllkkflolijpaaaDoorTpW
import Derived.Test.YtllkkflolijpaaaDoorAmo
namespace Go.Proofs.YtllkkflolijpaaaDoor
open Go.RowKit

set_option maxHeartbeats 400000 in
theorem among_any (x n : Int) (w : World) (hn : 0 < n) (hn1 : n ≤ 1099511627776) :
    Calls Tryd.prog 12 #[.int .i64 x, .int .i64 n] w fun e w' => e = .returned (.int .i64 (x % n)) ∧ w' = w := by
  have hne : (n == 0) = false := beq_eq_false_iff_ne.2 (by omega)
  have e1 := among_eq x n hn
  have b1 : -n < x.tmod n := Int.lt_tmod_of_pos x hn
  have b2 : x.tmod n < n := Int.tmod_lt_of_pos x hn
  go_enter Tryd.func12, Tryd.ntmps12
  go_wp2
  go_ret
  exact ⟨rfl, rfl⟩
theorem TextsAt.kp {w w' : World} {ad : Option Addr} {l : List (List UInt8)} (h : TextsAt w ad l) (hk : Kp [] w w') : TextsAt w' ad l := fun hl => by
  obtain ⟨b, off, e, hlt, hc⟩ := h hl
  exact ⟨b, off, e, Nat.lt_of_lt_of_le hlt hk.size, fun i hi => hk.cell (hc i hi) (by simp)⟩
/-- Numbers lie in a row of their own. -/
def IRow (w : World) (v : Value) (l : List Int) : Prop := w.ownsRow 0 3 1 v l.length (l.map (Value.int .i64))
theorem IRow.kp {F : List Nat} {w w' : World} {v : Value} {l : List Int} (h : IRow w v l) (hk : Kp F w w') (hF : ∀ k, v.ownBlock = some k → k ∉ F) : IRow w' v l := by
  obtain ⟨h1, h2 | ⟨g, cp, cur, rfl, hb, hh, r⟩⟩ := h
  · exact ⟨h1, Or.inl h2⟩
  · exact ⟨h1, Or.inr ⟨g, cp, cur, rfl, hb, (hk.block g (Array.getElem?_eq_some_iff.1 hh).1 (hF g rfl)).trans hh, r⟩⟩
theorem IRow.oth {X : List Nat} {w w' : World} {v : Value} {l : List Int} (h : IRow w v l) (hk : Oth X w w') (hF : ∀ k, v.ownBlock = some k → k ∉ X) : IRow w' v l := by
  obtain ⟨h1, h2 | ⟨g, cp, cur, rfl, hb, hh, r⟩⟩ := h
  · exact ⟨h1, Or.inl h2⟩
  · exact ⟨h1, Or.inr ⟨g, cp, cur, rfl, hb, hk.block g _ _ _ hh (by decide) (by decide) (by decide) (hF g rfl), r⟩⟩
theorem IRow.block {w : World} {v : Value} {l : List Int} (h : IRow w v l) {k : Nat} (hk : v.ownBlock = some k) : k < w.heap.size ∧ ∃ cur, w.heap[k]? = some (.cells cur 3 (0, 0)) := by
  obtain ⟨_, ⟨rfl, h0⟩ | ⟨g, cp, cur, rfl, hb, hh, _⟩⟩ := h
  · simp [Value.ownBlock] at hk
  · simp [Value.ownBlock] at hk
    subst hk
    exact ⟨(Array.getElem?_eq_some_iff.1 hh).1, cur, hh⟩
theorem IRow.cell {w : World} {g cap : Nat} {l : List Int} (h : IRow w (.slice (some ⟨g, 0, none⟩) l.length cap) l) (i : Nat) (hi : i < l.length) : w.cell? ⟨g, i, none⟩ = some (.int .i64 l[i]) := by
  rw [World.ownsRow.cellAt h i (by omega)]
  simp [hi]
theorem IRow.shape {w : World} {v : Value} {l : List Int} (h : IRow w v l) (hl : l ≠ []) : ∃ g cap, v = .slice (some ⟨g, 0, none⟩) l.length cap ∧ l.length ≤ cap ∧ cap ≤ 9223372036854775807 := by
  obtain ⟨_, ⟨rfl, h0⟩ | ⟨g, cap, cur, rfl, _, _, hn, hm, _⟩⟩ := h
  · exact absurd (List.eq_nil_of_length_eq_zero h0) hl
  · exact ⟨g, cap, rfl, hn, by unfold maxLen at hm; omega⟩
/-- A row of numbers lies apart from a tape. -/
theorem IRow.no {w : World} {v : Value} {l : List Int} (h : IRow w v l) {t p : Nat} {n : ByteArray} {u : Value} {ts : List (List UInt8)} (ht : TpAt w t p n u ts) : ∀ k, v.ownBlock = some k → k ∉ t :: u.ownBlock.toList := fun k hk hm => by
  obtain ⟨_, cur, hc⟩ := h.block hk
  rw [List.mem_cons] at hm
  rcases hm with rfl | hm
  · have hb : w.heap[k]? = _ := ht.box
    rw [hc] at hb
    injection hb with e; injection e with _ e; exact absurd e (by decide)
  · obtain ⟨_, _, cur2, hc2⟩ := ht.row.block (by simpa using hm : u.ownBlock = some k)
    rw [hc] at hc2
    injection hc2 with e; injection e with _ e; exact absurd e (by decide)
theorem info_int : (Tryd.prog.info? 3).map (fun i => (i.zero, i.size, i.bytes)) = some (some (.int .i64 0), 1, 8) := by kernel_rfl
end Go.Proofs.YtllkkflolijpaaaDoor
