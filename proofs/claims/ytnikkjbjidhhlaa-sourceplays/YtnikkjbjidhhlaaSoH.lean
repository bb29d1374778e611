/-
  A source: those events that have a key; Read.
-/
import Derived.Test.YtnikkjbjidhhlaaSoG
namespace Go.Proofs.Ytnikkjbjidhhlaa
open Go.RowKit

theorem strNe {a b : ByteArray} (h : a ≠ b) : (a.toList == b.toList) = false := beq_eq_false_iff_ne.2 fun e => h (by
  rw [ByteArray.toList_eq, ByteArray.toList_eq] at e
  exact ByteArray.ext (Array.toList_inj.1 e))
/-- The events of a key. -/
def keyL (key : ByteArray) (l : List Ev) : List Ev := l.filter fun e => decide (e.k = key)
theorem keyL_next (key : ByteArray) (l : List Ev) (k : Nat) (hk : k < l.length) : keyL key (l.take (k + 1)) = if l[k].k = key then keyL key (l.take k) ++ [l[k]] else keyL key (l.take k) := by
  unfold keyL
  rw [List.take_succ_eq_append_getElem hk, List.filter_append]
  by_cases h : l[k].k = key
  · rw [if_pos h]; simp [h]
  · rw [if_neg h]; simp [h]
theorem keyL_len (key : ByteArray) (l : List Ev) (k : Nat) : (keyL key (l.take k)).length ≤ l.length := by
  unfold keyL
  refine Nat.le_trans (List.length_filter_le _ _) ?_
  rw [List.length_take]; omega
set_option maxHeartbeats 2000000 in
set_option maxRecDepth 100000 in
theorem withKey_any (key : ByteArray) (ad : Option Addr) (cap : Nat) (l : List Ev) (w : World) (hl : l.length ≤ 4096) (h : EvsAt w ad l) :
    Calls Try.prog 46 #[.slice ad l.length cap, .string key] w fun r w' => ∃ v, r = .returned v ∧ w'.ownsRow w.heap.size 45 7 v (keyL key l).length (evC (keyL key l)) ∧ Kp [] w w' := by
  have HA := hide h
  have HKN := hide (fun k hk => keyL_next key l k hk)
  have HKL := hide (fun k => keyL_len key l k)
  have HON := hide ev_one
  clear h
  obtain ⟨i0, hi, hz0, hz1, hz2⟩ := info_parts info_event
  go_enter Try.func46, Try.ntmps46
  go_wp2_with fail
  go_loopw [5, 10] (fun v i wr => ∃ k : Nat, k ≤ l.length ∧ i = .int .i64 (k : Int) ∧ wr.ownsRow w.heap.size 45 7 v (keyL key (l.take k)).length (evC (keyL key (l.take k))) ∧ Kp [] w wr) (fun _ i _ => l.length - (intOf i).toNat)
  case atStart => exact ⟨0, Nat.zero_le _, rfl, World.ownsRow_nil _ _ _ _, Kp.refl _ _⟩
  case round =>
    obtain ⟨k, hk, rfl, ow, kp⟩ := hrel
    by_cases hlt : k < l.length
    · have hli : (k : Int) < (l.length : Int) := by omega
      obtain ⟨b, off, rfl, x0, x1, x2, x3, x4, x5, x6⟩ := ((unhide HA).kp kp (by simp)).seven k hlt
      have hn := unhide HKN k hlt
      have hkl := unhide HKL k
      have hnw := ev_new (wr.alloc (.cells l[k].c 45)) l[k] 45
      have hon := unhide HON l[k]
      rw [show (wr.alloc (.cells l[k].c 45)).heap.size = wr.heap.size + 1 by simp] at hnw
      have hzs := kp.size
      have ow2 := (World.ownsRow.alloc ow (.cells l[k].c 45)).alloc (.cells l[k].c 45)
      have kp2 := (kp.trans (Kp.alloc wr (.cells l[k].c 45)) (by simp)).trans (Kp.alloc _ (.cells l[k].c 45)) (by simp)
      clear HA HKN HKL HON
      generalize l[k] = y at *
      generalize hx1 : keyL key (l.take k) = fl at *
      by_cases he : y.k = key
      · rw [if_pos he] at hn
        obtain ⟨yk, yt, n0, n1, n2, n3, yx⟩ := y
        dsimp only at he
        subst he
        unfold Ev.c at hnw hon ow2 kp2
        dsimp only at x0 x1 x2 x3 x4 x5 x6 hnw hon ow2 kp2
        have HN := hide hn
        have HNW := hide hnw
        have HO := hide hon
        have HK2 := hide kp2
        clear hn hnw hon kp2 hx1 kp ow
        go_wp2_with (at_builtin; refine wpList_append_own _ rfl _ _ 51 rfl w.heap.size 45 i0 (.agg #[.string ⟨#[]⟩, .string ⟨#[]⟩, .int .i64 0, .int .i64 0, .int .i64 0, .int .i64 0, .string ⟨#[]⟩]) 7 80 Try.underlying51 hi hz0 hz1 hz2 rfl (by decide) _ _ _ rfl ow2 ⟨wr.heap.size + 1, 0, none⟩ 1 1 [.string yk, .string yt, .int .i64 n0, .int .i64 n1, .int .i64 n2, .int .i64 n3, .string yx] rfl rfl ?c1 ?c2 ?c3 ?c4 ?c5 ?_)
        case c1 => exact unhide HNW
        case c2 => exact unhide HO
        case c3 => unfold maxLen; omega
        case c4 => omega
        case c5 => simp; omega
        intro v3 w3 ow3 hg3 _
        have ow4 : w3.ownsRow w.heap.size 45 7 v3 (keyL yk (l.take (k + 1))).length (evC (keyL yk (l.take (k + 1)))) := by
          rw [unhide HN, evC_append, evC_one, List.length_append]
          exact ow3
        have kp3 := (unhide HK2).trans (Kp.of hg3) (fun x hx => Or.inr ((World.ownsRow.lt ow2 x (by simpa using hx)).1))
        have OW4 := hide ow4
        clear ow3 hg3 ow2 ow4 HN HNW HO HK2
        go_wp2
        go_roundw
        case rel => exact ⟨k + 1, by omega, by go_num, unhide OW4, kp3⟩
        case measure => simp [intOf]; omega
      · rw [if_neg he] at hn
        have heb := strNe he
        rw [← hx1] at ow
        have kp1 := kp.trans (Kp.alloc wr (.cells y.c 45)) (by simp)
        have ow1 : (wr.alloc (.cells y.c 45)).ownsRow w.heap.size 45 7 u5 (keyL key (l.take (k + 1))).length (evC (keyL key (l.take (k + 1)))) := by
          rw [hn, ← hx1]; exact World.ownsRow.alloc ow _
        obtain ⟨yk, yt, n0, n1, n2, n3, yx⟩ := y
        dsimp only at x0 x1 x2 x3 x4 x5 x6 heb
        unfold Ev.c at kp1 ow1
        dsimp only at kp1 ow1
        have OW1 := hide ow1
        have KP1 := hide kp1
        clear hn hnw hon kp2 hx1 kp ow ow1 kp1 ow2 he
        go_wp2
        go_roundw
        case rel => exact ⟨k + 1, by omega, by go_num, unhide OW1, unhide KP1⟩
        case measure => simp [intOf]; omega
    · obtain rfl : k = l.length := by omega
      rw [List.take_of_length_le (Nat.le_refl _)] at ow
      clear HA HKN HKL HON
      go_wp2
      go_ret
      exact ⟨_, rfl, ow, kp⟩
end Go.Proofs.Ytnikkjbjidhhlaa
