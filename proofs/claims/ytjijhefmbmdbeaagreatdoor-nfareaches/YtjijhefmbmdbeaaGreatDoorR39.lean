/-
  NfaReaches: all nodes that come out along any events are among a pattern's nodes. First: the statement's own search.
-/
import Derived.Test.YtjijhefmbmdbeaaGreatDoorR38
namespace Go.Proofs.YtjijhefmbmdbeaaGreatDoor
open Go.RowKit Go.Shelf

theorem OwnsD.get {B g N cap : Nat} {w : World} {l : List Nd} (h : OwnsD B w (.slice (some ⟨g, 0, none⟩) N cap) l) (k : Nat) (hk : k < l.length) : w.cell? ⟨g, k * 3, none⟩ = some (.int .i64 l[k].st) ∧ w.cell? ⟨g, k * 3 + 1, none⟩ = some (.bool l[k].lp) ∧ w.cell? ⟨g, k * 3 + 2, none⟩ = some (.bool l[k].tk) := by
  have hN : N = l.length := by
    rcases h.at with ⟨e, _⟩ | ⟨g', cap', e, _⟩
    · cases e
    · injection e with _ e2 _
  subst hN
  exact ⟨own_cell Nd.l_len h k 0 hk (by omega), own_cell Nd.l_len h k 1 hk (by omega), own_cell Nd.l_len h k 2 hk (by omega)⟩
/-- A row of nodes lies in a cell. -/
structure RowIn (W : World) (ga g cap : Nat) (L : List Nd) : Prop where
  c : W.cell? ⟨ga, 0, none⟩ = some (.slice (some ⟨g, 0, none⟩) L.length cap)
  r : OwnsD 0 W (.slice (some ⟨g, 0, none⟩) L.length cap) L
theorem RowIn.kp {W W' : World} {ga g cap : Nat} {L : List Nd} (h : RowIn W ga g cap L) (hk : Kp [] W W') : RowIn W' ga g cap L := ⟨hk.cell h.c (by simp), h.r.kp hk⟩
set_option maxHeartbeats 2000000 in
set_option maxRecDepth 100000 in
theorem has_any (n : Nd) (ga g cap : Nat) (L : List Nd) (w : World) (h : RowIn w ga g cap L) (hn : n ∈ L) (hl : L.length ≤ 1000) :
    Calls Tryz.prog 20 #[.agg n.c, .pointer (some ⟨ga, 0, none⟩)] w fun e w' => e = .returned (.bool true) ∧ Kp [] w w' := by
  have k0 := Kp.alloc w (.cells n.c 26)
  have hb := CBox.new w n.c 26
  have c0 := (h.kp k0).c
  have HR := hide h
  have HB : Hid (∀ W, Kp [] (w.alloc (.cells n.c 26)) W → Kp [] w W ∧ CBox w.heap.size n.c 26 W) := hide (fun W hk => ⟨k0.trans hk (by simp), hb.kp hk (by simp)⟩)
  have HN : Hid (∀ k, (∀ i (hi : i < L.length), i < k → L[i] ≠ n) → k < L.length) := hide (fun k hh => by
    obtain ⟨i, hi, he⟩ := List.getElem_of_mem hn
    rcases Nat.lt_or_ge i k with h1 | h1
    · exact absurd he (hh i hi h1)
    · omega)
  obtain ⟨N, hN⟩ : ∃ N, L.length = N := ⟨_, rfl⟩
  have HLN := hide hN
  rw [hN] at c0 hl
  have HNC : Hid (n.c = #[.int .i64 n.st, .bool n.lp, .bool n.tk]) := hide rfl
  have HK0 := hide (Kp.refl [] (w.alloc (.cells n.c 26)))
  rw [unhide HNC] at c0 HB HK0 ⊢
  clear h hn k0 hb hN
  go_enter Tryz.func20, Tryz.ntmps20
  go_wp2_with fail
  go_loopw [8] (fun i wr => ∃ k : Nat, k ≤ N ∧ i = .int .i64 (k : Int) ∧ Hid (Kp [] (w.alloc (.cells #[.int .i64 n.st, .bool n.lp, .bool n.tk] 26)) wr) ∧ Hid (∀ i (hi : i < L.length), i < k → L[i] ≠ n)) (fun i _ => N - (intOf i).toNat)
  case atStart => exact ⟨0, Nat.zero_le _, rfl, HK0, hide (fun i _ h => by omega)⟩
  case round =>
    obtain ⟨k, hk, rfl, HK, HA⟩ := hrel
    clear HK0 c0
    have hkl := unhide HN k (unhide HA)
    have hlt : k < N := by rw [← unhide HLN]; exact hkl
    have hli : (k : Int) < (N : Int) := by omega
    obtain ⟨hkw, hbx⟩ := unhide HB wr (unhide HK)
    obtain ⟨x0, x1, x2⟩ := ((unhide HR).kp hkw).r.get k hkl
    have hgl := World.block_lt_of_cell? _ _ x0
    have hbl : w.heap.size < wr.heap.size := (Array.getElem?_eq_some_iff.1 hbx).1
    have y0 := hbx.cell (i := 0) (v := .int .i64 n.st) rfl
    have y1 := hbx.cell (i := 1) (v := .bool n.lp) rfl
    have y2 := hbx.cell (i := 2) (v := .bool n.tk) rfl
    have EQ := fun W => eqN 9998 L[k] n W
    have HNX : Hid (ndE L[k] n = false → ∀ i (hi : i < L.length), i < k + 1 → L[i] ≠ n) := hide (fun he i hi h1 => by
      rcases Nat.lt_or_ge i k with h2 | h2
      · exact unhide HA i hi h2
      · have : i = k := by omega
        subst this
        intro e
        rw [(ndE_iff _ _).2 e] at he
        cases he)
    generalize ndE L[k] n = B at *
    generalize L[k] = X at *
    have hbx2 := CBox.new wr #[.int .i64 X.st, .bool X.lp, .bool X.tk] 26
    have z0 := hbx2.cell (i := 0) (v := .int .i64 X.st) rfl
    have z1 := hbx2.cell (i := 1) (v := .bool X.lp) rfl
    have z2 := hbx2.cell (i := 2) (v := .bool X.tk) rfl
    have HK2 := hide ((unhide HK).trans (Kp.alloc wr (.cells #[.int .i64 X.st, .bool X.lp, .bool X.tk] 26)) (by simp))
    have HW := hide (hkw.trans (Kp.alloc wr (.cells #[.int .i64 X.st, .bool X.lp, .bool X.tk] 26)) (by simp))
    unfold Nd.c at EQ
    clear hkw hbx hbx2 HK HA HR HN HB
    cases B with
    | true =>
      clear HNX
      go_wp2
      go_ret
      exact ⟨rfl, unhide HW⟩
    | false =>
      have HA2 := hide (unhide HNX rfl)
      clear HNX
      go_wp2_with fail
      go_roundw
      case rel => exact ⟨k + 1, by omega, by go_num, HK2, HA2⟩
      case measure => simp [intOf]; omega
end Go.Proofs.YtjijhefmbmdbeaaGreatDoor
