/-
  TripStays: the walk.
-/
import Derived.Test.YtmcilconledabaaTrW
import Derived.Test.YtmcilconledabaaTrG
import Derived.Test.YtmcilconledabaaAc9
namespace Go.Proofs.Ytmcilconledabaa
open Go.RowKit

theorem faS_down {s : TS} (h : ¬ s.code = 0) (x pl : Int) : faS s x pl = s := if_neg (fun hh => h hh.2)
theorem usE_down {s : TS} (h : ¬ s.code = 0) (n : Int) : usE s n = 90 := if_pos h
theorem usS_down {s : TS} (h : ¬ s.code = 0) (n pl : Int) : usS s n pl = s := by unfold usS; rw [usE_down h, if_neg (by decide), if_neg (by decide)]
theorem baE_down {s : TS} (h : ¬ s.code = 0) (n : Int) : baE s n = 90 := if_pos h
theorem baS_down {s : TS} (h : ¬ s.code = 0) (n : Int) : baS s n = s := by unfold baS; rw [baE_down h, if_neg (by decide)]
/-- A trip of the call's own, and a variable that points to it. -/
structure SyS (b p : Nat) (s : TS) (w0 w : World) : Prop where
  gs : GS b s w0 w
  bx : CBox p #[.pointer (some ⟨b, 0, none⟩)] 23 w
  ne : b ≠ p
  lp : w0.heap.size ≤ p
theorem SyS.next {b p : Nat} {s : TS} {w0 w w' : World} (h : SyS b p s w0 w) (hk : Kp [] w w') : SyS b p s w0 w' := ⟨h.gs.next hk, h.bx.kp hk (by simp), h.ne, h.lp⟩
theorem SyS.to {b p : Nat} {s t : TS} {w0 w w' : World} (h : SyS b p s w0 w) (ht : Tr b t w') (hk : Kp [b] w w') : SyS b p t w0 w' := ⟨h.gs.to ht hk, h.bx.kp hk (by simp; exact fun e => h.ne e.symm), h.ne, h.lp⟩
theorem SyS.ptr {b p : Nat} {s : TS} {w0 w : World} (h : SyS b p s w0 w) : w.cell? ⟨p, 0, none⟩ = some (.pointer (some ⟨b, 0, none⟩)) := h.bx.cell rfl
theorem sy_fail (b p : Nat) (s : TS) (x pl : Int) (w0 w : World) (h : SyS b p s w0 w) : Calls Try.prog 10 #[.pointer (some ⟨b, 0, none⟩), .int .i64 x, .int .i64 pl] w fun e w' => e = .returned (.tuple #[.bool (faB s x), .int .i64 (faE x)]) ∧ SyS b p (faS s x pl) w0 w' ∧ Kp [b] w w' :=
  (trFail_any b s x pl w h.gs.tr).mono fun _ _ hh => ⟨hh.1, h.to hh.2.1 hh.2.2, hh.2.2⟩
theorem sy_use (b p : Nat) (s : TS) (n pl : Int) (w0 w : World) (h : SyS b p s w0 w) : Calls Try.prog 12 #[.pointer (some ⟨b, 0, none⟩), .int .i64 n, .int .i64 pl] w fun e w' => e = .returned (.int .i64 (usE s n)) ∧ SyS b p (usS s n pl) w0 w' ∧ Kp [b] w w' :=
  (trUse_any b s n pl w h.gs.tr).mono fun _ _ hh => ⟨hh.1, h.to hh.2.1 hh.2.2, hh.2.2⟩
theorem sy_back (b p : Nat) (s : TS) (n : Int) (w0 w : World) (h : SyS b p s w0 w) : Calls Try.prog 14 #[.pointer (some ⟨b, 0, none⟩), .int .i64 n] w fun e w' => e = .returned (.int .i64 (baE s n)) ∧ SyS b p (baS s n) w0 w' ∧ Kp [b] w w' :=
  (trBack_any b s n w h.gs.tr).mono fun _ _ hh => ⟨hh.1, h.to hh.2.1 hh.2.2, hh.2.2⟩
theorem sy_fallen (b p : Nat) (s : TS) (w0 w : World) (h : SyS b p s w0 w) : Calls Try.prog 16 #[.pointer (some ⟨b, 0, none⟩)] w fun e w' => e = .returned (.tuple #[.agg #[.int .i64 s.pl, .int .i64 s.code], .bool (decide (¬ s.code = 0))]) ∧ SyS b p s w0 w' ∧ Kp [] w w' :=
  (trFallen_any b s w h.gs.tr).mono fun _ _ hh => ⟨hh.1, h.next hh.2, hh.2⟩
theorem sy_room (b p : Nat) (s : TS) (w0 w : World) (h : SyS b p s w0 w) : Calls Try.prog 17 #[.pointer (some ⟨b, 0, none⟩)] w fun e w' => e = .returned (.int .i64 (s.room - s.used)) ∧ SyS b p s w0 w' ∧ Kp [] w w' :=
  (trRoom_any b s w h.gs.tr).mono fun _ _ hh => ⟨hh.1, h.next hh.2, hh.2⟩
/-- A state behind another: where that had fallen, it is the same. -/
def Aft (s t : TS) : Prop := ¬ s.code = 0 → t = s
theorem Aft.trans {s t u : TS} (h : Aft s t) (k : Aft t u) : Aft s u := fun hs => by
  have e := h hs
  subst e
  exact k hs
set_option maxHeartbeats 4000000 in
set_option maxRecDepth 100000 in
theorem play_any (b p : Nat) (s : TS) (ad : Option Addr) (cap : Nat) (l : List Ac9) (w0 w : World) (hA : Acs9 w0 ad l) (h : SyS b p s w0 w) :
    Calls Try.prog 19 #[.slice ad l.length cap, .pointer (some ⟨p, 0, none⟩)] w fun e w' => e = .returned (.tuple #[]) ∧ ∃ t, Aft s t ∧ SyS b p t w0 w' ∧ Kp [b] w w' := by
  have HA := hide hA
  have HS : Hid (SyS b p s w0 w ∧ Kp [b] w w) := hide ⟨h, Kp.refl _ _⟩
  have AM := hide (fun x W => trAmong_any x 3 W (by decide) (by decide))
  clear hA h
  go_enter Try.func19, Try.ntmps19
  go_wp2_with fail
  go_loopw [3] (fun i wr => ∃ (j : Nat) (t : TS), j ≤ l.length ∧ i = .int .i64 (j : Int) ∧ Hid (Aft s t) ∧ Hid (SyS b p t w0 wr ∧ Kp [b] w wr)) (fun i _ => l.length - (intOf i).toNat)
  case atStart => exact ⟨0, s, Nat.zero_le _, rfl, hide (fun _ => rfl), HS⟩
  case round =>
    clear HS
    obtain ⟨j, t, hj, rfl, HF, HC⟩ := hrel
    by_cases hlt : j < l.length ∧ j < 100
    · obtain ⟨hlt, h100⟩ := hlt
      have hli : (j : Int) < (l.length : Int) := by omega
      obtain ⟨ab, off, rfl, _, x0, x1, x2, x3⟩ := ((unhide HA).kp (unhide HC).1.gs.kp).at j hlt
      clear HA
      generalize l[j] = a at *
      obtain ⟨kd, cd, n, pl⟩ := a
      simp only [] at x0 x1 x2 x3
      have n0 := Int.emod_nonneg kd (by decide : (3 : Int) ≠ 0)
      have n1 := Int.emod_lt_of_pos kd (by decide : (0 : Int) < 3)
      have AX := hide (unhide AM kd)
      clear AM
      generalize kd % 3 = K at *
      have ka := Kp.alloc wr (.cells #[.int .i64 kd, .int .i64 cd, .int .i64 n, .int .i64 pl] 31)
      have H2 : Hid (SyS b p t w0 (wr.alloc (.cells #[.int .i64 kd, .int .i64 cd, .int .i64 n, .int .i64 pl] 31)) ∧ Kp [b] w (wr.alloc (.cells #[.int .i64 kd, .int .i64 cd, .int .i64 n, .int .i64 pl] 31))) := hide ⟨(unhide HC).1.next ka, (unhide HC).2.trans ka (by simp)⟩
      have hp := (unhide H2).1.ptr
      clear HC ka
      go_wp2_with fail
      refine (unhide AX _).mono ?_
      rintro r w4 ⟨rfl, rfl⟩
      clear AX
      rcases (by omega : K = 0 ∨ K = 1 ∨ K = 2) with rfl | rfl | rfl
      · go_wp2_with fail
        refine (sy_fail b p t cd pl w0 _ (unhide H2).1).mono ?_
        rintro r w5 ⟨rfl, h5, k5⟩
        have HN : Hid (SyS b p (faS t cd pl) w0 w5 ∧ Kp [b] w w5) := hide ⟨h5, (unhide H2).2.trans k5 (fun x hx => Or.inl hx)⟩
        have HG : Hid (Aft s (faS t cd pl)) := hide ((unhide HF).trans (fun ht => faS_down ht cd pl))
        clear h5 k5 H2 HF hp x0 x1 x2 x3
        generalize (faS t cd pl) = t' at *
        go_wp2
        go_roundw
        case rel => exact ⟨j + 1, t', by omega, by go_num, HG, HN⟩
        case measure => simp [intOf]; omega
      · go_wp2_with fail
        refine (sy_use b p t n pl w0 _ (unhide H2).1).mono ?_
        rintro r w5 ⟨rfl, h5, k5⟩
        have HN : Hid (SyS b p (usS t n pl) w0 w5 ∧ Kp [b] w w5) := hide ⟨h5, (unhide H2).2.trans k5 (fun x hx => Or.inl hx)⟩
        have HG : Hid (Aft s (usS t n pl)) := hide ((unhide HF).trans (fun ht => usS_down ht n pl))
        clear h5 k5 H2 HF hp x0 x1 x2 x3
        generalize (usS t n pl) = t' at *
        go_wp2
        go_roundw
        case rel => exact ⟨j + 1, t', by omega, by go_num, HG, HN⟩
        case measure => simp [intOf]; omega
      · go_wp2_with fail
        refine (sy_back b p t n w0 _ (unhide H2).1).mono ?_
        rintro r w5 ⟨rfl, h5, k5⟩
        have HN : Hid (SyS b p (baS t n) w0 w5 ∧ Kp [b] w w5) := hide ⟨h5, (unhide H2).2.trans k5 (fun x hx => Or.inl hx)⟩
        have HG : Hid (Aft s (baS t n)) := hide ((unhide HF).trans (fun ht => baS_down ht n))
        clear h5 k5 H2 HF hp x0 x1 x2 x3
        generalize (baS t n) = t' at *
        go_wp2
        go_roundw
        case rel => exact ⟨j + 1, t', by omega, by go_num, HG, HN⟩
        case measure => simp [intOf]; omega
    · have HN : Hid (∃ t, Aft s t ∧ SyS b p t w0 wr ∧ Kp [b] w wr) := hide ⟨t, unhide HF, unhide HC⟩
      clear HA HC HF AM
      by_cases hlt2 : j < l.length
      · have hli : (j : Int) < (l.length : Int) := by omega
        have h100 : (100 : Int) ≤ (j : Int) := by omega
        clear hlt
        go_wp2
        go_end0
        exact ⟨rfl, unhide HN⟩
      · have hli : ¬ ((j : Int) < (l.length : Int)) := by omega
        clear hlt
        go_wp2
        go_end0
        exact ⟨rfl, unhide HN⟩
/-- What was read of a reason, kept in a variable. -/
theorem stNew (room : Int) (w : World) (hr : 0 ≤ room) (ht : room ≤ 9223372036854775807) : Calls Try.prog 7 #[.int .i64 room] w fun e w' => ∃ b, e = .returned (.tuple #[.pointer (some ⟨b, 0, none⟩), .int .i64 0]) ∧ w.heap.size ≤ b ∧ b < w'.heap.size ∧ Tr b (nw room) w' ∧ Kp [] w w' :=
  (trNew_ok room w hr ht).mono fun _ _ hh => ⟨_, hh.1, Nat.le_refl _, hh.2.1.lt, hh.2.1, hh.2.2⟩
theorem fa_down (s : TS) : ¬ (faS s 2 3).code = 0 := by
  unfold faS
  split
  · show ¬ (2 : Int) = 0
    decide
  · rename_i h
    intro h0
    exact h ⟨by decide, h0⟩
set_option maxHeartbeats 4000000 in
set_option maxRecDepth 100000 in
theorem stays_walkB (room : Int) (ad : Option Addr) (cap : Nat) (l : List Ac9) (ad2 : Option Addr) (cap2 : Nat) (l2 : List Ac9) (w : World) (hr : -9223372036854775808 ≤ room ∧ room ≤ 9223372036854775807) (_hl : l.length ≤ 9223372036854775807) (hA : Acs9 w ad l) (_hok : ∀ y ∈ l, y.ok) (_hl2 : l2.length ≤ 9223372036854775807) (hA2 : Acs9 w ad2 l2) (_hok2 : ∀ y ∈ l2, y.ok) :
    Calls Try.prog 4 #[.int .i64 room, .slice ad l.length cap, .slice ad2 l2.length cap2] w fun e w' => e = .returned (.bool true) ∧ Below w.heap.size w w' := by
  have hmf : ∀ (fn : Fn) (first cap : Array Value) (w : World), (Instr.makeFunc fn first cap).run Try.prog w = .ok (.func fn first cap) w := fun _ _ _ _ => rfl
  have WK := hide (trWorks_any w)
  have PL1 := hide (fun b p s W h => play_any b p s ad cap l w W hA h)
  have PL2 := hide (fun b p s W h => play_any b p s ad2 cap2 l2 w W hA2 h)
  clear hA hA2
  by_cases hn : room < 0
  · have NW := hide (fun W => trNew_not room W hn)
    clear PL1 PL2 hr
    go_enter Try.func4, Try.ntmps4
    go_wp2_with fail
    refine (unhide WK).mono ?_
    rintro r w1 ⟨rfl, hk⟩
    have HK1 := hide hk
    clear hk WK
    go_wp2_with fail
    refine (unhide NW w1).mono ?_
    rintro r w2 ⟨rfl, rfl⟩
    clear NW
    go_wp2
    go_ret
    exact ⟨rfl, (kp_tr (unhide HK1) (Kp.alloc _ _)).below (Nat.le_refl _) (by simp)⟩
  · have NW := hide (fun W => stNew room W (by omega) hr.2)
    clear hn hr
    go_enter Try.func4, Try.ntmps4
    go_wp2_with fail
    refine (unhide WK).mono ?_
    rintro r w1 ⟨rfl, hk⟩
    have HK1 := hide hk
    clear hk WK
    go_wp2_with fail
    refine (unhide NW w1).mono ?_
    rintro r w2 ⟨b, rfl, q1, q2, hm, hk⟩
    have ka := Kp.alloc w2 (.cells #[.pointer (some ⟨b, 0, none⟩)] 23)
    have k2 := kp_tr (unhide HK1) hk
    have HS : Hid (SyS b w2.heap.size (nw room) w (w2.alloc (.cells #[.pointer (some ⟨b, 0, none⟩)] 23))) := hide ⟨⟨hm.kp ka (by simp), Nat.le_trans (unhide HK1).size q1, kp_tr k2 ka⟩, CBox.new _ _ _, by omega, k2.size⟩
    clear hm hk ka k2 q1 q2 NW HK1
    generalize hp : w2.heap.size = p at *
    go_wp2_with fail
    refine (unhide PL1 _ _ _ _ (unhide HS)).mono ?_
    rintro r w3 ⟨rfl, t1, _, h3, _⟩
    have H3 := hide h3
    have c3 := h3.ptr
    clear h3 HS PL1 hp
    go_wp2_with fail
    refine (sy_fail b p t1 2 3 w w3 (unhide H3)).mono ?_
    rintro r w4 ⟨rfl, h4, _⟩
    have DN := hide (fa_down t1)
    generalize faS t1 2 3 = t2 at *
    have H4 := hide h4
    have c4 := h4.ptr
    have FL := hide (fun W => sy_fallen b p t2 w W)
    have RM := hide (fun W => sy_room b p t2 w W)
    rw [decide_eq_true (unhide DN)] at FL
    have PL3 := hide (fun W h => unhide PL2 b p t2 W h)
    have US := hide (fun W => sy_use b p t2 0 0 w W)
    rw [usE_down (unhide DN)] at US
    have AF := hide (fun t (h : Aft t2 t) => h (unhide DN))
    have hcd := unhide DN
    clear h4 c3 H3 PL2 DN
    generalize hL : t2.room - t2.used = L at *
    generalize hP : t2.pl = P at *
    generalize hC : t2.code = C at *
    clear hL hP hC
    have hcd2 : (C == 0) = false := by simpa using hcd
    generalize faB t1 2 = fb at *
    go_wp2_with fail
    refine (unhide FL w4 (unhide H4)).mono ?_
    rintro r w5 ⟨rfl, h5, _⟩
    have ka := Kp.alloc w5 (.cells #[.int .i64 P, .int .i64 C] 38)
    have h6 := h5.next ka
    have hq : Hid (¬ b = w5.heap.size) := hide (by have := h5.gs.tr.lt; omega)
    have HQ : Hid (CBox w5.heap.size #[.int .i64 P, .int .i64 C] 38 (w5.alloc (.cells #[.int .i64 P, .int .i64 C] 38))) := hide (CBox.new _ _ _)
    have c6 := h6.ptr
    have H6 := hide h6
    clear h5 h6 ka c4 H4
    go_wp2_with fail
    generalize w5.heap.size = q at *
    refine (unhide RM _ (unhide H6)).mono ?_
    rintro r w7 ⟨rfl, h7, k7⟩
    have H7 := hide h7
    have HQ7 := hide ((unhide HQ).kp k7 (by simp))
    have c7 := h7.ptr
    have d7 := (unhide HQ7).cell (i := 1) (v := .int .i64 C) rfl
    clear h7 k7 c6 H6 HQ
    go_wp2_with fail
    refine (unhide PL3 w7 (unhide H7)).mono ?_
    rintro r w8 ⟨rfl, t3, h8a, h8, k8⟩
    have e8 := unhide AF t3 h8a
    subst e8
    have H8 := hide h8
    have HQ8 := hide ((unhide HQ7).kp k8 (by simp; exact fun e => unhide hq e.symm))
    have c8 := h8.ptr
    clear h8 k8 h8a c7 d7 H7 HQ7 PL3 AF
    go_wp2_with fail
    refine (unhide FL w8 (unhide H8)).mono ?_
    rintro r w9 ⟨rfl, h9, k9⟩
    have ka := Kp.alloc w9 (.cells #[.int .i64 P, .int .i64 C] 38)
    have h10 := h9.next ka
    have HQ10 := hide (((unhide HQ8).kp k9 (by simp)).kp ka (by simp))
    have d0 := (unhide HQ10).cell (i := 0) (v := .int .i64 P) rfl
    have d1 := (unhide HQ10).cell (i := 1) (v := .int .i64 C) rfl
    have c10 := h10.ptr
    have H10 := hide h10
    clear h9 k9 h10 ka c8 H8 HQ8 FL
    go_wp2_with fail
    refine (unhide RM _ (unhide H10)).mono ?_
    rintro r w11 ⟨rfl, h11, _⟩
    have H11 := hide h11
    have c11 := h11.ptr
    clear h11 c10 H10 HQ10 d0 d1 RM
    go_wp2_with fail
    refine (unhide US w11 (unhide H11)).mono ?_
    rintro r w12 ⟨rfl, h12, _⟩
    have H12 := hide h12.gs.kp
    clear h12 c11 H11 US
    go_wp2
    go_ret
    exact ⟨rfl, (unhide H12).below (Nat.le_refl _) (by simp)⟩
end Go.Proofs.Ytmcilconledabaa
