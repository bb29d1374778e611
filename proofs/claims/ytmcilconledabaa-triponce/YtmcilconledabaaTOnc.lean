/-
  TripOnce: the walk.
-/
import Derived.Test.YtmcilconledabaaTrW
import Derived.Test.YtmcilconledabaaIAt
namespace Go.Proofs.Ytmcilconledabaa
open Go.RowKit

/-- A trip of the call's own, and a variable that holds a reason. -/
structure OnS (b g : Nat) (s : TS) (P C : Int) (w0 w : World) : Prop where
  tr : Tr b s w
  fi : CBox g #[.int .i64 P, .int .i64 C] 38 w
  ne : b ≠ g
  lb : w0.heap.size ≤ b
  lg : w0.heap.size ≤ g
  kp : Kp [] w0 w
theorem OnS.next {b g : Nat} {s : TS} {P C : Int} {w0 w w' : World} (h : OnS b g s P C w0 w) (hk : Kp [] w w') : OnS b g s P C w0 w' := ⟨h.tr.kp hk (by simp), h.fi.kp hk (by simp), h.ne, h.lb, h.lg, kp_tr h.kp hk⟩
theorem OnS.set {b g : Nat} {s : TS} {P C : Int} {w0 w : World} (h : OnS b g s P C w0 w) (P' C' : Int) : OnS b g s P' C' w0 ((w.setCell ⟨g, 0, none⟩ (.int .i64 P')).setCell ⟨g, 1, none⟩ (.int .i64 C')) := by
  have k : Kp [g] w ((w.setCell ⟨g, 0, none⟩ (.int .i64 P')).setCell ⟨g, 1, none⟩ (.int .i64 C')) := (Kp.set w g 0 _).trans (Kp.set _ g 1 _) (fun x hx => Or.inl hx)
  exact ⟨h.tr.kp k (by simp; exact h.ne), (h.fi.set 0 _).set 1 _, h.ne, h.lb, h.lg, kp_own h.kp k h.lg⟩
theorem onS_fail (b g : Nat) (s : TS) (P C x pl : Int) (w0 w : World) (h : OnS b g s P C w0 w) : Calls Try.prog 10 #[.pointer (some ⟨b, 0, none⟩), .int .i64 x, .int .i64 pl] w fun e w' => e = .returned (.tuple #[.bool (faB s x), .int .i64 (faE x)]) ∧ OnS b g (faS s x pl) P C w0 w' :=
  (trFail_any b s x pl w h.tr).mono fun _ _ hh => ⟨hh.1, hh.2.1, h.fi.kp hh.2.2 (by simp; exact fun e => h.ne e.symm), h.ne, h.lb, h.lg, kp_own h.kp hh.2.2 h.lb⟩
theorem onS_fallen (b g : Nat) (s : TS) (P C : Int) (w0 w : World) (h : OnS b g s P C w0 w) : Calls Try.prog 16 #[.pointer (some ⟨b, 0, none⟩)] w fun e w' => e = .returned (.tuple #[.agg #[.int .i64 s.pl, .int .i64 s.code], .bool (decide (¬ s.code = 0))]) ∧ OnS b g s P C w0 w' :=
  (trFallen_any b s w h.tr).mono fun _ _ hh => ⟨hh.1, h.next hh.2⟩
theorem IntsAt.one {w w' : World} {ad : Option Addr} {l : List Int} (h : IntsAt w ad l) (hk : Kp [] w w') (i : Nat) (hi : i < l.length) : ∃ b off, ad = some ⟨b, off, none⟩ ∧ w'.cell? ⟨b, off + i, none⟩ = some (.int .i64 l[i]) := by
  obtain ⟨b, off, e, _, hc⟩ := h (by intro e; subst e; simp at hi)
  exact ⟨b, off, e, hk.cell (hc i hi) (by simp)⟩
theorem IntsAt.all {w : World} {ad : Option Addr} {l : List Int} (h : IntsAt w ad l) (i : Nat) (hi : i < l.length) : ∃ b off, ad = some ⟨b, off, none⟩ ∧ ∀ w', Kp [] w w' → w'.cell? ⟨b, off + i, none⟩ = some (.int .i64 l[i]) := by
  obtain ⟨b, off, e, _, hc⟩ := h (by intro e; subst e; simp at hi)
  exact ⟨b, off, e, fun w' hk => hk.cell (hc i hi) (by simp)⟩
set_option maxHeartbeats 4000000 in
set_option maxRecDepth 100000 in
theorem once_walk (ad : Option Addr) (cap : Nat) (l : List Int) (room : Int) (w : World) (_hl : l.length ≤ 9223372036854775807) (hA : IntsAt w ad l) (_hok : ∀ y ∈ l, -9223372036854775808 ≤ y ∧ y ≤ 9223372036854775807) :
    Calls Try.prog 6 #[.slice ad l.length cap, .int .i64 room] w fun e w' => e = .returned (.bool true) ∧ Below w.heap.size w w' := by
  have WK := hide (trWorks_any w)
  have AM := hide (fun W => trAmong_any room 1000 W (by decide) (by decide))
  have a0 := Int.emod_nonneg room (by decide : (1000 : Int) ≠ 0)
  have a1 := Int.emod_lt_of_pos room (by decide : (0 : Int) < 1000)
  generalize room % 1000 = R at *
  have NW := hide (fun W => trNew_ok R W a0 (by omega))
  clear a0 a1
  have HA := hide hA
  clear hA
  go_enter Try.func6, Try.ntmps6
  go_wp2_with fail
  refine (unhide WK).mono ?_
  rintro r w1 ⟨rfl, hk⟩
  have HK1 := hide hk
  clear hk WK
  go_wp2_with fail
  refine (unhide AM w1).mono ?_
  rintro r w2 ⟨rfl, rfl⟩
  clear AM
  go_wp2_with fail
  refine (unhide NW w2).mono ?_
  rintro r w3 ⟨rfl, hm, hk⟩
  have hb := (unhide HK1).size
  have HB3 := hide hm
  have HK3 := hide (kp_tr (unhide HK1) hk)
  have hg := hk.size
  have hlt := hm.lt
  clear hm hk HK1 NW
  have HS : Hid (OnS w2.heap.size w3.heap.size (nw R) 0 0 w (w3.alloc (.cells #[.int .i64 0, .int .i64 0] 38))) := hide ⟨(unhide HB3).kp (Kp.alloc _ _) (by simp), CBox.new _ _ _, by omega, hb, (unhide HK3).size, kp_tr (unhide HK3) (Kp.alloc _ _)⟩
  clear hb hg hlt HB3 HK3
  generalize w2.heap.size = b at *
  go_wp2_with fail
  generalize w3.heap.size = g at *
  go_loopw [7, 9] (fun y i wr => ∃ (j : Nat) (s : TS), j ≤ l.length ∧ i = .int .i64 (j : Int) ∧ y = .int .i64 s.dn ∧ Hid (OnS b g s s.pl s.code w wr)) (fun _ i _ => l.length - (intOf i).toNat)
  case atStart => exact ⟨0, nw R, Nat.zero_le _, rfl, rfl, HS⟩
  case round =>
    clear HS
    obtain ⟨j, s, hj, rfl, rfl, HC⟩ := hrel
    by_cases hlt : j < l.length ∧ j < 100
    · obtain ⟨hlt, h100⟩ := hlt
      have hli : (j : Int) < (l.length : Int) := by omega
      obtain ⟨ab, off, rfl, hx⟩ := (unhide HA).all j hlt
      have HX := hide hx
      clear hx HA
      generalize l[j] = x at *
      have FA := hide (onS_fail b g s s.pl s.code x (j : Int) w wr (unhide HC))
      have hx1 := unhide HX wr (unhide HC).kp
      clear HC
      by_cases hs : s.code = 0
      · have hd : s.dn = 0 := if_pos hs
        rw [hd]
        by_cases hx0 : x = 0
        · subst hx0
          have e1 : faB s 0 = false := by unfold faB; simp
          have e2 : faE 0 = 1 := rfl
          have e3 : faS s 0 (j : Int) = s := by unfold faS; simp
          rw [e1, e2, e3] at FA
          have FF := hide (fun W => onS_fallen b g s s.pl s.code w W)
          rw [decide_eq_false (by simp [hs])] at FF
          have HR : Hid (∀ W, OnS b g s s.pl s.code w W → ∃ s' : TS, (Value.int IntKind.i64 0 = .int .i64 s'.dn) ∧ Hid (OnS b g s' s'.pl s'.code w W)) := hide (fun W hW => ⟨s, by rw [hd], hide hW⟩)
          clear e1 e2 e3 hs hd
          generalize s.pl = P at *
          generalize s.code = C at *
          go_wp2_with fail
          refine (unhide FA).mono ?_
          rintro r w4 ⟨rfl, h4⟩
          have hx2 := unhide HX w4 h4.kp
          have H4 := hide h4
          clear h4 FA hx1
          go_wp2_with fail
          refine (unhide FF _ (unhide H4)).mono ?_
          rintro r w5 ⟨rfl, h5⟩
          have h6 := h5.next (Kp.alloc w5 (.cells #[.int .i64 P, .int .i64 C] 38))
          have c0 := h6.fi.cell (i := 0) (v := .int .i64 P) rfl
          have c1 := h6.fi.cell (i := 1) (v := .int .i64 C) rfl
          have HN := hide (unhide HR _ h6)
          clear h5 h6 FF HR HX hx2 H4
          go_wp2
          obtain ⟨s2, e4, HN2⟩ := unhide HN
          go_roundw
          case rel => exact ⟨j + 1, s2, by omega, by go_num, e4, HN2⟩
          case measure => simp [intOf]; omega
        · have e1 : faB s x = true := by unfold faB; simp [hx0, hs]
          have e2 : faE x = 0 := if_neg hx0
          have e3 : faS s x (j : Int) = { s with pl := (j : Int), code := x } := if_pos ⟨hx0, hs⟩
          rw [e1, e2, e3] at FA
          have FF := hide (fun W => onS_fallen b g { s with pl := (j : Int), code := x } (j : Int) x w W)
          have ST := hide (fun W (h : OnS b g { s with pl := (j : Int), code := x } s.pl s.code w W) => h.set (j : Int) x)
          have HR : Hid (∀ W, OnS b g { s with pl := (j : Int), code := x } (j : Int) x w W → ∃ s' : TS, (Value.int IntKind.i64 1 = .int .i64 s'.dn) ∧ Hid (OnS b g s' s'.pl s'.code w W)) := hide (fun W hW => ⟨{ s with pl := (j : Int), code := x }, by unfold TS.dn; rw [if_neg hx0], hide hW⟩)
          simp only [] at FF
          rw [decide_eq_true hx0] at FF
          clear e1 e2 e3 hs hd
          generalize hu : { s with pl := (j : Int), code := x } = s' at *
          clear hu
          generalize s.pl = P at *
          generalize s.code = C at *
          go_wp2_with fail
          refine (unhide FA).mono ?_
          rintro r w4 ⟨rfl, h4⟩
          have hx2 := unhide HX w4 h4.kp
          have y0 := h4.fi.cell (i := 0) (v := .int .i64 P) rfl
          have y1 := h4.fi.cell (i := 1) (v := .int .i64 C) rfl
          have z0 := h4.fi.froz 0
          have z1 := h4.fi.froz 1
          have H4 := hide (unhide ST w4 h4)
          clear h4 FA ST hx1
          go_wp2_with fail
          refine (unhide FF _ (unhide H4)).mono ?_
          rintro r w5 ⟨rfl, h5⟩
          have h6 := h5.next (Kp.alloc w5 (.cells #[.int .i64 (j : Int), .int .i64 x] 38))
          have c0 := h6.fi.cell (i := 0) (v := .int .i64 (j : Int)) rfl
          have c1 := h6.fi.cell (i := 1) (v := .int .i64 x) rfl
          have HN := hide (unhide HR _ h6)
          clear h5 h6 FF HR HX hx2 y0 y1 z0 z1 H4
          go_wp2
          obtain ⟨s2, e4, HN2⟩ := unhide HN
          go_roundw
          case rel => exact ⟨j + 1, s2, by omega, by go_num, e4, HN2⟩
          case measure => simp [intOf]; omega
      · have hd : s.dn = 1 := if_neg hs
        rw [hd]
        have FF := hide (fun W => onS_fallen b g s s.pl s.code w W)
        rw [decide_eq_true hs] at FF
        have HR : Hid (∀ W, OnS b g s s.pl s.code w W → ∃ s' : TS, (Value.int IntKind.i64 1 = .int .i64 s'.dn) ∧ Hid (OnS b g s' s'.pl s'.code w W)) := hide (fun W hW => ⟨s, by rw [hd], hide hW⟩)
        by_cases hx0 : x = 0
        · subst hx0
          have e1 : faB s 0 = false := by unfold faB; simp
          have e2 : faE 0 = 1 := rfl
          have e3 : faS s 0 (j : Int) = s := by unfold faS; simp
          rw [e1, e2, e3] at FA
          clear e1 e2 e3 hs hd
          generalize s.pl = P at *
          generalize s.code = C at *
          go_wp2_with fail
          refine (unhide FA).mono ?_
          rintro r w4 ⟨rfl, h4⟩
          have hx2 := unhide HX w4 h4.kp
          have H4 := hide h4
          clear h4 FA hx1
          go_wp2_with fail
          refine (unhide FF _ (unhide H4)).mono ?_
          rintro r w5 ⟨rfl, h5⟩
          have h6 := h5.next (Kp.alloc w5 (.cells #[.int .i64 P, .int .i64 C] 38))
          have c0 := h6.fi.cell (i := 0) (v := .int .i64 P) rfl
          have c1 := h6.fi.cell (i := 1) (v := .int .i64 C) rfl
          have HN := hide (unhide HR _ h6)
          clear h5 h6 FF HR HX hx2 H4
          go_wp2
          obtain ⟨s2, e4, HN2⟩ := unhide HN
          go_roundw
          case rel => exact ⟨j + 1, s2, by omega, by go_num, e4, HN2⟩
          case measure => simp [intOf]; omega
        · have e1 : faB s x = false := by unfold faB; simp [hs]
          have e2 : faE x = 0 := if_neg hx0
          have e3 : faS s x (j : Int) = s := if_neg (fun hh => hs hh.2)
          rw [e1, e2, e3] at FA
          clear e1 e2 e3 hs hd
          generalize s.pl = P at *
          generalize s.code = C at *
          go_wp2_with fail
          refine (unhide FA).mono ?_
          rintro r w4 ⟨rfl, h4⟩
          have hx2 := unhide HX w4 h4.kp
          have H4 := hide h4
          clear h4 FA hx1
          go_wp2_with fail
          refine (unhide FF _ (unhide H4)).mono ?_
          rintro r w5 ⟨rfl, h5⟩
          have h6 := h5.next (Kp.alloc w5 (.cells #[.int .i64 P, .int .i64 C] 38))
          have c0 := h6.fi.cell (i := 0) (v := .int .i64 P) rfl
          have c1 := h6.fi.cell (i := 1) (v := .int .i64 C) rfl
          have HN := hide (unhide HR _ h6)
          clear h5 h6 FF HR HX hx2 H4
          go_wp2
          obtain ⟨s2, e4, HN2⟩ := unhide HN
          go_roundw
          case rel => exact ⟨j + 1, s2, by omega, by go_num, e4, HN2⟩
          case measure => simp [intOf]; omega
    · have HE : Hid (s.dn ≤ 1) := hide (by unfold TS.dn; split <;> decide)
      have HK := hide (unhide HC).kp
      clear HC HA
      generalize s.dn = D at *
      have hD := unhide HE
      by_cases hlt2 : j < l.length
      · have hli : (j : Int) < (l.length : Int) := by omega
        have h100 : (100 : Int) ≤ (j : Int) := by omega
        clear hlt HE
        go_wp2
        go_ret
        exact ⟨rfl, (unhide HK).below (Nat.le_refl _) (by simp)⟩
      · have hli : ¬ ((j : Int) < (l.length : Int)) := by omega
        clear hlt HE
        go_wp2
        go_ret
        exact ⟨rfl, (unhide HK).below (Nat.le_refl _) (by simp)⟩
end Go.Proofs.Ytmcilconledabaa
