/-
  A trip's calls: made; has it fallen, and why; how much is left; it fails; some is used, some is given back.
-/
import Derived.Test.YtmcilconledabaaTrC
import Derived.Deep.RegionHeld3
import Derived.Deep.QuietTactic
import Derived.BigQuiet
import Derived.Deep.RegionWith
import Derived.Laws.ResultCell
import Derived.Deep.RegionLaw
namespace Go.Proofs.Ytmcilconledabaa
open Go.RowKit

/-- A new trip. -/
def nw (room : Int) : TS := ⟨room, 0, 0, 0⟩
theorem trNew_not (room : Int) (w : World) (hr : room < 0) : Calls Try.prog 7 #[.int .i64 room] w fun e w' => e = .returned (.tuple #[.pointer none, .int .i64 1]) ∧ w' = w := by
  go_enter Try.func7, Try.ntmps7
  go_wp2
  go_ret2
  exact ⟨rfl, rfl⟩
theorem trNew_ok (room : Int) (w : World) (hr : 0 ≤ room) (ht : room ≤ 9223372036854775807) : Calls Try.prog 7 #[.int .i64 room] w fun e w' => e = .returned (.tuple #[.pointer (some ⟨w.heap.size, 0, none⟩), .int .i64 0]) ∧ Tr w.heap.size (nw room) w' ∧ Kp [] w w' := by
  have HT := hide ht
  have HN : Hid (Tr w.heap.size (nw room) (w.alloc (.cells (trC room 0 0 0 0 0) 65))) := hide ⟨CBox.new w _ _, Int.le_refl _, hr, ht, fun _ => rfl⟩
  clear ht
  go_enter Try.func7, Try.ntmps7
  go_wp2
  go_ret2
  exact ⟨rfl, unhide HN, Kp.alloc w _⟩
theorem trDown_any (b : Nat) (s : TS) (w : World) (h : Tr b s w) : Calls Try.prog 21 #[.pointer (some ⟨b, 0, none⟩)] w fun e w' => e = .returned (.bool (decide (¬ s.code = 0))) ∧ w' = w := by
  have h6 := h.box.cell (i := 6) (v := .int .i64 s.code) rfl
  clear h
  have HB : Hid (decide (¬ s.code = 0) = (s.code != 0)) := hide (by by_cases h : s.code = 0 <;> simp [h])
  generalize decide (¬ s.code = 0) = B at *
  go_enter Try.func21, Try.ntmps21
  go_wp2
  go_ret
  exact ⟨ret_bool (unhide HB).symm, rfl⟩
theorem trRoom_any (b : Nat) (s : TS) (w : World) (h : Tr b s w) : Calls Try.prog 17 #[.pointer (some ⟨b, 0, none⟩)] w fun e w' => e = .returned (.int .i64 (s.room - s.used)) ∧ Kp [] w w' := by
  have h0 := h.box.cell (i := 0) (v := .int .i64 s.room) rfl
  have h1 := h.box.cell (i := 1) (v := .int .i64 s.used) rfl
  have a1 := h.low
  have a2 := h.top
  have a3 := h.fit
  clear h
  go_enter Try.func17, Try.ntmps17
  go_wp2
  go_quiet (fail)
  go_wp2
  go_ret
  exact ⟨rfl, Kp.drewQ w _⟩
theorem results_row_tmp {P : Program} {fn : Func} {p u : Tmp} {ty : TypeId} (h : fn.results = #[.cell p ty, .tmp u]) (tmps : Array Value) (w : World) (g : Nat) (t : TypeId) (cs : Array Value) (fr : Nat × Nat) (d : TypeDesc)
    (hp : tmps.getD p undef = .pointer (some ⟨g, 0, none⟩)) (hg : w.heap[g]? = some (.cells cs t fr))
    (hu : P.underlying ty = some d) (hd : (match d with | .struct _ | .array _ _ => true | _ => false) = true) (hi : (P.info? ty).map (·.size) = some cs.size) :
    (results fn tmps).run P w = .ok (.tuple #[.agg cs, tmps.getD u undef]) w := by
  rw [results_cell_tmp h, hp]
  simp [asAddr, run_loadVar_row w g t ty cs fr d hg hu hd hi]
theorem trFallen_any (b : Nat) (s : TS) (w : World) (h : Tr b s w) : Calls Try.prog 16 #[.pointer (some ⟨b, 0, none⟩)] w fun e w' => e = .returned (.tuple #[.agg #[.int .i64 s.pl, .int .i64 s.code], .bool (decide (¬ s.code = 0))]) ∧ Kp [] w w' := by
  have k1 := Kp.alloc w (.cells #[.int .i64 0, .int .i64 0] 38)
  have h2 : Hid (Tr b s (w.alloc (.cells #[.int .i64 0, .int .i64 0] 38)).drew) := hide ((h.kp k1 (by simp)).kp (Kp.drew _) (by simp))
  have h5 := (unhide h2).box.cell (i := 5) (v := .int .i64 s.pl) rfl
  have h6 := (unhide h2).box.cell (i := 6) (v := .int .i64 s.code) rfl
  have DN := hide (trDown_any b s _ (unhide h2))
  clear h h2 k1
  generalize decide (¬ s.code = 0) = B at *
  go_enter Try.func16, Try.ntmps16
  go_wp2_with fail
  go_region_with (go_at_call 21; refine (unhide DN).mono ?_; rintro e w' ⟨rfl, rfl⟩)
  all_goals (go_wp2_with fail; refine bodyPost_ret (v := .tuple #[.agg #[.int .i64 s.pl, .int .i64 s.code], .bool B]) ?_ rfl ⟨rfl, kp_tr (Kp.alloc w _) (Kp.drew _)⟩; exact results_row_tmp (p := 2) (u := 3) (ty := 38) rfl _ _ w.heap.size 38 #[.int .i64 s.pl, .int .i64 s.code] (0, 0) _ rfl (heap_alloc_new w _) Try.underlying38 rfl rfl)

/-- What failing answers and leaves. -/
def faE (code : Int) : Int := if code = 0 then 1 else 0
def faB (s : TS) (code : Int) : Bool := decide (¬ code = 0 ∧ s.code = 0)
def faS (s : TS) (code pl : Int) : TS := if ¬ code = 0 ∧ s.code = 0 then { s with pl := pl, code := code } else s
theorem Tr.fell {b : Nat} {s : TS} {code pl : Int} {w w' : World} (h : Tr b s w) (hc : ¬ code = 0) (hb : CBox b (trC s.room s.used 1 0 (if s.code = 0 then pl else s.pl) (if s.code = 0 then code else s.code)) 65 w') : Tr b (faS s code pl) w' := by
  by_cases hs : s.code = 0
  · rw [if_pos hs, if_pos hs] at hb
    unfold faS
    rw [if_pos ⟨hc, hs⟩]
    refine ⟨?_, h.low, h.top, h.fit, fun h0 => absurd h0 hc⟩
    show CBox b (trC s.room s.used (if code = 0 then 0 else 1) 0 pl code) _ w'
    rw [if_neg hc]
    exact hb
  · rw [if_neg hs, if_neg hs] at hb
    unfold faS
    rw [if_neg (fun hh => hs hh.2)]
    refine ⟨?_, h.low, h.top, h.fit, h.zero⟩
    show CBox b (trC s.room s.used (if s.code = 0 then 0 else 1) 0 s.pl s.code) _ w'
    rw [if_neg hs]
    exact hb
theorem trFail_any (b : Nat) (s : TS) (code pl : Int) (w : World) (h : Tr b s w) : Calls Try.prog 10 #[.pointer (some ⟨b, 0, none⟩), .int .i64 code, .int .i64 pl] w fun e w' => e = .returned (.tuple #[.bool (faB s code), .int .i64 (faE code)]) ∧ Tr b (faS s code pl) w' ∧ Kp [b] w w' := by
  by_cases hc : code = 0
  · subst hc
    have e1 : faB s 0 = false := by unfold faB; simp
    have e2 : faE 0 = 1 := rfl
    have e3 : faS s 0 pl = s := by unfold faS; simp
    rw [e1, e2, e3]
    have HH := hide h
    clear h e1 e2 e3
    go_enter Try.func10, Try.ntmps10
    go_wp2
    go_ret2
    exact ⟨rfl, unhide HH, Kp.refl _ _⟩
  · have e1 : faB s code = decide (s.code = 0) := by unfold faB; simp [hc]
    have e2 : faE code = 0 := if_neg hc
    rw [e1, e2]
    have FL := hide (fun w' => Tr.fell (w' := w') (pl := pl) h hc)
    have FA := hide (fall_any b s code pl w h)
    clear h e1 e2
    generalize faS s code pl = s' at *
    generalize decide (s.code = 0) = B at *
    generalize trC s.room s.used 1 0 (if s.code = 0 then pl else s.pl) (if s.code = 0 then code else s.code) = T at *
    go_enter Try.func10, Try.ntmps10
    go_wp2_with fail
    refine (unhide FA).mono ?_
    rintro e w1 ⟨rfl, hb, hk⟩
    have HB := hide (And.intro (unhide FL w1 hb) hk)
    clear hb hk FA FL
    go_wp2
    go_ret2
    exact ⟨rfl, unhide HB⟩
/-- What using answers and leaves. -/
def usE (s : TS) (n : Int) : Int := if ¬ s.code = 0 then 90 else if n < 0 then 1 else if s.room - s.used < n then 32 else 0
def usS (s : TS) (n pl : Int) : TS := if usE s n = 32 then { s with pl := pl, code := 32 } else if usE s n = 0 then { s with used := s.used + n } else s
theorem trUse_any (b : Nat) (s : TS) (n pl : Int) (w : World) (h : Tr b s w) : Calls Try.prog 12 #[.pointer (some ⟨b, 0, none⟩), .int .i64 n, .int .i64 pl] w fun e w' => e = .returned (.int .i64 (usE s n)) ∧ Tr b (usS s n pl) w' ∧ Kp [b] w w' := by
  have DN := hide (trDown_any b s w h)
  by_cases hs : s.code = 0
  · rw [decide_eq_false (by simp [hs])] at DN
    by_cases hn : n < 0
    · have e1 : usE s n = 1 := by unfold usE; simp [hs, hn]
      have e2 : usS s n pl = s := by unfold usS; simp [e1]
      rw [e1, e2]
      have HH := hide h
      clear h e1 e2 hs
      go_enter Try.func12, Try.ntmps12
      go_wp2_with fail
      refine (unhide DN).mono ?_
      rintro e w1 ⟨rfl, rfl⟩
      clear DN
      go_wp2
      go_ret
      exact ⟨rfl, unhide HH, Kp.refl _ _⟩
    · have RM := hide (trRoom_any b s w h)
      by_cases hl : s.room - s.used < n
      · have e1 : usE s n = 32 := by unfold usE; simp [hs, hn, hl]
        have e2 : usS s n pl = faS s 32 pl := by unfold usS faS; simp [e1, hs]
        rw [e1, e2]
        have FL := hide (fun W => fall_any b s 32 pl W)
        have FE := hide (fun W W' => Tr.fell (w := W) (w' := W') (code := 32) (pl := pl) (b := b) (s := s))
        have HH := hide h
        clear h e1 e2 hs
        generalize faS s 32 pl = s' at *
        generalize decide (s.code = 0) = B at *
        generalize s.room - s.used = R at *
        go_enter Try.func12, Try.ntmps12
        go_wp2_with fail
        refine (unhide DN).mono ?_
        rintro e w1 ⟨rfl, rfl⟩
        clear DN
        go_wp2_with fail
        refine (unhide RM).mono ?_
        rintro e w2 ⟨rfl, hk⟩
        have HH2 := hide ((unhide HH).kp hk (by simp))
        have HK2 := hide hk
        clear hk RM
        go_wp2_with fail
        refine (unhide FL w2 (unhide HH2)).mono ?_
        rintro e w3 ⟨rfl, hb, hk⟩
        have HH3 := hide (unhide FE w2 w3 (unhide HH2) (by decide) hb)
        have HK3 : Hid (Kp [b] w1 w3) := hide (((unhide HK2).mono (by simp)).trans hk (fun x hx => Or.inl hx))
        clear hb hk FL FE HK2 HH2 HH
        go_wp2
        go_ret
        exact ⟨rfl, unhide HH3, unhide HK3⟩
      · have e1 : usE s n = 0 := by unfold usE; simp [hs, hn, hl]
        have e2 : usS s n pl = { s with used := s.used + n } := by unfold usS; simp [e1]
        rw [e1, e2]
        have CL := hide (fun W => Tr.kp (F := []) (w := w) (w' := W) h)
        have a1 := h.low
        have a2 := h.top
        have a3 := h.fit
        have ST : Hid (∀ W : World, Tr b s W → Tr b { s with used := s.used + n } (W.setCell ⟨b, 1, none⟩ (.int .i64 (s.used + n)))) := hide fun W hW => ⟨hW.box.set 1 _, by show 0 ≤ s.used + n; omega, by show s.used + n ≤ s.room; omega, hW.fit, hW.zero⟩
        clear h e1 e2 hs
        generalize hu : { s with used := s.used + n } = s' at *
        clear hu
        go_enter Try.func12, Try.ntmps12
        go_wp2_with fail
        refine (unhide DN).mono ?_
        rintro e w1 ⟨rfl, rfl⟩
        clear DN
        go_wp2_with fail
        refine (unhide RM).mono ?_
        rintro e w2 ⟨rfl, hk⟩
        have HH2 := hide (unhide CL w2 hk (by simp))
        have HK2 := hide hk
        have h1 := (unhide HH2).box.cell (i := 1) (v := .int .i64 s.used) rfl
        have z1 := (unhide HH2).box.froz 1
        clear hk RM CL
        go_wp2
        go_ret
        exact ⟨rfl, unhide ST w2 (unhide HH2), ((unhide HK2).mono (by simp)).trans (Kp.set w2 b 1 _) (fun x hx => Or.inl hx)⟩
  · rw [decide_eq_true hs] at DN
    have e1 : usE s n = 90 := by unfold usE; simp [hs]
    have e2 : usS s n pl = s := by unfold usS; simp [e1]
    rw [e1, e2]
    have HH := hide h
    clear h e1 e2 hs
    go_enter Try.func12, Try.ntmps12
    go_wp2_with fail
    refine (unhide DN).mono ?_
    rintro e w1 ⟨rfl, rfl⟩
    clear DN
    go_wp2
    go_ret
    exact ⟨rfl, unhide HH, Kp.refl _ _⟩
/-- What giving back answers and leaves. -/
def baE (s : TS) (n : Int) : Int := if ¬ s.code = 0 then 90 else if n < 0 then 1 else if s.used < n then 1 else 0
def baS (s : TS) (n : Int) : TS := if baE s n = 0 then { s with used := s.used - n } else s
theorem trBack_any (b : Nat) (s : TS) (n : Int) (w : World) (h : Tr b s w) : Calls Try.prog 14 #[.pointer (some ⟨b, 0, none⟩), .int .i64 n] w fun e w' => e = .returned (.int .i64 (baE s n)) ∧ Tr b (baS s n) w' ∧ Kp [b] w w' := by
  have DN := hide (trDown_any b s w h)
  have h1 := h.box.cell (i := 1) (v := .int .i64 s.used) rfl
  have z1 := h.box.froz 1
  by_cases hs : s.code = 0
  · rw [decide_eq_false (by simp [hs])] at DN
    by_cases hn : n < 0
    · have e1 : baE s n = 1 := by unfold baE; simp [hs, hn]
      have e2 : baS s n = s := by unfold baS; simp [e1]
      rw [e1, e2]
      have HH := hide h
      clear h e1 e2 hs
      go_enter Try.func14, Try.ntmps14
      go_wp2_with fail
      refine (unhide DN).mono ?_
      rintro e w1 ⟨rfl, rfl⟩
      clear DN
      go_wp2
      go_ret
      exact ⟨rfl, unhide HH, Kp.refl _ _⟩
    · by_cases hl : s.used < n
      · have e1 : baE s n = 1 := by unfold baE; simp [hs, hn, hl]
        have e2 : baS s n = s := by unfold baS; simp [e1]
        rw [e1, e2]
        have HH := hide h
        clear h e1 e2 hs
        go_enter Try.func14, Try.ntmps14
        go_wp2_with fail
        refine (unhide DN).mono ?_
        rintro e w1 ⟨rfl, rfl⟩
        clear DN
        go_wp2
        go_ret
        exact ⟨rfl, unhide HH, Kp.refl _ _⟩
      · have e1 : baE s n = 0 := by unfold baE; simp [hs, hn, hl]
        have e2 : baS s n = { s with used := s.used - n } := by unfold baS; simp [e1]
        rw [e1, e2]
        have a1 := h.low
        have a2 := h.top
        have a3 := h.fit
        have ST : Hid (Tr b { s with used := s.used - n } (w.setCell ⟨b, 1, none⟩ (.int .i64 (s.used - n)))) := hide ⟨h.box.set 1 _, by show 0 ≤ s.used - n; omega, by show s.used - n ≤ s.room; omega, h.fit, h.zero⟩
        clear h e1 e2 hs
        generalize hu : { s with used := s.used - n } = s' at *
        clear hu
        go_enter Try.func14, Try.ntmps14
        go_wp2_with fail
        refine (unhide DN).mono ?_
        rintro e w1 ⟨rfl, rfl⟩
        clear DN
        go_wp2
        go_ret
        exact ⟨rfl, unhide ST, Kp.set w1 b 1 _⟩
  · rw [decide_eq_true hs] at DN
    have e1 : baE s n = 90 := by unfold baE; simp [hs]
    have e2 : baS s n = s := by unfold baS; simp [e1]
    rw [e1, e2]
    have HH := hide h
    clear h e1 e2 hs
    go_enter Try.func14, Try.ntmps14
    go_wp2_with fail
    refine (unhide DN).mono ?_
    rintro e w1 ⟨rfl, rfl⟩
    clear DN
    go_wp2
    go_ret
    exact ⟨rfl, unhide HH, Kp.refl _ _⟩
end Go.Proofs.Ytmcilconledabaa
