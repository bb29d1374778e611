/-
  TripPlays: the walk.
-/
import Derived.Test.YtmcilconledabaaTrW
import Derived.Test.YtmcilconledabaaTrR
import Derived.Test.YtmcilconledabaaAc9
namespace Go.Proofs.Ytmcilconledabaa
open Go.RowKit

/-- A trip and the document's, both of the call's own. -/
structure PT (b r : Nat) (s t : TS) (w0 w : World) : Prop where
  tr : Tr b s w
  rr : Rr r t w
  ne : b ≠ r
  lb : w0.heap.size ≤ b
  lr : w0.heap.size ≤ r
  kp : Kp [] w0 w
theorem PT.next {b r : Nat} {s t : TS} {w0 w w' : World} (h : PT b r s t w0 w) (k : Kp [] w w') : PT b r s t w0 w' := ⟨h.tr.kp k (by simp), h.rr.kp k (by simp), h.ne, h.lb, h.lr, kp_tr h.kp k⟩
/-- Both, and an act's box. -/
structure PA (b r g : Nat) (s t : TS) (kd cd n pl : Int) (w0 w : World) : Prop where
  st : PT b r s t w0 w
  bx : CBox g #[.int .i64 kd, .int .i64 cd, .int .i64 n, .int .i64 pl] 31 w
  nb : b ≠ g
  nr : r ≠ g
theorem PA.next {b r g : Nat} {s t : TS} {kd cd n pl : Int} {w0 w w' : World} (h : PA b r g s t kd cd n pl w0 w) (k : Kp [] w w') : PA b r g s t kd cd n pl w0 w' := ⟨h.st.next k, h.bx.kp k (by simp), h.nb, h.nr⟩
theorem PA.setb {b r g : Nat} {s s' t : TS} {kd cd n pl : Int} {w0 w w' : World} (h : PA b r g s t kd cd n pl w0 w) (hs : Tr b s' w') (k : Kp [b] w w') : PA b r g s' t kd cd n pl w0 w' :=
  ⟨⟨hs, h.st.rr.kp k (by simpa using h.st.ne.symm), h.st.ne, h.st.lb, h.st.lr, kp_own h.st.kp k h.st.lb⟩, h.bx.kp k (by simpa using h.nb.symm), h.nb, h.nr⟩
theorem PA.setr {b r g : Nat} {s t t' : TS} {kd cd n pl : Int} {w0 w w' : World} (h : PA b r g s t kd cd n pl w0 w) (ht : Rr r t' w') (k : Kp [r] w w') : PA b r g s t' kd cd n pl w0 w' :=
  ⟨⟨h.st.tr.kp k (by simpa using h.st.ne), ht, h.st.ne, h.st.lb, h.st.lr, kp_own h.st.kp k h.st.lr⟩, h.bx.kp k (by simpa using h.nr.symm), h.nb, h.nr⟩
theorem PA.cells {b r g : Nat} {s t : TS} {kd cd n pl : Int} {w0 w : World} (h : PA b r g s t kd cd n pl w0 w) : w.cell? ⟨g, 0, none⟩ = some (.int .i64 kd) ∧ w.cell? ⟨g, 1, none⟩ = some (.int .i64 cd) ∧ w.cell? ⟨g, 2, none⟩ = some (.int .i64 n) ∧ w.cell? ⟨g, 3, none⟩ = some (.int .i64 pl) :=
  ⟨h.bx.cell rfl, h.bx.cell rfl, h.bx.cell rfl, h.bx.cell rfl⟩
theorem PA.np {b r g : Nat} {s t : TS} {kd cd n pl : Int} {w0 w : World} (h : PA b r g s t kd cd n pl w0 w) : w.cell? ⟨g, 2, none⟩ = some (.int .i64 n) ∧ w.cell? ⟨g, 3, none⟩ = some (.int .i64 pl) := ⟨h.cells.2.2.1, h.cells.2.2.2⟩
theorem PA.n1 {b r g : Nat} {s t : TS} {kd cd n pl : Int} {w0 w : World} (h : PA b r g s t kd cd n pl w0 w) : w.cell? ⟨g, 2, none⟩ = some (.int .i64 n) := h.cells.2.2.1
theorem pa_fail1 {b r g : Nat} {s t : TS} {kd cd n pl : Int} {w0 w : World} (h : PA b r g s t kd cd n pl w0 w) : Calls Try.prog 10 #[.pointer (some ⟨b, 0, none⟩), .int .i64 cd, .int .i64 pl] w fun e w' => e = .returned (.tuple #[.bool (faB s cd), .int .i64 (faE cd)]) ∧ PA b r g (faS s cd pl) t kd cd n pl w0 w' :=
  (trFail_any b s cd pl w h.st.tr).mono fun _ _ hh => ⟨hh.1, h.setb hh.2.1 hh.2.2⟩
theorem pa_fail2 {b r g : Nat} {s t : TS} {kd cd n pl : Int} {w0 w : World} (h : PA b r g s t kd cd n pl w0 w) : Calls Try.prog 11 #[.pointer (some ⟨r, 0, none⟩), .int .i64 cd, .int .i64 pl] w fun e w' => e = .returned (.tuple #[.bool (faB t cd), .int .i64 (faE cd)]) ∧ PA b r g s (faS t cd pl) kd cd n pl w0 w' :=
  (rrFail_any r t cd pl w h.st.rr).mono fun _ _ hh => ⟨hh.1, h.setr hh.2.1 hh.2.2⟩
theorem pa_use1 {b r g : Nat} {s t : TS} {kd cd n pl : Int} {w0 w : World} (h : PA b r g s t kd cd n pl w0 w) : Calls Try.prog 12 #[.pointer (some ⟨b, 0, none⟩), .int .i64 n, .int .i64 pl] w fun e w' => e = .returned (.int .i64 (usE s n)) ∧ PA b r g (usS s n pl) t kd cd n pl w0 w' :=
  (trUse_any b s n pl w h.st.tr).mono fun _ _ hh => ⟨hh.1, h.setb hh.2.1 hh.2.2⟩
theorem pa_use2 {b r g : Nat} {s t : TS} {kd cd n pl : Int} {w0 w : World} (a1 : 0 ≤ t.used) (a3 : t.room ≤ 9223372036854775807) (h : PA b r g s t kd cd n pl w0 w) : Calls Try.prog 13 #[.pointer (some ⟨r, 0, none⟩), .int .i64 n, .int .i64 pl] w fun e w' => e = .returned (.int .i64 (usE t n)) ∧ PA b r g s (usS t n pl) kd cd n pl w0 w' :=
  (rrUse_any r t n pl w h.st.rr a1 a3).mono fun _ _ hh => ⟨hh.1, h.setr hh.2.1 hh.2.2⟩
theorem pa_back1 {b r g : Nat} {s t : TS} {kd cd n pl : Int} {w0 w : World} (h : PA b r g s t kd cd n pl w0 w) : Calls Try.prog 14 #[.pointer (some ⟨b, 0, none⟩), .int .i64 n] w fun e w' => e = .returned (.int .i64 (baE s n)) ∧ PA b r g (baS s n) t kd cd n pl w0 w' :=
  (trBack_any b s n w h.st.tr).mono fun _ _ hh => ⟨hh.1, h.setb hh.2.1 hh.2.2⟩
theorem pa_back2 {b r g : Nat} {s t : TS} {kd cd n pl : Int} {w0 w : World} (a2 : t.used ≤ t.room) (a3 : t.room ≤ 9223372036854775807) (h : PA b r g s t kd cd n pl w0 w) : Calls Try.prog 15 #[.pointer (some ⟨r, 0, none⟩), .int .i64 n] w fun e w' => e = .returned (.int .i64 (baE t n)) ∧ PA b r g s (baS t n) kd cd n pl w0 w' :=
  (rrBack_any r t n w h.st.rr a2 a3).mono fun _ _ hh => ⟨hh.1, h.setr hh.2.1 hh.2.2⟩
theorem pt_fallen {b r : Nat} {s t : TS} {w0 w : World} (h : PT b r s t w0 w) : Calls Try.prog 16 #[.pointer (some ⟨b, 0, none⟩)] w fun e w' => e = .returned (.tuple #[.agg #[.int .i64 s.pl, .int .i64 s.code], .bool (decide (¬ s.code = 0))]) ∧ PT b r s t w0 w' :=
  (trFallen_any b s w h.tr).mono fun _ _ hh => ⟨hh.1, h.next hh.2⟩
/-- What the comparison reads. -/
def Six (r q : Nat) (L P C : Int) (B : Bool) (W : World) : Prop := W.cell? ⟨r, 0, none⟩ = some (.int .i64 L) ∧ W.cell? ⟨r, 2, none⟩ = some (.bool B) ∧ W.cell? ⟨r, 3, none⟩ = some (.int .i64 P) ∧ W.cell? ⟨r, 4, none⟩ = some (.int .i64 C) ∧ W.cell? ⟨q, 0, none⟩ = some (.int .i64 P) ∧ W.cell? ⟨q, 1, none⟩ = some (.int .i64 C)
theorem pt_six {b r q : Nat} {s : TS} {w0 w : World} (h : PT b r s s w0 w) (hq : CBox q #[.int .i64 s.pl, .int .i64 s.code] 38 w) : Six r q (s.room - s.used) s.pl s.code (decide (¬ s.code = 0)) w :=
  ⟨CBox.cell h.rr rfl, CBox.cell h.rr rfl, CBox.cell h.rr rfl, CBox.cell h.rr rfl, hq.cell rfl, hq.cell rfl⟩
theorem pt_room {b r q : Nat} {s : TS} {w0 w : World} (h : PT b r s s w0 w) (hq : CBox q #[.int .i64 s.pl, .int .i64 s.code] 38 w) : Calls Try.prog 17 #[.pointer (some ⟨b, 0, none⟩)] w fun e w' => e = .returned (.int .i64 (s.room - s.used)) ∧ PT b r s s w0 w' ∧ Six r q (s.room - s.used) s.pl s.code (decide (¬ s.code = 0)) w' :=
  (trRoom_any b s w h.tr).mono fun _ _ hh => ⟨hh.1, h.next hh.2, pt_six (h.next hh.2) (hq.kp hh.2 (by simp))⟩
set_option maxHeartbeats 8000000 in
set_option maxRecDepth 100000 in
theorem plays_walkB (room : Int) (ad : Option Addr) (cap : Nat) (l : List Ac9) (w : World) (hr : -9223372036854775808 ≤ room ∧ room ≤ 9223372036854775807) (_hl : l.length ≤ 9223372036854775807) (hA : Acs9 w ad l) (_hok : ∀ y ∈ l, y.ok) :
    Calls Try.prog 3 #[.int .i64 room, .slice ad l.length cap] w fun e w' => e = .returned (.bool true) ∧ Below w.heap.size w w' := by
  have WK := hide trWorks_any
  have HA := hide hA
  clear hA
  by_cases hn : room < 0
  · have NW := hide (fun W => trNew_not room W hn)
    have RW := hide (fun W => rrNew_not room W hn)
    clear HA hr hn
    go_enter Try.func3, Try.ntmps3
    go_wp2_with fail
    refine (unhide NW w).mono ?_
    rintro r w1 ⟨rfl, rfl⟩
    go_wp2_with fail
    refine (unhide RW w1).mono ?_
    rintro r w2 ⟨rfl, rfl⟩
    clear NW RW
    go_wp2_with fail
    go_loopw [9] (fun i wr => i = .int .i64 0 ∧ wr = w2) (fun _ _ => 0)
    case atStart => exact ⟨rfl, rfl⟩
    case round =>
      obtain ⟨rfl, rfl⟩ := hrel
      go_wp2_with fail
      refine (unhide WK wr).mono ?_
      rintro r w3 ⟨rfl, hk⟩
      have HK := hide hk
      clear hk WK
      go_wp2
      go_ret
      exact ⟨rfl, (unhide HK).below (Nat.le_refl _) (by simp)⟩
  · have NW := hide (fun W => trNew_ok room W (by omega) hr.2)
    have RW := hide (fun W => rrNew_ok room W (by omega))
    clear hr hn
    have AM := hide (fun x W => trAmong_any x 3 W (by decide) (by decide))
    go_enter Try.func3, Try.ntmps3
    go_wp2_with fail
    refine (unhide NW w).mono ?_
    rintro x w1 ⟨rfl, hm, hk⟩
    have HM := hide (And.intro hm hk)
    clear hm hk NW
    go_wp2_with fail
    refine (unhide RW w1).mono ?_
    rintro x w2 ⟨rfl, hm, hk⟩
    have HS : Hid (PT w.heap.size w1.heap.size (nw room) (nw room) w w2) := hide ⟨(unhide HM).1.kp hk (by simp), hm, Nat.ne_of_lt (unhide HM).1.lt, Nat.le_refl _, (unhide HM).2.size, kp_tr (unhide HM).2 hk⟩
    clear hm hk RW HM
    generalize w1.heap.size = r at *
    generalize hb : w.heap.size = b at *
    clear hb
    go_wp2_with fail
    go_loopw [9] (fun i wr => ∃ (j : Nat) (s : TS), j ≤ l.length ∧ i = .int .i64 (j : Int) ∧ Hid (PT b r s s w wr)) (fun i _ => l.length - (intOf i).toNat)
    case atStart => exact ⟨0, nw room, Nat.zero_le _, rfl, HS⟩
    case round =>
      clear HS
      obtain ⟨j, s, hj, rfl, HC⟩ := hrel
      by_cases hlt : j < l.length ∧ j < 200
      · obtain ⟨hlt, h200⟩ := hlt
        have hli : (j : Int) < (l.length : Int) := by omega
        obtain ⟨ab, off, rfl, _, x0, x1, x2, x3⟩ := ((unhide HA).kp (unhide HC).kp).at j hlt
        clear HA WK
        generalize l[j] = a at *
        obtain ⟨kd, cd, n, pl⟩ := a
        simp only [] at x0 x1 x2 x3
        have n0 := Int.emod_nonneg kd (by decide : (3 : Int) ≠ 0)
        have n1 := Int.emod_lt_of_pos kd (by decide : (0 : Int) < 3)
        have AX := hide (unhide AM kd)
        clear AM
        generalize kd % 3 = K at *
        have H2 : Hid (PA b r wr.heap.size s s kd cd n pl w (wr.alloc (.cells #[.int .i64 kd, .int .i64 cd, .int .i64 n, .int .i64 pl] 31))) := hide ⟨(unhide HC).next (Kp.alloc _ _), CBox.new _ _ _, Nat.ne_of_lt (unhide HC).tr.lt, Nat.ne_of_lt (unhide HC).rr.lt⟩
        have HB : Hid (0 ≤ s.used ∧ s.used ≤ s.room ∧ s.room ≤ 9223372036854775807) := hide ⟨(unhide HC).tr.low, (unhide HC).tr.top, (unhide HC).tr.fit⟩
        clear HC
        go_wp2_with fail
        refine (unhide AX _).mono ?_
        rintro x w4 ⟨rfl, rfl⟩
        clear AX
        generalize wr.heap.size = g at *
        generalize wr.alloc (.cells #[.int .i64 kd, .int .i64 cd, .int .i64 n, .int .i64 pl] 31) = W1 at *
        obtain ⟨y0, y1, y2, y3⟩ := (unhide H2).cells
        clear x0 x1 x2 x3
        rcases (by omega : K = 0 ∨ K = 1 ∨ K = 2) with rfl | rfl | rfl
        · clear n0 n1
          have A1 := hide (pa_fail1 (unhide H2))
          have A2 := hide (fun W => pa_fail2 (b := b) (r := r) (g := g) (s := faS s cd pl) (t := s) (kd := kd) (cd := cd) (n := n) (pl := pl) (w0 := w) (w := W))
          generalize faS s cd pl = s' at *
          generalize faB s cd = V at *
          generalize faE cd = E at *
          go_wp2_with fail
          refine (unhide A1).mono ?_
          rintro x w5 ⟨rfl, h5⟩
          have H5 := hide h5
          clear h5 A1 H2 y0 y1 y2 y3
          obtain ⟨y0, y1, y2, y3⟩ := (unhide H5).cells
          go_wp2_with fail
          refine (unhide A2 w5 (unhide H5)).mono ?_
          rintro x w6 ⟨rfl, h6⟩
          have H6 := hide h6.st
          clear h6 A2 H5 y0 y1 y2 y3 HB
          have FL := hide (pt_fallen (unhide H6))
          have SX := hide (fun (q : Nat) (W : World) => pt_six (b := b) (r := r) (q := q) (s := s') (w0 := w) (w := W))
          have RX := hide (fun (q : Nat) (W : World) => pt_room (b := b) (r := r) (q := q) (s := s') (w0 := w) (w := W))
          unfold Six at SX RX
          clear H6
          generalize s'.pl = P at *
          generalize s'.code = C at *
          generalize decide (¬ C = 0) = B at *
          generalize s'.room - s'.used = L at *
          go_wp2_with fail
          refine (unhide FL).mono ?_
          rintro x w7 ⟨rfl, h7⟩
          have H8 : Hid (PT b r s' s' w (w7.alloc (.cells #[.int .i64 P, .int .i64 C] 38)).drew) := hide ((h7.next (Kp.alloc _ _)).next (Kp.drew _))
          have HQ : Hid (CBox w7.heap.size #[.int .i64 P, .int .i64 C] 38 (w7.alloc (.cells #[.int .i64 P, .int .i64 C] 38)).drew) := hide ((CBox.new _ _ _).kp (Kp.drew _) (by simp))
          have cS := unhide SX _ _ (unhide H8) (unhide HQ)
          have RM := hide (unhide RX _ _ (unhide H8) (unhide HQ))
          clear h7 FL H8 HQ SX RX
          go_wp2_with fail
          generalize w7.heap.size = q at *
          go_region_held3 (fun W => W.cell? ⟨r, 0, none⟩ = some (.int .i64 L) ∧ W.cell? ⟨r, 2, none⟩ = some (.bool B) ∧ W.cell? ⟨r, 3, none⟩ = some (.int .i64 P) ∧ W.cell? ⟨r, 4, none⟩ = some (.int .i64 C) ∧ W.cell? ⟨q, 0, none⟩ = some (.int .i64 P) ∧ W.cell? ⟨q, 1, none⟩ = some (.int .i64 C))
            (first | with_reducible exact cS | with_reducible exact cS1)
            (first | (go_at_call 17; refine (unhide RM).mono ?_; rintro x w8 ⟨rfl, h8, cS1⟩; have H9 := hide h8; clear h8))
          go_wp2
          go_roundw
          case rel => exact ⟨j + 1, s', by omega, by go_num, H9⟩
          case measure => simp [intOf]; omega
        · clear n0 n1
          have H3 : Hid (PA b r g s s kd cd n pl w W1.drew) := hide ((unhide H2).next (Kp.drew _))
          have A1 := hide (pa_use1 (unhide H3))
          have A2 := hide (fun W => pa_use2 (b := b) (r := r) (g := g) (s := usS s n pl) (t := s) (kd := kd) (cd := cd) (n := n) (pl := pl) (w0 := w) (w := W) (unhide HB).1 (unhide HB).2.2)
          have cS := (unhide H3).np
          generalize usS s n pl = s' at *
          generalize usE s n = E at *
          clear H2 HB
          go_wp2_with fail
          clear y0 y1 y2 y3
          go_region_held3 (fun W => W.cell? ⟨g, 2, none⟩ = some (.int .i64 n) ∧ W.cell? ⟨g, 3, none⟩ = some (.int .i64 pl))
            (first | with_reducible exact cS | with_reducible exact cS1 | with_reducible exact cS2)
            (first
              | (go_at_call 13; refine (unhide A2 _ (unhide H5)).mono ?_; rintro x w6 ⟨rfl, h6⟩; have H6 := hide h6.st; have cS2 := h6.np; clear h6)
              | (go_at_call 12; refine (unhide A1).mono ?_; rintro x w5 ⟨rfl, h5⟩; have H5 := hide h5; have cS1 := h5.np; clear h5))
          clear cS cS1 cS2 A1 A2 H3 H5
          have FL := hide (pt_fallen (unhide H6))
          have SX := hide (fun (q : Nat) (W : World) => pt_six (b := b) (r := r) (q := q) (s := s') (w0 := w) (w := W))
          have RX := hide (fun (q : Nat) (W : World) => pt_room (b := b) (r := r) (q := q) (s := s') (w0 := w) (w := W))
          unfold Six at SX RX
          clear H6
          generalize s'.pl = P at *
          generalize s'.code = C at *
          generalize decide (¬ C = 0) = B at *
          generalize s'.room - s'.used = L at *
          go_wp2_with fail
          refine (unhide FL).mono ?_
          rintro x w7 ⟨rfl, h7⟩
          have H8 : Hid (PT b r s' s' w (w7.alloc (.cells #[.int .i64 P, .int .i64 C] 38)).drew) := hide ((h7.next (Kp.alloc _ _)).next (Kp.drew _))
          have HQ : Hid (CBox w7.heap.size #[.int .i64 P, .int .i64 C] 38 (w7.alloc (.cells #[.int .i64 P, .int .i64 C] 38)).drew) := hide ((CBox.new _ _ _).kp (Kp.drew _) (by simp))
          have cS := unhide SX _ _ (unhide H8) (unhide HQ)
          have RM := hide (unhide RX _ _ (unhide H8) (unhide HQ))
          clear h7 FL H8 HQ SX RX
          go_wp2_with fail
          generalize w7.heap.size = q at *
          go_region_held3 (fun W => W.cell? ⟨r, 0, none⟩ = some (.int .i64 L) ∧ W.cell? ⟨r, 2, none⟩ = some (.bool B) ∧ W.cell? ⟨r, 3, none⟩ = some (.int .i64 P) ∧ W.cell? ⟨r, 4, none⟩ = some (.int .i64 C) ∧ W.cell? ⟨q, 0, none⟩ = some (.int .i64 P) ∧ W.cell? ⟨q, 1, none⟩ = some (.int .i64 C))
            (first | with_reducible exact cS | with_reducible exact cS1)
            (first | (go_at_call 17; refine (unhide RM).mono ?_; rintro x w8 ⟨rfl, h8, cS1⟩; have H9 := hide h8; clear h8))
          go_wp2
          go_roundw
          case rel => exact ⟨j + 1, s', by omega, by go_num, H9⟩
          case measure => simp [intOf]; omega
        · clear n0 n1
          have H3 : Hid (PA b r g s s kd cd n pl w W1.drew) := hide ((unhide H2).next (Kp.drew _))
          have A1 := hide (pa_back1 (unhide H3))
          have A2 := hide (fun W => pa_back2 (b := b) (r := r) (g := g) (s := baS s n) (t := s) (kd := kd) (cd := cd) (n := n) (pl := pl) (w0 := w) (w := W) (unhide HB).2.1 (unhide HB).2.2)
          have cS := (unhide H3).n1
          generalize baS s n = s' at *
          generalize baE s n = E at *
          clear H2 HB
          go_wp2_with fail
          clear y0 y1 y2 y3
          go_region_held3 (fun W => W.cell? ⟨g, 2, none⟩ = some (.int .i64 n))
            (first | with_reducible exact cS | with_reducible exact cS1 | with_reducible exact cS2)
            (first
              | (go_at_call 15; refine (unhide A2 _ (unhide H5)).mono ?_; rintro x w6 ⟨rfl, h6⟩; have H6 := hide h6.st; have cS2 := h6.n1; clear h6)
              | (go_at_call 14; refine (unhide A1).mono ?_; rintro x w5 ⟨rfl, h5⟩; have H5 := hide h5; have cS1 := h5.n1; clear h5))
          clear cS cS1 cS2 A1 A2 H3 H5
          have FL := hide (pt_fallen (unhide H6))
          have SX := hide (fun (q : Nat) (W : World) => pt_six (b := b) (r := r) (q := q) (s := s') (w0 := w) (w := W))
          have RX := hide (fun (q : Nat) (W : World) => pt_room (b := b) (r := r) (q := q) (s := s') (w0 := w) (w := W))
          unfold Six at SX RX
          clear H6
          generalize s'.pl = P at *
          generalize s'.code = C at *
          generalize decide (¬ C = 0) = B at *
          generalize s'.room - s'.used = L at *
          go_wp2_with fail
          refine (unhide FL).mono ?_
          rintro x w7 ⟨rfl, h7⟩
          have H8 : Hid (PT b r s' s' w (w7.alloc (.cells #[.int .i64 P, .int .i64 C] 38)).drew) := hide ((h7.next (Kp.alloc _ _)).next (Kp.drew _))
          have HQ : Hid (CBox w7.heap.size #[.int .i64 P, .int .i64 C] 38 (w7.alloc (.cells #[.int .i64 P, .int .i64 C] 38)).drew) := hide ((CBox.new _ _ _).kp (Kp.drew _) (by simp))
          have cS := unhide SX _ _ (unhide H8) (unhide HQ)
          have RM := hide (unhide RX _ _ (unhide H8) (unhide HQ))
          clear h7 FL H8 HQ SX RX
          go_wp2_with fail
          generalize w7.heap.size = q at *
          go_region_held3 (fun W => W.cell? ⟨r, 0, none⟩ = some (.int .i64 L) ∧ W.cell? ⟨r, 2, none⟩ = some (.bool B) ∧ W.cell? ⟨r, 3, none⟩ = some (.int .i64 P) ∧ W.cell? ⟨r, 4, none⟩ = some (.int .i64 C) ∧ W.cell? ⟨q, 0, none⟩ = some (.int .i64 P) ∧ W.cell? ⟨q, 1, none⟩ = some (.int .i64 C))
            (first | with_reducible exact cS | with_reducible exact cS1)
            (first | (go_at_call 17; refine (unhide RM).mono ?_; rintro x w8 ⟨rfl, h8, cS1⟩; have H9 := hide h8; clear h8))
          go_wp2
          go_roundw
          case rel => exact ⟨j + 1, s', by omega, by go_num, H9⟩
          case measure => simp [intOf]; omega
      · have HK := hide (unhide HC).kp
        clear HC HA AM
        by_cases hlt2 : j < l.length
        · have hli : (j : Int) < (l.length : Int) := by omega
          have h200 : (200 : Int) ≤ (j : Int) := by omega
          clear hlt
          go_wp2_with fail
          refine (unhide WK wr).mono ?_
          rintro x w6 ⟨rfl, hk6⟩
          have HK6 := hide (kp_tr (unhide HK) hk6)
          clear hk6 HK WK
          go_wp2
          go_ret
          exact ⟨rfl, (unhide HK6).below (Nat.le_refl _) (by simp)⟩
        · have hli : ¬ ((j : Int) < (l.length : Int)) := by omega
          clear hlt
          go_wp2_with fail
          refine (unhide WK wr).mono ?_
          rintro x w6 ⟨rfl, hk6⟩
          have HK6 := hide (kp_tr (unhide HK) hk6)
          clear hk6 HK WK
          go_wp2
          go_ret
          exact ⟨rfl, (unhide HK6).below (Nat.le_refl _) (by simp)⟩
end Go.Proofs.Ytmcilconledabaa
