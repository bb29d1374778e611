/-
  MeterPlays: the walk.
-/
import Derived.Test.YtmeoiljjfmlmgaaMeT
import Derived.Test.YtmeoiljjfmlmgaaEq8
namespace Go.Proofs.Ytmeoiljjfmlmgaa
open Go.RowKit

/-- Eight cells. -/
def E8 (b : Nat) (c : Nat → Int) (W : World) : Prop := W.cell? ⟨b, 0, none⟩ = some (.int .i64 (c 0)) ∧ W.cell? ⟨b, 1, none⟩ = some (.int .i64 (c 1)) ∧ W.cell? ⟨b, 2, none⟩ = some (.int .i64 (c 2)) ∧ W.cell? ⟨b, 3, none⟩ = some (.int .i64 (c 3)) ∧ W.cell? ⟨b, 4, none⟩ = some (.int .i64 (c 4)) ∧ W.cell? ⟨b, 5, none⟩ = some (.int .i64 (c 5)) ∧ W.cell? ⟨b, 6, none⟩ = some (.int .i64 (c 6)) ∧ W.cell? ⟨b, 7, none⟩ = some (.int .i64 (c 7))
theorem Mt.eight {t b : Nat} {c : Nat → Int} {w : World} (h : Mt t b c w) : E8 b c w := ⟨h.cell 0 (by decide), h.cell 1 (by decide), h.cell 2 (by decide), h.cell 3 (by decide), h.cell 4 (by decide), h.cell 5 (by decide), h.cell 6 (by decide), h.cell 7 (by decide)⟩
theorem P4.all1 {w0 w : World} {m o r p : Nat} {c d e f : Nat → Int} (h : P4 w0 w m o r p c d e f) : Calls Try.prog 10 #[.pointer (some ⟨m, 0, none⟩)] w fun x w' => x = .returned (.agg #[.int .i64 (c 0), .int .i64 (c 1), .int .i64 (c 2), .int .i64 (c 3), .int .i64 (c 4), .int .i64 (c 5), .int .i64 (c 6), .int .i64 (c 7)]) ∧ P4 w0 w' m o r p c d e f :=
  (all_any m c w h.mm).mono fun _ _ hh => ⟨hh.1, h.next hh.2.2⟩
theorem P4.all2 {w0 w : World} {m o r p : Nat} {c d e f : Nat → Int} (h : P4 w0 w m o r p c d e f) : Calls Try.prog 10 #[.pointer (some ⟨o, 0, none⟩)] w fun x w' => x = .returned (.agg #[.int .i64 (d 0), .int .i64 (d 1), .int .i64 (d 2), .int .i64 (d 3), .int .i64 (d 4), .int .i64 (d 5), .int .i64 (d 6), .int .i64 (d 7)]) ∧ P4 w0 w' m o r p c d e f :=
  (all_any o d w h.mo).mono fun _ _ hh => ⟨hh.1, h.next hh.2.2⟩
theorem E8.two {w0 w : World} {m o r p : Nat} {c d : Nat → Int} (h : P4 w0 w m o r p c d c d) : (w.cell? ⟨r, 0, none⟩ = some (.int .i64 (c 0)) ∧ w.cell? ⟨r, 1, none⟩ = some (.int .i64 (c 1)) ∧ w.cell? ⟨r, 2, none⟩ = some (.int .i64 (c 2)) ∧ w.cell? ⟨r, 3, none⟩ = some (.int .i64 (c 3)) ∧ w.cell? ⟨r, 4, none⟩ = some (.int .i64 (c 4)) ∧ w.cell? ⟨r, 5, none⟩ = some (.int .i64 (c 5)) ∧ w.cell? ⟨r, 6, none⟩ = some (.int .i64 (c 6)) ∧ w.cell? ⟨r, 7, none⟩ = some (.int .i64 (c 7))) ∧ (w.cell? ⟨p, 0, none⟩ = some (.int .i64 (d 0)) ∧ w.cell? ⟨p, 1, none⟩ = some (.int .i64 (d 1)) ∧ w.cell? ⟨p, 2, none⟩ = some (.int .i64 (d 2)) ∧ w.cell? ⟨p, 3, none⟩ = some (.int .i64 (d 3)) ∧ w.cell? ⟨p, 4, none⟩ = some (.int .i64 (d 4)) ∧ w.cell? ⟨p, 5, none⟩ = some (.int .i64 (d 5)) ∧ w.cell? ⟨p, 6, none⟩ = some (.int .i64 (d 6)) ∧ w.cell? ⟨p, 7, none⟩ = some (.int .i64 (d 7))) := ⟨h.mr.eight, h.mp.eight⟩
theorem newB (w : World) : Calls Try.prog 7 #[] w fun e w' => ∃ b, e = .returned (.pointer (some ⟨b, 0, none⟩)) ∧ w.heap.size ≤ b ∧ b < w'.heap.size ∧ Mt 57 b c0 w' ∧ Kp [] w w' :=
  (new_any w).mono fun _ _ hh => ⟨_, hh.1, Nat.le_refl _, hh.2.1.lt, hh.2.1, hh.2.2⟩
set_option maxHeartbeats 4000000 in
set_option maxRecDepth 100000 in
theorem plays_walk (ad : Option Addr) (cap : Nat) (l : List A8) (w : World) (_hl : l.length ≤ 9223372036854775807) (hA : Acts8 w ad l) (hok : ∀ y ∈ l, y.ok) :
    Calls Try.prog 3 #[.slice ad l.length cap] w fun e w' => e = .returned (.bool true) ∧ Below w.heap.size w w' := by
  have NW := hide newB
  have WK := hide meWorks_any
  have HA := hide hA
  have HOK := hide hok
  clear hA hok
  go_enter Try.func3, Try.ntmps3
  go_wp2_with fail
  refine (unhide NW w).mono ?_
  rintro _ w1 ⟨m, rfl, q1, q2, hm, hk⟩
  have HM1 := hide (And.intro hm hk)
  clear hm hk
  go_wp2_with fail
  refine (unhide NW w1).mono ?_
  rintro _ w2 ⟨o, rfl, q3, q4, hm, hk⟩
  have HM2 : Hid (Mt 57 m c0 w2 ∧ Mt 57 o c0 w2 ∧ Kp [] w w2) := hide ⟨(unhide HM1).1.kp hk (by simp), hm, kp_tr (unhide HM1).2 hk⟩
  clear hm hk NW HM1
  go_wp2_with fail
  have HS : Hid (P4 w ((w2.alloc (.cells (mC c0) 28)).alloc (.cells (mC c0) 28)) m o w2.heap.size (w2.heap.size + 1) c0 c0 c0 c0) := hide (by
    have k2 : Kp [] w2 ((w2.alloc (.cells (mC c0) 28)).alloc (.cells (mC c0) 28)) := kp_tr (Kp.alloc _ _) (Kp.alloc _ _)
    obtain ⟨h1, h2, h3⟩ := unhide HM2
    have s := h3.size
    have z0 : ∀ k, k < 8 → 0 ≤ c0 k := fun _ _ => by unfold c0; decide
    have z1 : ∀ k, k < 8 → c0 k ≤ 4611686018427387904 := fun _ _ => by unfold c0; decide
    exact ⟨h1.kp k2 (by simp), h2.kp k2 (by simp), ⟨heap_alloc2_old w2 _ _, z0, z1⟩, ⟨heap_alloc2_new w2 _ _, z0, z1⟩, by omega, by omega, by omega, by omega, by omega, by omega, by omega, by omega, by omega, by omega, kp_tr h3 k2⟩)
  clear HM2 q1 q2 q3 q4
  generalize hp : w2.heap.size + 1 = p at *
  clear hp
  generalize w2.heap.size = r at *
  go_loopw [7] (fun i wr => ∃ (k : Nat) (c d : Nat → Int), k ≤ l.length ∧ i = .int .i64 (k : Int) ∧ Hid (P4 w wr m o r p c d c d)) (fun i _ => l.length - (intOf i).toNat)
  case atStart => exact ⟨0, _, _, Nat.zero_le _, rfl, HS⟩
  case round =>
    clear HS
    obtain ⟨k, c, d, hk, rfl, HP⟩ := hrel
    by_cases hlt : k < l.length
    · have hli : (k : Int) < (l.length : Int) := by omega
      by_cases h300 : k < 300
      · have h300' : (k : Int) < 300 := by omega
        obtain ⟨b, off, rfl, hbl, x0, x1, x2, x3, x4⟩ := ((unhide HA).kp (unhide HP).kp).at k hlt
        have hy := unhide HOK l[k] (List.getElem_mem _)
        clear HA HOK WK hbl
        generalize l[k] = y at *
        have AM := hide (fun W => meAmong_any y.which 2 W (by decide) (by decide))
        have hw0 : 0 ≤ y.which % 2 := Int.emod_nonneg _ (by decide)
        have hw1 : y.which % 2 < 2 := Int.emod_lt_of_pos _ (by decide)
        have ST1 := hide (step_any m o r p c d y w wr hy (unhide HP))
        have ST2 := hide (step_any o m p r d c y w wr hy (unhide HP).swap)
        clear hy
        have HE := hide eq8
        generalize y.which % 2 = z at *
        go_wp2_with fail
        refine (unhide AM _).mono ?_
        rintro _ w4 ⟨rfl, rfl⟩
        clear AM
        rcases (by omega : z = 0 ∨ z = 1) with rfl | rfl
        · clear ST2 hw0 hw1
          go_wp2_with fail
          refine (unhide ST1).mono ?_
          rintro _ w5 ⟨rfl, c', hp5⟩
          have HP5 := hide hp5
          clear hp5 ST1 HP x0 x1 x2 x3 x4
          have e8 := fun dd W => unhide HE dd (c' 0) (c' 1) (c' 2) (c' 3) (c' 4) (c' 5) (c' 6) (c' 7) W
          have e9 := fun dd W => unhide HE dd (d 0) (d 1) (d 2) (d 3) (d 4) (d 5) (d 6) (d 7) W
          have HP6 : Hid (P4 w w5.drew m o r p c' d c' d) := hide ((unhide HP5).next (Kp.drew _))
          have cS := E8.two (unhide HP6)
          clear HP5 HE
          go_wp2_with fail
          go_region_held3 (fun W => (W.cell? ⟨r, 0, none⟩ = some (.int .i64 (c' 0)) ∧ W.cell? ⟨r, 1, none⟩ = some (.int .i64 (c' 1)) ∧ W.cell? ⟨r, 2, none⟩ = some (.int .i64 (c' 2)) ∧ W.cell? ⟨r, 3, none⟩ = some (.int .i64 (c' 3)) ∧ W.cell? ⟨r, 4, none⟩ = some (.int .i64 (c' 4)) ∧ W.cell? ⟨r, 5, none⟩ = some (.int .i64 (c' 5)) ∧ W.cell? ⟨r, 6, none⟩ = some (.int .i64 (c' 6)) ∧ W.cell? ⟨r, 7, none⟩ = some (.int .i64 (c' 7))) ∧ (W.cell? ⟨p, 0, none⟩ = some (.int .i64 (d 0)) ∧ W.cell? ⟨p, 1, none⟩ = some (.int .i64 (d 1)) ∧ W.cell? ⟨p, 2, none⟩ = some (.int .i64 (d 2)) ∧ W.cell? ⟨p, 3, none⟩ = some (.int .i64 (d 3)) ∧ W.cell? ⟨p, 4, none⟩ = some (.int .i64 (d 4)) ∧ W.cell? ⟨p, 5, none⟩ = some (.int .i64 (d 5)) ∧ W.cell? ⟨p, 6, none⟩ = some (.int .i64 (d 6)) ∧ W.cell? ⟨p, 7, none⟩ = some (.int .i64 (d 7))))
            (first | with_reducible exact cS | with_reducible exact cS1 | with_reducible exact cS2)
            (first
              | (go_at_call 10; refine (P4.all2 (unhide HP7)).mono ?_; rintro _ w8 ⟨rfl, hp8⟩; have HP8 := hide hp8; have cS2 := E8.two (unhide HP8); clear hp8)
              | (go_at_call 10; refine (P4.all1 (unhide HP6)).mono ?_; rintro _ w7 ⟨rfl, hp7⟩; have HP7 := hide hp7; have cS1 := E8.two (unhide HP7); clear hp7))
          go_wp2
          go_roundw
          case rel => exact ⟨k + 1, _, _, by omega, by go_num, HP8⟩
          case measure => simp [intOf]; omega
        · clear ST1 hw0 hw1
          go_wp2_with fail
          refine (unhide ST2).mono ?_
          rintro _ w5 ⟨rfl, c', hp5⟩
          have HP5 := hide hp5.swap
          clear hp5 ST2 HP x0 x1 x2 x3 x4
          have e8 := fun dd W => unhide HE dd (c 0) (c 1) (c 2) (c 3) (c 4) (c 5) (c 6) (c 7) W
          have e9 := fun dd W => unhide HE dd (c' 0) (c' 1) (c' 2) (c' 3) (c' 4) (c' 5) (c' 6) (c' 7) W
          have HP6 : Hid (P4 w w5.drew m o r p c c' c c') := hide ((unhide HP5).next (Kp.drew _))
          have cS := E8.two (unhide HP6)
          clear HP5 HE
          go_wp2_with fail
          go_region_held3 (fun W => (W.cell? ⟨r, 0, none⟩ = some (.int .i64 (c 0)) ∧ W.cell? ⟨r, 1, none⟩ = some (.int .i64 (c 1)) ∧ W.cell? ⟨r, 2, none⟩ = some (.int .i64 (c 2)) ∧ W.cell? ⟨r, 3, none⟩ = some (.int .i64 (c 3)) ∧ W.cell? ⟨r, 4, none⟩ = some (.int .i64 (c 4)) ∧ W.cell? ⟨r, 5, none⟩ = some (.int .i64 (c 5)) ∧ W.cell? ⟨r, 6, none⟩ = some (.int .i64 (c 6)) ∧ W.cell? ⟨r, 7, none⟩ = some (.int .i64 (c 7))) ∧ (W.cell? ⟨p, 0, none⟩ = some (.int .i64 (c' 0)) ∧ W.cell? ⟨p, 1, none⟩ = some (.int .i64 (c' 1)) ∧ W.cell? ⟨p, 2, none⟩ = some (.int .i64 (c' 2)) ∧ W.cell? ⟨p, 3, none⟩ = some (.int .i64 (c' 3)) ∧ W.cell? ⟨p, 4, none⟩ = some (.int .i64 (c' 4)) ∧ W.cell? ⟨p, 5, none⟩ = some (.int .i64 (c' 5)) ∧ W.cell? ⟨p, 6, none⟩ = some (.int .i64 (c' 6)) ∧ W.cell? ⟨p, 7, none⟩ = some (.int .i64 (c' 7))))
            (first | with_reducible exact cS | with_reducible exact cS1 | with_reducible exact cS2)
            (first
              | (go_at_call 10; refine (P4.all2 (unhide HP7)).mono ?_; rintro _ w8 ⟨rfl, hp8⟩; have HP8 := hide hp8; have cS2 := E8.two (unhide HP8); clear hp8)
              | (go_at_call 10; refine (P4.all1 (unhide HP6)).mono ?_; rintro _ w7 ⟨rfl, hp7⟩; have HP7 := hide hp7; have cS1 := E8.two (unhide HP7); clear hp7))
          go_wp2
          go_roundw
          case rel => exact ⟨k + 1, _, _, by omega, by go_num, HP8⟩
          case measure => simp [intOf]; omega
      · have h300' : (300 : Int) ≤ (k : Int) := by omega
        have HK := hide (unhide HP).kp
        clear HP HA HOK
        go_wp2_with fail
        refine (unhide WK _).mono ?_
        rintro _ w6 ⟨rfl, hk6⟩
        have HK6 := hide (kp_tr (unhide HK) hk6)
        clear hk6 HK WK
        go_wp2
        go_ret
        exact ⟨rfl, (unhide HK6).below (Nat.le_refl _) (by simp)⟩
    · have HK := hide (unhide HP).kp
      clear HP HA HOK
      go_wp2_with fail
      refine (unhide WK _).mono ?_
      rintro _ w6 ⟨rfl, hk6⟩
      have HK6 := hide (kp_tr (unhide HK) hk6)
      clear hk6 HK WK
      go_wp2
      go_ret
      exact ⟨rfl, (unhide HK6).below (Nat.le_refl _) (by simp)⟩
end Go.Proofs.Ytmeoiljjfmlmgaa
