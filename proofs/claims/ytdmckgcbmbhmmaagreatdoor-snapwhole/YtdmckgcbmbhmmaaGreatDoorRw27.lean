/-
  SnapWhole: whatever the shots, the fuses and the crashes, the law returns true.
-/
import Derived.Test.YtdmckgcbmbhmmaaGreatDoorRw25
import Derived.Test.YtdmckgcbmbhmmaaGreatDoorRw26
namespace Go.Proofs.YtdmckgcbmbhmmaaGreatDoor
open Go.RowKit

def Shot.cells (y : Shot) : Array Value := #[.slice y.a y.L.length y.c, .string y.s, .int .i64 y.f, .int .i64 y.k, .int .i64 y.t]
def Shot.fn (y : Shot) (t : Nat) : ByteArray := y.L.getD t ⟨#[]⟩
/-- What is known of a shot that was committed. -/
def YOk (w : World) (y : Shot) : Prop := (1 ≤ y.L.length ∧ y.L.length ≤ 5) ∧ y.s.size ≤ 500 ∧ StrsAt w y.a y.L
/-- The disk ahead of a shot, and the last shot that was committed. -/
def WhD (w W : World) (p bw l : Nat) (y : Shot) : Prop := ∃ d, OwnD w W p d ∧ Jd hA (SRg l y.L.length y.s y.fn) 0 d ∧ Fz d ∧ CBox bw y.cells 44 W ∧ (l ≠ 0 → YOk w y)
/-- .. and within a shot. -/
def WhT (w W : World) (p bw bx l : Nat) (y x : Shot) (c t : Nat) (ok : Bool) : Prop := ∃ d, OwnD w W p d ∧ Jd hA (SRg l y.L.length y.s y.fn) (2 * t) d ∧ CBox bw y.cells 44 W ∧ CBox bx x.cells 44 W ∧ (ok = true → TkN (getF d.now) c t x.fn)
/-- .. behind Commit. -/
def WhQ (w W : World) (p bw bx l : Nat) (y x : Shot) (c : Nat) (e : Int) (ok : Bool) : Prop := ∃ d, OwnD w W p d ∧ Jd hA (Qw l y.L.length y.s y.fn c x.L.length x.s x.fn e ok) 200 d ∧ CBox bw y.cells 44 W ∧ CBox bx x.cells 44 W
theorem OwnD.fu2 {w0 w : World} {p : Nat} {d : Dk} (h : OwnD w0 w p d) (n : Int) (hn : n ≤ 9223372036854775807) : Calls Tryz.prog 17 #[.pointer (some ⟨p, 0, none⟩), .int .i64 n] w fun e w' => e = .returned (.int .i64 (Dk.fuE n)) ∧ OwnD w0 w' p (d.fuD n) ∧ Oth [] w w' := h.stp2 fun F hd => fuse_any p d F n w hd hn
theorem OwnD.cr2 {w0 w : World} {p : Nat} {d : Dk} (h : OwnD w0 w p d) (k t : Int) (ht : t ≤ 9223372036854775807) : Calls Tryz.prog 19 #[.pointer (some ⟨p, 0, none⟩), .int .i64 k, .int .i64 t] w fun e w' => e = .returned (.tuple #[]) ∧ OwnD w0 w' p (d.crash k t) ∧ Oth [] w w' := h.stp2 fun F hd => crash_any k t p d F w hd ht
/-- A block of the call's own, of another type, is written: the disk stays. -/
theorem OwnD.other {w0 w w' : World} {p g : Nat} {d : Dk} {cs : Array Value} {t : TypeId} (h : OwnD w0 w p d) (hb : CBox g cs t w) (h1 : t ≠ 5) (h2 : t ≠ 88) (h3 : t ≠ 58) (hg : w0.heap.size ≤ g) (hk : Kp [g] w w') : OwnD w0 w' p d := by
  obtain ⟨F, hd, k1, k2⟩ := h
  have hn := hd.no (k := g) hb h1 h2 h3
  exact ⟨F, hd.kp hk (fun k hkF e => hn (by rw [← List.mem_singleton.1 e]; exact hkF)), k1.trans hk (fun x hx => Or.inr (by rw [List.mem_singleton.1 hx]; exact hg)), k2⟩
set_option maxHeartbeats 16000000 in
set_option maxRecDepth 100000 in
theorem swhole_walk (ad : Option Addr) (cap : Nat) (l : List Shot) (w : World) (_hl : l.length ≤ 9223372036854775807) (hI : ShAt w ad l) (hok : ∀ y ∈ l, y.ok) (hT : TabW w) :
    Calls Tryz.prog 4 #[.slice ad l.length cap] w fun e w' => e = .returned (.bool true) ∧ Kp [] w w' := by
  have NW := hide (new_own w)
  have WK := hide (fun W (hk : Kp [] w W) => works_any W (hT.kp' hk))
  have II := hide (fun W (hk : Kp [] w W) => hI.kp hk)
  have HOK := hide hok
  have PT := hide (fun W p d c t b (h : OwnD w W p d) (hc : 1 ≤ c ∧ c < 100) (ht : t ≤ 32) (hb : b.size ≤ 65536) => put_any h hT c t b hc ht hb)
  have CM := hide (fun W p d c n s (h : OwnD w W p d) (hc : 1 ≤ c ∧ c < 100) (hn : 1 ≤ n ∧ n ≤ 33) (hs : s.size ≤ 500) => commit_any h hT c n s hc hn hs)
  have LA := hide (fun W p d (h : OwnD w W p d) => latest_any h hT)
  have CO := hide (fun W p d (h : OwnD w W p d) => coll_any h hT)
  have RE := hide (fun W p d c t (h : OwnD w W p d) (hc : 1 ≤ c ∧ c < 100) (ht : t ≤ 32) => read_sn h hT c t hc ht)
  have HB := hide hI
  clear hI hT hok
  go_enter Tryz.func4, Tryz.ntmps4
  go_wp2_with fail
  refine (unhide NW).mono ?_
  rintro e w1 ⟨p, rfl, o1⟩
  have O1 := hide o1
  clear o1
  go_wp2_with fail
  refine (unhide WK w1 (unhide O1).bel).mono ?_
  rintro e w2 ⟨rfl, k2⟩
  have hbw : Hid (w.heap.size ≤ w2.heap.size) := hide (((unhide O1).kp k2).bel.size)
  have HI : Hid (WhD w (w2.alloc (.cells #[.slice none 0 0, .string ⟨#[]⟩, .int .i64 0, .int .i64 0, .int .i64 0] 44)) p w2.heap.size 0 ⟨none, 0, [], ⟨#[]⟩, 0, 0, 0⟩) := hide ⟨_, ((unhide O1).kp k2).kp (Kp.alloc _ _), Jd.empty ⟨Sm.nil, Or.inl ⟨rfl, rfl⟩⟩, ⟨rfl, rfl⟩, CBox.new _ _ _, fun h => absurd rfl h⟩
  clear k2 O1 NW WK
  go_wp2
  -- STOP1
  generalize w2.heap.size = bw at *
  go_loopw [6, 5, 7, 8, 9, 10, 11, 12, 13, 14, 15, 16, 17, 18, 19, 20, 21, 22, 23] (fun i la _ _ _ _ _ _ _ _ _ _ _ _ _ _ _ _ _ wr => ∃ (k lst : Nat) (y : Shot), k ≤ l.length ∧ k ≤ 10 ∧ lst ≤ k ∧ i = .int .i64 (k : Int) ∧ la = .int .i64 (lst : Int) ∧ Hid (WhD w wr p bw lst y)) (fun i _ _ _ _ _ _ _ _ _ _ _ _ _ _ _ _ _ _ _ => 10 - (intOf i).toNat)
  case atStart => exact ⟨0, 0, _, Nat.zero_le _, Nat.zero_le _, Nat.zero_le _, rfl, rfl, HI⟩
  case round =>
    obtain ⟨k, lst, y, hk, hk10, hlk, rfl, rfl, HK⟩ := hrel
    clear HI
    -- STOP2
    by_cases hgo : k < l.length ∧ k < 10
    · obtain ⟨hlt, h6⟩ := hgo
      obtain ⟨W0, hW0⟩ : ∃ W0, W0 = wr := ⟨_, rfl⟩
      subst hW0
      have hli : (k : Int) < (l.length : Int) := by omega
      have h6i : (k : Int) < 10 := by omega
      have hbel : Kp [] w W0 := let ⟨_, od, _⟩ := unhide HK; od.bel
      obtain ⟨b, off, rfl, _, c0, c1, c2, c3, c4, _⟩ := (unhide II W0 hbel).at k hlt
      have hSb : StrsAt w l[k].a l[k].L := let ⟨_, _, _, _, _, _, _, _, _, h⟩ := (unhide HB).at k hlt; h
      have hxok := unhide HOK l[k] (List.getElem_mem hlt)
      generalize l[k] = x at *
      obtain ⟨xa, xc, xl, xs, xf, xk, xt⟩ := x
      dsimp only at c0 c1 c2 c3 c4 hSb
      obtain ⟨⟨hx1, hx2⟩, hx3, hx4, hx5, hx6⟩ := hxok
      dsimp only at hx1 hx2 hx3 hx4 hx5 hx6
      have k1 := Kp.alloc W0 (.cells #[.slice xa xl.length xc, .string xs, .int .i64 xf, .int .i64 xk, .int .i64 xt] 44)
      have mb := CBox.new W0 #[.slice xa xl.length xc, .string xs, .int .i64 xf, .int .i64 xk, .int .i64 xt] 44
      have m0 := mb.cell (i := 0) (v := .slice xa xl.length xc) rfl
      have m1 := mb.cell (i := 1) (v := .string xs) rfl
      have m2 := mb.cell (i := 2) (v := .int .i64 xf) rfl
      by_cases hgood : (1 ≤ xl.length ∧ xl.length ≤ 5) ∧ xs.size ≤ 500
      · obtain ⟨⟨hn1, hn5⟩, hs5⟩ := hgood
        have e0 : ((xl.length : Int) == 0) = false := beq_eq_false_iff_ne.2 (by omega)
        have e5 : ¬ (5 : Int) < (xl.length : Int) := by omega
        have es : ¬ (500 : Int) < (xs.size : Int) := by omega
        have HF : Hid (∀ i (h : i < xl.length), Shot.fn ⟨xa, xc, xl, xs, xf, xk, xt⟩ i = xl[i]) := hide (fun i h => by simp [Shot.fn, h])
        have AM := hide (among_any xf 40 (W0.alloc (.cells #[.slice xa xl.length xc, .string xs, .int .i64 xf, .int .i64 xk, .int .i64 xt] 44)) (by decide) (by decide))
        have hm0 := Int.emod_nonneg xf (show (40 : Int) ≠ 0 by decide)
        have hm1 := Int.emod_lt_of_pos xf (show (0 : Int) < 40 by decide)
        generalize xf % 40 = m at *
        have FU : Hid (Calls Tryz.prog 17 #[.pointer (some ⟨p, 0, none⟩), .int .i64 m] (W0.alloc (.cells #[.slice xa xl.length xc, .string xs, .int .i64 xf, .int .i64 xk, .int .i64 xt] 44)) fun e w' => e = .returned (.int .i64 0) ∧ WhT w w' p bw W0.heap.size lst y ⟨xa, xc, xl, xs, xf, xk, xt⟩ (k + 1) 0 true) := hide (by
          obtain ⟨d, od, jd, fz, cb, yo⟩ := unhide HK
          have hbwlt : bw < W0.heap.size := (Array.getElem?_eq_some_iff.1 cb).1
          have fu := (od.kp k1).fu2 m (by omega)
          rw [show Dk.fuE m = 0 from if_neg (by omega)] at fu
          exact fu.mono fun _ _ ⟨a, b, q⟩ => ⟨a, _, b, jd.fuse m, (cb.kp k1 (by simp)).oth q (by decide) (by decide) (by decide) (by simp), mb.oth q (by decide) (by decide) (by decide) (by simp), fun _ t ht => absurd ht (by omega)⟩)
        have HY : Hid (lst ≠ 0 → YOk w y) := hide (let ⟨_, _, _, _, _, h⟩ := unhide HK; h)
        have HSB := hide hSb
        have HX2 := hide hx2
        clear HK k1 mb hSb hx2 hbel hx1 hx3 hx4 hx5
        obtain ⟨c', hc'⟩ : ∃ c', c' = k + 1 := ⟨_, rfl⟩
        have HC : Hid ((c' : Int) = (k : Int) + 1) := hide (by omega)
        rw [← hc'] at FU
        have hc1 : lst < c' ∧ c' ≤ 10 := by omega
        have hk9 : k ≤ 9 := by omega
        have HCk : Hid (c' = k + 1) := hide hc'
        clear hc'
        go_wp2_with fail
        refine (unhide AM).mono ?_
        rintro e w3 ⟨rfl, rfl⟩
        go_wp2_with fail
        refine (unhide FU).mono ?_
        rintro e w3 ⟨rfl, h3⟩
        have H3 := hide h3
        have n0 : w3.cell? ⟨W0.heap.size, 0, none⟩ = some (.slice xa xl.length xc) := let ⟨_, _, _, _, cb, _⟩ := h3; cb.cell rfl
        clear h3 FU AM m0 m1 m2
        generalize W0.heap.size = gx at *
        go_wp2
        rw [← unhide HC]
        go_loopw [71, 9, 10, 11] (fun i okv _ _ wr => ∃ (t : Nat) (ok : Bool), t ≤ xl.length ∧ i = .int .i64 (t : Int) ∧ okv = .bool ok ∧ Hid (WhT w wr p bw gx lst y ⟨xa, xc, xl, xs, xf, xk, xt⟩ c' t ok)) (fun i _ _ _ _ => xl.length - (intOf i).toNat)
        case atStart => exact ⟨0, true, Nat.zero_le _, rfl, rfl, H3⟩
        case round =>
          obtain ⟨t, ok, ht, rfl, rfl, HR⟩ := hrel
          clear H3 n0
          by_cases hlt2 : t < xl.length
          · have hli2 : (t : Int) < (xl.length : Int) := by omega
            have hb2 : Kp [] w wr := let ⟨_, od, _⟩ := unhide HR; od.bel
            obtain ⟨b2, off2, ha2, _, hc2⟩ := ((unhide HSB).kp hb2) (by intro e; rw [e] at hlt2; simp at hlt2)
            have s1 := hc2 t hlt2
            clear hc2
            have hft := unhide HF t hlt2
            have hbz := unhide HX2 xl[t] (List.getElem_mem hlt2)
            have HLt := hide hft
            generalize xl[t] = bt at *
            by_cases hbig : 500 < bt.size
            · have hbi : (500 : Int) < (bt.size : Int) := by omega
              have HE := hide hb2
              clear hb2 hft
              subst ha2
              go_wp2
              go_ret
              exact ⟨rfl, unhide HE⟩
            · have hbi : ¬ (500 : Int) < (bt.size : Int) := by omega
              cases ok with
              | false =>
                have HN : Hid (WhT w wr p bw gx lst y ⟨xa, xc, xl, xs, xf, xk, xt⟩ c' (t + 1) false) := hide (let ⟨d, a, b, c, e, _⟩ := unhide HR; ⟨d, a, b.mono (fun _ => id) (by omega), c, e, fun h => (by cases h)⟩)
                clear HR hb2 hft
                subst ha2
                go_wp2
                go_roundw
                case rel => exact ⟨t + 1, false, by omega, by go_num, rfl, HN⟩
                case measure => simp [intOf]; omega
              | true =>
                obtain ⟨d, od, jd, cb, cx, tk⟩ := unhide HR
                have hlo : Lok lst y.L.length y.s := ⟨by omega, fun h => ⟨(unhide HY h).1, (unhide HY h).2.1⟩⟩
                have pu := unhide PT wr p d c' t bt od (by omega) (by omega) (by omega)
                have hy5 : lst ≠ 0 → y.L.length ≤ 5 := fun h => (unhide HY h).1.2
                have hw := wh_put2 jd hlo (by omega : 2 * t < 1000) hc1 (by omega : t < 5) (by rw [hft]; omega) (tk rfl)
                rw [hft] at hw
                rcases hw with ⟨e1, j1, t1⟩ | ⟨e1, j1⟩
                · rw [e1] at pu
                  have PU : Hid (Calls Tryz.prog 12 #[.pointer (some ⟨p, 0, none⟩), .int .i64 (c' : Int), .int .i64 (t : Int), .string bt] wr fun e w' => e = .returned (.int .i64 0) ∧ WhT w w' p bw gx lst y ⟨xa, xc, xl, xs, xf, xk, xt⟩ c' (t + 1) true) := hide (pu.mono fun _ _ ⟨a, b, q⟩ => ⟨a, _, b, j1.mono (fun _ => id) (by omega), cb.oth q (by decide) (by decide) (by decide) (by simp), cx.oth q (by decide) (by decide) (by decide) (by simp), fun _ => t1⟩)
                  clear pu e1 j1 t1 od jd cb cx tk HR hb2 hft hlo
                  subst ha2
                  go_wp2_with fail
                  refine (unhide PU).mono ?_
                  rintro e w4 ⟨rfl, h4⟩
                  have HN := hide h4
                  clear h4 PU
                  go_wp2
                  go_roundw
                  case rel => exact ⟨t + 1, true, by omega, by go_num, rfl, HN⟩
                  case measure => simp [intOf]; omega
                · rw [e1] at pu
                  have PU : Hid (Calls Tryz.prog 12 #[.pointer (some ⟨p, 0, none⟩), .int .i64 (c' : Int), .int .i64 (t : Int), .string bt] wr fun e w' => e = .returned (.int .i64 31) ∧ WhT w w' p bw gx lst y ⟨xa, xc, xl, xs, xf, xk, xt⟩ c' (t + 1) false) := hide (pu.mono fun _ _ ⟨a, b, q⟩ => ⟨a, _, b, j1.mono (fun _ => id) (by omega), cb.oth q (by decide) (by decide) (by decide) (by simp), cx.oth q (by decide) (by decide) (by decide) (by simp), fun h => (by cases h)⟩)
                  clear pu e1 j1 od jd cb cx tk HR hb2 hft hlo
                  subst ha2
                  go_wp2_with fail
                  refine (unhide PU).mono ?_
                  rintro e w4 ⟨rfl, h4⟩
                  have HN := hide h4
                  clear h4 PU
                  go_wp2
                  go_roundw
                  case rel => exact ⟨t + 1, false, by omega, by go_num, rfl, HN⟩
                  case measure => simp [intOf]; omega
          · obtain rfl : t = xl.length := by omega
            -- STOP3
            cases ok with
            | false =>
              obtain ⟨d, od, jd, cb, cx, _⟩ := unhide HR
              clear HR
              have PC : Hid (Calls Tryz.prog 19 #[.pointer (some ⟨p, 0, none⟩), .int .i64 xk, .int .i64 xt] wr fun e w' => e = .returned (.tuple #[]) ∧ ∃ d5, OwnD w w' p d5 ∧ Jd hA (SRg lst y.L.length y.s y.fn) 0 d5 ∧ Fz d5 ∧ CBox bw y.cells 44 w' ∧ CBox gx #[.slice xa xl.length xc, .string xs, .int .i64 xf, .int .i64 xk, .int .i64 xt] 44 w') := hide ((od.cr2 xk xt hx6.2).mono fun _ _ ⟨a, b, q⟩ => ⟨a, _, b, (jd.crash xk xt).1, (jd.crash xk xt).2, cb.oth q (by decide) (by decide) (by decide) (by simp), cx.oth q (by decide) (by decide) (by decide) (by simp)⟩)
              have r3 := cx.cell (i := 3) (v := .int .i64 xk) rfl
              have r4 := cx.cell (i := 4) (v := .int .i64 xt) rfl
              clear od jd cb cx
              go_wp2_with fail
              refine (unhide PC).mono ?_
              rintro e w5 ⟨rfl, d5, o5, j5, z5, b5, x5⟩
              clear PC r3 r4
              rcases j5.r with ⟨rfl, hnone⟩ | ⟨hl1, hnw⟩
              · as_aux_lemma =>
                  obtain ⟨q1, q2⟩ := la_none (d := d5) hnone
                  have la := unhide LA w5 p d5 o5
                  rw [q1, q2] at la
                  dsimp only [Mf.z] at la
                  have LU : Hid (Calls Tryz.prog 9 #[.pointer (some ⟨p, 0, none⟩)] w5 fun e w' => e = .returned (.tuple #[.int .i64 0, .int .i64 0, .string ⟨#[]⟩, .int .i64 5]) ∧ Kp [] w5 w') := hide la
                  have HS5 : Hid (∀ W, Kp [] w5 W → WhD w W p bw 0 y) := hide (fun W k => ⟨d5, o5.kp k, j5.zero (Or.inl ⟨rfl, hnone⟩), z5, b5.kp k (by simp), fun h => absurd rfl h⟩)
                  clear la q1 q2 hnone j5 z5 o5 b5 x5 LA CO PT CM RE
                  go_wp2_with fail
                  refine (unhide LU).mono ?_
                  rintro e w6 ⟨rfl, k6⟩
                  have HN := hide (unhide HS5 w6 k6)
                  have hck := unhide HCk
                  clear k6 HS5 LU
                  go_wp2
                  go_roundw
                  case rel => exact ⟨k + 1, 0, y, by omega, by omega, by omega, by go_num, rfl, HN⟩
                  case measure => simp [intOf]; omega
              · as_aux_lemma =>
                  obtain ⟨⟨y1, y5⟩, ys, yS⟩ := unhide HY (by omega)
                  obtain ⟨⟨q1, q2⟩, q3⟩ := nw_told (d := d5) (fun m => rfl) hnw ⟨hl1, by omega⟩ ⟨y1, y5⟩ ys
                  have la := unhide LA w5 p d5 o5
                  rw [q1, q2] at la
                  have LU : Hid (Calls Tryz.prog 9 #[.pointer (some ⟨p, 0, none⟩)] w5 fun e w' => e = .returned (.tuple #[.int .i64 (lst : Int), .int .i64 (y.L.length : Int), .string y.s, .int .i64 0]) ∧ Kp [] w5 w') := hide la
                  have RU : Hid (∀ W (t : Nat), t < y.L.length → OwnD w W p d5 → Calls Tryz.prog 10 #[.pointer (some ⟨p, 0, none⟩), .int .i64 (lst : Int), .int .i64 (t : Int)] W fun e w' => e = .returned (.tuple #[.string (y.fn t), .int .i64 0]) ∧ Kp [] W w') := hide (fun W t ht h => by
                    have re := unhide RE W p d5 lst t h ⟨hl1, by omega⟩ (by omega)
                    obtain ⟨z1, z2⟩ := q3 t ht
                    rw [z1, z2] at re
                    exact re)
                  have HJ5 : Hid (Jd hA (SRg lst y.L.length y.s y.fn) 0 d5 ∧ Fz d5) := hide ⟨j5.zero (Or.inr ⟨hl1, hnw⟩), z5⟩
                  have HFy : Hid (∀ i (h : i < y.L.length), y.fn i = y.L[i]) := hide (fun i h => by simp [Shot.fn, h])
                  have HSy := hide yS
                  have O5 := hide o5
                  have B5 := hide b5
                  have hne : ((lst : Int) == (c' : Int)) = false := beq_eq_false_iff_ne.2 (by omega)
                  clear la q1 q2 q3 hnw j5 z5 o5 b5 x5 yS LA CO PT CM RE
                  go_wp2_with fail
                  refine (unhide LU).mono ?_
                  rintro e w6 ⟨rfl, k6⟩
                  have b6 := (unhide B5).kp k6 (by simp)
                  have p0 := b6.cell (i := 0) (v := .slice y.a y.L.length y.c) rfl
                  have p1 := b6.cell (i := 1) (v := .string y.s) rfl
                  have H6 := hide (And.intro ((unhide O5).kp k6) b6)
                  clear k6 b6 O5 B5 LU
                  go_wp2
                  go_loopw [188, 20, 21, 22, 23] (fun i _ _ _ _ wr => ∃ t : Nat, t ≤ y.L.length ∧ i = .int .i64 (t : Int) ∧ Hid (OwnD w wr p d5 ∧ CBox bw y.cells 44 wr)) (fun i _ _ _ _ _ => y.L.length - (intOf i).toNat)
                  case atStart => exact ⟨0, Nat.zero_le _, rfl, H6⟩
                  case round =>
                    obtain ⟨t, ht, rfl, HR6⟩ := hrel
                    clear H6
                    by_cases hlt3 : t < y.L.length
                    · have hli3 : (t : Int) < (y.L.length : Int) := by omega
                      obtain ⟨b3, off3, ha3, _, hc3⟩ := ((unhide HSy).kp (unhide HR6).1.bel) (by intro e; rw [e] at hlt3; simp at hlt3)
                      have s3 := hc3 t hlt3
                      clear hc3
                      have rd := unhide RU wr t hlt3 (unhide HR6).1
                      rw [unhide HFy t hlt3] at rd
                      have RD := hide rd
                      clear rd
                      generalize y.L[t] = bt at *
                      rw [ha3]
                      go_wp2_with fail
                      refine (unhide RD).mono ?_
                      rintro e w7 ⟨rfl, k7⟩
                      have HN := hide (And.intro ((unhide HR6).1.kp k7) ((unhide HR6).2.kp k7 (by simp)))
                      clear k7 RD HR6
                      go_wp2
                      go_roundw
                      case rel => exact ⟨t + 1, by omega, by go_num, HN⟩
                      case measure => simp [intOf]; omega
                    · obtain rfl : t = y.L.length := by omega
                      have HN : Hid (WhD w wr p bw lst y) := hide ⟨d5, (unhide HR6).1, (unhide HJ5).1, (unhide HJ5).2, (unhide HR6).2, fun h => unhide HY h⟩
                      have hck := unhide HCk
                      clear HR6 HJ5
                      go_wp2
                      go_roundw
                      case rel => exact ⟨k + 1, lst, y, by omega, by omega, by omega, by go_num, rfl, HN⟩
                      case measure => simp [intOf]; omega
            | true =>
              obtain ⟨d, od, jd, cb, cx, tk⟩ := unhide HR
              have hlo : Lok lst y.L.length y.s := ⟨by omega, fun h => ⟨(unhide HY h).1, (unhide HY h).2.1⟩⟩
              have cm := unhide CM wr p d c' xl.length xs od (by omega) (by omega) (by omega)
              have u0 := cx.cell (i := 0) (v := .slice xa xl.length xc) rfl
              have u1 := cx.cell (i := 1) (v := .string xs) rfl
              rcases wh_commit jd hlo (by omega) hc1 ⟨hn1, hn5⟩ hs5 (tk rfl) with ⟨e1, j1⟩ | ⟨e1, j1⟩
              · rw [e1] at cm
                have CU : Hid (Calls Tryz.prog 13 #[.pointer (some ⟨p, 0, none⟩), .int .i64 (c' : Int), .int .i64 (xl.length : Int), .string xs] wr fun e w' => e = .returned (.int .i64 0) ∧ ∃ d, OwnD w w' p d ∧ Jd hA (NWg c' xl.length xs (Shot.fn ⟨xa, xc, xl, xs, xf, xk, xt⟩)) 0 d ∧ CBox bw y.cells 44 w' ∧ CBox gx #[.slice xa xl.length xc, .string xs, .int .i64 xf, .int .i64 xk, .int .i64 xt] 44 w') := hide (cm.mono fun _ _ ⟨a, b, q⟩ => ⟨a, _, b, j1, cb.oth q (by decide) (by decide) (by decide) (by simp), cx.oth q (by decide) (by decide) (by decide) (by simp)⟩)
                clear cm e1 j1 od jd cb cx tk HR hlo
                go_wp2_with fail
                refine (unhide CU).mono ?_
                rintro e w4 ⟨rfl, d4, od, jd, cb, cx⟩
                obtain ⟨f1, f2⟩ := wh_coll jd (by omega) ⟨by omega, hc1.2⟩ ⟨hn1, hn5⟩ hs5
                have co := unhide CO w4 p d4 od
                have KU : Hid (Calls Tryz.prog 11 #[.pointer (some ⟨p, 0, none⟩)] w4 fun e w' => ∃ y1 y2, (y2 = 0 ∨ y2 = 31) ∧ e = .returned (.tuple #[.int .i64 y1, .int .i64 y2]) ∧ ∃ d, OwnD w w' p d ∧ Jd hA (NWg c' xl.length xs (Shot.fn ⟨xa, xc, xl, xs, xf, xk, xt⟩)) 200 d ∧ CBox bw y.cells 44 w' ∧ CBox gx #[.slice xa xl.length xc, .string xs, .int .i64 xf, .int .i64 xk, .int .i64 xt] 44 w') := hide (co.mono fun _ _ ⟨a, b, q⟩ => ⟨_, _, f1, a, _, b, f2, cb.oth q (by decide) (by decide) (by decide) (by simp), cx.oth q (by decide) (by decide) (by decide) (by simp)⟩)
                clear co f1 f2 od jd cb cx CU u0 u1
                go_wp2_with fail
                refine (unhide KU).mono ?_
                rintro e wd ⟨y1, y2, hy2, rfl, d9, od, jd, cb, cx⟩
                clear KU
                rcases hy2 with rfl | rfl
                · have PC : Hid (Calls Tryz.prog 19 #[.pointer (some ⟨p, 0, none⟩), .int .i64 xk, .int .i64 xt] wd fun e w' => e = .returned (.tuple #[]) ∧ ∃ d5, OwnD w w' p d5 ∧ Jd hA (NWg c' xl.length xs (Shot.fn ⟨xa, xc, xl, xs, xf, xk, xt⟩)) 0 d5 ∧ Fz d5 ∧ CBox bw y.cells 44 w' ∧ CBox gx #[.slice xa xl.length xc, .string xs, .int .i64 xf, .int .i64 xk, .int .i64 xt] 44 w') := hide ((od.cr2 xk xt hx6.2).mono fun _ _ ⟨a, b, q⟩ => ⟨a, _, b, (jd.crash xk xt).1, (jd.crash xk xt).2, cb.oth q (by decide) (by decide) (by decide) (by simp), cx.oth q (by decide) (by decide) (by decide) (by simp)⟩)
                  have r3 := cx.cell (i := 3) (v := .int .i64 xk) rfl
                  have r4 := cx.cell (i := 4) (v := .int .i64 xt) rfl
                  clear od jd cb cx
                  go_wp2_with fail
                  refine (unhide PC).mono ?_
                  rintro e w5 ⟨rfl, d5, o5, j5, z5, b5, x5⟩
                  clear PC r3 r4
                  have hnw := j5.r
                  as_aux_lemma =>
                    obtain ⟨⟨q1, q2⟩, q3⟩ := nw_told (d := d5) (fun m => rfl) hnw ⟨by omega, hc1.2⟩ ⟨hn1, hn5⟩ hs5
                    have la := unhide LA w5 p d5 o5
                    rw [q1, q2] at la
                    have LU : Hid (Calls Tryz.prog 9 #[.pointer (some ⟨p, 0, none⟩)] w5 fun e w' => e = .returned (.tuple #[.int .i64 (c' : Int), .int .i64 (xl.length : Int), .string xs, .int .i64 0]) ∧ Kp [] w5 w') := hide la
                    have RU : Hid (∀ W (t : Nat), t < xl.length → OwnD w W p d5 → Calls Tryz.prog 10 #[.pointer (some ⟨p, 0, none⟩), .int .i64 (c' : Int), .int .i64 (t : Int)] W fun e w' => e = .returned (.tuple #[.string (Shot.fn ⟨xa, xc, xl, xs, xf, xk, xt⟩ t), .int .i64 0]) ∧ Kp [] W w') := hide (fun W t ht h => by
                      have re := unhide RE W p d5 c' t h ⟨by omega, by omega⟩ (by omega)
                      obtain ⟨z1, z2⟩ := q3 t ht
                      rw [z1, z2] at re
                      exact re)
                    have HJ5 : Hid (Jd hA (SRg c' xl.length xs (Shot.fn ⟨xa, xc, xl, xs, xf, xk, xt⟩)) 0 d5 ∧ Fz d5) := hide ⟨j5.zero (Or.inr ⟨by omega, hnw⟩), z5⟩
                    have O5 := hide o5
                    have B5 := hide b5
                    have X5 := hide x5
                    clear la q1 q2 q3 hnw j5 z5 o5 b5 x5 LA CO PT CM RE
                    go_wp2_with fail
                    refine (unhide LU).mono ?_
                    rintro e w6 ⟨rfl, k6⟩
                    have O6 := hide ((unhide O5).kp k6)
                    have b6 := (unhide B5).kp k6 (by simp)
                    have x6 := (unhide X5).kp k6 (by simp)
                    have p0 := x6.cell (i := 0) (v := .slice xa xl.length xc) rfl
                    have p1 := x6.cell (i := 1) (v := .string xs) rfl
                    have p2 := x6.cell (i := 2) (v := .int .i64 xf) rfl
                    have p3 := x6.cell (i := 3) (v := .int .i64 xk) rfl
                    have p4 := x6.cell (i := 4) (v := .int .i64 xt) rfl
                    have g0 := b6.froz 0
                    have g1 := b6.froz 1
                    have g2 := b6.froz 2
                    have g3 := b6.froz 3
                    have g4 := b6.froz 4
                    have o0 := b6.cell (i := 0) (v := .slice y.a y.L.length y.c) rfl
                    have o1 := b6.cell (i := 1) (v := .string y.s) rfl
                    have o2 := b6.cell (i := 2) (v := .int .i64 y.f) rfl
                    have o3 := b6.cell (i := 3) (v := .int .i64 y.k) rfl
                    have o4 := b6.cell (i := 4) (v := .int .i64 y.t) rfl
                    have S6 : Hid (∀ W, (((((w6.setCell ⟨bw, 0, none⟩ (.slice xa xl.length xc)).setCell ⟨bw, 1, none⟩ (.string xs)).setCell ⟨bw, 2, none⟩ (.int .i64 xf)).setCell ⟨bw, 3, none⟩ (.int .i64 xk)).setCell ⟨bw, 4, none⟩ (.int .i64 xt)) = W → OwnD w W p d5 ∧ CBox bw #[.slice xa xl.length xc, .string xs, .int .i64 xf, .int .i64 xk, .int .i64 xt] 44 W) := hide (fun W e => by
                      subst e
                      have kk := ((((Kp.set w6 bw 0 (.slice xa xl.length xc)).trans (Kp.set _ bw 1 (.string xs)) (fun _ h => Or.inl h)).trans (Kp.set _ bw 2 (.int .i64 xf)) (fun _ h => Or.inl h)).trans (Kp.set _ bw 3 (.int .i64 xk)) (fun _ h => Or.inl h)).trans (Kp.set _ bw 4 (.int .i64 xt)) (fun _ h => Or.inl h)
                      exact ⟨(unhide O6).other b6 (by decide) (by decide) (by decide) (unhide hbw) kk, ((((b6.set 0 (.slice xa xl.length xc)).set 1 (.string xs)).set 2 (.int .i64 xf)).set 3 (.int .i64 xk)).set 4 (.int .i64 xt)⟩)
                    clear k6 b6 x6 O5 B5 X5 LU O6
                    go_upto_region 40 with fail
                    generalize hW8 : (((((w6.setCell ⟨bw, 0, none⟩ (.slice xa xl.length xc)).setCell ⟨bw, 1, none⟩ (.string xs)).setCell ⟨bw, 2, none⟩ (.int .i64 xf)).setCell ⟨bw, 3, none⟩ (.int .i64 xk)).setCell ⟨bw, 4, none⟩ (.int .i64 xt)) = w8
                    have h6 := unhide S6 w8 hW8
                    have v0 := h6.2.cell (i := 0) (v := .slice xa xl.length xc) rfl
                    have v1 := h6.2.cell (i := 1) (v := .string xs) rfl
                    have H6 := hide h6
                    clear h6 S6 hW8 p0 p1 p2 p3 p4 g0 g1 g2 g3 g4 o0 o1 o2 o3 o4
                    go_wp2
                    go_loopw [188, 20, 21, 22, 23] (fun i _ _ _ _ wr => ∃ t : Nat, t ≤ xl.length ∧ i = .int .i64 (t : Int) ∧ Hid (OwnD w wr p d5 ∧ CBox bw #[.slice xa xl.length xc, .string xs, .int .i64 xf, .int .i64 xk, .int .i64 xt] 44 wr)) (fun i _ _ _ _ _ => xl.length - (intOf i).toNat)
                    case atStart => exact ⟨0, Nat.zero_le _, rfl, H6⟩
                    case round =>
                      obtain ⟨t, ht, rfl, HR6⟩ := hrel
                      clear H6
                      by_cases hlt3 : t < xl.length
                      · have hli3 : (t : Int) < (xl.length : Int) := by omega
                        obtain ⟨b3, off3, ha3, _, hc3⟩ := ((unhide HSB).kp (unhide HR6).1.bel) (by intro e; rw [e] at hlt3; simp at hlt3)
                        have s3 := hc3 t hlt3
                        clear hc3
                        have rd := unhide RU wr t hlt3 (unhide HR6).1
                        rw [unhide HF t hlt3] at rd
                        have RD := hide rd
                        clear rd
                        generalize xl[t] = bt at *
                        subst ha3
                        go_wp2_with fail
                        refine (unhide RD).mono ?_
                        rintro e w7 ⟨rfl, k7⟩
                        have HN := hide (And.intro ((unhide HR6).1.kp k7) ((unhide HR6).2.kp k7 (by simp)))
                        clear k7 RD HR6
                        go_wp2
                        go_roundw
                        case rel => exact ⟨t + 1, by omega, by go_num, HN⟩
                        case measure => simp [intOf]; omega
                      · obtain rfl : t = xl.length := by omega
                        have HN : Hid (WhD w wr p bw c' ⟨xa, xc, xl, xs, xf, xk, xt⟩) := hide ⟨d5, (unhide HR6).1, (unhide HJ5).1, (unhide HJ5).2, (unhide HR6).2, fun _ => ⟨⟨hn1, hn5⟩, hs5, unhide HSB⟩⟩
                        have hck := unhide HCk
                        clear HR6 HJ5
                        go_wp2
                        go_roundw
                        case rel => exact ⟨k + 1, c', ⟨xa, xc, xl, xs, xf, xk, xt⟩, by omega, by omega, by omega, by go_num, rfl, HN⟩
                        case measure => simp [intOf]; omega
                · have PC : Hid (Calls Tryz.prog 19 #[.pointer (some ⟨p, 0, none⟩), .int .i64 xk, .int .i64 xt] wd fun e w' => e = .returned (.tuple #[]) ∧ ∃ d5, OwnD w w' p d5 ∧ Jd hA (NWg c' xl.length xs (Shot.fn ⟨xa, xc, xl, xs, xf, xk, xt⟩)) 0 d5 ∧ Fz d5 ∧ CBox bw y.cells 44 w' ∧ CBox gx #[.slice xa xl.length xc, .string xs, .int .i64 xf, .int .i64 xk, .int .i64 xt] 44 w') := hide ((od.cr2 xk xt hx6.2).mono fun _ _ ⟨a, b, q⟩ => ⟨a, _, b, (jd.crash xk xt).1, (jd.crash xk xt).2, cb.oth q (by decide) (by decide) (by decide) (by simp), cx.oth q (by decide) (by decide) (by decide) (by simp)⟩)
                  have r3 := cx.cell (i := 3) (v := .int .i64 xk) rfl
                  have r4 := cx.cell (i := 4) (v := .int .i64 xt) rfl
                  clear od jd cb cx
                  go_wp2_with fail
                  refine (unhide PC).mono ?_
                  rintro e w5 ⟨rfl, d5, o5, j5, z5, b5, x5⟩
                  clear PC r3 r4
                  have hnw := j5.r
                  as_aux_lemma =>
                    obtain ⟨⟨q1, q2⟩, q3⟩ := nw_told (d := d5) (fun m => rfl) hnw ⟨by omega, hc1.2⟩ ⟨hn1, hn5⟩ hs5
                    have la := unhide LA w5 p d5 o5
                    rw [q1, q2] at la
                    have LU : Hid (Calls Tryz.prog 9 #[.pointer (some ⟨p, 0, none⟩)] w5 fun e w' => e = .returned (.tuple #[.int .i64 (c' : Int), .int .i64 (xl.length : Int), .string xs, .int .i64 0]) ∧ Kp [] w5 w') := hide la
                    have RU : Hid (∀ W (t : Nat), t < xl.length → OwnD w W p d5 → Calls Tryz.prog 10 #[.pointer (some ⟨p, 0, none⟩), .int .i64 (c' : Int), .int .i64 (t : Int)] W fun e w' => e = .returned (.tuple #[.string (Shot.fn ⟨xa, xc, xl, xs, xf, xk, xt⟩ t), .int .i64 0]) ∧ Kp [] W w') := hide (fun W t ht h => by
                      have re := unhide RE W p d5 c' t h ⟨by omega, by omega⟩ (by omega)
                      obtain ⟨z1, z2⟩ := q3 t ht
                      rw [z1, z2] at re
                      exact re)
                    have HJ5 : Hid (Jd hA (SRg c' xl.length xs (Shot.fn ⟨xa, xc, xl, xs, xf, xk, xt⟩)) 0 d5 ∧ Fz d5) := hide ⟨j5.zero (Or.inr ⟨by omega, hnw⟩), z5⟩
                    have O5 := hide o5
                    have B5 := hide b5
                    have X5 := hide x5
                    clear la q1 q2 q3 hnw j5 z5 o5 b5 x5 LA CO PT CM RE
                    go_wp2_with fail
                    refine (unhide LU).mono ?_
                    rintro e w6 ⟨rfl, k6⟩
                    have O6 := hide ((unhide O5).kp k6)
                    have b6 := (unhide B5).kp k6 (by simp)
                    have x6 := (unhide X5).kp k6 (by simp)
                    have p0 := x6.cell (i := 0) (v := .slice xa xl.length xc) rfl
                    have p1 := x6.cell (i := 1) (v := .string xs) rfl
                    have p2 := x6.cell (i := 2) (v := .int .i64 xf) rfl
                    have p3 := x6.cell (i := 3) (v := .int .i64 xk) rfl
                    have p4 := x6.cell (i := 4) (v := .int .i64 xt) rfl
                    have g0 := b6.froz 0
                    have g1 := b6.froz 1
                    have g2 := b6.froz 2
                    have g3 := b6.froz 3
                    have g4 := b6.froz 4
                    have o0 := b6.cell (i := 0) (v := .slice y.a y.L.length y.c) rfl
                    have o1 := b6.cell (i := 1) (v := .string y.s) rfl
                    have o2 := b6.cell (i := 2) (v := .int .i64 y.f) rfl
                    have o3 := b6.cell (i := 3) (v := .int .i64 y.k) rfl
                    have o4 := b6.cell (i := 4) (v := .int .i64 y.t) rfl
                    have S6 : Hid (∀ W, (((((w6.setCell ⟨bw, 0, none⟩ (.slice xa xl.length xc)).setCell ⟨bw, 1, none⟩ (.string xs)).setCell ⟨bw, 2, none⟩ (.int .i64 xf)).setCell ⟨bw, 3, none⟩ (.int .i64 xk)).setCell ⟨bw, 4, none⟩ (.int .i64 xt)) = W → OwnD w W p d5 ∧ CBox bw #[.slice xa xl.length xc, .string xs, .int .i64 xf, .int .i64 xk, .int .i64 xt] 44 W) := hide (fun W e => by
                      subst e
                      have kk := ((((Kp.set w6 bw 0 (.slice xa xl.length xc)).trans (Kp.set _ bw 1 (.string xs)) (fun _ h => Or.inl h)).trans (Kp.set _ bw 2 (.int .i64 xf)) (fun _ h => Or.inl h)).trans (Kp.set _ bw 3 (.int .i64 xk)) (fun _ h => Or.inl h)).trans (Kp.set _ bw 4 (.int .i64 xt)) (fun _ h => Or.inl h)
                      exact ⟨(unhide O6).other b6 (by decide) (by decide) (by decide) (unhide hbw) kk, ((((b6.set 0 (.slice xa xl.length xc)).set 1 (.string xs)).set 2 (.int .i64 xf)).set 3 (.int .i64 xk)).set 4 (.int .i64 xt)⟩)
                    clear k6 b6 x6 O5 B5 X5 LU O6
                    go_upto_region 40 with fail
                    generalize hW8 : (((((w6.setCell ⟨bw, 0, none⟩ (.slice xa xl.length xc)).setCell ⟨bw, 1, none⟩ (.string xs)).setCell ⟨bw, 2, none⟩ (.int .i64 xf)).setCell ⟨bw, 3, none⟩ (.int .i64 xk)).setCell ⟨bw, 4, none⟩ (.int .i64 xt)) = w8
                    have h6 := unhide S6 w8 hW8
                    have v0 := h6.2.cell (i := 0) (v := .slice xa xl.length xc) rfl
                    have v1 := h6.2.cell (i := 1) (v := .string xs) rfl
                    have H6 := hide h6
                    clear h6 S6 hW8 p0 p1 p2 p3 p4 g0 g1 g2 g3 g4 o0 o1 o2 o3 o4
                    go_wp2
                    go_loopw [188, 20, 21, 22, 23] (fun i _ _ _ _ wr => ∃ t : Nat, t ≤ xl.length ∧ i = .int .i64 (t : Int) ∧ Hid (OwnD w wr p d5 ∧ CBox bw #[.slice xa xl.length xc, .string xs, .int .i64 xf, .int .i64 xk, .int .i64 xt] 44 wr)) (fun i _ _ _ _ _ => xl.length - (intOf i).toNat)
                    case atStart => exact ⟨0, Nat.zero_le _, rfl, H6⟩
                    case round =>
                      obtain ⟨t, ht, rfl, HR6⟩ := hrel
                      clear H6
                      by_cases hlt3 : t < xl.length
                      · have hli3 : (t : Int) < (xl.length : Int) := by omega
                        obtain ⟨b3, off3, ha3, _, hc3⟩ := ((unhide HSB).kp (unhide HR6).1.bel) (by intro e; rw [e] at hlt3; simp at hlt3)
                        have s3 := hc3 t hlt3
                        clear hc3
                        have rd := unhide RU wr t hlt3 (unhide HR6).1
                        rw [unhide HF t hlt3] at rd
                        have RD := hide rd
                        clear rd
                        generalize xl[t] = bt at *
                        subst ha3
                        go_wp2_with fail
                        refine (unhide RD).mono ?_
                        rintro e w7 ⟨rfl, k7⟩
                        have HN := hide (And.intro ((unhide HR6).1.kp k7) ((unhide HR6).2.kp k7 (by simp)))
                        clear k7 RD HR6
                        go_wp2
                        go_roundw
                        case rel => exact ⟨t + 1, by omega, by go_num, HN⟩
                        case measure => simp [intOf]; omega
                      · obtain rfl : t = xl.length := by omega
                        have HN : Hid (WhD w wr p bw c' ⟨xa, xc, xl, xs, xf, xk, xt⟩) := hide ⟨d5, (unhide HR6).1, (unhide HJ5).1, (unhide HJ5).2, (unhide HR6).2, fun _ => ⟨⟨hn1, hn5⟩, hs5, unhide HSB⟩⟩
                        have hck := unhide HCk
                        clear HR6 HJ5
                        go_wp2
                        go_roundw
                        case rel => exact ⟨k + 1, c', ⟨xa, xc, xl, xs, xf, xk, xt⟩, by omega, by omega, by omega, by go_num, rfl, HN⟩
                        case measure => simp [intOf]; omega
              · rw [e1] at cm
                have CU : Hid (Calls Tryz.prog 13 #[.pointer (some ⟨p, 0, none⟩), .int .i64 (c' : Int), .int .i64 (xl.length : Int), .string xs] wr fun e w' => e = .returned (.int .i64 31) ∧ ∃ d, OwnD w w' p d ∧ Jd hA (Qw lst y.L.length y.s y.fn c' xl.length xs (Shot.fn ⟨xa, xc, xl, xs, xf, xk, xt⟩) 31 true) 103 d ∧ CBox bw y.cells 44 w' ∧ CBox gx #[.slice xa xl.length xc, .string xs, .int .i64 xf, .int .i64 xk, .int .i64 xt] 44 w') := hide (cm.mono fun _ _ ⟨a, b, q⟩ => ⟨a, _, b, j1, cb.oth q (by decide) (by decide) (by decide) (by simp), cx.oth q (by decide) (by decide) (by decide) (by simp)⟩)
                clear cm e1 j1 od jd cb cx tk HR hlo
                go_wp2_with fail
                refine (unhide CU).mono ?_
                rintro e wd ⟨rfl, d4, od, jd, cb, cx⟩
                clear CU u0 u1
                have PC : Hid (Calls Tryz.prog 19 #[.pointer (some ⟨p, 0, none⟩), .int .i64 xk, .int .i64 xt] wd fun e w' => e = .returned (.tuple #[]) ∧ ∃ d5, OwnD w w' p d5 ∧ Jd hA (Qw lst y.L.length y.s y.fn c' xl.length xs (Shot.fn ⟨xa, xc, xl, xs, xf, xk, xt⟩) 31 true) 0 d5 ∧ Fz d5 ∧ CBox bw y.cells 44 w' ∧ CBox gx #[.slice xa xl.length xc, .string xs, .int .i64 xf, .int .i64 xk, .int .i64 xt] 44 w') := hide ((od.cr2 xk xt hx6.2).mono fun _ _ ⟨a, b, q⟩ => ⟨a, _, b, (jd.crash xk xt).1, (jd.crash xk xt).2, cb.oth q (by decide) (by decide) (by decide) (by simp), cx.oth q (by decide) (by decide) (by decide) (by simp)⟩)
                have r3 := cx.cell (i := 3) (v := .int .i64 xk) rfl
                have r4 := cx.cell (i := 4) (v := .int .i64 xt) rfl
                clear od jd cb cx
                go_wp2_with fail
                refine (unhide PC).mono ?_
                rintro e w5 ⟨rfl, d5, o5, j5, z5, b5, x5⟩
                clear PC r3 r4
                rcases j5.r with ⟨_, hnw⟩ | ⟨_, hsr⟩
                · as_aux_lemma =>
                    obtain ⟨⟨q1, q2⟩, q3⟩ := nw_told (d := d5) (fun m => rfl) hnw ⟨by omega, hc1.2⟩ ⟨hn1, hn5⟩ hs5
                    have la := unhide LA w5 p d5 o5
                    rw [q1, q2] at la
                    have LU : Hid (Calls Tryz.prog 9 #[.pointer (some ⟨p, 0, none⟩)] w5 fun e w' => e = .returned (.tuple #[.int .i64 (c' : Int), .int .i64 (xl.length : Int), .string xs, .int .i64 0]) ∧ Kp [] w5 w') := hide la
                    have RU : Hid (∀ W (t : Nat), t < xl.length → OwnD w W p d5 → Calls Tryz.prog 10 #[.pointer (some ⟨p, 0, none⟩), .int .i64 (c' : Int), .int .i64 (t : Int)] W fun e w' => e = .returned (.tuple #[.string (Shot.fn ⟨xa, xc, xl, xs, xf, xk, xt⟩ t), .int .i64 0]) ∧ Kp [] W w') := hide (fun W t ht h => by
                      have re := unhide RE W p d5 c' t h ⟨by omega, by omega⟩ (by omega)
                      obtain ⟨z1, z2⟩ := q3 t ht
                      rw [z1, z2] at re
                      exact re)
                    have HJ5 : Hid (Jd hA (SRg c' xl.length xs (Shot.fn ⟨xa, xc, xl, xs, xf, xk, xt⟩)) 0 d5 ∧ Fz d5) := hide ⟨j5.zero (Or.inr ⟨by omega, hnw⟩), z5⟩
                    have O5 := hide o5
                    have B5 := hide b5
                    have X5 := hide x5
                    clear la q1 q2 q3 hnw j5 z5 o5 b5 x5 LA CO PT CM RE
                    go_wp2_with fail
                    refine (unhide LU).mono ?_
                    rintro e w6 ⟨rfl, k6⟩
                    have O6 := hide ((unhide O5).kp k6)
                    have b6 := (unhide B5).kp k6 (by simp)
                    have x6 := (unhide X5).kp k6 (by simp)
                    have p0 := x6.cell (i := 0) (v := .slice xa xl.length xc) rfl
                    have p1 := x6.cell (i := 1) (v := .string xs) rfl
                    have p2 := x6.cell (i := 2) (v := .int .i64 xf) rfl
                    have p3 := x6.cell (i := 3) (v := .int .i64 xk) rfl
                    have p4 := x6.cell (i := 4) (v := .int .i64 xt) rfl
                    have g0 := b6.froz 0
                    have g1 := b6.froz 1
                    have g2 := b6.froz 2
                    have g3 := b6.froz 3
                    have g4 := b6.froz 4
                    have o0 := b6.cell (i := 0) (v := .slice y.a y.L.length y.c) rfl
                    have o1 := b6.cell (i := 1) (v := .string y.s) rfl
                    have o2 := b6.cell (i := 2) (v := .int .i64 y.f) rfl
                    have o3 := b6.cell (i := 3) (v := .int .i64 y.k) rfl
                    have o4 := b6.cell (i := 4) (v := .int .i64 y.t) rfl
                    have S6 : Hid (∀ W, (((((w6.setCell ⟨bw, 0, none⟩ (.slice xa xl.length xc)).setCell ⟨bw, 1, none⟩ (.string xs)).setCell ⟨bw, 2, none⟩ (.int .i64 xf)).setCell ⟨bw, 3, none⟩ (.int .i64 xk)).setCell ⟨bw, 4, none⟩ (.int .i64 xt)) = W → OwnD w W p d5 ∧ CBox bw #[.slice xa xl.length xc, .string xs, .int .i64 xf, .int .i64 xk, .int .i64 xt] 44 W) := hide (fun W e => by
                      subst e
                      have kk := ((((Kp.set w6 bw 0 (.slice xa xl.length xc)).trans (Kp.set _ bw 1 (.string xs)) (fun _ h => Or.inl h)).trans (Kp.set _ bw 2 (.int .i64 xf)) (fun _ h => Or.inl h)).trans (Kp.set _ bw 3 (.int .i64 xk)) (fun _ h => Or.inl h)).trans (Kp.set _ bw 4 (.int .i64 xt)) (fun _ h => Or.inl h)
                      exact ⟨(unhide O6).other b6 (by decide) (by decide) (by decide) (unhide hbw) kk, ((((b6.set 0 (.slice xa xl.length xc)).set 1 (.string xs)).set 2 (.int .i64 xf)).set 3 (.int .i64 xk)).set 4 (.int .i64 xt)⟩)
                    clear k6 b6 x6 O5 B5 X5 LU O6
                    go_upto_region 40 with fail
                    generalize hW8 : (((((w6.setCell ⟨bw, 0, none⟩ (.slice xa xl.length xc)).setCell ⟨bw, 1, none⟩ (.string xs)).setCell ⟨bw, 2, none⟩ (.int .i64 xf)).setCell ⟨bw, 3, none⟩ (.int .i64 xk)).setCell ⟨bw, 4, none⟩ (.int .i64 xt)) = w8
                    have h6 := unhide S6 w8 hW8
                    have v0 := h6.2.cell (i := 0) (v := .slice xa xl.length xc) rfl
                    have v1 := h6.2.cell (i := 1) (v := .string xs) rfl
                    have H6 := hide h6
                    clear h6 S6 hW8 p0 p1 p2 p3 p4 g0 g1 g2 g3 g4 o0 o1 o2 o3 o4
                    go_wp2
                    go_loopw [188, 20, 21, 22, 23] (fun i _ _ _ _ wr => ∃ t : Nat, t ≤ xl.length ∧ i = .int .i64 (t : Int) ∧ Hid (OwnD w wr p d5 ∧ CBox bw #[.slice xa xl.length xc, .string xs, .int .i64 xf, .int .i64 xk, .int .i64 xt] 44 wr)) (fun i _ _ _ _ _ => xl.length - (intOf i).toNat)
                    case atStart => exact ⟨0, Nat.zero_le _, rfl, H6⟩
                    case round =>
                      obtain ⟨t, ht, rfl, HR6⟩ := hrel
                      clear H6
                      by_cases hlt3 : t < xl.length
                      · have hli3 : (t : Int) < (xl.length : Int) := by omega
                        obtain ⟨b3, off3, ha3, _, hc3⟩ := ((unhide HSB).kp (unhide HR6).1.bel) (by intro e; rw [e] at hlt3; simp at hlt3)
                        have s3 := hc3 t hlt3
                        clear hc3
                        have rd := unhide RU wr t hlt3 (unhide HR6).1
                        rw [unhide HF t hlt3] at rd
                        have RD := hide rd
                        clear rd
                        generalize xl[t] = bt at *
                        subst ha3
                        go_wp2_with fail
                        refine (unhide RD).mono ?_
                        rintro e w7 ⟨rfl, k7⟩
                        have HN := hide (And.intro ((unhide HR6).1.kp k7) ((unhide HR6).2.kp k7 (by simp)))
                        clear k7 RD HR6
                        go_wp2
                        go_roundw
                        case rel => exact ⟨t + 1, by omega, by go_num, HN⟩
                        case measure => simp [intOf]; omega
                      · obtain rfl : t = xl.length := by omega
                        have HN : Hid (WhD w wr p bw c' ⟨xa, xc, xl, xs, xf, xk, xt⟩) := hide ⟨d5, (unhide HR6).1, (unhide HJ5).1, (unhide HJ5).2, (unhide HR6).2, fun _ => ⟨⟨hn1, hn5⟩, hs5, unhide HSB⟩⟩
                        have hck := unhide HCk
                        clear HR6 HJ5
                        go_wp2
                        go_roundw
                        case rel => exact ⟨k + 1, c', ⟨xa, xc, xl, xs, xf, xk, xt⟩, by omega, by omega, by omega, by go_num, rfl, HN⟩
                        case measure => simp [intOf]; omega
                · rcases hsr with ⟨rfl, hnone⟩ | ⟨hl1, hnw⟩
                  · as_aux_lemma =>
                      obtain ⟨q1, q2⟩ := la_none (d := d5) hnone
                      have la := unhide LA w5 p d5 o5
                      rw [q1, q2] at la
                      dsimp only [Mf.z] at la
                      have LU : Hid (Calls Tryz.prog 9 #[.pointer (some ⟨p, 0, none⟩)] w5 fun e w' => e = .returned (.tuple #[.int .i64 0, .int .i64 0, .string ⟨#[]⟩, .int .i64 5]) ∧ Kp [] w5 w') := hide la
                      have HS5 : Hid (∀ W, Kp [] w5 W → WhD w W p bw 0 y) := hide (fun W k => ⟨d5, o5.kp k, j5.zero (Or.inl ⟨rfl, hnone⟩), z5, b5.kp k (by simp), fun h => absurd rfl h⟩)
                      clear la q1 q2 hnone j5 z5 o5 b5 x5 LA CO PT CM RE
                      go_wp2_with fail
                      refine (unhide LU).mono ?_
                      rintro e w6 ⟨rfl, k6⟩
                      have HN := hide (unhide HS5 w6 k6)
                      have hck := unhide HCk
                      clear k6 HS5 LU
                      go_wp2
                      go_roundw
                      case rel => exact ⟨k + 1, 0, y, by omega, by omega, by omega, by go_num, rfl, HN⟩
                      case measure => simp [intOf]; omega
                  · as_aux_lemma =>
                      obtain ⟨⟨y1, y5⟩, ys, yS⟩ := unhide HY (by omega)
                      obtain ⟨⟨q1, q2⟩, q3⟩ := nw_told (d := d5) (fun m => rfl) hnw ⟨hl1, by omega⟩ ⟨y1, y5⟩ ys
                      have la := unhide LA w5 p d5 o5
                      rw [q1, q2] at la
                      have LU : Hid (Calls Tryz.prog 9 #[.pointer (some ⟨p, 0, none⟩)] w5 fun e w' => e = .returned (.tuple #[.int .i64 (lst : Int), .int .i64 (y.L.length : Int), .string y.s, .int .i64 0]) ∧ Kp [] w5 w') := hide la
                      have RU : Hid (∀ W (t : Nat), t < y.L.length → OwnD w W p d5 → Calls Tryz.prog 10 #[.pointer (some ⟨p, 0, none⟩), .int .i64 (lst : Int), .int .i64 (t : Int)] W fun e w' => e = .returned (.tuple #[.string (y.fn t), .int .i64 0]) ∧ Kp [] W w') := hide (fun W t ht h => by
                        have re := unhide RE W p d5 lst t h ⟨hl1, by omega⟩ (by omega)
                        obtain ⟨z1, z2⟩ := q3 t ht
                        rw [z1, z2] at re
                        exact re)
                      have HJ5 : Hid (Jd hA (SRg lst y.L.length y.s y.fn) 0 d5 ∧ Fz d5) := hide ⟨j5.zero (Or.inr ⟨hl1, hnw⟩), z5⟩
                      have HFy : Hid (∀ i (h : i < y.L.length), y.fn i = y.L[i]) := hide (fun i h => by simp [Shot.fn, h])
                      have HSy := hide yS
                      have O5 := hide o5
                      have B5 := hide b5
                      have hne : ((lst : Int) == (c' : Int)) = false := beq_eq_false_iff_ne.2 (by omega)
                      clear la q1 q2 q3 hnw j5 z5 o5 b5 x5 yS LA CO PT CM RE
                      go_wp2_with fail
                      refine (unhide LU).mono ?_
                      rintro e w6 ⟨rfl, k6⟩
                      have b6 := (unhide B5).kp k6 (by simp)
                      have p0 := b6.cell (i := 0) (v := .slice y.a y.L.length y.c) rfl
                      have p1 := b6.cell (i := 1) (v := .string y.s) rfl
                      have H6 := hide (And.intro ((unhide O5).kp k6) b6)
                      clear k6 b6 O5 B5 LU
                      go_wp2
                      go_loopw [188, 20, 21, 22, 23] (fun i _ _ _ _ wr => ∃ t : Nat, t ≤ y.L.length ∧ i = .int .i64 (t : Int) ∧ Hid (OwnD w wr p d5 ∧ CBox bw y.cells 44 wr)) (fun i _ _ _ _ _ => y.L.length - (intOf i).toNat)
                      case atStart => exact ⟨0, Nat.zero_le _, rfl, H6⟩
                      case round =>
                        obtain ⟨t, ht, rfl, HR6⟩ := hrel
                        clear H6
                        by_cases hlt3 : t < y.L.length
                        · have hli3 : (t : Int) < (y.L.length : Int) := by omega
                          obtain ⟨b3, off3, ha3, _, hc3⟩ := ((unhide HSy).kp (unhide HR6).1.bel) (by intro e; rw [e] at hlt3; simp at hlt3)
                          have s3 := hc3 t hlt3
                          clear hc3
                          have rd := unhide RU wr t hlt3 (unhide HR6).1
                          rw [unhide HFy t hlt3] at rd
                          have RD := hide rd
                          clear rd
                          generalize y.L[t] = bt at *
                          rw [ha3]
                          go_wp2_with fail
                          refine (unhide RD).mono ?_
                          rintro e w7 ⟨rfl, k7⟩
                          have HN := hide (And.intro ((unhide HR6).1.kp k7) ((unhide HR6).2.kp k7 (by simp)))
                          clear k7 RD HR6
                          go_wp2
                          go_roundw
                          case rel => exact ⟨t + 1, by omega, by go_num, HN⟩
                          case measure => simp [intOf]; omega
                        · obtain rfl : t = y.L.length := by omega
                          have HN : Hid (WhD w wr p bw lst y) := hide ⟨d5, (unhide HR6).1, (unhide HJ5).1, (unhide HJ5).2, (unhide HR6).2, fun h => unhide HY h⟩
                          have hck := unhide HCk
                          clear HR6 HJ5
                          go_wp2
                          go_roundw
                          case rel => exact ⟨k + 1, lst, y, by omega, by omega, by omega, by go_num, rfl, HN⟩
                          case measure => simp [intOf]; omega
      · have HN : Hid (WhD w (W0.alloc (.cells #[.slice xa xl.length xc, .string xs, .int .i64 xf, .int .i64 xk, .int .i64 xt] 44)) p bw lst y) := hide (let ⟨d, a, b, c, e, q⟩ := unhide HK; ⟨d, a.kp k1, b, c, e.kp k1 (by simp), q⟩)
        clear HK k1 mb hSb hx2 hbel
        have hbad : xl.length = 0 ∨ (xl.length ≠ 0 ∧ 5 < xl.length) ∨ (xl.length ≠ 0 ∧ ¬ 5 < xl.length ∧ 500 < xs.size) := by omega
        clear hgood
        rcases hbad with h | ⟨h0, h⟩ | ⟨h0, h5, h⟩
        · have e0 : ((xl.length : Int) == 0) = true := by rw [h]; rfl
          clear h
          go_wp2
          go_roundw
          case rel => exact ⟨k + 1, lst, y, by omega, by omega, by omega, by go_num, rfl, HN⟩
          case measure => simp [intOf]; omega
        · have e0 : ((xl.length : Int) == 0) = false := beq_eq_false_iff_ne.2 (by omega)
          have e5 : (5 : Int) < (xl.length : Int) := by omega
          go_wp2
          go_roundw
          case rel => exact ⟨k + 1, lst, y, by omega, by omega, by omega, by go_num, rfl, HN⟩
          case measure => simp [intOf]; omega
        · have e0 : ((xl.length : Int) == 0) = false := beq_eq_false_iff_ne.2 (by omega)
          have e5 : ¬ (5 : Int) < (xl.length : Int) := by omega
          have es : (500 : Int) < (xs.size : Int) := by omega
          go_wp2
          go_roundw
          case rel => exact ⟨k + 1, lst, y, by omega, by omega, by omega, by go_num, rfl, HN⟩
          case measure => simp [intOf]; omega
    · have hex : ¬ k < l.length ∨ (k < l.length ∧ ¬ k < 10) := by
        rcases Nat.lt_or_ge k l.length with h | h
        · exact Or.inr ⟨h, fun h6 => hgo ⟨h, h6⟩⟩
        · exact Or.inl (by omega)
      have HE : Hid (Kp [] w wr) := hide (let ⟨_, od, _⟩ := unhide HK; od.bel)
      clear hgo HK
      rcases hex with h | ⟨h, h6⟩
      · have hli : ¬ (k : Int) < (l.length : Int) := by omega
        go_wp2
        go_ret
        exact ⟨rfl, unhide HE⟩
      · have hli : (k : Int) < (l.length : Int) := by omega
        have h6i : ¬ (k : Int) < 10 := by omega
        go_wp2
        go_ret
        exact ⟨rfl, unhide HE⟩
end Go.Proofs.YtdmckgcbmbhmmaaGreatDoor
