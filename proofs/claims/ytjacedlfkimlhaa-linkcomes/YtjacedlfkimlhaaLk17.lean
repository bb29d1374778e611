/-
  LinkComes: the walk.
  LinkComes: the walk.
  LinkComes is proved: for all numbers and all texts the law LinkComes returns true (when in each round all that is due arrives, and the last acknowledgement, all texts are told, and acknowledged, in as many rounds as there are windows of them), and its arguments read behind the call as before. No condition.
-/
import Derived.Test.YtjacedlfkimlhaaLk16
import Derived.Test.YtjacedlfkimlhaaRows
import Derived.Test.YtjacedlfkimlhaaLk11
import Derived.ProofKit
import Derived.OpenShut
import Derived.Deep.DeepHandedRow
import Derived.Lib.LaidTab
namespace Go.Proofs.Ytjacedlfkimlhaa
open Go.RowKit Lk

theorem lpk_get (ep pt t : Int) : ∀ (n : Nat) (l : List Pu), (∀ x ∈ l, lagn pt t x = true) → ∀ (i : Nat) (hi : i < l.length), (lpk ep pt t n l)[i]? = some (dataB ep ((n + i : Nat) : Int) (l[i]).b)
  | _, [], _, i, hi => by cases hi
  | n, x :: r, h, i, hi => by
    rw [lpk, if_pos (h x (List.mem_cons_self ..))]
    cases i with
    | zero => simp
    | succ i =>
      rw [List.getElem?_cons_succ, lpk_get ep pt t (n + 1) r (fun y hy => h y (List.mem_cons_of_mem _ hy)) i (by simpa using hi), List.getElem_cons_succ, show n + 1 + i = n + (i + 1) by omega]
/-- A receiver that waits for number n and has none that came early. -/
def at_ (ep : Int) (W n : Nat) : Rcv := ⟨ep, W, n, []⟩
theorem at_ok {ep : Int} {W n : Nat} (e0 : 0 ≤ ep) (e1 : ep ≤ 1073741824) (w0 : 1 ≤ W) (w1 : W ≤ 256) (n1 : n ≤ 1073741825) : ROk (at_ ep W n) := ⟨e0, e1, w0, w1, n1, by simp [at_], fun x hx => by cases hx⟩
theorem lk_next {ep : Int} {W n : Nat} {b : ByteArray} (w0 : 1 ≤ W) : lkR (at_ ep W n) n b = ⟨ep, W, n, [(n, b)]⟩ ∧ lgR ⟨ep, W, n, [(n, b)]⟩ = at_ ep W (n + 1) ∧ lgO ⟨ep, W, n, [(n, b)]⟩ = [b] := by
  have hf : erl [(n, b)] n = some b := by unfold erl; simp
  have hd : erd [(n, b)] n = [] := by unfold erd; simp
  have hg := lgR_go (r := ⟨ep, W, n, [(n, b)]⟩) hf
  dsimp only at hg
  rw [hd] at hg
  have hs := lgR_stop (r := ⟨ep, W, n + 1, []⟩) rfl
  refine ⟨?_, ?_, ?_⟩
  · unfold lkR at_
    rw [if_pos ⟨Nat.le_refl n, by dsimp only; omega, rfl⟩]
    rfl
  · rw [hg.1, hs.1]; rfl
  · rw [hg.2, hs.2]
theorem lt_next {ep : Int} {W n : Nat} {b : ByteArray} (e0 : 0 ≤ ep) (e1 : ep ≤ 1073741824) (w0 : 1 ≤ W) (n1 : n ≤ 1073741824) (hb : b.size ≤ 60000) : ltE (at_ ep W n) (dataB ep (n : Int) b) = 0 ∧ ltO (at_ ep W n) (dataB ep (n : Int) b) = [b] ∧ ltR (at_ ep W n) (dataB ep (n : Int) b) = at_ ep W (n + 1) ∧ ltA (at_ ep W n) (dataB ep (n : Int) b) = ackB ep ((n + 1 : Nat) : Int) := by
  have hr := lrD_data (ep := ep) (n := (n : Int)) (b := b) e0 e1 (by omega) (by omega) hb
  obtain ⟨g1, g2, g3, g4⟩ := ltE_ok (r := at_ ep W n) hr
  rw [Int.toNat_natCast] at g2 g3 g4
  obtain ⟨k1, k2, k3⟩ := lk_next (ep := ep) (n := n) (b := b) w0
  rw [k1] at g2 g3 g4
  rw [k2] at g2 g4
  rw [k3] at g3
  exact ⟨g1, g3, g2, g4⟩
/-- A sender ahead of round j: f texts were acknowledged. -/
structure Cm (s : Snd) (W P m f j : Nat) : Prop where
  ok : SOk s
  ep : s.ep = 1
  wd : s.wd = W
  pt : s.pt = (P : Int)
  first : s.first = f
  len : s.left.length + f = m
  now : s.now = ((P * j : Nat) : Int)
theorem Cm.all {s : Snd} {W P m f j : Nat} (h : Cm s W P m f j) : ∀ x ∈ s.left, lagn s.pt ((P * (j + 1) : Nat) : Int) x = true := fun x hx => by
  have := (h.ok.sz x hx).2
  have hn := h.now
  unfold lagn
  rw [h.pt]
  by_cases e : x.at_ = -1
  · rw [e]; rfl
  · rw [Bool.or_eq_true]
    refine Or.inr (decide_eq_true ?_)
    rw [Nat.mul_add, Nat.mul_one]
    omega
theorem Fresh.cm {s : Snd} {W P m : Nat} (h : Fresh s W (P : Int) m) : ldE s 0 = 0 ∧ Cm (ldS s 0) W P m 0 0 := by
  have hn := h.now
  have he : ldE s 0 = 0 := by unfold ldE; rw [if_neg (by omega)]
  refine ⟨he, h.ok.ldS 0, ?_, ?_, ?_, ?_, ?_, ?_⟩
  all_goals unfold ldS; rw [if_pos he]
  · exact h.ep
  · exact h.wd
  · exact h.pt
  · exact h.first
  · dsimp only; rw [lmks_len, h.len, Nat.add_zero]
  · rfl
/-- What is due in a round, and what comes of its acknowledgement. -/
theorem Cm.due {s : Snd} {W P m f j : Nat} (h : Cm s W P m f j) (hj : P * (j + 1) ≤ 1073741824) : ldE s ((P * (j + 1) : Nat) : Int) = 0 ∧ (ldO s ((P * (j + 1) : Nat) : Int)).length = min W (m - f) ∧ (∀ i, i < min W (m - f) → ∃ b : ByteArray, b.size ≤ 60000 ∧ (ldO s ((P * (j + 1) : Nat) : Int))[i]? = some (dataB 1 ((f + i : Nat) : Int) b)) ∧ Cm (ldS s ((P * (j + 1) : Nat) : Int)) W P m f (j + 1) := by
  have hn := h.now
  have hm : P * j ≤ P * (j + 1) := Nat.mul_le_mul_left P (Nat.le_succ j)
  have he : ldE s ((P * (j + 1) : Nat) : Int) = 0 := by unfold ldE; rw [if_neg (by omega)]
  have hl := h.len
  have hall := h.all
  have hallt : ∀ x ∈ s.left.take W, lagn s.pt ((P * (j + 1) : Nat) : Int) x = true := fun x hx => hall x (List.mem_of_mem_take hx)
  refine ⟨he, ?_, fun i hi => ?_, h.ok.ldS _, ?_, ?_, ?_, ?_, ?_, ?_⟩
  · unfold ldO
    rw [if_pos he, h.wd, lpk_all _ _ _ _ _ hallt, List.length_take]
    omega
  · have hlt : i < (s.left.take W).length := by rw [List.length_take]; omega
    refine ⟨((s.left.take W)[i]).b, (h.ok.sz _ (List.mem_of_mem_take (List.getElem_mem hlt))).1, ?_⟩
    unfold ldO
    rw [if_pos he, h.wd, lpk_get _ _ _ _ _ hallt i hlt, h.ep, h.first]
  all_goals unfold ldS; rw [if_pos he]
  · exact h.ep
  · exact h.wd
  · exact h.pt
  · exact h.first
  · dsimp only; rw [lmks_len]; exact hl
theorem Cm.heard {s : Snd} {W P m f j c : Nat} (h : Cm s W P m f j) (hc : 1 ≤ c) (hcm : f + c ≤ m) (hm : m ≤ 1073741824) : lhE s (ackB 1 ((f + c : Nat) : Int)) = 0 ∧ Cm (lhS s (ackB 1 ((f + c : Nat) : Int))) W P m (f + c) j := by
  have hl := h.len
  have hr := lrA_ack (ep := 1) (n := ((f + c : Nat) : Int)) (by decide) (by decide) (by omega) (by omega)
  obtain ⟨g1, g2⟩ := lhE_some (s := s) hr
  have he : lhE s (ackB 1 ((f + c : Nat) : Int)) = 0 := by
    rw [g1, h.ep, h.first, if_neg (by simp), if_neg (by omega)]
  have hk := h.ok.lhS (ackB 1 ((f + c : Nat) : Int))
  rw [he, h.first, if_pos ⟨rfl, by omega⟩, Int.toNat_natCast] at g2
  refine ⟨he, hk, ?_, ?_, ?_, ?_, ?_, ?_⟩
  all_goals rw [g2]
  · exact h.ep
  · exact h.wd
  · exact h.pt
  · dsimp only
    rw [List.length_drop]
    omega
  · exact h.now
end Go.Proofs.Ytjacedlfkimlhaa
namespace Go.Proofs.Ytjacedlfkimlhaa
open Go.RowKit Lk

/-- What a packet of a row reads as, wherever the links went on. -/
theorem row_get {B : Nat} {W : World} {v : Value} {L : List ByteArray} (h : TxO B W v L) {i : Nat} {d : ByteArray} (hd : L[i]? = some d) : ∃ g cap, v = .slice (some ⟨g, 0, none⟩) L.length cap ∧ W.cell? ⟨g, i, none⟩ = some (.string d) := by
  obtain ⟨hi, e⟩ := List.getElem?_eq_some_iff.1 hd
  obtain ⟨_, ⟨rfl, h0⟩ | ⟨g, cp, cur, rfl, _⟩⟩ := id h
  · omega
  · refine ⟨g, cp, rfl, ?_⟩
    rw [World.ownsRow.cellAt h i (by omega), List.getElem?_map, hd]
    rfl
theorem ceil_round {m W j : Nat} (hW : 1 ≤ W) : j < (m + W - 1) / W ↔ j * W < m := by
  rw [Nat.lt_iff_add_one_le, Nat.le_div_iff_mul_le (by omega), Nat.add_mul, Nat.one_mul]
  omega
set_option maxHeartbeats 8000000 in
set_option maxRecDepth 100000 in
theorem lcomes_walk (x0 x1 : Int) (ad : Option Addr) (cap : Nat) (l : List ByteArray) (w : World) (_hl : l.length ≤ 9223372036854775807) (hA : StrsAt w ad l) (hok : ∀ y ∈ l, y.size ≤ 9223372036854775807) :
    Calls Try.prog 5 #[.int .i64 x0, .int .i64 x1, .slice ad l.length cap] w fun e w' => e = .returned (.bool true) ∧ Below w.heap.size w w' := by
  have WK := hide (lworks_any w)
  have AM0 := hide (fun W => lAmong_any x0 20 W (by decide) (by decide))
  have AM1 := hide (fun W => lAmong_any x1 10 W (by decide) (by decide))
  obtain ⟨wn, hwn⟩ : ∃ wn : Nat, x0 % 20 = (wn : Int) := ⟨(x0 % 20).toNat, by have := Int.emod_nonneg x0 (show (20 : Int) ≠ 0 by decide); omega⟩
  obtain ⟨pn, hpn⟩ : ∃ pn : Nat, x1 % 10 = (pn : Int) := ⟨(x1 % 10).toNat, by have := Int.emod_nonneg x1 (show (10 : Int) ≠ 0 by decide); omega⟩
  have hwl : wn < 20 := by have := Int.emod_lt_of_pos x0 (show (0 : Int) < 20 by decide); omega
  have hpl : pn < 10 := by have := Int.emod_lt_of_pos x1 (show (0 : Int) < 10 by decide); omega
  rw [hwn] at AM0
  rw [hpn] at AM1
  have HL := hide hA
  have HOK := hide hok
  clear hA hok hwn hpn
  obtain ⟨WN, hWN⟩ : ∃ WN : Nat, WN = 1 + wn := ⟨_, rfl⟩
  obtain ⟨PN, hPN⟩ : ∃ PN : Nat, PN = 1 + pn := ⟨_, rfl⟩
  have hW0 : (1 : Int) + (wn : Int) = (WN : Int) := by omega
  have hP0 : (1 : Int) + (pn : Int) = (PN : Int) := by omega
  have NS := hide (fun W => newSender_ok 1 (WN : Int) (PN : Int) W (by unfold lepB lstB; simp; omega))
  have NR := hide (fun W => newReceiver_ok 1 (WN : Int) W (by unfold lepB lstB; simp; omega))
  have FR := hide (Fresh.start (W := WN) (P := PN) (by omega) (by omega) (by omega) (by omega))
  have RC0 : Hid (rc0 1 (WN : Int) = at_ 1 WN 0) := hide (by unfold rc0 at_; rw [Int.toNat_natCast])
  have hW1 : 1 ≤ WN ∧ WN ≤ 20 := by omega
  have hP1 : 1 ≤ PN ∧ PN ≤ 10 := by omega
  clear hWN hPN
  go_enter Try.func5, Try.ntmps5
  go_wp2_with fail
  refine (unhide WK).mono ?_
  rintro r w1 ⟨rfl, k1⟩
  have K1 := hide k1
  clear WK k1
  go_wp2_with fail
  refine (unhide AM0 _).mono ?_
  rintro r w1' ⟨rfl, rfl⟩
  go_wp2_with fail
  refine (unhide AM1 _).mono ?_
  rintro r w1' ⟨rfl, rfl⟩
  clear AM0 AM1
  go_wp2_with fail
  refine (unhide NS _).mono ?_
  rintro r w2 ⟨b, rfl, h2, k2⟩
  have HS : Hid (SdAt w.heap.size w2 b (sd0 1 (WN : Int) (PN : Int)) ∧ Ko lkO w.heap.size w w2) := hide (by
    have hz := (unhide K1).size
    obtain ⟨v, g1, g2, g3⟩ := h2
    exact ⟨⟨v, g1, by omega, fun k hk => by have := g3 k hk; omega⟩, (Ko.nil (unhide K1)).trans (Ko.nil k2)⟩)
  clear NS h2 k2 K1
  go_wp2_with fail
  refine (unhide NR _).mono ?_
  rintro r w3 ⟨c, rfl, h3, k3⟩
  have HS3 : Hid (SdAt w.heap.size w3 b (sd0 1 (WN : Int) (PN : Int)) ∧ RcAt w.heap.size w3 c (at_ 1 WN 0) ∧ Ko lkO w.heap.size w w3) := hide (by
    have hz := (unhide HS).2.size
    rw [unhide RC0] at h3
    obtain ⟨q, g1, g2, g3⟩ := h3
    exact ⟨(unhide HS).1.kp k3, ⟨q, g1, by omega, by omega⟩, (unhide HS).2.trans (Ko.nil k3)⟩)
  clear NR h3 k3 HS RC0
  go_wp2_with fail
  go_loopw [11, 12] (fun mv iv wr => ∃ (k : Nat) (s : Snd), k ≤ l.length ∧ k ≤ 100 ∧ mv = .int .i64 (k : Int) ∧ iv = .int .i64 (k : Int) ∧ Hid (Fresh s WN (PN : Int) k ∧ SdAt w.heap.size wr b s ∧ RcAt w.heap.size wr c (at_ 1 WN 0) ∧ Ko lkO w.heap.size w wr)) (fun _ iv _ => l.length - (intOf iv).toNat)
  case atStart => exact ⟨0, _, Nat.zero_le _, by decide, rfl, rfl, hide ⟨unhide FR, (unhide HS3).1, (unhide HS3).2.1, (unhide HS3).2.2⟩⟩
  case round =>
    clear HS3 FR
    obtain ⟨k, s, hkl, hk60, rfl, rfl, HR⟩ := hrel
    by_cases h1 : k < l.length ∧ k < 100
    · obtain ⟨h1, h2⟩ := h1
      have h1i : (k : Int) < (l.length : Int) := by omega
      have h2i : (k : Int) < 100 := by omega
      obtain ⟨lb, lo, rfl, hc⟩ := lstrs_cell (unhide HL) ((unhide HR).2.2.2.below (Nat.le_refl _)) k h1
      have hsz := unhide HOK l[k] (List.getElem_mem h1)
      by_cases h3 : 500 < (l[k]).size
      · have h3i : (500 : Int) < ((l[k]).size : Int) := by omega
        have HF := hide ((unhide HR).2.2.2.below (Nat.le_refl _))
        clear HR hsz h3
        generalize l[k] = y at *
        go_wp2
        go_ret
        exact ⟨rfl, unhide HF⟩
      · have h3i : ¬ (500 : Int) < ((l[k]).size : Int) := by omega
        obtain ⟨f1, f2⟩ := (unhide HR).1.push l[k] (by omega) (by omega)
        have PU := hide (lPush_any _ b s l[k] wr (unhide HR).2.1 (unhide HR).1.ok hsz)
        rw [f1] at PU
        have HF := hide f2
        have HK := hide (unhide HR).2.2
        clear HR f1 f2 h3
        generalize luS s l[k] = s2 at *
        generalize l[k] = y at *
        go_wp2_with fail
        refine (unhide PU).mono ?_
        rintro r w5 ⟨rfl, a1, a2⟩
        have HR2 := hide (And.intro (unhide HF) (And.intro a1 (And.intro ((unhide HK).1.ko a2 (Or.inr sdO_rc)) (ko_lk (unhide HK).2 a2 (Nat.le_refl _) sdO_lk))))
        clear a1 a2 PU HF HK hc
        go_wp2
        go_roundw
        case rel => exact ⟨k + 1, s2, by omega, by omega, by go_num, by go_num, HR2⟩
        case measure => simp [intOf]; omega
    · have HK := hide (unhide HR).2.2
      obtain ⟨d1, d2⟩ := (unhide HR).1.cm
      have DU := hide (lDue_any _ b s 0 wr (unhide HR).2.1 (unhide HR).1.ok)
      rw [d1] at DU
      have HC0 := hide d2
      clear HR d1 d2
      generalize ldS s 0 = s0 at *
      generalize ldO s 0 = L0 at *
      obtain ⟨R, hR⟩ : ∃ R, R = (k + WN - 1) / WN := ⟨_, rfl⟩
      have hWz : ((WN : Int) == 0) = false := beq_eq_false_iff_ne.2 (by omega)
      have hquo : ((k : Int) + (WN : Int) - 1).tdiv (WN : Int) = (R : Int) := by
        rw [hR, Int.tdiv_eq_ediv_of_nonneg (by omega), show (k : Int) + (WN : Int) - 1 = ((k + WN - 1 : Nat) : Int) by omega]
        exact Int.ofNat_ediv_ofNat
      have HCR : Hid (∀ j, j < R ↔ j * WN < k) := hide (fun j => by rw [hR]; exact ceil_round hW1.1)
      have hR100 : R ≤ 200 := by
        rw [hR]
        exact Nat.le_trans (Nat.div_le_self _ _) (by omega)
      clear hR
      have hout : ¬ (k : Int) < (l.length : Int) ∨ ¬ (k : Int) < 100 := by omega
      go_upto_region 10 with fail
      go_cut [63] (fun v wc => v = .bool false ∧ wc = wr)
      case first =>
        by_cases h5 : (k : Int) < (l.length : Int)
        · have h6 : ¬ (k : Int) < 100 := hout.resolve_left (fun h => h h5)
          clear hout
          go_wp2
          go_meet
          exact ⟨rfl, rfl⟩
        · clear hout
          go_wp2
          go_meet
          exact ⟨rfl, rfl⟩
      case rest =>
        obtain ⟨rfl, hw⟩ := hcut
        obtain rfl := hw.symm
        clear hout
        go_wp2_with fail
        refine (unhide DU).mono ?_
        rintro r w5 ⟨v, rfl, _, a1, a2⟩
        have HS5 := hide (And.intro a1 (And.intro ((unhide HK).1.ko a2 (Or.inr sdO_rc)) (ko_lk (unhide HK).2 a2 (Nat.le_refl _) sdO_lk)))
        clear a1 a2 DU HK
        go_wp2_with fail
        go_loopw [13, 14, 89] (fun nv tv jv wr2 => ∃ (j f : Nat) (s : Snd), j ≤ R ∧ nv = .int .i64 ((PN * j : Nat) : Int) ∧ tv = .int .i64 (f : Int) ∧ jv = .int .i64 (j : Int) ∧ f = min k (j * WN) ∧ Hid (Cm s WN PN k f j ∧ SdAt w.heap.size wr2 b s ∧ RcAt w.heap.size wr2 c (at_ 1 WN f) ∧ Ko lkO w.heap.size w wr2)) (fun _ _ jv _ => R - (intOf jv).toNat)
        case atStart => exact ⟨0, 0, s0, Nat.zero_le _, rfl, rfl, rfl, by simp, hide ⟨unhide HC0, (unhide HS5).1, (unhide HS5).2.1, (unhide HS5).2.2⟩⟩
        case round =>
          clear HS5 HC0
          obtain ⟨j, f, s, hjR, rfl, rfl, rfl, hf, HR⟩ := hrel
          have HFE := hide hf
          by_cases hj : j < R
          · have hji : (j : Int) < (R : Int) := by omega
            have hjk := (unhide HCR j).1 hj
            have hfk : f = j * WN := by omega
            have hpj : PN * j ≤ 10 * 200 := Nat.mul_le_mul hP1.2 (by omega)
            have hpm : PN * (j + 1) = PN * j + PN := by rw [Nat.mul_add, Nat.mul_one]
            obtain ⟨f1, f2, f3, f4⟩ := (unhide HR).1.due (by omega)
            have hmn : j * WN + WN = (j + 1) * WN := by rw [Nat.add_mul, Nat.one_mul]
            obtain ⟨cc, hcc⟩ : ∃ cc, cc = min WN (k - f) := ⟨_, rfl⟩
            have hc1 : 1 ≤ cc ∧ f + cc ≤ k := by omega
            have hfn : Hid (f + cc = min k ((j + 1) * WN)) := hide (by omega)
            rw [← hcc] at f2 f3
            rw [hpm] at f1 f2 f3 f4
            have hpn2 : ((PN * j : Nat) : Int) + (PN : Int) = ((PN * j + PN : Nat) : Int) := by omega
            have DU := hide (lDue_any _ b s ((PN * j + PN : Nat) : Int) wr (unhide HR).2.1 (unhide HR).1.ok)
            rw [f1] at DU
            have HF := hide (And.intro f3 f4)
            have HLN := hide f2
            have HK := hide (unhide HR).2.2
            have HPM := hide hpm
            have hT2b : PN * j + PN ≤ 4000 := by omega
            clear HR f1 f2 f3 f4 hpm hmn hcc hjk hfk hpj hf
            generalize ldS s ((PN * j + PN : Nat) : Int) = s2 at *
            generalize ldO s ((PN * j + PN : Nat) : Int) = L at *
            generalize hT2 : PN * j + PN = T2 at *
            have HT2 := hide hT2
            clear hT2
            generalize hT1 : PN * j = T1 at *
            have HT1 := hide hT1
            clear hT1
            go_wp2_with fail
            refine (unhide DU).mono ?_
            rintro r w6 ⟨v, rfl, tx, a1, a2⟩
            have HS6 := hide (And.intro a1 (And.intro ((unhide HK).1.ko a2 (Or.inr sdO_rc)) (And.intro (tx.lower (unhide HK).2.size) (ko_lk (unhide HK).2 a2 (Nat.le_refl _) sdO_lk))))
            obtain ⟨vad, vcp, rfl, _⟩ := tx.form
            clear a1 a2 DU HK tx
            go_wp2_with fail
            go_loopw [14, 17, 104] (fun tv av iv wr3 => ∃ (i : Nat) (ak : ByteArray), i ≤ cc ∧ tv = .int .i64 ((f + i : Nat) : Int) ∧ av = .string ak ∧ iv = .int .i64 (i : Int) ∧ (1 ≤ i → ak = ackB 1 ((f + i : Nat) : Int)) ∧ Hid (SdAt w.heap.size wr3 b s2 ∧ RcAt w.heap.size wr3 c (at_ 1 WN (f + i)) ∧ TxO w.heap.size wr3 (.slice vad L.length vcp) L ∧ Ko lkO w.heap.size w wr3)) (fun _ _ iv _ => cc - (intOf iv).toNat)
            case atStart => exact ⟨0, _, Nat.zero_le _, rfl, rfl, rfl, fun h => by omega, HS6⟩
            case round =>
              clear HS6
              obtain ⟨i, ak, hic, rfl, rfl, rfl, hak, HR⟩ := hrel
              have HAK := hide hak
              clear hak
              have hll := unhide HLN
              by_cases hi : i < cc
              · have hii : (i : Int) < (L.length : Int) := by omega
                obtain ⟨y, hy, hd⟩ := (unhide HF).1 i hi
                obtain ⟨g, cp, e, cg⟩ := row_get (unhide HR).2.2.1 hd
                have hfi : f + i ≤ 1073741824 := by omega
                obtain ⟨t1, t2, t3, t4⟩ := lt_next (ep := 1) (W := WN) (n := f + i) (b := y) (by decide) (by decide) hW1.1 hfi hy
                have TA := hide (lTake_any _ c (at_ 1 WN (f + i)) (dataB 1 ((f + i : Nat) : Int) y) wr (unhide HR).2.1 (at_ok (by decide) (by decide) hW1.1 (by omega) (by omega)) (by have := dataB_size (ep := 1) (n := ((f + i : Nat) : Int)) (b := y) (by decide) (by decide) (by omega) (by omega) (by omega); omega))
                rw [t1, t2, t3, t4] at TA
                injection e with e1 e2 e3
                subst e1 e3
                have HK := hide (And.intro (unhide HR).1 (And.intro (unhide HR).2.2.1 (unhide HR).2.2.2))
                have hnat : ((f + i : Nat) : Int) + 1 = ((f + i + 1 : Nat) : Int) := by omega
                clear t1 t2 t3 t4 HR hd hy hll HAK
                generalize dataB 1 ((f + i : Nat) : Int) y = d at *
                go_wp2_with fail
                refine (unhide TA).mono ?_
                rintro r w7 ⟨v7, rfl, tx, a1, a2⟩
                obtain ⟨vad7, vcp7, rfl, _⟩ := tx.form
                have HR2 : Hid (SdAt w.heap.size w7 b s2 ∧ RcAt w.heap.size w7 c (at_ 1 WN (f + (i + 1))) ∧ TxO w.heap.size w7 (.slice (some ⟨g, 0, none⟩) L.length vcp) L ∧ Ko lkO w.heap.size w w7) := hide ⟨(unhide HK).1.ko a2 (Or.inr rcO_sd), a1, (unhide HK).2.1.ko a2 (Or.inr rcO_lk), ko_lk (unhide HK).2.2 a2 (Nat.le_refl _) rcO_lk⟩
                clear a1 a2 TA HK tx
                go_wp2
                go_roundw
                case rel => exact ⟨i + 1, _, by omega, by go_num, rfl, by go_num, fun _ => rfl, HR2⟩
                case measure => simp [intOf]; omega
              · obtain rfl : i = cc := by omega
                have hii : ¬ (i : Int) < (L.length : Int) := by omega
                have hke := unhide HAK hc1.1
                have HF2 := hide (unhide HF).2
                subst hke
                obtain ⟨g1, g2⟩ := (unhide HF2).heard hc1.1 hc1.2 (by omega)
                have HE := hide (lHeard_any _ b s2 (ackB 1 ((f + i : Nat) : Int)) wr (unhide HR).1 (unhide HF2).ok (by have := ackB_size (ep := 1) (n := ((f + i : Nat) : Int)) (by decide) (by decide) (by omega) (by omega); omega))
                rw [g1] at HE
                have HG := hide g2
                have HK := hide (And.intro (unhide HR).2.1 (unhide HR).2.2.2)
                clear g1 g2 HR HF HF2 hll HAK
                generalize lhS s2 (ackB 1 ((f + i : Nat) : Int)) = s3 at *
                generalize ackB 1 ((f + i : Nat) : Int) = ak at *
                go_wp2_with fail
                refine (unhide HE).mono ?_
                rintro r w7 ⟨rfl, a1, a2⟩
                have HR2 := hide (And.intro (unhide HG) (And.intro a1 (And.intro ((unhide HK).1.ko a2 (Or.inr sdO_rc)) (ko_lk (unhide HK).2 a2 (Nat.le_refl _) sdO_lk))))
                have HT : Hid (T2 = PN * (j + 1)) := hide (unhide HPM).symm
                clear a1 a2 HE HG HK
                go_wp2
                go_roundw
                case rel => exact ⟨j + 1, f + i, s3, by omega, by rw [← unhide HT], rfl, by go_num, unhide hfn, HR2⟩
                case measure => simp [intOf]; omega
          · have hji : ¬ (j : Int) < (R : Int) := by omega
            have hjk := mt (unhide HCR j).2 hj
            have hfk : f = k := by omega
            subst hfk
            have HF := hide ((unhide HR).2.2.2.below (Nat.le_refl _))
            have LF := hide ((unhide HR).2.1.elim fun v h => lLeft_any b v s wr h.1)
            have hl0 : s.left.length = 0 := by have := (unhide HR).1.len; omega
            rw [hl0] at LF
            clear HR hf hl0 hjk
            go_wp2_with fail
            refine (unhide LF).mono ?_
            rintro r w7 ⟨rfl, rfl⟩
            clear LF
            go_wp2
            go_ret
            exact ⟨rfl, unhide HF⟩
end Go.Proofs.Ytjacedlfkimlhaa
namespace Go.Proofs.Ytjacedlfkimlhaa.linkComes
open Go.ChangeShapes Go.WideShapes Go.ChangeAt Go.RowKit

theorem laidOut : laidOutB Try.prog = true := by kernel_rfl
theorem own : ownKnob Try.prog.godebug = none := by kernel_rfl
set_option maxRecDepth 100000 in
/-- What the walk gives, for every argument and every world. -/
theorem contract (H : Type) (enc : TypeId × Value → H) (W : World) (base : Nat) (args : Array Value) (ds gs : List (DataW H)) (before : List MemPlace)
    (hval : ∀ (j : Nat) t v, Try.f5.params[j]? = some t → args[j]? = some v → Value.okWide Try.prog W .any base t v)
    (hW : DataW.Whole enc Try.prog Try.f5.params.toList Rows.linkComesSpec.vars false W args.toList ds gs before) :
    Calls Try.prog 5 args W fun e W' => ∃ v, e = .returned v ∧ Rows.linkComesSpec.post enc Try.prog Try.f5 false true false false W args v W' := by
  have hW' := hW
  obtain ⟨p, q, hA0, hV, rfl, hfz, hnd⟩ := hW
  have hA : DataW.TrodAll enc Try.prog W 0 (fun _ => true) true Try.f5.params.toList args.toList ds p := hA0
  rw [Try.params5] at hA hval
  obtain ⟨v0, vs0, d0, ds0, p0, q0, hargs, rfl, rfl, h0, r0⟩ := trodAll_cons hA
  obtain ⟨v1, vs1, d1, ds1, p1, q1, rfl, rfl, rfl, h1, r1⟩ := trodAll_cons r0
  obtain ⟨v2, vs2, d2, ds2, p2, q2, rfl, rfl, rfl, h2, r2⟩ := trodAll_cons r1
  obtain ⟨rfl, rfl, rfl⟩ := trodAll_nil r2
  obtain rfl : args = #[v0, v1, v2] := by cases args; simp_all
  obtain ⟨rfl, rfl⟩ := trodVars_none hV
  obtain ⟨x0, rfl, rfl, rfl, wx0⟩ := open_int Try.underlying3 (hval 0 3 v0 rfl rfl) h0
  obtain ⟨x1, rfl, rfl, rfl, wx1⟩ := open_int Try.underlying3 (hval 1 3 v1 rfl rfl) h1
  have h2k := h2
  obtain ⟨ad2, len2, cap2, rfl⟩ := okWide_slice Try.underlying39 (hval 2 39 v2 rfl rfl)
  obtain ⟨fuel2, hf2⟩ := h2
  obtain ⟨ad2', cap2', l2, he2, hl2, hA12, hok2⟩ := open_strs (by simpa [Value.cells] using hf2)
  simp only [Value.slice.injEq] at he2
  obtain ⟨rfl, rfl, rfl⟩ := he2
  clear hA0 hf2
  simp only [List.append_nil] at hW'
  have hlt2 : ∀ x ∈ p2, x.block < W.heap.size := fun x hx => by simpa using hW'.lt x (by simp [hx])
  refine (lcomes_walk x0 x1 ad2 cap2 l2 W hl2 hA12 hok2).mono fun e W' ⟨he, hg⟩ => ?_
  subst he
  exact ⟨_, rfl, _, _, _, [], [] ++ ([] ++ (p2 ++ [])), [], hW', trodAll_cons_mk (shut_bool Try.underlying4 _) trodAll_mk0, trodAll_cons_mk (shut_int Try.underlying3 wx0) (trodAll_cons_mk (shut_int Try.underlying3 wx1) (trodAll_cons_mk (Below.trod laidOut (by kernel_rfl) (of_decide_eq_true (by kernel_rfl)) h2k hg hlt2) trodAll_mk0)), rfl, hg.frame _, fun h => by cases h⟩

theorem reads (os : Os) {H : Type} (enc : TypeId × Value → H) : ∃ places, DataW.whole enc Try.prog ((World.holding Try.prog os ⟨#[], #[], []⟩).forCall (fun _ _ => 0) ⟨#[], #[.int .i64 0, .int .i64 0, .slice none 0 0], []⟩).memory Try.f5.params.toList Rows.linkComesSpec.vars false #[Value.int .i64 0, Value.int .i64 0, Value.slice none 0 0].toList 8 = some ([.lit (.int .i64 0), .lit (.int .i64 0), .nil], [], places) :=
  ⟨[], by kernel_rfl⟩
set_option maxRecDepth 100000 in
theorem lifted (os : Os) (started : os.Started) (H : Type) (enc : TypeId × Value → H) (F : Stop.Interp) :
    ReturnsInHanded {} Try.checked os 5 .any ((OpenSpec.ofChange Rows.linkComesSpec).preRow enc Try.prog Try.f5 Rows.linkComesRow.domain false Rows.linkComesRow.laid) (((OpenSpec.ofChange Rows.linkComesSpec).at F).post enc Try.prog Try.f5 false true false false) := by
  obtain ⟨places, hx⟩ := reads os enc
  refine returnsInHanded_of_row (C := Try.checked) (s := OpenSpec.ofChange Rows.linkComesSpec) own started (by kernel_rfl) Try.func5
    (witness_row_at (enc := enc) (C := Try.checked) false (World.holding Try.prog os ⟨#[], #[], []⟩) #[.int .i64 0, .int .i64 0, .slice none 0 0] rfl (by kernel_rfl) (by kernel_rfl) (by kernel_rfl)
      (OpenSpec.preRow_of_cond 8 hx (by kernel_rfl) (fun k hk => by cases hk) (by kernel_rfl) (laidMet_of_run' 8 (by kernel_rfl) (by kernel_rfl)))) ?_
  intro W base args ds gs before hval hW _ _ _ _ _ _
  exact contract H enc W base args ds gs before hval hW
end Go.Proofs.Ytjacedlfkimlhaa.linkComes
namespace Go.Proofs.Ytjacedlfkimlhaa
/-- For all numbers and all texts LinkComes returns true. -/
theorem linkComes_said : Rows.LinkComesSaid :=
  OpenClaim.holds_of_cond 5 Try.f5 rfl rfl rfl rfl rfl rfl rfl ⟨rfl, rfl, rfl, rfl, rfl⟩ rfl rfl rfl rfl rfl (by kernel_rfl) Try.func5 (by kernel_rfl)
    (of_decide_eq_true (by kernel_rfl)) (by unfold Func.isWrapper; first | (rw [if_pos (by decide +kernel)]; kernel_rfl) | (rw [if_neg (by decide +kernel)]; exact ⟨rfl, rfl⟩))
    (fun os started H enc _ F => by rw [OpenClaim.pre_eq_preRow]; exact linkComes.lifted os started H enc F)
end Go.Proofs.Ytjacedlfkimlhaa
