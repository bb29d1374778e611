/-
  GateFair: its walk.
  A slice of numbers that comes in as an argument: its numbers lie where it says.
  GateFair is proved: for all numbers and all rows of numbers the law GateFair returns true (a channel that has texts, and is not blocked, has one of them told within as many pulls as there are channels), and its arguments read behind the call as before. No condition.
-/
import Derived.Test.YtcgmoadahdkbbaaGf08
import Derived.Test.YtcgmoadahdkbbaaGf09
import Derived.Test.YtcgmoadahdkbbaaGf10
import Derived.ProofKit
import Derived.OpenShut
import Derived.Deep.Slices
import Derived.Test.YtcgmoadahdkbbaaRows
import Derived.Deep.DeepHandedRow
import Derived.Lib.LaidTab
namespace Go.Proofs.Ytcgmoadahdkbbaa
open Go.RowKit Gt Cr

theorem int_cell {w W : World} {ad : Option Addr} {l : List Int} (h : IntsAt w ad l) (hb : Kp [] w W) (i : Nat) (hi : i < l.length) : ∃ b o, ad = some ⟨b, o, none⟩ ∧ W.cell? ⟨b, o + i, none⟩ = some (.int .i64 l[i]) := by
  obtain ⟨b, o, e, _, hc⟩ := h (by intro e; rw [e] at hi; cases hi)
  exact ⟨b, o, e, hb.cell (hc i hi) (by simp)⟩
set_option maxHeartbeats 16000000 in
set_option maxRecDepth 100000 in
theorem gfair_walk (x : Int) (ad : Option Addr) (cap : Nat) (l : List Int) (y : Int) (w : World) (_hl : l.length ≤ 9223372036854775807) (hA : IntsAt w ad l) (_hok : ∀ z ∈ l, -9223372036854775808 ≤ z ∧ z ≤ 9223372036854775807) : Calls Try.prog 5 #[.int .i64 x, .slice ad l.length cap, .int .i64 y] w fun e w' => e = .returned (.bool true) ∧ Below w.heap.size w w' := by
  have WK := hide (gWorks_any w)
  obtain ⟨q, hq⟩ : ∃ q : Nat, x % 9 = (q : Int) := ⟨(x % 9).toNat, by omega⟩
  have hq6 : q < 9 := by omega
  have A1 := hide (fun W => gAmong_any x 9 W (by decide) (by decide))
  rw [hq] at A1
  have hw1 : IntKind.i64.wrap (1 + (q : Int)) = ((q + 1 : Nat) : Int) := by simp [IntKind.wrap, IntKind.signed, go_sem]; omega
  obtain ⟨n, hn⟩ : ∃ n, n = q + 1 := ⟨_, rfl⟩
  rw [← hn] at hw1
  have hn0 : 0 < n := by omega
  have hn9 : n ≤ 9 := by omega
  clear hq hn
  obtain ⟨c, hc⟩ : ∃ c : Nat, y % (n : Int) = (c : Int) := ⟨(y % (n : Int)).toNat, by have := Int.emod_nonneg y (show (n : Int) ≠ 0 by omega); omega⟩
  have hcn : c < n := by have := Int.emod_lt_of_pos y (show (0 : Int) < n by omega); omega
  have A2 := hide (fun W => gAmong_any y (n : Int) W (by omega) (by omega))
  rw [hc] at A2
  have A3 := hide (fun z W => gAmong_any z 40 W (by decide) (by decide))
  clear hc
  have NG := hide (fun W => newGate_ok n 100 7 W (by omega) (by omega) (by decide) (by decide) (by decide) (by decide))
  go_enter Try.func5, Try.ntmps5
  go_wp2_with fail
  refine (unhide WK).mono ?_
  rintro r w1 ⟨rfl, k1⟩
  have K1 := hide k1
  clear k1 WK
  go_wp2_with fail
  refine (unhide A1 _).mono ?_
  rintro r w2 ⟨rfl, rfl⟩
  clear A1
  go_wp2_with fail
  refine (unhide A2 _).mono ?_
  rintro r w3 ⟨rfl, rfl⟩
  clear A2
  go_wp2_with fail
  refine (unhide NG _).mono ?_
  rintro r w5 ⟨b, rfl, h1, h2⟩
  have HA : Hid (∃ G, Wk w3 w5 b w3.heap.size G ∧ Fi n c 0 G) := hide ⟨_, ⟨h1, h2⟩, fi_zero n c⟩
  clear h1 h2 NG hw1 hq6
  generalize hLL : w3.heap.size = L at HA
  clear hLL
  have IC := hide (fun W (k : Kp [] w W) i hi => int_cell hA k i hi)
  clear hA
  go_wp2
  go_loopw [39] (fun i wr => ∃ k : Nat, k ≤ n ∧ i = .int .i64 (k : Int) ∧ Hid (∃ G, Wk w3 wr b L G ∧ Fi n c k G)) (fun i _ => n - (intOf i).toNat)
  case atStart => exact ⟨0, Nat.zero_le _, rfl, HA⟩
  case round =>
    obtain ⟨k, hk, rfl, HR⟩ := hrel
    clear HA
    by_cases hlt : k < n
    · have hli : (k : Int) < (n : Int) := by omega
      obtain ⟨G, hG, hF⟩ := unhide HR
      clear HR
      obtain ⟨g1, g2, g3⟩ := fi_give hF hlt
      have KW := hide hG.kp
      have GV := hide (hG.give (k : Int) 100 g1 g2)
      rw [g3] at GV
      have TX := hide (fun i (hi : i < 40) W (h : Wk w3 W b L (G.upd k (chF (100 - i) i))) => h.text (k : Int) ⟨#[120]⟩ (by decide) (fi_text (by rw [hF.nn]; exact hlt) (by omega : i < 100)).1)
      have TX : Hid (∀ i, i < 40 → ∀ W, Wk w3 W b L (G.upd k (chF (100 - i) i)) → Calls Try.prog 17 #[.pointer (some ⟨b, 0, none⟩), .int .i64 (k : Int), .string ⟨#[120]⟩] W fun e W' => e = .returned (.int .i64 0) ∧ Wk w3 W' b L (G.upd k (chF (100 - (i + 1)) (i + 1)))) := hide (fun i hi W h => (unhide TX i hi W h).mono fun _ _ ⟨a1, a2, _⟩ => ⟨a1, by
        have e := (fi_text (g := G) (k := k) (i := i) (by rw [hF.nn]; exact hlt) (by omega)).2
        have a3 : Wk w3 _ b L ((G.upd k (chF (100 - i) i)).txS (k : Int) tX) := a2
        rw [e] at a3
        exact a3⟩)
      have NX := hide (fun i h1 h2 => fi_next (i := i) hF h1 h2)
      clear g1 g2 g3 hG hF
      by_cases hkl : k < l.length
      · obtain ⟨ib, io, rfl, icell⟩ := unhide IC wr ((unhide K1).trans (unhide KW) (by simp)) k hkl
        generalize l[k]'hkl = lk at *
        have hkli : (k : Int) < (l.length : Int) := by omega
        obtain ⟨v, hv⟩ : ∃ v : Nat, lk % 40 = (v : Int) := ⟨(lk % 40).toNat, by omega⟩
        have hv40 : v < 40 := by omega
        have AM := hide (unhide A3 lk wr)
        rw [hv] at AM
        have hw2 : IntKind.i64.wrap (1 + (v : Int)) = ((v + 1 : Nat) : Int) := by simp [IntKind.wrap, IntKind.signed, go_sem]; omega
        clear hv
        obtain ⟨N, hN⟩ : ∃ N, N = v + 1 := ⟨_, rfl⟩
        rw [← hN] at hw2
        have hN40 : N ≤ 40 := by omega
        have hN1 : 0 < N := by omega
        clear hN hv40
        by_cases he : k = c
        · subst he
          have hNc : k = k → 0 < N := fun _ => hN1
          go_wp2_with fail
          refine (unhide AM).mono ?_
          rintro r w5b ⟨rfl, rfl⟩
          clear AM icell
          go_wp2_with fail
          refine (unhide GV).mono ?_
          rintro r w6 ⟨rfl, h1, _⟩
          have H1 := hide h1
          clear h1 GV
          go_wp2
          go_loopw [64] (fun i wr => ∃ j : Nat, j ≤ N ∧ i = .int .i64 (j : Int) ∧ Hid (Wk w3 wr b L (G.upd k (chF (100 - j) j)))) (fun i _ => N - (intOf i).toNat)
          case atStart => exact ⟨0, Nat.zero_le _, rfl, H1⟩
          case round =>
            obtain ⟨j, hj, rfl, HQ⟩ := hrel
            clear H1
            by_cases hlt2 : j < N
            · have hli2 : (j : Int) < (N : Int) := by omega
              have TX2 := hide (unhide TX j (by omega) _ (unhide HQ))
              clear HQ TX
              go_wp2_with fail
              refine (unhide TX2).mono ?_
              rintro r w7 ⟨rfl, h1⟩
              have HN := hide h1
              clear h1 TX2
              go_wp2
              go_roundw
              case rel => exact ⟨j + 1, by omega, by go_num, HN⟩
              case measure => simp [intOf]; omega
            · obtain rfl : j = N := by omega
              have HN : Hid (∃ G, Wk w3 wr b L G ∧ Fi n k (k + 1) G) := hide ⟨_, unhide HQ, unhide NX _ hN40 hNc⟩
              clear HQ TX NX
              go_wp2
              go_roundw
              case rel => exact ⟨k + 1, by omega, by go_num, HN⟩
              case measure => simp [intOf]; omega
        · have hei : ((k : Int) == (c : Int)) = false := beq_eq_false_iff_ne.2 (by omega)
          have hNc : k = c → 0 < N := fun e => absurd e he
          obtain ⟨m5, hm5⟩ : ∃ m5 : Nat, m5 = N % 5 := ⟨_, rfl⟩
          have htm : (N : Int).tmod 5 = (m5 : Int) := by rw [hm5]; exact tmod_nat N 5
          by_cases h5 : m5 = 0
          · subst h5
            go_wp2_with fail
            refine (unhide AM).mono ?_
            rintro r w5b ⟨rfl, rfl⟩
            clear AM icell hm5 hNc hN40 hN1
            obtain ⟨N, hN⟩ : ∃ N : Nat, N = 0 := ⟨_, rfl⟩
            have hN40 : N ≤ 40 := by omega
            have hNc : k = c → 0 < N := fun e => absurd e he
            go_wp2_with fail
            refine (unhide GV).mono ?_
            rintro r w6 ⟨rfl, h1, _⟩
            have H1 := hide h1
            clear h1 GV
            go_wp2
            go_loopw [64] (fun i wr => ∃ j : Nat, j ≤ N ∧ i = .int .i64 (j : Int) ∧ Hid (Wk w3 wr b L (G.upd k (chF (100 - j) j)))) (fun i _ => N - (intOf i).toNat)
            case atStart => exact ⟨0, Nat.zero_le _, rfl, H1⟩
            case round =>
              obtain ⟨j, hj, rfl, HQ⟩ := hrel
              clear H1
              by_cases hlt2 : j < N
              · exact absurd hlt2 (by omega)
              · obtain rfl : j = N := by omega
                subst hN
                have HN : Hid (∃ G, Wk w3 wr b L G ∧ Fi n c (k + 1) G) := hide ⟨_, unhide HQ, unhide NX _ hN40 hNc⟩
                clear HQ TX NX
                go_wp2
                go_roundw
                case rel => exact ⟨k + 1, by omega, by go_num, HN⟩
                case measure => simp [intOf]; omega
          · have h5i : ((m5 : Int) == 0) = false := beq_eq_false_iff_ne.2 (by omega)
            go_wp2_with fail
            refine (unhide AM).mono ?_
            rintro r w5b ⟨rfl, rfl⟩
            clear AM icell hm5
            go_wp2_with fail
            refine (unhide GV).mono ?_
            rintro r w6 ⟨rfl, h1, _⟩
            have H1 := hide h1
            clear h1 GV
            go_wp2
            go_loopw [64] (fun i wr => ∃ j : Nat, j ≤ N ∧ i = .int .i64 (j : Int) ∧ Hid (Wk w3 wr b L (G.upd k (chF (100 - j) j)))) (fun i _ => N - (intOf i).toNat)
            case atStart => exact ⟨0, Nat.zero_le _, rfl, H1⟩
            case round =>
              obtain ⟨j, hj, rfl, HQ⟩ := hrel
              clear H1
              by_cases hlt2 : j < N
              · have hli2 : (j : Int) < (N : Int) := by omega
                have TX2 := hide (unhide TX j (by omega) _ (unhide HQ))
                clear HQ TX
                go_wp2_with fail
                refine (unhide TX2).mono ?_
                rintro r w7 ⟨rfl, h1⟩
                have HN := hide h1
                clear h1 TX2
                go_wp2
                go_roundw
                case rel => exact ⟨j + 1, by omega, by go_num, HN⟩
                case measure => simp [intOf]; omega
              · obtain rfl : j = N := by omega
                have HN : Hid (∃ G, Wk w3 wr b L G ∧ Fi n c (k + 1) G) := hide ⟨_, unhide HQ, unhide NX _ hN40 hNc⟩
                clear HQ TX NX
                go_wp2
                go_roundw
                case rel => exact ⟨k + 1, by omega, by go_num, HN⟩
                case measure => simp [intOf]; omega
      · have hkli : ¬ (k : Int) < (l.length : Int) := by omega
        obtain ⟨N, hN⟩ : ∃ N : Nat, N = 1 := ⟨_, rfl⟩
        have hN40 : N ≤ 40 := by omega
        have hNc : k = c → 0 < N := fun _ => by omega
        by_cases he : k = c
        · subst he
          go_wp2_with fail
          refine (unhide GV).mono ?_
          rintro r w6 ⟨rfl, h1, _⟩
          have H1 := hide h1
          clear h1 GV
          go_wp2
          go_loopw [64] (fun i wr => ∃ j : Nat, j ≤ N ∧ i = .int .i64 (j : Int) ∧ Hid (Wk w3 wr b L (G.upd k (chF (100 - j) j)))) (fun i _ => N - (intOf i).toNat)
          case atStart => exact ⟨0, Nat.zero_le _, rfl, H1⟩
          case round =>
            obtain ⟨j, hj, rfl, HQ⟩ := hrel
            clear H1
            by_cases hlt2 : j < N
            · have hli2 : (j : Int) < 1 := by omega
              have TX2 := hide (unhide TX j (by omega) _ (unhide HQ))
              clear HQ TX
              go_wp2_with fail
              refine (unhide TX2).mono ?_
              rintro r w7 ⟨rfl, h1⟩
              have HN := hide h1
              clear h1 TX2
              go_wp2
              go_roundw
              case rel => exact ⟨j + 1, by omega, by go_num, HN⟩
              case measure => simp [intOf]; omega
            · obtain rfl : j = N := by omega
              subst hN
              have HN : Hid (∃ G, Wk w3 wr b L G ∧ Fi n k (k + 1) G) := hide ⟨_, unhide HQ, unhide NX _ hN40 hNc⟩
              clear HQ TX NX
              go_wp2
              go_roundw
              case rel => exact ⟨k + 1, by omega, by go_num, HN⟩
              case measure => simp [intOf]; omega
        · have hei : ((k : Int) == (c : Int)) = false := beq_eq_false_iff_ne.2 (by omega)
          go_wp2_with fail
          refine (unhide GV).mono ?_
          rintro r w6 ⟨rfl, h1, _⟩
          have H1 := hide h1
          clear h1 GV
          go_wp2
          go_loopw [64] (fun i wr => ∃ j : Nat, j ≤ N ∧ i = .int .i64 (j : Int) ∧ Hid (Wk w3 wr b L (G.upd k (chF (100 - j) j)))) (fun i _ => N - (intOf i).toNat)
          case atStart => exact ⟨0, Nat.zero_le _, rfl, H1⟩
          case round =>
            obtain ⟨j, hj, rfl, HQ⟩ := hrel
            clear H1
            by_cases hlt2 : j < N
            · have hli2 : (j : Int) < 1 := by omega
              have TX2 := hide (unhide TX j (by omega) _ (unhide HQ))
              clear HQ TX
              go_wp2_with fail
              refine (unhide TX2).mono ?_
              rintro r w7 ⟨rfl, h1⟩
              have HN := hide h1
              clear h1 TX2
              go_wp2
              go_roundw
              case rel => exact ⟨j + 1, by omega, by go_num, HN⟩
              case measure => simp [intOf]; omega
            · obtain rfl : j = N := by omega
              subst hN
              have HN : Hid (∃ G, Wk w3 wr b L G ∧ Fi n c (k + 1) G) := hide ⟨_, unhide HQ, unhide NX _ hN40 hNc⟩
              clear HQ TX NX
              go_wp2
              go_roundw
              case rel => exact ⟨k + 1, by omega, by go_num, HN⟩
              case measure => simp [intOf]; omega
    · obtain rfl : k = n := by omega
      obtain ⟨G, hG, hF⟩ := unhide HR
      have HR : Hid (∃ G r, Wk w3 wr b L G ∧ Fs k c r G ∧ r + 0 ≤ 40) := hide ⟨G, _, hG, fs_start hF hn0, (hF.q c hcn).2⟩
      clear hG hF
      go_wp2
      go_loopw [72] (fun i wr => ∃ o : Nat, o ≤ 40 ∧ i = .int .i64 (o : Int) ∧ Hid (∃ G r, Wk w3 wr b L G ∧ Fs k c r G ∧ r + o ≤ 40)) (fun i _ => 60 - (intOf i).toNat)
      case atStart => exact ⟨0, Nat.zero_le _, rfl, HR⟩
      case round =>
        obtain ⟨o, ho, rfl, HQ⟩ := hrel
        clear HR
        obtain ⟨G, r, hG, hF, hro⟩ := unhide HQ
        clear HQ
        have hli : (o : Int) < 60 := by omega
        obtain ⟨l1, l2⟩ := fs_len hF hcn
        have LE := hide (gLen_any _ b L G (c : Int) wr hG.gt)
        rw [l1, l2] at LE
        clear l1 l2
        cases r with
        | zero =>
          have HN := hide (kp_below ((unhide K1).trans hG.kp (by simp)))
          clear hG hF
          go_wp2_with fail
          refine (unhide LE).mono ?_
          rintro e w8 ⟨rfl, rfl⟩
          go_wp2
          go_ret
          exact ⟨rfl, unhide HN⟩
        | succ r =>
          obtain ⟨d, hd1, hd2⟩ := fd_any hF hcn
          have H0 : Hid (∃ G d, Wk w3 wr b L G ∧ Fs k c (r + 1) G ∧ Fd G c d ∧ d + 0 < k) := hide ⟨G, d, hG, hF, hd2, hd1⟩
          clear hd1 hd2 hG hF
          have hr1 : (((r + 1 : Nat) : Int) == 0) = false := beq_eq_false_iff_ne.2 (by omega)
          generalize hrr : ((r + 1 : Nat) : Int) = rr at LE hr1
          clear hrr
          go_wp2_with fail
          refine (unhide LE).mono ?_
          rintro e w8 ⟨rfl, rfl⟩
          clear LE
          go_wp2
          go_loopw [13, 14] (fun s i wr => ∃ (i' : Nat) (s' : Bool), i' ≤ k ∧ i = .int .i64 (i' : Int) ∧ s = .bool s' ∧ Hid ((s' = false ∧ ∃ G d, Wk w3 wr b L G ∧ Fs k c (r + 1) G ∧ Fd G c d ∧ d + i' < k) ∨ (s' = true ∧ ∃ G, Wk w3 wr b L G ∧ Fs k c r G))) (fun _ i _ => k - (intOf i).toNat)
          case atStart => exact ⟨0, false, Nat.zero_le _, rfl, rfl, hide (Or.inl ⟨rfl, unhide H0⟩)⟩
          case round =>
            obtain ⟨i, s, hi, rfl, rfl, HP⟩ := hrel
            clear H0
            rcases unhide HP with ⟨rfl, G, d, hG, hF, hd, hdi⟩ | ⟨rfl, G, hG, hF⟩
            · have hik : (i : Int) < (k : Int) := by omega
              obtain ⟨p4, hor⟩ := fs_pull hF hcn hd
              have PL := hide (hG.pull (c := G.plC) (t := G.plT) (m := G.plB) rfl rfl rfl p4)
              clear HP hG hF hd
              rcases hor with ⟨hp, hF2⟩ | ⟨hp, hF2, d', hd', hFd'⟩
              · rw [hp] at PL
                have H2 := hide hF2
                clear hp hF2 p4
                generalize G.plT = pt at *
                generalize G.plB = pb at *
                generalize G.plS = G2 at *
                go_wp2_with fail
                refine (unhide PL).mono ?_
                rintro e w9 ⟨rfl, h1, _⟩
                have HN : Hid (∃ G, Wk w3 w9 b L G ∧ Fs k c r G) := hide ⟨G2, h1, unhide H2⟩
                clear h1 PL H2
                go_wp2
                go_roundw
                case rel => exact ⟨i + 1, true, by omega, by go_num, by trivial, hide (Or.inr ⟨rfl, unhide HN⟩)⟩
                case measure => simp [intOf]; omega
              · have hpb : (G.plC == (c : Int)) = false := beq_eq_false_iff_ne.2 hp
                have H2 : Hid (Fs k c (r + 1) G.plS ∧ Fd G.plS c d' ∧ d' + (i + 1) < k) := hide ⟨hF2, hFd', by omega⟩
                clear hp hF2 p4 hFd'
                generalize G.plC = pc at *
                generalize G.plT = pt at *
                generalize G.plB = pb at *
                generalize G.plS = G2 at *
                go_wp2_with fail
                refine (unhide PL).mono ?_
                rintro e w9 ⟨rfl, h1, _⟩
                have HN : Hid (∃ G d, Wk w3 w9 b L G ∧ Fs k c (r + 1) G ∧ Fd G c d ∧ d + (i + 1) < k) := hide ⟨G2, d', h1, unhide H2⟩
                clear h1 PL H2
                go_wp2
                go_roundw
                case rel => exact ⟨i + 1, false, by omega, by go_num, by trivial, hide (Or.inl ⟨rfl, unhide HN⟩)⟩
                case measure => simp [intOf]; omega
            · have HN : Hid (∃ G r, Wk w3 wr b L G ∧ Fs k c r G ∧ r + (o + 1) ≤ 40) := hide ⟨G, r, hG, hF, by omega⟩
              clear HP hG hF
              by_cases hik : i < k
              · have hiki : (i : Int) < (k : Int) := by omega
                go_wp2
                go_roundw
                case rel => exact ⟨o + 1, by omega, by go_num, HN⟩
                case measure => simp [intOf]; omega
              · obtain rfl : i = k := by omega
                go_wp2
                go_roundw
                case rel => exact ⟨o + 1, by omega, by go_num, HN⟩
                case measure => simp [intOf]; omega
end Go.Proofs.Ytcgmoadahdkbbaa
namespace Go.Proofs.Ytcgmoadahdkbbaa
open Go.RowKit Go.Deep

theorem cells_int : Try.prog.cellsOf 3 = 1 := by kernel_rfl
section
variable {H : Type} {enc : TypeId × Value → H} {W : World} {spare : Nat → Bool} {held : Bool} {fuel : Nat} {v : Value} {x : DataW H × List MemPlace}
theorem open_ints (h : DataW.trod enc Try.prog W 0 spare held fuel 42 [v] = some x) :
    ∃ (ad : Option Addr) (cap : Nat) (l : List Int), v = .slice ad l.length cap ∧ l.length ≤ 9223372036854775807 ∧ IntsAt W ad l ∧ (∀ y ∈ l, -9223372036854775808 ≤ y ∧ y ≤ 9223372036854775807) ∧ (ad = none → cap = 0) := by
  rcases open_slice1 Try.underlying42 cells_int h with ⟨hcs, _⟩ | ⟨a, len, cap, m, n, V, D, Pl, hcs, hb, hl, hm, hmm, _, hx⟩
  · simp only [List.cons.injEq, and_true] at hcs
    subst hcs
    exact ⟨none, 0, [], rfl, by simp, fun hne => absurd rfl hne, by simp, fun _ => rfl⟩
  · simp only [List.cons.injEq, and_true] at hcs
    subst hcs
    have hlm : len ≤ m := by rw [hmm]; split <;> omega
    have each : ∀ i, i < len → ∃ y : Int, W.cell? (a.add i) = some (.int .i64 y) ∧ -9223372036854775808 ≤ y ∧ y ≤ 9223372036854775807 := by
      intro i hi
      obtain ⟨h1, h2⟩ := hx i (by omega)
      obtain ⟨k1, q1, _, wf⟩ := DataW.trod_int Try.underlying3 h2
      simp only [List.cons.injEq, and_true] at q1
      rw [q1] at h1
      have := bounds_i64 wf
      exact ⟨k1, h1, this.1, by omega⟩
    have hinh : Inhabited Int := ⟨0⟩
    obtain ⟨q, hq⟩ := choose_lt each
    refine ⟨some a, cap, (List.range len).map q, by simp, by simp; unfold maxLen at hm; omega, fun hne => ?_, fun y hy => ?_, fun e => by cases e⟩
    · have h0 : 0 < len := by
        rcases Nat.eq_zero_or_pos len with e | e
        · subst e; simp at hne
        · exact e
      obtain ⟨b, off, spot⟩ := a
      have hc0 := (hq 0 h0).1
      have hspot : spot = none := by simpa [Addr.add] using World.cell?_spot hc0
      subst hspot
      refine ⟨b, off, rfl, ?_, fun i hi => ?_⟩
      · rcases Nat.lt_or_ge b W.heap.size with hlt | hge
        · exact hlt
        · exfalso
          rw [Go.WideShapes.add_plain] at hc0
          simp [World.cell?, Array.getElem?_eq_none hge] at hc0
      · have hi' : i < len := by simpa using hi
        obtain ⟨c0, _⟩ := hq i hi'
        rw [Go.WideShapes.add_plain] at c0
        simp only [List.getElem_map, List.getElem_range]
        exact c0
    · obtain ⟨i, hi, rfl⟩ := List.mem_map.1 hy
      exact (hq i (List.mem_range.1 hi)).2
theorem open_intsB (h : DataW.trod enc Try.prog W 0 spare held fuel 42 [v] = some x) :
    ∃ (ad : Option Addr) (cap : Nat) (l : List Int), v = .slice ad l.length cap ∧ l.length ≤ 9223372036854775807 ∧ IntsAt W ad l ∧ ∀ y ∈ l, -9223372036854775808 ≤ y ∧ y ≤ 9223372036854775807 :=
  let ⟨ad, cap, l, h1, h2, h3, h4, _⟩ := open_ints h
  ⟨ad, cap, l, h1, h2, h3, h4⟩
end
end Go.Proofs.Ytcgmoadahdkbbaa
namespace Go.Proofs.Ytcgmoadahdkbbaa.gateFair
open Go.ChangeShapes Go.WideShapes Go.ChangeAt Go.RowKit

theorem laidOut : laidOutB Try.prog = true := by kernel_rfl
theorem own : ownKnob Try.prog.godebug = none := by kernel_rfl
set_option maxRecDepth 100000 in
/-- What the walk gives, for every argument and every world. -/
theorem contract (H : Type) (enc : TypeId × Value → H) (W : World) (base : Nat) (args : Array Value) (ds gs : List (DataW H)) (before : List MemPlace)
    (hval : ∀ (j : Nat) t v, Try.f5.params[j]? = some t → args[j]? = some v → Value.okWide Try.prog W .any base t v)
    (hW : DataW.Whole enc Try.prog Try.f5.params.toList Rows.gateFairSpec.vars false W args.toList ds gs before) :
    Calls Try.prog 5 args W fun e W' => ∃ v, e = .returned v ∧ Rows.gateFairSpec.post enc Try.prog Try.f5 false true false false W args v W' := by
  have hW' := hW
  obtain ⟨p, q, hA0, hV, rfl, hfz, hnd⟩ := hW
  have hA : DataW.TrodAll enc Try.prog W 0 (fun _ => true) true Try.f5.params.toList args.toList ds p := hA0
  rw [Try.params5] at hA hval
  obtain ⟨v0, vs0, d0, ds0, p0, q0, hargs, rfl, rfl, h0, r0⟩ := trodAll_cons hA
  obtain ⟨v1, vs1, d1, ds1, p1, q1, rfl, rfl, rfl, h1, r1⟩ := trodAll_cons r0
  obtain ⟨v2, vs2, d2, ds2, p2, q2, rfl, rfl, rfl, h2, r2⟩ := trodAll_cons r1
  obtain ⟨rfl, rfl, rfl⟩ := trodAll_nil r2
  obtain rfl : args = #[v0, v1, v2] := by cases args; simp_all
  obtain ⟨rfl, rfl⟩ := trodVars_none hV
  obtain ⟨x0, rfl, rfl, rfl, wx0⟩ := open_int Try.underlying3 (hval 0 3 v0 rfl rfl) h0
  have h1k := h1
  obtain ⟨ad1, len1, cap1, rfl⟩ := okWide_slice Try.underlying42 (hval 1 42 v1 rfl rfl)
  obtain ⟨fuel1, hf1⟩ := h1
  obtain ⟨ad1', cap1', l1, he1, hl1, hA11, hok1⟩ := open_intsB (by simpa [Value.cells] using hf1)
  simp only [Value.slice.injEq] at he1
  obtain ⟨rfl, rfl, rfl⟩ := he1
  obtain ⟨x2, rfl, rfl, rfl, wx2⟩ := open_int Try.underlying3 (hval 2 3 v2 rfl rfl) h2
  clear hA0 hf1
  simp only [List.append_nil] at hW'
  have hlt1 : ∀ x ∈ p1, x.block < W.heap.size := fun x hx => by simpa using hW'.lt x (by simp [hx])
  refine (gfair_walk x0 ad1 cap1 l1 x2 W hl1 hA11 hok1).mono fun e W' ⟨he, hg⟩ => ?_
  subst he
  exact ⟨_, rfl, _, _, _, [], [] ++ (p1 ++ ([] ++ [])), [], hW', trodAll_cons_mk (shut_bool Try.underlying4 _) trodAll_mk0, trodAll_cons_mk (shut_int Try.underlying3 wx0) (trodAll_cons_mk (Below.trod laidOut (by kernel_rfl) (of_decide_eq_true (by kernel_rfl)) h1k hg hlt1) (trodAll_cons_mk (shut_int Try.underlying3 wx2) trodAll_mk0)), rfl, hg.frame _, fun h => by cases h⟩

theorem reads (os : Os) {H : Type} (enc : TypeId × Value → H) : ∃ places, DataW.whole enc Try.prog ((World.holding Try.prog os ⟨#[], #[], []⟩).forCall (fun _ _ => 0) ⟨#[], #[.int .i64 0, .slice none 0 0, .int .i64 0], []⟩).memory Try.f5.params.toList Rows.gateFairSpec.vars false #[Value.int .i64 0, Value.slice none 0 0, Value.int .i64 0].toList 8 = some ([.lit (.int .i64 0), .nil, .lit (.int .i64 0)], [], places) :=
  ⟨[], by kernel_rfl⟩
set_option maxRecDepth 100000 in
theorem lifted (os : Os) (started : os.Started) (H : Type) (enc : TypeId × Value → H) (F : Stop.Interp) :
    ReturnsInHanded {} Try.checked os 5 .any ((OpenSpec.ofChange Rows.gateFairSpec).preRow enc Try.prog Try.f5 Rows.gateFairRow.domain false Rows.gateFairRow.laid) (((OpenSpec.ofChange Rows.gateFairSpec).at F).post enc Try.prog Try.f5 false true false false) := by
  obtain ⟨places, hx⟩ := reads os enc
  refine returnsInHanded_of_row (C := Try.checked) (s := OpenSpec.ofChange Rows.gateFairSpec) own started (by kernel_rfl) Try.func5
    (witness_row_at (enc := enc) (C := Try.checked) false (World.holding Try.prog os ⟨#[], #[], []⟩) #[.int .i64 0, .slice none 0 0, .int .i64 0] rfl (by kernel_rfl) (by kernel_rfl) (by kernel_rfl)
      (OpenSpec.preRow_of_cond 8 hx (by kernel_rfl) (fun k hk => by cases hk) (by kernel_rfl) (laidMet_of_run' 8 (by kernel_rfl) (by kernel_rfl)))) ?_
  intro W base args ds gs before hval hW _ _ _ _ _ _
  exact contract H enc W base args ds gs before hval hW
end Go.Proofs.Ytcgmoadahdkbbaa.gateFair
namespace Go.Proofs.Ytcgmoadahdkbbaa
/-- gateFair_said GateFair returns true. -/
theorem gateFair_said : Rows.GateFairSaid :=
  OpenClaim.holds_of_cond 5 Try.f5 rfl rfl rfl rfl rfl rfl rfl ⟨rfl, rfl, rfl, rfl, rfl⟩ rfl rfl rfl rfl rfl (by kernel_rfl) Try.func5 (by kernel_rfl)
    (of_decide_eq_true (by kernel_rfl)) (by unfold Func.isWrapper; first | (rw [if_pos (by decide +kernel)]; kernel_rfl) | (rw [if_neg (by decide +kernel)]; exact ⟨rfl, rfl⟩))
    (fun os started H enc _ F => by rw [OpenClaim.pre_eq_preRow]; exact gateFair.lifted os started H enc F)
end Go.Proofs.Ytcgmoadahdkbbaa
