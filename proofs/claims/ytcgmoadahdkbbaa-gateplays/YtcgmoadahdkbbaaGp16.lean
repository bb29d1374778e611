/-
  GateHolds: its walk.
  GatePlays: its walk.
  A plan's two numbers that come in as an argument.
  GatePlays is proved: for every number of channels, every plan and all calls the law GatePlays returns true (a gate answers, call by call, as the document has it), and its arguments read behind the call as before. No condition.
-/
import Derived.Test.YtcgmoadahdkbbaaGp13
import Derived.Test.YtcgmoadahdkbbaaGp14
import Derived.Test.YtcgmoadahdkbbaaGp15
import Derived.Test.YtcgmoadahdkbbaaGp01
import Derived.Test.YtcgmoadahdkbbaaProg
import Derived.ProofKit
import Derived.OpenShut
import Derived.Deep.Slices
import Derived.Test.YtcgmoadahdkbbaaRows
import Derived.Deep.DeepHandedRow
import Derived.Lib.LaidTab
namespace Go.Proofs.Ytcgmoadahdkbbaa
open Go.RowKit Gt Cr

theorem kp_below {w w' : World} (h : Kp [] w w') : Below w.heap.size w w' := ⟨h.os, h.tape, h.output, h.size, fun k hk => h.block k hk (by simp)⟩
set_option maxHeartbeats 16000000 in
set_option maxRecDepth 100000 in
theorem gholds_walk (x y z : Int) (w : World) : Calls Try.prog 6 #[.int .i64 x, .int .i64 y, .int .i64 z] w fun e w' => e = .returned (.bool true) ∧ Below w.heap.size w w' := by
  have WK := hide (gWorks_any w)
  obtain ⟨q, hq⟩ : ∃ q : Nat, x % 6 = (q : Int) := ⟨(x % 6).toNat, by omega⟩
  have hq6 : q < 6 := by omega
  have A1 := hide (fun W => gAmong_any x 6 W (by decide) (by decide))
  rw [hq] at A1
  have hw1 : IntKind.i64.wrap (2 + (q : Int)) = ((q + 2 : Nat) : Int) := by simp [IntKind.wrap, IntKind.signed, go_sem]; omega
  obtain ⟨n, hn⟩ : ∃ n, n = q + 2 := ⟨_, rfl⟩
  rw [← hn] at hw1
  have hn2 : 2 ≤ n := by omega
  have hn7 : n ≤ 7 := by omega
  clear hq hn
  obtain ⟨l, hl⟩ : ∃ l : Nat, y % (n : Int) = (l : Int) := ⟨(y % (n : Int)).toNat, by have := Int.emod_nonneg y (show (n : Int) ≠ 0 by omega); omega⟩
  have hln : l < n := by have := Int.emod_lt_of_pos y (show (0 : Int) < n by omega); omega
  have A2 := hide (fun W => gAmong_any y (n : Int) W (by omega) (by omega))
  rw [hl] at A2
  obtain ⟨m, hm⟩ : ∃ m : Nat, z % 5 = (m : Int) := ⟨(z % 5).toNat, by omega⟩
  have hm5 : m < 5 := by omega
  have A3 := hide (fun W => gAmong_any z 5 W (by decide) (by decide))
  rw [hm] at A3
  clear hl hm
  have NG := hide (fun W => newGate_ok n 20 3 W (by omega) (by omega) (by decide) (by decide) (by decide) (by decide))
  have hn1i : IntKind.i64.wrap ((n : Int) - 1) = ((n - 1 : Nat) : Int) := by simp [IntKind.wrap, IntKind.signed, go_sem]; omega
  go_enter Try.func6, Try.ntmps6
  go_wp2_with fail
  refine (unhide WK).mono ?_
  rintro r w1 ⟨rfl, k1⟩
  have K1 := hide k1
  clear k1 WK
  go_wp2_with fail
  refine (unhide A1 _).mono ?_
  rintro r w2 ⟨rfl, rfl⟩
  clear A1
  go_wp2_with fail
  refine (unhide A2 _).mono ?_
  rintro r w3 ⟨rfl, rfl⟩
  clear A2
  go_wp2_with fail
  refine (unhide A3 _).mono ?_
  rintro r w4 ⟨rfl, rfl⟩
  clear A3 hw1 hq6
  go_wp2_with fail
  refine (unhide NG _).mono ?_
  rintro r w5 ⟨b, rfl, h1, h2⟩
  have HA : Hid (Wk w4 w5 b w4.heap.size (hg n l 0 (chL 20 0) 0)) := hide ⟨by rw [hg_zero]; exact h1, h2⟩
  clear h1 h2 NG
  generalize hLL : w4.heap.size = L at HA
  clear hLL
  go_wp2
  go_loopw [48] (fun i wr => ∃ k : Nat, k ≤ n ∧ i = .int .i64 (k : Int) ∧ Hid (Wk w4 wr b L (hg n l k (chL 20 0) 0))) (fun i _ => n - (intOf i).toNat)
  case atStart => exact ⟨0, Nat.zero_le _, rfl, HA⟩
  case round =>
    obtain ⟨k, hk, rfl, HR⟩ := hrel
    clear HA
    by_cases hlt : k < n
    · have hli : (k : Int) < (n : Int) := by omega
      obtain ⟨g1, g2, g3⟩ := hg_gv (n := n) (l := l) (c := chL 20 0) hlt
      have GV := hide ((unhide HR).give (k : Int) 20 g1 g2)
      rw [g3] at GV
      clear g1 g2 g3 HR
      by_cases he : k = l
      · subst he
        go_wp2_with fail
        refine (unhide GV).mono ?_
        rintro r w6 ⟨rfl, h1, _⟩
        have HN : Hid (Wk w4 w6 b L (hg n k (k + 1) (chL 20 0) 0)) := hide (by rw [← hg_late]; exact h1)
        clear h1 GV
        go_wp2
        go_roundw
        case rel => exact ⟨k + 1, by omega, by go_num, HN⟩
        case measure => simp [intOf]; omega
      · have hei : ((k : Int) == (l : Int)) = false := beq_eq_false_iff_ne.2 (by omega)
        obtain ⟨b1, b2⟩ := upd_ba (g := hg n l k (chL 20 0) 0) (k := k) hlt 19 []
        obtain ⟨t1, t2⟩ := upd_tx (g := hg n l k (chL 20 0) 0) (k := k) hlt 18 [⟨⟨#[]⟩, 3⟩] 4 (t := tBeh) (by decide)
        have BA := hide (fun W (h : Wk w4 W b L ((hg n l k (chL 20 0) 0).upd k ⟨20, 20, [], 3⟩)) => h.bar (k : Int) 3 (fun j _ => upd_nx (fun i => hg_nx (by decide) i) (by decide) j) b1)
        rw [b2] at BA
        have TX := hide (fun W (h : Wk w4 W b L ((hg n l k (chL 20 0) 0).upd k ⟨20, 19, [⟨⟨#[]⟩, 3⟩], 4⟩)) => h.text (k : Int) ⟨#[98, 101, 104, 105, 110, 100]⟩ (by decide) t1)
        have t2' : ((hg n l k (chL 20 0) 0).upd k ⟨20, 19, [⟨⟨#[]⟩, 3⟩], 4⟩).txS (k : Int) ⟨#[98, 101, 104, 105, 110, 100]⟩ = hg n l (k + 1) (chL 20 0) 0 := t2.trans (hg_next _ _ he)
        rw [t2'] at TX
        clear b1 b2 t1 t2 t2'
        go_wp2_with fail
        refine (unhide GV).mono ?_
        rintro r w6 ⟨rfl, h1, _⟩
        have H1 := hide h1
        clear h1 GV
        go_wp2_with fail
        refine (unhide BA _ (unhide H1)).mono ?_
        rintro r w7 ⟨rfl, h1, _⟩
        have H2 := hide h1
        clear h1 BA H1
        go_wp2_with fail
        refine (unhide TX _ (unhide H2)).mono ?_
        rintro r w8 ⟨rfl, h1, _⟩
        have HN := hide h1
        clear h1 TX H2
        go_wp2
        go_roundw
        case rel => exact ⟨k + 1, by omega, by go_num, HN⟩
        case measure => simp [intOf]; omega
    · obtain rfl : k = n := by omega
      have HR : Hid (Wk w4 wr b L (hL k l (20 - 0) 0 0)) := HR
      go_wp2
      go_loopw [69] (fun i wr => ∃ c : Nat, c ≤ m ∧ i = .int .i64 (c : Int) ∧ Hid (Wk w4 wr b L (hL k l (20 - c) c 0))) (fun i _ => m - (intOf i).toNat)
      case atStart => exact ⟨0, Nat.zero_le _, rfl, HR⟩
      case round =>
        obtain ⟨c, hc, rfl, HQ⟩ := hrel
        clear HR
        by_cases hlt2 : c < m
        · have hli : (c : Int) < (m : Int) := by omega
          obtain ⟨t1, t2⟩ := hL_text (n := k) (l := l) (o := 20 - (c + 1)) (r := c) hln
          rw [show 20 - (c + 1) + 1 = 20 - c by omega] at t1 t2
          have TX := hide ((unhide HQ).text (l : Int) ⟨#[97, 104, 101, 97, 100]⟩ (by decide) t1)
          have t2' : (hL k l (20 - c) c 0).txS (l : Int) ⟨#[97, 104, 101, 97, 100]⟩ = hL k l (20 - (c + 1)) (c + 1) 0 := t2
          rw [t2'] at TX
          clear t1 t2 t2' HQ
          go_wp2_with fail
          refine (unhide TX).mono ?_
          rintro r w8 ⟨rfl, h1, _⟩
          have HN := hide h1
          clear h1 TX
          go_wp2
          go_roundw
          case rel => exact ⟨c + 1, by omega, by go_num, HN⟩
          case measure => simp [intOf]; omega
        · obtain rfl : c = m := by omega
          have HQ : Hid (Wk w4 wr b L (hL k l (20 - c) (c - 0) 0)) := HQ
          go_wp2
          go_loopw [77] (fun i wr => ∃ d t : Nat, d ≤ c ∧ t < k ∧ i = .int .i64 (d : Int) ∧ Hid (Wk w4 wr b L (hL k l (20 - c) (c - d) t))) (fun i _ => c - (intOf i).toNat)
          case atStart => exact ⟨0, 0, Nat.zero_le _, by omega, rfl, HQ⟩
          case round =>
            obtain ⟨d, tt, hd, ht, rfl, HP⟩ := hrel
            clear HQ
            by_cases hlt3 : d < c
            · have hli : (d : Int) < (c : Int) := by omega
              obtain ⟨p1, p2, p3, p4, p5⟩ := hL_pull (n := k) (l := l) (o := 20 - c) (r := c - (d + 1)) hln ht
              rw [show c - (d + 1) + 1 = c - d by omega] at p1 p2 p3 p4 p5
              have PL := hide ((unhide HP).pull (t := ⟨#[97, 104, 101, 97, 100]⟩) p1 p2 p3 p4)
              rw [p5] at PL
              have hlt4 : (l + 1) % k < k := Nat.mod_lt _ (by omega)
              clear p1 p2 p3 p4 p5 HP
              generalize (l + 1) % k = t' at *
              go_wp2_with fail
              refine (unhide PL).mono ?_
              rintro r w8 ⟨rfl, h1, _⟩
              have HN := hide h1
              clear h1 PL
              go_wp2
              go_roundw
              case rel => exact ⟨d + 1, t', by omega, by omega, by go_num, HN⟩
              case measure => simp [intOf]; omega
            · obtain rfl : d = c := by omega
              rw [Nat.sub_self] at HP
              obtain ⟨p1, p2, p3, p4, p5⟩ := hL_none (n := k) (l := l) (o := 20 - d) (t := tt) hln
              have PL := hide ((unhide HP).pull p1 p2 p3 p4)
              rw [p5] at PL
              obtain ⟨b1, b2⟩ := hL_bar (n := k) (l := l) (o := 19 - d) (t := tt) hln
              rw [show 19 - d + 1 = 20 - d by omega] at b1 b2
              have BA := hide (fun W (h : Wk w4 W b L (hL k l (20 - d) 0 tt)) => h.bar (l : Int) 3 (fun j _ => hg_nx (show (3 : Nat) ≤ 4 by decide) j) b1)
              rw [b2] at BA
              obtain ⟨q1, q2, q3, q4, q5⟩ := pl_all (hM_all (n := k) (l := l) (o := 19 - d) (t := tt))
              have q3 := q3.trans (hM_bar (n := k) (l := l) (o := 19 - d) (t := tt) (by omega))
              have PA := hide (fun W (h : Wk w4 W b L (hg k l k (chM (19 - d)) tt)) => h.pull q1 q2 q3 q4)
              rw [q5] at PA
              have HS := hide (hs_start (n := k) (l := l) (o := 19 - d) hln ht)
              clear p1 p2 p3 p4 p5 b1 b2 q1 q2 q3 q4 q5 HP
              go_wp2_with fail
              refine (unhide PL).mono ?_
              rintro r w8 ⟨rfl, h1, _⟩
              have H1 := hide h1
              clear h1 PL
              go_wp2_with fail
              refine (unhide BA _ (unhide H1)).mono ?_
              rintro r w9 ⟨rfl, h1, _⟩
              have H2 := hide h1
              clear h1 BA H1
              go_wp2_with fail
              refine (unhide PA _ (unhide H2)).mono ?_
              rintro r wa ⟨rfl, h1, _⟩
              have H3 : Hid (∃ G, Wk w4 wa b L G ∧ Hs k (k - 1 - 0) G) := hide ⟨_, h1, unhide HS⟩
              clear h1 PA H2 HS
              go_wp2
              go_loopw [138] (fun i wr => ∃ e : Nat, e ≤ k - 1 ∧ i = .int .i64 (e : Int) ∧ Hid (∃ G, Wk w4 wr b L G ∧ Hs k (k - 1 - e) G)) (fun i _ => k - 1 - (intOf i).toNat)
              case atStart => exact ⟨0, Nat.zero_le _, rfl, H3⟩
              case round =>
                obtain ⟨e, he, rfl, HE⟩ := hrel
                clear H3
                obtain ⟨G, hG, hS⟩ := unhide HE
                clear HE
                by_cases hlt5 : e < k - 1
                · have hli : (e : Int) < ((k - 1 : Nat) : Int) := by omega
                  rw [show k - 1 - e = (k - 1 - (e + 1)) + 1 by omega] at hS
                  obtain ⟨p2, p3, p4, p5⟩ := hs_pull hS (by omega)
                  have PL := hide (hG.pull (t := ⟨#[98, 101, 104, 105, 110, 100]⟩) (c := G.plC) rfl p2 p3 p4)
                  have H5 := hide p5
                  clear p2 p3 p4 p5 hG hS
                  generalize G.plC = pc at *
                  generalize G.plS = G2 at *
                  have hk7 : k - 1 ≤ 7 := by omega
                  generalize k - 1 = kk at *
                  go_wp2_with fail
                  refine (unhide PL).mono ?_
                  rintro r wb ⟨rfl, h1, _⟩
                  have HN : Hid (∃ G, Wk w4 wb b L G ∧ Hs k (kk - (e + 1)) G) := hide ⟨_, h1, unhide H5⟩
                  clear h1 PL H5
                  go_wp2
                  go_roundw
                  case rel => exact ⟨e + 1, by omega, by go_num, HN⟩
                  case measure => simp [intOf]; omega
                · obtain rfl : e = k - 1 := by omega
                  rw [Nat.sub_self] at hS
                  have PL := hide (hG.pull (c := G.plC) (t := G.plT) (m := G.plB) rfl rfl rfl (hs_done hS (by omega)))
                  clear hG hS
                  generalize G.plC = pc at *
                  generalize G.plT = pt at *
                  generalize G.plB = pb at *
                  generalize G.plS = G2 at *
                  generalize k - 1 = kk at *
                  go_wp2_with fail
                  refine (unhide PL).mono ?_
                  rintro r wb ⟨rfl, h1, _⟩
                  have HN := hide (kp_below ((unhide K1).trans h1.kp (by simp)))
                  clear h1 PL
                  go_wp2
                  go_ret
                  exact ⟨rfl, unhide HN⟩
end Go.Proofs.Ytcgmoadahdkbbaa
namespace Go.Proofs.Ytcgmoadahdkbbaa
open Go.RowKit Gt Cr

theorem RgAt.mono {B B' : Nat} {w : World} {b L : Nat} {G : Gt} (h : RgAt B w b L G) (hB : B' ≤ B) : RgAt B' w b L G := by
  obtain ⟨⟨cs, vs, h1, h2, h3⟩, h4⟩ := h
  exact ⟨⟨cs, vs, h1, by omega, by omega⟩, h4⟩
set_option maxHeartbeats 16000000 in
set_option maxRecDepth 100000 in
theorem gplays_walk (x0 : Int) (pc pf : Int) (ad : Option Addr) (cap : Nat) (l : List A21) (w : World) (_hl : l.length ≤ 9223372036854775807) (hA : A21At w ad l) (hok : ∀ y ∈ l, y.ok) :
    Calls Try.prog 3 #[.int .i64 x0, .agg #[.int .i64 pc, .int .i64 pf], .slice ad l.length cap] w fun e w' => e = .returned (.bool true) ∧ Below w.heap.size w w' := by
  have WK := hide (fun W => gWorks_any W)
  have HL := hide hA
  have HOK := hide hok
  have KA := Kp.alloc w (.cells #[.int .i64 pc, .int .i64 pf] 23)
  have HKA := hide KA
  have HPB : Hid (∀ W, Kp [] (w.alloc (.cells #[.int .i64 pc, .int .i64 pf] 23)) W → W.cell? ⟨w.heap.size, 0, none⟩ = some (.int .i64 pc) ∧ W.cell? ⟨w.heap.size, 1, none⟩ = some (.int .i64 pf)) := hide (fun W k => by
    have := (CBox.new w #[.int .i64 pc, .int .i64 pf] 23).kp k (by simp)
    exact ⟨this.cell rfl, this.cell rfl⟩)
  clear hA hok KA
  by_cases hc : (1 ≤ x0 ∧ x0 ≤ 64) ∧ (1 ≤ pc ∧ pc ≤ 256) ∧ (1 ≤ pf ∧ pf ≤ 1073741824)
  · obtain ⟨⟨c1, c2⟩, ⟨c3, c4⟩, c5, c6⟩ := hc
    obtain ⟨n, rfl⟩ : ∃ n : Nat, x0 = (n : Int) := ⟨x0.toNat, by omega⟩
    obtain ⟨pcn, rfl⟩ : ∃ n : Nat, pc = (n : Int) := ⟨pc.toNat, by omega⟩
    obtain ⟨pfn, rfl⟩ : ∃ n : Nat, pf = (n : Int) := ⟨pf.toNat, by omega⟩
    have NG := hide (fun W => newGate_ok n pcn pfn W (by omega) (by omega) (by omega) (by omega) (by omega) (by omega))
    have NR := hide (fun W => rNew_ok n pcn pfn W (by omega) (by omega) (by omega) (by omega) (by omega) (by omega))
    have HF : Hid (pfn ≤ 1073741824) := hide (by omega)
    clear c1 c2 c3 c4 c5 c6
    go_enter Try.func3, Try.ntmps3
    go_upto_region 1 with fail
    generalize w.alloc (.cells #[.int .i64 (pcn : Int), .int .i64 (pfn : Int)] 23) = W1 at *
    generalize w.heap.size = gp at *
    obtain ⟨y0, y1⟩ := unhide HPB W1 (Kp.refl _ _)
    go_wp2_with fail
    refine (unhide NG _).mono ?_
    rintro _ w2 ⟨b, rfl, h1, k1⟩
    have H1 := hide h1
    have K1 := hide k1
    clear h1 k1 y0 y1 NG
    obtain ⟨y0, y1⟩ := unhide HPB w2 (unhide K1)
    go_wp2_with fail
    refine (unhide NR _).mono ?_
    rintro _ w3 ⟨rfl, h2, k2⟩
    have HS : Hid (∃ G, Pw W1 w3 b W1.heap.size (w2.heap.size + 1) w2.heap.size G G ∧ Nx G (1073741824 + 0)) := hide ⟨_, ⟨(unhide H1).kp k2, h2.mono (unhide K1).size, (unhide K1).trans k2 (by simp)⟩, fun k hk => by have := unhide HF; show pfn ≤ _; omega⟩
    clear h2 k2 y0 y1 NR H1 K1 HPB HF
    generalize W1.heap.size = L at *
    generalize w2.heap.size + 1 = b' at *
    generalize w2.heap.size = L' at *
    go_wp2
    go_loopw [11] (fun i wr => ∃ k : Nat, k ≤ l.length ∧ k ≤ 300 ∧ i = .int .i64 (k : Int) ∧ Hid (∃ G, Pw W1 wr b L b' L' G G ∧ Nx G (1073741824 + k))) (fun i _ => l.length - (intOf i).toNat)
    case atStart => exact ⟨0, Nat.zero_le _, by decide, rfl, HS⟩
    case round =>
      clear HS
      obtain ⟨k, hkl, hk, rfl, HR⟩ := hrel
      obtain ⟨G, hP, hX⟩ := unhide HR
      clear HR
      by_cases h1 : k < l.length ∧ k < 300
      · obtain ⟨h1, h2⟩ := h1
        have h1i : (k : Int) < (l.length : Int) := by omega
        have h2i : (k : Int) < 300 := by omega
        obtain ⟨lb, lo, rfl, hbl, x0, x1, x2, x3, x4⟩ := ((unhide HL).kp ((unhide HKA).trans hP.kp (by simp))).at k h1
        have ST := hide (gstep_any b L b' L' (1073741824 + k) G l[k] W1 wr hP (unhide HOK _ (List.getElem_mem h1)) hX (by omega))
        clear HL HOK hbl hP hX WK
        generalize l[k] = y at *
        go_wp2_with fail
        refine (unhide ST).mono ?_
        rintro _ w5 ⟨rfl, G', hP, hX⟩
        have HP := hide hP
        have HX := hide hX
        have hn1 := hP.gt.ok.n1
        have hn0 := hP.gt.ok.n0
        have GB := hide (gBlocked_any _ b L G' w5 hP.gt)
        have RB := hide (fun W (kq : Kp [] w5 W) => rBlocked_any _ b' L' G' W (hP.rg.kp kq))
        clear ST hP hX x0 x1 x2 x3 x4
        go_wp2_with fail
        refine (unhide GB).mono ?_
        rintro _ w6 ⟨v6, rfl, ⟨gb, rfl, _, cb⟩, k6⟩
        have K6 := hide k6
        have CB := hide cb
        clear k6 cb GB
        go_wp2_with fail
        refine (unhide RB _ (unhide K6)).mono ?_
        rintro _ w7 ⟨v7, rfl, hq7, k7⟩
        obtain ⟨gq, cq, rfl, hqc⟩ := bq_some hq7 hn0
        have HC : Hid (∀ W, Kp [] w7 W → ∀ j, j < G'.n → W.cell? ⟨gb, j, none⟩ = some (.bool (G'.ch j).blk) ∧ W.cell? ⟨gq, j, none⟩ = some (.bool (G'.ch j).blk)) := hide (fun W kq j hj => ⟨kq.cell (((unhide CB).kp k7 (by simp)).cell (by rw [List.getElem?_toArray]; exact blC_at (fun k => (G'.ch k).blk) hj hj)) (by simp), kq.cell (hqc j hj) (by simp)⟩)
        have HP7 : Hid (∀ W, Kp [] w7 W → Pw W1 W b L b' L' G' G') := hide (fun W kq => (unhide HP).quiet (((unhide K6).trans k7 (by simp)).trans kq (by simp)))
        clear hq7 k7 hqc RB CB HP K6
        go_wp2
        go_loopw [14] (fun i wq => ∃ j : Nat, j ≤ G'.n ∧ i = .int .i64 (j : Int) ∧ Hid (Kp [] w7 wq)) (fun i _ => G'.n - (intOf i).toNat)
        case atStart => exact ⟨0, Nat.zero_le _, rfl, hide (Kp.refl _ _)⟩
        case round =>
          obtain ⟨j, hj, rfl, HQ⟩ := hrel
          by_cases hlt : j < G'.n
          · have hli : (j : Int) < (G'.n : Int) := by omega
            obtain ⟨e1, e2⟩ := unhide HC _ (unhide HQ) j hlt
            generalize (G'.ch j).blk = bj at *
            have HD : Hid (∀ m, Kp [] w7 (wr.drewN m)) := hide (fun m => (unhide HQ).trans (Kp.drewQ _ _) (by simp))
            go_wp2
            go_quiet (fail)
            cases bj with
            | false =>
              go_wp2
              go_roundw
              case rel => exact ⟨j + 1, by omega, by go_num, hide (unhide HD _)⟩
              case measure => simp [intOf]; omega
            | true =>
              go_wp2
              go_roundw
              case rel => exact ⟨j + 1, by omega, by go_num, hide (unhide HD _)⟩
              case measure => simp [intOf]; omega
          · obtain rfl : j = G'.n := by omega
            have HN : Hid (∃ G, Pw W1 wr b L b' L' G G ∧ Nx G (1073741824 + (k + 1))) := hide ⟨G', unhide HP7 _ (unhide HQ), unhide HX⟩
            clear HC HP7 HX HQ
            go_wp2
            go_roundw
            case rel => exact ⟨k + 1, by omega, by omega, by go_num, HN⟩
            case measure => simp [intOf]; omega
      · have HKW := hide ((unhide HKA).trans hP.kp (by simp))
        clear hP hX HL HOK
        by_cases h2 : k < l.length
        · have h1i : (k : Int) < (l.length : Int) := by omega
          have h2i : ¬ (k : Int) < 300 := by omega
          clear h1
          go_wp2_with fail
          refine (unhide WK _).mono ?_
          rintro _ w9 ⟨rfl, k9⟩
          have HB := hide (kp_below ((unhide HKW).trans k9 (by simp)))
          clear k9
          go_wp2
          go_ret
          exact ⟨rfl, unhide HB⟩
        · have h1i : ¬ (k : Int) < (l.length : Int) := by omega
          clear h1
          go_wp2_with fail
          refine (unhide WK _).mono ?_
          rintro _ w9 ⟨rfl, k9⟩
          have HB := hide (kp_below ((unhide HKW).trans k9 (by simp)))
          clear k9
          go_wp2
          go_ret
          exact ⟨rfl, unhide HB⟩
  · have NG := hide (fun W => newGate_not x0 pc pf W hc)
    have NR := hide (fun W => rNew_not x0 pc pf W hc)
    clear hc HL HOK
    go_enter Try.func3, Try.ntmps3
    go_upto_region 1 with fail
    generalize w.alloc (.cells #[.int .i64 pc, .int .i64 pf] 23) = W1 at *
    generalize w.heap.size = gp at *
    obtain ⟨y0, y1⟩ := unhide HPB W1 (Kp.refl _ _)
    go_wp2_with fail
    refine (unhide NG _).mono ?_
    rintro _ w2 ⟨rfl, k1⟩
    have K1 := hide k1
    clear k1 y0 y1 NG
    obtain ⟨y0, y1⟩ := unhide HPB w2 (unhide K1)
    go_wp2_with fail
    refine (unhide NR _).mono ?_
    rintro _ w3 ⟨rfl, rfl⟩
    have HKW := hide ((unhide HKA).trans (unhide K1) (by simp))
    clear y0 y1 NR HPB
    go_wp2
    go_loopw [11] (fun i wr => i = .int .i64 0 ∧ wr = w3) (fun _ _ => 0)
    case atStart => exact ⟨rfl, rfl⟩
    case round =>
      obtain ⟨rfl, rfl⟩ := hrel
      go_wp2_with fail
      refine (unhide WK _).mono ?_
      rintro _ w9 ⟨rfl, k9⟩
      have HB := hide (kp_below ((unhide HKW).trans k9 (by simp)))
      clear k9
      go_wp2
      go_ret
      exact ⟨rfl, unhide HB⟩
end Go.Proofs.Ytcgmoadahdkbbaa
namespace Go.Proofs.Ytcgmoadahdkbbaa
open Go.RowKit Go.Deep

theorem cells_Plan21 : Try.prog.cellsOf 23 = 2 := by kernel_rfl
theorem cells_int21 : Try.prog.cellsOf 3 = 1 := by kernel_rfl
theorem fields_Plan21 : ∃ f0 f1 : Field, Try.prog.underlying 23 = some (.struct #[f0, f1]) ∧ f0.type = 3 ∧ f1.type = 3 ∧ f0.offset = 0 ∧ f1.offset = 1 :=
  ⟨_, _, Try.underlying23, rfl, rfl, rfl, rfl⟩
theorem list2 {α : Type} : ∀ (l : List α), l.length = 2 → ∃ a b, l = [a, b]
  | [a, b], _ => ⟨a, b, rfl⟩
section
variable {H : Type} {enc : TypeId × Value → H} {W : World} {spare : Nat → Bool} {held : Bool} {fuel : Nat} {x : DataW H × List MemPlace}
theorem open_plan21 {cs : Array Value} (hsz : cs.size = Try.prog.cellsOf 23) (h : DataW.trod enc Try.prog W 0 spare held fuel 23 cs.toList = some x) :
    ∃ g s : Int, cs = #[.int .i64 g, .int .i64 s] := by
  obtain ⟨f0, f1, hu, t0, t1, o0, o1⟩ := fields_Plan21
  rw [cells_Plan21] at hsz
  obtain ⟨xs, n, _, _, _, hxl, hf⟩ := DataW.trod_struct hu h
  obtain ⟨l⟩ := cs
  obtain ⟨v0, v1, rfl⟩ := list2 l hsz
  obtain ⟨y0, y1, rfl⟩ := list2 xs hxl
  have g0 := hf 0 f0 rfl
  have g1 := hf 1 f1 rfl
  simp [o0, o1, t0, t1, cells_int21] at g0 g1
  obtain ⟨a, q0, _⟩ := DataW.trod_int Try.underlying3 g0
  obtain ⟨b, q1, _⟩ := DataW.trod_int Try.underlying3 g1
  simp only [List.cons.injEq, and_true] at q0 q1
  subst q0 q1
  exact ⟨a, b, rfl⟩
end
end Go.Proofs.Ytcgmoadahdkbbaa
namespace Go.Proofs.Ytcgmoadahdkbbaa.gatePlays
open Go.ChangeShapes Go.WideShapes Go.ChangeAt Go.RowKit

theorem laidOut : laidOutB Try.prog = true := by kernel_rfl
theorem own : ownKnob Try.prog.godebug = none := by kernel_rfl
set_option maxRecDepth 100000 in
/-- What the walk gives, for every argument and every world. -/
theorem contract (H : Type) (enc : TypeId × Value → H) (W : World) (base : Nat) (args : Array Value) (ds gs : List (DataW H)) (before : List MemPlace)
    (hval : ∀ (j : Nat) t v, Try.f3.params[j]? = some t → args[j]? = some v → Value.okWide Try.prog W .any base t v)
    (hW : DataW.Whole enc Try.prog Try.f3.params.toList Rows.gatePlaysSpec.vars false W args.toList ds gs before) :
    Calls Try.prog 3 args W fun e W' => ∃ v, e = .returned v ∧ Rows.gatePlaysSpec.post enc Try.prog Try.f3 false true false false W args v W' := by
  have hW' := hW
  obtain ⟨p, q, hA0, hV, rfl, hfz, hnd⟩ := hW
  have hA : DataW.TrodAll enc Try.prog W 0 (fun _ => true) true Try.f3.params.toList args.toList ds p := hA0
  rw [Try.params3] at hA hval
  obtain ⟨v0, vs0, d0, ds0, p0, q0, hargs, rfl, rfl, h0, r0⟩ := trodAll_cons hA
  obtain ⟨v1, vs1, d1, ds1, p1, q1, rfl, rfl, rfl, h1, r1⟩ := trodAll_cons r0
  obtain ⟨v2, vs2, d2, ds2, p2, q2, rfl, rfl, rfl, h2, r2⟩ := trodAll_cons r1
  obtain ⟨rfl, rfl, rfl⟩ := trodAll_nil r2
  obtain rfl : args = #[v0, v1, v2] := by cases args; simp_all
  obtain ⟨rfl, rfl⟩ := trodVars_none hV
  obtain ⟨x0, rfl, rfl, rfl, wx0⟩ := open_int Try.underlying3 (hval 0 3 v0 rfl rfl) h0
  have h1k := h1
  obtain ⟨cs1, rfl, z1⟩ := okWide_struct Try.underlying23 (hval 1 23 v1 rfl rfl)
  obtain ⟨fuel1, hf1⟩ := h1
  obtain ⟨g1, s1, rfl⟩ := open_plan21 z1 (by simpa [Value.cells] using hf1)
  have h2k := h2
  obtain ⟨ad2, len2, cap2, rfl⟩ := okWide_slice Try.underlying24 (hval 2 24 v2 rfl rfl)
  obtain ⟨fuel2, hf2⟩ := h2
  obtain ⟨ad2', cap2', l2, he2, hl2, hA12, hok2⟩ := open_ac21 (by simpa [Value.cells] using hf2)
  simp only [Value.slice.injEq] at he2
  obtain ⟨rfl, rfl, rfl⟩ := he2
  clear hA0 hf1 hf2
  simp only [List.append_nil] at hW'
  have hlt1 : ∀ x ∈ p1, x.block < W.heap.size := fun x hx => by simpa using hW'.lt x (by simp [hx])
  have hlt2 : ∀ x ∈ p2, x.block < W.heap.size := fun x hx => by simpa using hW'.lt x (by simp [hx])
  refine (gplays_walk x0 g1 s1 ad2 cap2 l2 W hl2 hA12 hok2).mono fun e W' ⟨he, hg⟩ => ?_
  subst he
  exact ⟨_, rfl, _, _, _, [], [] ++ (p1 ++ (p2 ++ [])), [], hW', trodAll_cons_mk (shut_bool Try.underlying4 _) trodAll_mk0, trodAll_cons_mk (shut_int Try.underlying3 wx0) (trodAll_cons_mk (Below.trod laidOut (by kernel_rfl) (of_decide_eq_true (by kernel_rfl)) h1k hg hlt1) (trodAll_cons_mk (Below.trod laidOut (by kernel_rfl) (of_decide_eq_true (by kernel_rfl)) h2k hg hlt2) trodAll_mk0)), rfl, hg.frame _, fun h => by cases h⟩

theorem reads (os : Os) {H : Type} (enc : TypeId × Value → H) : ∃ places, DataW.whole enc Try.prog ((World.holding Try.prog os ⟨#[], #[], []⟩).forCall (fun _ _ => 0) ⟨#[], #[.int .i64 0, .agg #[.int .i64 0, .int .i64 0], .slice none 0 0], []⟩).memory Try.f3.params.toList Rows.gatePlaysSpec.vars false #[Value.int .i64 0, Value.agg #[.int .i64 0, .int .i64 0], Value.slice none 0 0].toList 8 = some ([.lit (.int .i64 0), .agg [.lit (.int .i64 0), .lit (.int .i64 0)], .nil], [], places) :=
  ⟨[], by kernel_rfl⟩
set_option maxRecDepth 100000 in
theorem lifted (os : Os) (started : os.Started) (H : Type) (enc : TypeId × Value → H) (F : Stop.Interp) :
    ReturnsInHanded {} Try.checked os 3 .any ((OpenSpec.ofChange Rows.gatePlaysSpec).preRow enc Try.prog Try.f3 Rows.gatePlaysRow.domain false Rows.gatePlaysRow.laid) (((OpenSpec.ofChange Rows.gatePlaysSpec).at F).post enc Try.prog Try.f3 false true false false) := by
  obtain ⟨places, hx⟩ := reads os enc
  refine returnsInHanded_of_row (C := Try.checked) (s := OpenSpec.ofChange Rows.gatePlaysSpec) own started (by kernel_rfl) Try.func3
    (witness_row_at (enc := enc) (C := Try.checked) false (World.holding Try.prog os ⟨#[], #[], []⟩) #[.int .i64 0, .agg #[.int .i64 0, .int .i64 0], .slice none 0 0] rfl (by kernel_rfl) (by kernel_rfl) (by kernel_rfl)
      (OpenSpec.preRow_of_cond 8 hx (by kernel_rfl) (fun k hk => by cases hk) (by kernel_rfl) (laidMet_of_run' 8 (by kernel_rfl) (by kernel_rfl)))) ?_
  intro W base args ds gs before hval hW _ _ _ _ _ _
  exact contract H enc W base args ds gs before hval hW
end Go.Proofs.Ytcgmoadahdkbbaa.gatePlays
namespace Go.Proofs.Ytcgmoadahdkbbaa
/-- gatePlays_said GatePlays returns true. -/
theorem gatePlays_said : Rows.GatePlaysSaid :=
  OpenClaim.holds_of_cond 3 Try.f3 rfl rfl rfl rfl rfl rfl rfl ⟨rfl, rfl, rfl, rfl, rfl⟩ rfl rfl rfl rfl rfl (by kernel_rfl) Try.func3 (by kernel_rfl)
    (of_decide_eq_true (by kernel_rfl)) (by unfold Func.isWrapper; first | (rw [if_pos (by decide +kernel)]; kernel_rfl) | (rw [if_neg (by decide +kernel)]; exact ⟨rfl, rfl⟩))
    (fun os started H enc _ F => by rw [OpenClaim.pre_eq_preRow]; exact gatePlays.lifted os started H enc F)
end Go.Proofs.Ytcgmoadahdkbbaa
