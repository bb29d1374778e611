/-
  GateHolds: its walk.
  A slice of structs that comes in as an argument: they lie where it says.
-/
import Derived.Test.YtcgmoadahdkbbaaGa08
import Derived.Test.YtcgmoadahdkbbaaGa13
import Derived.Test.YtcgmoadahdkbbaaGa01
import Derived.Test.YtcgmoadahdkbbaaProg
import Derived.ProofKit
import Derived.OpenShut
import Derived.Deep.Slices
namespace Go.Proofs.Ytcgmoadahdkbbaa
open Go.RowKit Gt Cr

theorem kp_below {w w' : World} (h : Kp [] w w') : Below w.heap.size w w' := ⟨h.os, h.tape, h.output, h.size, fun k hk => h.block k hk (by simp)⟩
set_option maxHeartbeats 16000000 in
set_option maxRecDepth 100000 in
theorem gholds_walk (x y z : Int) (w : World) : Calls Try.prog 6 #[.int .i64 x, .int .i64 y, .int .i64 z] w fun e w' => e = .returned (.bool true) ∧ Below w.heap.size w w' := by
  have WK := hide (gWorks_any w)
  obtain ⟨q, hq⟩ : ∃ q : Nat, x % 6 = (q : Int) := ⟨(x % 6).toNat, by omega⟩
  have hq6 : q < 6 := by omega
  have A1 := hide (fun W => gAmong_any x 6 W (by decide) (by decide))
  rw [hq] at A1
  have hw1 : IntKind.i64.wrap (2 + (q : Int)) = ((q + 2 : Nat) : Int) := by simp [IntKind.wrap, IntKind.signed, go_sem]; omega
  obtain ⟨n, hn⟩ : ∃ n, n = q + 2 := ⟨_, rfl⟩
  rw [← hn] at hw1
  have hn2 : 2 ≤ n := by omega
  have hn7 : n ≤ 7 := by omega
  clear hq hn
  obtain ⟨l, hl⟩ : ∃ l : Nat, y % (n : Int) = (l : Int) := ⟨(y % (n : Int)).toNat, by have := Int.emod_nonneg y (show (n : Int) ≠ 0 by omega); omega⟩
  have hln : l < n := by have := Int.emod_lt_of_pos y (show (0 : Int) < n by omega); omega
  have A2 := hide (fun W => gAmong_any y (n : Int) W (by omega) (by omega))
  rw [hl] at A2
  obtain ⟨m, hm⟩ : ∃ m : Nat, z % 5 = (m : Int) := ⟨(z % 5).toNat, by omega⟩
  have hm5 : m < 5 := by omega
  have A3 := hide (fun W => gAmong_any z 5 W (by decide) (by decide))
  rw [hm] at A3
  clear hl hm
  have NG := hide (fun W => newGate_ok n 20 3 W (by omega) (by omega) (by decide) (by decide) (by decide) (by decide))
  have hn1i : IntKind.i64.wrap ((n : Int) - 1) = ((n - 1 : Nat) : Int) := by simp [IntKind.wrap, IntKind.signed, go_sem]; omega
  go_enter Try.func6, Try.ntmps6
  go_wp2_with fail
  refine (unhide WK).mono ?_
  rintro r w1 ⟨rfl, k1⟩
  have K1 := hide k1
  clear k1 WK
  go_wp2_with fail
  refine (unhide A1 _).mono ?_
  rintro r w2 ⟨rfl, rfl⟩
  clear A1
  go_wp2_with fail
  refine (unhide A2 _).mono ?_
  rintro r w3 ⟨rfl, rfl⟩
  clear A2
  go_wp2_with fail
  refine (unhide A3 _).mono ?_
  rintro r w4 ⟨rfl, rfl⟩
  clear A3 hw1 hq6
  go_wp2_with fail
  refine (unhide NG _).mono ?_
  rintro r w5 ⟨b, rfl, h1, h2⟩
  have HA : Hid (Wk w4 w5 b w4.heap.size (hg n l 0 (chL 20 0) 0)) := hide ⟨by rw [hg_zero]; exact h1, h2⟩
  clear h1 h2 NG
  generalize hLL : w4.heap.size = L at HA
  clear hLL
  go_wp2
  go_loopw [48] (fun i wr => ∃ k : Nat, k ≤ n ∧ i = .int .i64 (k : Int) ∧ Hid (Wk w4 wr b L (hg n l k (chL 20 0) 0))) (fun i _ => n - (intOf i).toNat)
  case atStart => exact ⟨0, Nat.zero_le _, rfl, HA⟩
  case round =>
    obtain ⟨k, hk, rfl, HR⟩ := hrel
    clear HA
    by_cases hlt : k < n
    · have hli : (k : Int) < (n : Int) := by omega
      obtain ⟨g1, g2, g3⟩ := hg_gv (n := n) (l := l) (c := chL 20 0) hlt
      have GV := hide ((unhide HR).give (k : Int) 20 g1 g2)
      rw [g3] at GV
      clear g1 g2 g3 HR
      by_cases he : k = l
      · subst he
        go_wp2_with fail
        refine (unhide GV).mono ?_
        rintro r w6 ⟨rfl, h1, _⟩
        have HN : Hid (Wk w4 w6 b L (hg n k (k + 1) (chL 20 0) 0)) := hide (by rw [← hg_late]; exact h1)
        clear h1 GV
        go_wp2
        go_roundw
        case rel => exact ⟨k + 1, by omega, by go_num, HN⟩
        case measure => simp [intOf]; omega
      · have hei : ((k : Int) == (l : Int)) = false := beq_eq_false_iff_ne.2 (by omega)
        obtain ⟨b1, b2⟩ := upd_ba (g := hg n l k (chL 20 0) 0) (k := k) hlt 19 []
        obtain ⟨t1, t2⟩ := upd_tx (g := hg n l k (chL 20 0) 0) (k := k) hlt 18 [⟨⟨#[]⟩, 3⟩] 4 (t := tBeh) (by decide)
        have BA := hide (fun W (h : Wk w4 W b L ((hg n l k (chL 20 0) 0).upd k ⟨20, 20, [], 3⟩)) => h.bar (k : Int) 3 (fun j _ => upd_nx (fun i => hg_nx (by decide) i) (by decide) j) b1)
        rw [b2] at BA
        have TX := hide (fun W (h : Wk w4 W b L ((hg n l k (chL 20 0) 0).upd k ⟨20, 19, [⟨⟨#[]⟩, 3⟩], 4⟩)) => h.text (k : Int) ⟨#[98, 101, 104, 105, 110, 100]⟩ (by decide) t1)
        have t2' : ((hg n l k (chL 20 0) 0).upd k ⟨20, 19, [⟨⟨#[]⟩, 3⟩], 4⟩).txS (k : Int) ⟨#[98, 101, 104, 105, 110, 100]⟩ = hg n l (k + 1) (chL 20 0) 0 := t2.trans (hg_next _ _ he)
        rw [t2'] at TX
        clear b1 b2 t1 t2 t2'
        go_wp2_with fail
        refine (unhide GV).mono ?_
        rintro r w6 ⟨rfl, h1, _⟩
        have H1 := hide h1
        clear h1 GV
        go_wp2_with fail
        refine (unhide BA _ (unhide H1)).mono ?_
        rintro r w7 ⟨rfl, h1, _⟩
        have H2 := hide h1
        clear h1 BA H1
        go_wp2_with fail
        refine (unhide TX _ (unhide H2)).mono ?_
        rintro r w8 ⟨rfl, h1, _⟩
        have HN := hide h1
        clear h1 TX H2
        go_wp2
        go_roundw
        case rel => exact ⟨k + 1, by omega, by go_num, HN⟩
        case measure => simp [intOf]; omega
    · obtain rfl : k = n := by omega
      have HR : Hid (Wk w4 wr b L (hL k l (20 - 0) 0 0)) := HR
      go_wp2
      go_loopw [69] (fun i wr => ∃ c : Nat, c ≤ m ∧ i = .int .i64 (c : Int) ∧ Hid (Wk w4 wr b L (hL k l (20 - c) c 0))) (fun i _ => m - (intOf i).toNat)
      case atStart => exact ⟨0, Nat.zero_le _, rfl, HR⟩
      case round =>
        obtain ⟨c, hc, rfl, HQ⟩ := hrel
        clear HR
        by_cases hlt2 : c < m
        · have hli : (c : Int) < (m : Int) := by omega
          obtain ⟨t1, t2⟩ := hL_text (n := k) (l := l) (o := 20 - (c + 1)) (r := c) hln
          rw [show 20 - (c + 1) + 1 = 20 - c by omega] at t1 t2
          have TX := hide ((unhide HQ).text (l : Int) ⟨#[97, 104, 101, 97, 100]⟩ (by decide) t1)
          have t2' : (hL k l (20 - c) c 0).txS (l : Int) ⟨#[97, 104, 101, 97, 100]⟩ = hL k l (20 - (c + 1)) (c + 1) 0 := t2
          rw [t2'] at TX
          clear t1 t2 t2' HQ
          go_wp2_with fail
          refine (unhide TX).mono ?_
          rintro r w8 ⟨rfl, h1, _⟩
          have HN := hide h1
          clear h1 TX
          go_wp2
          go_roundw
          case rel => exact ⟨c + 1, by omega, by go_num, HN⟩
          case measure => simp [intOf]; omega
        · obtain rfl : c = m := by omega
          have HQ : Hid (Wk w4 wr b L (hL k l (20 - c) (c - 0) 0)) := HQ
          go_wp2
          go_loopw [77] (fun i wr => ∃ d t : Nat, d ≤ c ∧ t < k ∧ i = .int .i64 (d : Int) ∧ Hid (Wk w4 wr b L (hL k l (20 - c) (c - d) t))) (fun i _ => c - (intOf i).toNat)
          case atStart => exact ⟨0, 0, Nat.zero_le _, by omega, rfl, HQ⟩
          case round =>
            obtain ⟨d, tt, hd, ht, rfl, HP⟩ := hrel
            clear HQ
            by_cases hlt3 : d < c
            · have hli : (d : Int) < (c : Int) := by omega
              obtain ⟨p1, p2, p3, p4, p5⟩ := hL_pull (n := k) (l := l) (o := 20 - c) (r := c - (d + 1)) hln ht
              rw [show c - (d + 1) + 1 = c - d by omega] at p1 p2 p3 p4 p5
              have PL := hide ((unhide HP).pull (t := ⟨#[97, 104, 101, 97, 100]⟩) p1 p2 p3 p4)
              rw [p5] at PL
              have hlt4 : (l + 1) % k < k := Nat.mod_lt _ (by omega)
              clear p1 p2 p3 p4 p5 HP
              generalize (l + 1) % k = t' at *
              go_wp2_with fail
              refine (unhide PL).mono ?_
              rintro r w8 ⟨rfl, h1, _⟩
              have HN := hide h1
              clear h1 PL
              go_wp2
              go_roundw
              case rel => exact ⟨d + 1, t', by omega, by omega, by go_num, HN⟩
              case measure => simp [intOf]; omega
            · obtain rfl : d = c := by omega
              rw [Nat.sub_self] at HP
              obtain ⟨p1, p2, p3, p4, p5⟩ := hL_none (n := k) (l := l) (o := 20 - d) (t := tt) hln
              have PL := hide ((unhide HP).pull p1 p2 p3 p4)
              rw [p5] at PL
              obtain ⟨b1, b2⟩ := hL_bar (n := k) (l := l) (o := 19 - d) (t := tt) hln
              rw [show 19 - d + 1 = 20 - d by omega] at b1 b2
              have BA := hide (fun W (h : Wk w4 W b L (hL k l (20 - d) 0 tt)) => h.bar (l : Int) 3 (fun j _ => hg_nx (show (3 : Nat) ≤ 4 by decide) j) b1)
              rw [b2] at BA
              obtain ⟨q1, q2, q3, q4, q5⟩ := pl_all (hM_all (n := k) (l := l) (o := 19 - d) (t := tt))
              have q3 := q3.trans (hM_bar (n := k) (l := l) (o := 19 - d) (t := tt) (by omega))
              have PA := hide (fun W (h : Wk w4 W b L (hg k l k (chM (19 - d)) tt)) => h.pull q1 q2 q3 q4)
              rw [q5] at PA
              have HS := hide (hs_start (n := k) (l := l) (o := 19 - d) hln ht)
              clear p1 p2 p3 p4 p5 b1 b2 q1 q2 q3 q4 q5 HP
              go_wp2_with fail
              refine (unhide PL).mono ?_
              rintro r w8 ⟨rfl, h1, _⟩
              have H1 := hide h1
              clear h1 PL
              go_wp2_with fail
              refine (unhide BA _ (unhide H1)).mono ?_
              rintro r w9 ⟨rfl, h1, _⟩
              have H2 := hide h1
              clear h1 BA H1
              go_wp2_with fail
              refine (unhide PA _ (unhide H2)).mono ?_
              rintro r wa ⟨rfl, h1, _⟩
              have H3 : Hid (∃ G, Wk w4 wa b L G ∧ Hs k (k - 1 - 0) G) := hide ⟨_, h1, unhide HS⟩
              clear h1 PA H2 HS
              go_wp2
              go_loopw [138] (fun i wr => ∃ e : Nat, e ≤ k - 1 ∧ i = .int .i64 (e : Int) ∧ Hid (∃ G, Wk w4 wr b L G ∧ Hs k (k - 1 - e) G)) (fun i _ => k - 1 - (intOf i).toNat)
              case atStart => exact ⟨0, Nat.zero_le _, rfl, H3⟩
              case round =>
                obtain ⟨e, he, rfl, HE⟩ := hrel
                clear H3
                obtain ⟨G, hG, hS⟩ := unhide HE
                clear HE
                by_cases hlt5 : e < k - 1
                · have hli : (e : Int) < ((k - 1 : Nat) : Int) := by omega
                  rw [show k - 1 - e = (k - 1 - (e + 1)) + 1 by omega] at hS
                  obtain ⟨p2, p3, p4, p5⟩ := hs_pull hS (by omega)
                  have PL := hide (hG.pull (t := ⟨#[98, 101, 104, 105, 110, 100]⟩) (c := G.plC) rfl p2 p3 p4)
                  have H5 := hide p5
                  clear p2 p3 p4 p5 hG hS
                  generalize G.plC = pc at *
                  generalize G.plS = G2 at *
                  have hk7 : k - 1 ≤ 7 := by omega
                  generalize k - 1 = kk at *
                  go_wp2_with fail
                  refine (unhide PL).mono ?_
                  rintro r wb ⟨rfl, h1, _⟩
                  have HN : Hid (∃ G, Wk w4 wb b L G ∧ Hs k (kk - (e + 1)) G) := hide ⟨_, h1, unhide H5⟩
                  clear h1 PL H5
                  go_wp2
                  go_roundw
                  case rel => exact ⟨e + 1, by omega, by go_num, HN⟩
                  case measure => simp [intOf]; omega
                · obtain rfl : e = k - 1 := by omega
                  rw [Nat.sub_self] at hS
                  have PL := hide (hG.pull (c := G.plC) (t := G.plT) (m := G.plB) rfl rfl rfl (hs_done hS (by omega)))
                  clear hG hS
                  generalize G.plC = pc at *
                  generalize G.plT = pt at *
                  generalize G.plB = pb at *
                  generalize G.plS = G2 at *
                  generalize k - 1 = kk at *
                  go_wp2_with fail
                  refine (unhide PL).mono ?_
                  rintro r wb ⟨rfl, h1, _⟩
                  have HN := hide (kp_below ((unhide K1).trans h1.kp (by simp)))
                  clear h1 PL
                  go_wp2
                  go_ret
                  exact ⟨rfl, unhide HN⟩
end Go.Proofs.Ytcgmoadahdkbbaa
namespace Go.Proofs.Ytcgmoadahdkbbaa
open Go.RowKit Go.Deep

/-- One of them. -/
structure M21 where
  k : Int
  c : Int
def M21.ok (a : M21) : Prop := (-9223372036854775808 ≤ a.k ∧ a.k ≤ 9223372036854775807) ∧ (-9223372036854775808 ≤ a.c ∧ a.c ≤ 9223372036854775807)
def M21At (w : World) (ad : Option Addr) (l : List M21) : Prop :=
  l ≠ [] → ∃ b off, ad = some ⟨b, off, none⟩ ∧ b < w.heap.size ∧ ∀ i (h : i < l.length), w.cell? ⟨b, off + i * 2, none⟩ = some (.int .i64 l[i].k) ∧ w.cell? ⟨b, off + i * 2 + 1, none⟩ = some (.int .i64 l[i].c)
theorem M21At.kp {w w' : World} {ad : Option Addr} {l : List M21} (h : M21At w ad l) (hk : Kp [] w w') : M21At w' ad l := fun hl => by
  obtain ⟨b, off, e, hlt, hc⟩ := h hl
  refine ⟨b, off, e, Nat.lt_of_lt_of_le hlt hk.size, fun i hi => ?_⟩
  obtain ⟨c0, c1⟩ := hc i hi
  exact ⟨hk.cell c0 (by simp), hk.cell c1 (by simp)⟩
theorem M21At.at {w : World} {ad : Option Addr} {l : List M21} (h : M21At w ad l) (i : Nat) (hi : i < l.length) : ∃ b off, ad = some ⟨b, off, none⟩ ∧ b < w.heap.size ∧ w.cell? ⟨b, off + i * 2, none⟩ = some (.int .i64 l[i].k) ∧ w.cell? ⟨b, off + i * 2 + 1, none⟩ = some (.int .i64 l[i].c) := by
  obtain ⟨b, off, e, hlt, hc⟩ := h (by intro e; subst e; simp at hi)
  exact ⟨b, off, e, hlt, hc i hi⟩
theorem open_mv21_cells : Try.prog.cellsOf 48 = 2 := by kernel_rfl
theorem open_mv21_cells_int : Try.prog.cellsOf 3 = 1 := by kernel_rfl
theorem open_mv21_fields : ∃ f0 f1 : Field, Try.prog.underlying 48 = some (.struct #[f0, f1]) ∧ f0.type = 3 ∧ f1.type = 3 ∧ f0.offset = 0 ∧ f1.offset = 1 :=
  ⟨_, _, Try.underlying48, rfl, rfl, rfl, rfl⟩
theorem open_mv21_list {α : Type} : ∀ (l : List α), l.length = 2 → ∃ x0 x1, l = [x0, x1]
  | [x0, x1], _ => ⟨x0, x1, rfl⟩
set_option maxRecDepth 100000 in
theorem open_mv21 {H : Type} {enc : TypeId × Value → H} {W : World} {spare : Nat → Bool} {held : Bool} {fuel : Nat} {v : Value} {x : DataW H × List MemPlace}
    (h : DataW.trod enc Try.prog W 0 spare held fuel 39 [v] = some x) :
    ∃ (ad : Option Addr) (cap : Nat) (l : List M21), v = .slice ad l.length cap ∧ l.length ≤ 9223372036854775807 ∧ M21At W ad l ∧ ∀ y ∈ l, y.ok := by
  obtain ⟨f0, f1, hu, t0, t1, o0, o1⟩ := open_mv21_fields
  rcases open_slice Try.underlying39 h with ⟨hcs, _⟩ | ⟨a, len, cap, m, n, D, Pl, hcs, hb, hl, hm, hmm, _, hx⟩
  · simp only [List.cons.injEq, and_true] at hcs
    subst hcs
    exact ⟨none, 0, [], rfl, by simp, fun hne => absurd rfl hne, by simp⟩
  · simp only [List.cons.injEq, and_true] at hcs
    subst hcs
    have hlm : len ≤ m := by rw [hmm]; split <;> omega
    have each : ∀ i, i < len → ∃ y : M21, W.cell? (a.add (i * 2)) = some (.int .i64 y.k) ∧ W.cell? (a.add (i * 2 + 1)) = some (.int .i64 y.c) ∧ y.ok := by
      intro i hi
      obtain ⟨cs', h1, h2⟩ := hx i (by omega)
      rw [open_mv21_cells] at h1
      obtain ⟨_, hlen, hcell⟩ := World.cells?_some h1
      obtain ⟨xs, k, hk, hxy, _, hxl, hf⟩ := DataW.trod_struct hu h2
      obtain ⟨y0, y1, rfl⟩ := open_mv21_list xs hxl
      obtain ⟨v0, v1, rfl⟩ := open_mv21_list cs' hlen
      have g0 := hf 0 f0 rfl
      have g1 := hf 1 f1 rfl
      simp [o0, o1, t0, t1, open_mv21_cells_int] at g0 g1
      have e0 := hcell 0 (by omega)
      have e1 := hcell 1 (by omega)
      rw [Go.Deep.add_add] at e0 e1
      obtain ⟨k0, q0, _, wf0⟩ := DataW.trod_int Try.underlying3 g0
      obtain ⟨k1, q1, _, wf1⟩ := DataW.trod_int Try.underlying3 g1
      simp only [List.cons.injEq, and_true] at q0 q1
      subst q0 q1
      have b0 := bounds_i64 wf0
      have b1 := bounds_i64 wf1
      exact ⟨⟨k0, k1⟩, by simpa using e0, by simpa using e1, ⟨b0.1, by show k0 ≤ _; omega⟩, ⟨b1.1, by show k1 ≤ _; omega⟩⟩
    have hinh : Inhabited M21 := ⟨⟨0, 0⟩⟩
    obtain ⟨q, hq⟩ := choose_lt each
    refine ⟨some a, cap, (List.range len).map q, by simp, by simp; unfold maxLen at hm; omega, fun hne => ?_, fun y hy => ?_⟩
    · have h0 : 0 < len := by
        rcases Nat.eq_zero_or_pos len with e | e
        · subst e; simp at hne
        · exact e
      obtain ⟨b, off, spot⟩ := a
      have hc0 := (hq 0 h0).1
      have hspot : spot = none := by simpa [Addr.add] using World.cell?_spot hc0
      subst hspot
      refine ⟨b, off, rfl, ?_, fun i hi => ?_⟩
      · rcases Nat.lt_or_ge b W.heap.size with hlt | hge
        · exact hlt
        · exfalso
          rw [Go.WideShapes.add_plain] at hc0
          simp [World.cell?, Array.getElem?_eq_none hge] at hc0
      · have hi' : i < len := by simpa using hi
        obtain ⟨c0, c1, _⟩ := hq i hi'
        rw [Go.WideShapes.add_plain] at c0 c1
        simp only [List.getElem_map, List.getElem_range]
        exact ⟨c0, by rw [Nat.add_assoc]; exact c1⟩
    · obtain ⟨i, hi, rfl⟩ := List.mem_map.1 hy
      exact (hq i (List.mem_range.1 hi)).2.2
end Go.Proofs.Ytcgmoadahdkbbaa
