/-
  Gates: the chapter's example.
  GateAligned: what it begins with.
  GateAligned: what there is behind so many moves; a number put behind a channel's.
  Gates: Blocked: of each channel whether it is blocked.
-/
import Derived.Test.YtcgmoadahdkbbaaGa10
import Derived.Test.YtcgmoadahdkbbaaGa11
import Derived.Laws.MakeOwn
import Derived.Test.YtcgmoadahdkbbaaGa09
namespace Go.Proofs.Ytcgmoadahdkbbaa
open Go.RowKit Gt Cr

theorem wr_at {g : Nat} {W : World} (h : CBox g wkC 74 W) (i : Nat) {v : Value} (hi : wkC[i]? = some v) : W.cell? ⟨g, i, none⟩ = some v := CBox.cell h hi
theorem wg_k0 : wp 0 = wg 8 := rfl
set_option maxHeartbeats 8000000 in
set_option maxRecDepth 100000 in
theorem gWorks_any (w : World) : Calls Try.prog 12 #[] w fun e w' => e = .returned (.bool true) ∧ Kp [] w w' := by
  have N := hide (newGate_ok 2 9 1 w (by decide) (by decide) (by decide) (by decide) (by decide) (by decide))
  have S0 : Hid (∀ W b L, Wk w W b L (wg 0) → _) := hide (fun W b L (h : Wk w W b L (wg 0)) => h.give 0 9 (n := 9) (e0 := 0) (by kernel_rfl) (by kernel_rfl))
  have S1 : Hid (∀ W b L, Wk w W b L (wg 1) → _) := hide (fun W b L (h : Wk w W b L (wg 1)) => h.give 1 9 (n := 9) (e0 := 0) (by kernel_rfl) (by kernel_rfl))
  have S2 : Hid (∀ W b L, Wk w W b L (wg 2) → _) := hide (fun W b L (h : Wk w W b L (wg 2)) => h.text 0 ⟨#[97]⟩ (by decide) (e0 := 0) (by kernel_rfl))
  have S3 : Hid (∀ W b L, Wk w W b L (wg 3) → _) := hide (fun W b L (h : Wk w W b L (wg 3)) => h.bar 0 1 (wg_next 3 (by decide)) (e0 := 0) (by kernel_rfl))
  have S4 : Hid (∀ W b L, Wk w W b L (wg 4) → _) := hide (fun W b L (h : Wk w W b L (wg 4)) => h.text 0 ⟨#[98]⟩ (by decide) (e0 := 0) (by kernel_rfl))
  have S5 : Hid (∀ W b L, Wk w W b L (wg 5) → _) := hide (fun W b L (h : Wk w W b L (wg 5)) => h.text 1 ⟨#[99]⟩ (by decide) (e0 := 0) (by kernel_rfl))
  have S6 : Hid (∀ W b L, Wk w W b L (wg 6) → _) := hide (fun W b L (h : Wk w W b L (wg 6)) => h.text 1 ⟨#[100]⟩ (by decide) (e0 := 0) (by kernel_rfl))
  have S7 : Hid (∀ W b L, Wk w W b L (wg 7) → _) := hide (fun W b L (h : Wk w W b L (wg 7)) => h.bar 1 1 (wg_next 7 (by decide)) (e0 := 0) (by kernel_rfl))
  have P0 : Hid (∀ W b L, Wk w W b L (wp 0) → _) := hide (fun W b L (h : Wk w W b L (wp 0)) => h.pull (c := 0) (t := ⟨#[97]⟩) (m := 0) (e0 := 0) (by kernel_rfl) (by kernel_rfl) (by kernel_rfl) (by kernel_rfl))
  have P1 : Hid (∀ W b L, Wk w W b L (wp 1) → _) := hide (fun W b L (h : Wk w W b L (wp 1)) => h.pull (c := 1) (t := ⟨#[99]⟩) (m := 0) (e0 := 0) (by kernel_rfl) (by kernel_rfl) (by kernel_rfl) (by kernel_rfl))
  have P2 : Hid (∀ W b L, Wk w W b L (wp 2) → _) := hide (fun W b L (h : Wk w W b L (wp 2)) => h.pull (c := 1) (t := ⟨#[100]⟩) (m := 0) (e0 := 0) (by kernel_rfl) (by kernel_rfl) (by kernel_rfl) (by kernel_rfl))
  have P3 : Hid (∀ W b L, Wk w W b L (wp 3) → _) := hide (fun W b L (h : Wk w W b L (wp 3)) => h.pull (c := (-1)) (t := ⟨#[]⟩) (m := 1) (e0 := 0) (by kernel_rfl) (by kernel_rfl) (by kernel_rfl) (by kernel_rfl))
  have P4 : Hid (∀ W b L, Wk w W b L (wp 4) → _) := hide (fun W b L (h : Wk w W b L (wp 4)) => h.pull (c := 0) (t := ⟨#[98]⟩) (m := 0) (e0 := 0) (by kernel_rfl) (by kernel_rfl) (by kernel_rfl) (by kernel_rfl))
  have P5 : Hid (∀ W b L, Wk w W b L (wp 5) → _) := hide (fun W b L (h : Wk w W b L (wp 5)) => h.pull (c := 0) (t := ⟨#[]⟩) (m := 0) (e0 := 5) (by kernel_rfl) (by kernel_rfl) (by kernel_rfl) (by kernel_rfl))
  go_enter Try.func12, Try.ntmps12
  go_wp2_with fail
  refine (unhide N).mono ?_
  rintro r w1 ⟨b, rfl, h1, h2⟩
  generalize hL : w.heap.size = L at h1
  have A0 : Hid (Wk w w1 b L (wg 0)) := hide ⟨by rw [hL]; exact h1, h2⟩
  clear h1 h2 N
  go_wp2_with fail
  refine (unhide S0 _ _ _ (unhide A0)).mono ?_
  rintro r w2 ⟨rfl, h1, _⟩
  have A1 : Hid (Wk w w2 b L (wg 1)) := hide h1
  clear h1 S0 A0
  go_wp2_with fail
  refine (unhide S1 _ _ _ (unhide A1)).mono ?_
  rintro r w3 ⟨rfl, h1, _⟩
  have A2 : Hid (Wk w w3 b L (wg 2)) := hide h1
  clear h1 S1 A1
  go_wp2_with fail
  refine (unhide S2 _ _ _ (unhide A2)).mono ?_
  rintro r w4 ⟨rfl, h1, _⟩
  have A3 : Hid (Wk w w4 b L (wg 3)) := hide h1
  clear h1 S2 A2
  go_wp2_with fail
  refine (unhide S3 _ _ _ (unhide A3)).mono ?_
  rintro r w5 ⟨rfl, h1, _⟩
  have A4 : Hid (Wk w w5 b L (wg 4)) := hide h1
  clear h1 S3 A3
  go_wp2_with fail
  refine (unhide S4 _ _ _ (unhide A4)).mono ?_
  rintro r w6 ⟨rfl, h1, _⟩
  have A5 : Hid (Wk w w6 b L (wg 5)) := hide h1
  clear h1 S4 A4
  go_wp2_with fail
  refine (unhide S5 _ _ _ (unhide A5)).mono ?_
  rintro r w7 ⟨rfl, h1, _⟩
  have A6 : Hid (Wk w w7 b L (wg 6)) := hide h1
  clear h1 S5 A5
  go_wp2_with fail
  refine (unhide S6 _ _ _ (unhide A6)).mono ?_
  rintro r w8 ⟨rfl, h1, _⟩
  have A7 : Hid (Wk w w8 b L (wg 7)) := hide h1
  clear h1 S6 A6
  go_wp2_with fail
  refine (unhide S7 _ _ _ (unhide A7)).mono ?_
  rintro r w9 ⟨rfl, h1, _⟩
  have A8 : Hid (Wk w w9 b L (wg 8)) := hide h1
  clear h1 S7 A7
  have CB : Hid (CBox w9.heap.size wkC 74 (w9.alloc (.cells wkC 74))) := hide (CBox.new w9 _ _)
  have A9 : Hid (Wk w (w9.alloc (.cells wkC 74)) b L (wp 0)) := hide ((unhide A8).quiet (Kp.alloc _ _))
  go_wp2
  change Code.wp _ _ _ _ (w9.alloc (.cells wkC 74))
  clear A8
  generalize w9.alloc (.cells wkC 74) = W0 at *
  generalize w9.heap.size = g at *
  go_loopw [58] (fun i wr => ∃ k : Nat, k ≤ 5 ∧ i = .int .i64 (k : Int) ∧ Hid (Wk w wr b L (wp k) ∧ CBox g wkC 74 wr)) (fun i _ => 5 - (intOf i).toNat)
  case atStart => exact ⟨0, Nat.zero_le _, rfl, hide ⟨unhide A9, unhide CB⟩⟩
  case round =>
    obtain ⟨k, hk, rfl, HR⟩ := hrel
    clear A9 CB
    rcases (by omega : k = 0 ∨ k = 1 ∨ k = 2 ∨ k = 3 ∨ k = 4 ∨ k = 5) with rfl | rfl | rfl | rfl | rfl | rfl
    · have c0 := wr_at (unhide HR).2 0 (v := .int .i64 0) rfl
      have c1 := wr_at (unhide HR).2 1 (v := .string ⟨#[97]⟩) rfl
      have c2 := wr_at (unhide HR).2 2 (v := .int .i64 0) rfl
      clear P1 P2 P3 P4 P5
      go_wp2_with fail
      refine (unhide P0 _ _ _ ((unhide HR).1.quiet (Kp.alloc wr (.cells #[.int .i64 0, .string ⟨#[97]⟩, .int .i64 0] 74)))).mono ?_
      rintro r w2 ⟨rfl, h1, h2⟩
      have xb := (CBox.new wr #[.int .i64 0, .string ⟨#[97]⟩, .int .i64 0] 74).ko h2 (Or.inr rfl)
      have x0 := xb.cell (i := 0) rfl
      have x1 := xb.cell (i := 1) rfl
      have x2 := xb.cell (i := 2) rfl
      have HN : Hid (Wk w w2 b L (wp 1) ∧ CBox g wkC 74 w2) := hide ⟨h1, ((unhide HR).2.kp (Kp.alloc wr (.cells #[.int .i64 0, .string ⟨#[97]⟩, .int .i64 0] 74)) (by simp)).ko h2 (Or.inr rfl)⟩
      clear h1 h2 xb c0 c1 c2 HR P0
      go_wp2
      go_roundw
      case rel => exact ⟨1, by omega, by trivial, HN⟩
      case measure => simp [intOf]
    · have c0 := wr_at (unhide HR).2 3 (v := .int .i64 1) rfl
      have c1 := wr_at (unhide HR).2 4 (v := .string ⟨#[99]⟩) rfl
      have c2 := wr_at (unhide HR).2 5 (v := .int .i64 0) rfl
      clear P0 P2 P3 P4 P5
      go_wp2_with fail
      refine (unhide P1 _ _ _ ((unhide HR).1.quiet (Kp.alloc wr (.cells #[.int .i64 1, .string ⟨#[99]⟩, .int .i64 0] 74)))).mono ?_
      rintro r w2 ⟨rfl, h1, h2⟩
      have xb := (CBox.new wr #[.int .i64 1, .string ⟨#[99]⟩, .int .i64 0] 74).ko h2 (Or.inr rfl)
      have x0 := xb.cell (i := 0) rfl
      have x1 := xb.cell (i := 1) rfl
      have x2 := xb.cell (i := 2) rfl
      have HN : Hid (Wk w w2 b L (wp 2) ∧ CBox g wkC 74 w2) := hide ⟨h1, ((unhide HR).2.kp (Kp.alloc wr (.cells #[.int .i64 1, .string ⟨#[99]⟩, .int .i64 0] 74)) (by simp)).ko h2 (Or.inr rfl)⟩
      clear h1 h2 xb c0 c1 c2 HR P1
      go_wp2
      go_roundw
      case rel => exact ⟨2, by omega, by trivial, HN⟩
      case measure => simp [intOf]
    · have c0 := wr_at (unhide HR).2 6 (v := .int .i64 1) rfl
      have c1 := wr_at (unhide HR).2 7 (v := .string ⟨#[100]⟩) rfl
      have c2 := wr_at (unhide HR).2 8 (v := .int .i64 0) rfl
      clear P0 P1 P3 P4 P5
      go_wp2_with fail
      refine (unhide P2 _ _ _ ((unhide HR).1.quiet (Kp.alloc wr (.cells #[.int .i64 1, .string ⟨#[100]⟩, .int .i64 0] 74)))).mono ?_
      rintro r w2 ⟨rfl, h1, h2⟩
      have xb := (CBox.new wr #[.int .i64 1, .string ⟨#[100]⟩, .int .i64 0] 74).ko h2 (Or.inr rfl)
      have x0 := xb.cell (i := 0) rfl
      have x1 := xb.cell (i := 1) rfl
      have x2 := xb.cell (i := 2) rfl
      have HN : Hid (Wk w w2 b L (wp 3) ∧ CBox g wkC 74 w2) := hide ⟨h1, ((unhide HR).2.kp (Kp.alloc wr (.cells #[.int .i64 1, .string ⟨#[100]⟩, .int .i64 0] 74)) (by simp)).ko h2 (Or.inr rfl)⟩
      clear h1 h2 xb c0 c1 c2 HR P2
      go_wp2
      go_roundw
      case rel => exact ⟨3, by omega, by trivial, HN⟩
      case measure => simp [intOf]
    · have c0 := wr_at (unhide HR).2 9 (v := .int .i64 (-1)) rfl
      have c1 := wr_at (unhide HR).2 10 (v := .string ⟨#[]⟩) rfl
      have c2 := wr_at (unhide HR).2 11 (v := .int .i64 1) rfl
      clear P0 P1 P2 P4 P5
      go_wp2_with fail
      refine (unhide P3 _ _ _ ((unhide HR).1.quiet (Kp.alloc wr (.cells #[.int .i64 (-1), .string ⟨#[]⟩, .int .i64 1] 74)))).mono ?_
      rintro r w2 ⟨rfl, h1, h2⟩
      have xb := (CBox.new wr #[.int .i64 (-1), .string ⟨#[]⟩, .int .i64 1] 74).ko h2 (Or.inr rfl)
      have x0 := xb.cell (i := 0) rfl
      have x1 := xb.cell (i := 1) rfl
      have x2 := xb.cell (i := 2) rfl
      have HN : Hid (Wk w w2 b L (wp 4) ∧ CBox g wkC 74 w2) := hide ⟨h1, ((unhide HR).2.kp (Kp.alloc wr (.cells #[.int .i64 (-1), .string ⟨#[]⟩, .int .i64 1] 74)) (by simp)).ko h2 (Or.inr rfl)⟩
      clear h1 h2 xb c0 c1 c2 HR P3
      go_wp2
      go_roundw
      case rel => exact ⟨4, by omega, by trivial, HN⟩
      case measure => simp [intOf]
    · have c0 := wr_at (unhide HR).2 12 (v := .int .i64 0) rfl
      have c1 := wr_at (unhide HR).2 13 (v := .string ⟨#[98]⟩) rfl
      have c2 := wr_at (unhide HR).2 14 (v := .int .i64 0) rfl
      clear P0 P1 P2 P3 P5
      go_wp2_with fail
      refine (unhide P4 _ _ _ ((unhide HR).1.quiet (Kp.alloc wr (.cells #[.int .i64 0, .string ⟨#[98]⟩, .int .i64 0] 74)))).mono ?_
      rintro r w2 ⟨rfl, h1, h2⟩
      have xb := (CBox.new wr #[.int .i64 0, .string ⟨#[98]⟩, .int .i64 0] 74).ko h2 (Or.inr rfl)
      have x0 := xb.cell (i := 0) rfl
      have x1 := xb.cell (i := 1) rfl
      have x2 := xb.cell (i := 2) rfl
      have HN : Hid (Wk w w2 b L (wp 5) ∧ CBox g wkC 74 w2) := hide ⟨h1, ((unhide HR).2.kp (Kp.alloc wr (.cells #[.int .i64 0, .string ⟨#[98]⟩, .int .i64 0] 74)) (by simp)).ko h2 (Or.inr rfl)⟩
      clear h1 h2 xb c0 c1 c2 HR P4
      go_wp2
      go_roundw
      case rel => exact ⟨5, by omega, by trivial, HN⟩
      case measure => simp [intOf]
    · clear P0 P1 P2 P3 P4
      go_wp2_with fail
      refine (unhide P5 _ _ _ (unhide HR).1).mono ?_
      rintro r w2 ⟨rfl, h1, h2⟩
      have H1 := hide h1.kp
      clear h1 h2 HR P5
      go_wp2
      go_ret
      exact ⟨rfl, unhide H1⟩
end Go.Proofs.Ytcgmoadahdkbbaa
namespace Go.Proofs.Ytcgmoadahdkbbaa
open Go.RowKit Gt Cr

theorem info_it8 : (Try.prog.info? 3).map (fun i => (i.zero, i.size, i.bytes)) = some (some (.int .i64 0), 1, 8) := by kernel_rfl
theorem info_its : (Try.prog.info? 42).map (fun i => (i.zero, i.size, i.bytes)) = some (some (.slice none 0 0), 1, 24) := by kernel_rfl
theorem mk_is (n : Nat) (hn : n ≤ 100000) (W : World) : (Instr.makeSlice 42 (.int .i64 (n : Int)) (.int .i64 (n : Int))).run Try.prog W = .ok (.slice (some ⟨W.heap.size, 0, none⟩) n n) (W.alloc (.cells (Array.replicate n (Value.int .i64 0)) 3)) := by
  obtain ⟨i0, hi, hz0, hz1, hz2⟩ := info_parts info_it8
  have h := run_make (P := Try.prog) W 42 3 i0 (.int .i64 0) Try.underlying42 hi hz0 .i64 .i64 (n : Int) (n : Int) (by omega) (by omega) (by rw [hz2]; omega) (by omega)
  rw [hz1] at h
  simp only [Int.toNat_natCast, Nat.mul_one] at h
  rw [h]
  have e : madeCells (Value.int .i64 0).cells n = Array.replicate n (Value.int .i64 0) := by
    apply Array.ext'
    rw [Array.toList_replicate]
    exact toList_madeCells_one (Value.int .i64 0) n
  rw [e]
theorem mk_iss (n : Nat) (hn : n ≤ 100000) (W : World) : (Instr.makeSlice 41 (.int .i64 (n : Int)) (.int .i64 (n : Int))).run Try.prog W = .ok (.slice (some ⟨W.heap.size, 0, none⟩) n n) (W.alloc (.cells (Array.replicate n (Value.slice none 0 0)) 42)) := by
  obtain ⟨i0, hi, hz0, hz1, hz2⟩ := info_parts info_its
  have h := run_make (P := Try.prog) W 41 42 i0 (.slice none 0 0) Try.underlying41 hi hz0 .i64 .i64 (n : Int) (n : Int) (by omega) (by omega) (by rw [hz2]; omega) (by omega)
  rw [hz1] at h
  simp only [Int.toNat_natCast, Nat.mul_one] at h
  rw [h]
  have e : madeCells (Value.slice none 0 0).cells n = Array.replicate n (Value.slice none 0 0) := by
    apply Array.ext'
    rw [Array.toList_replicate]
    exact toList_madeCells_one (Value.slice none 0 0) n
  rw [e]
theorem rowN_zero (n : Nat) : rowN n (fun _ => 0) = Array.replicate n (Value.int .i64 0) := by
  refine Array.ext_getElem? fun j => ?_
  unfold rowN
  by_cases h : j < n <;> simp [h]
theorem rowV_zero (n : Nat) : rowV n (fun _ => .slice none 0 0) = Array.replicate n (Value.slice none 0 0) := by
  refine Array.ext_getElem? fun j => ?_
  unfold rowV
  by_cases h : j < n <;> simp [h]
theorem GtAt.mono {B B' : Nat} {w : World} {b L : Nat} {G : Gt} (h : GtAt B w b L G) (hB : B' ≤ B) : GtAt B' w b L G := by
  obtain ⟨cs, rs, vs, h1, h2⟩ := h
  exact ⟨cs, rs, vs, h1, ⟨Nat.le_trans hB h2.b, Nat.le_trans hB h2.l, fun k hk => Nat.le_trans hB (h2.r k hk), fun k hk g hg => Nat.le_trans hB (h2.v k hk g hg)⟩⟩
/-- The world in which it begins: the gate's pointer, in's row and its box, out's row and its box, barriers' row, told. -/
def gaW (V : World) (b n : Nat) : World :=
  ((((((V.alloc (.cells #[.pointer (some ⟨b, 0, none⟩)] 25)).alloc (.cells (Array.replicate n (Value.slice none 0 0)) 42)).alloc (.cells #[.slice (some ⟨V.heap.size + 1, 0, none⟩) n n] 41)).alloc (.cells (Array.replicate n (Value.int .i64 0)) 3)).alloc (.cells #[.slice (some ⟨V.heap.size + 3, 0, none⟩) n n] 42)).alloc (.cells (Array.replicate n (Value.int .i64 0)) 3)).alloc (.cells #[.int .i64 0] 3)
def gaK (V : World) (q2 : Nat) : Bk := ⟨V.heap.size, V.heap.size + 6, q2, V.heap.size + 4, V.heap.size + 2, V.heap.size + 3, V.heap.size + 1, V.heap.size + 5⟩
theorem box_at {W : World} {cs : Array Value} {t : TypeId} {g : Nat} (h : g = W.heap.size) : CBox g cs t (W.alloc (.cells cs t)) := by subst h; exact CBox.new W _ _
theorem ga_start {w V : World} {b L n q2 : Nat} (h : GtAt w.heap.size V b L (gt0 n 256 1)) (hk : Kp [] w V) (h2 : CBox q2 #[.int .i64 (n : Int)] 3 V) (hq : w.heap.size ≤ q2) : Md w (gaW V b n) (gaK V q2) b L n (gt0 n 256 1) (fun _ => []) (fun _ => 0) (fun _ => 0) 0 (fun _ => .slice none 0 0) (V.heap.size + 7) ∧ (gaW V b n).heap.size = V.heap.size + 7 := by
  have hq2 : q2 < V.heap.size := (Array.getElem?_eq_some_iff.1 h2).1
  have hsz := hk.size
  obtain ⟨V1, e1⟩ : ∃ V1, V1 = V.alloc (.cells #[.pointer (some ⟨b, 0, none⟩)] 25) := ⟨_, rfl⟩
  obtain ⟨V2, e2⟩ : ∃ V2, V2 = V1.alloc (.cells (Array.replicate n (Value.slice none 0 0)) 42) := ⟨_, rfl⟩
  obtain ⟨V3, e3⟩ : ∃ V3, V3 = V2.alloc (.cells #[.slice (some ⟨V.heap.size + 1, 0, none⟩) n n] 41) := ⟨_, rfl⟩
  obtain ⟨V4, e4⟩ : ∃ V4, V4 = V3.alloc (.cells (Array.replicate n (Value.int .i64 0)) 3) := ⟨_, rfl⟩
  obtain ⟨V5, e5⟩ : ∃ V5, V5 = V4.alloc (.cells #[.slice (some ⟨V.heap.size + 3, 0, none⟩) n n] 42) := ⟨_, rfl⟩
  obtain ⟨V6, e6⟩ : ∃ V6, V6 = V5.alloc (.cells (Array.replicate n (Value.int .i64 0)) 3) := ⟨_, rfl⟩
  obtain ⟨V7, e7⟩ : ∃ V7, V7 = V6.alloc (.cells #[.int .i64 0] 3) := ⟨_, rfl⟩
  have eW : gaW V b n = V7 := by rw [e7, e6, e5, e4, e3, e2, e1]; rfl
  have s1 : V1.heap.size = V.heap.size + 1 := by rw [e1, World.size_alloc]
  have s2 : V2.heap.size = V.heap.size + 2 := by rw [e2, World.size_alloc, s1]
  have s3 : V3.heap.size = V.heap.size + 3 := by rw [e3, World.size_alloc, s2]
  have s4 : V4.heap.size = V.heap.size + 4 := by rw [e4, World.size_alloc, s3]
  have s5 : V5.heap.size = V.heap.size + 5 := by rw [e5, World.size_alloc, s4]
  have s6 : V6.heap.size = V.heap.size + 6 := by rw [e6, World.size_alloc, s5]
  have s7 : V7.heap.size = V.heap.size + 7 := by rw [e7, World.size_alloc, s6]
  have k67 : Kp [] V6 V7 := by rw [e7]; exact Kp.alloc _ _
  have k57 : Kp [] V5 V7 := (show Kp [] V5 V6 by rw [e6]; exact Kp.alloc _ _).trans k67 (by simp)
  have k47 : Kp [] V4 V7 := (show Kp [] V4 V5 by rw [e5]; exact Kp.alloc _ _).trans k57 (by simp)
  have k37 : Kp [] V3 V7 := (show Kp [] V3 V4 by rw [e4]; exact Kp.alloc _ _).trans k47 (by simp)
  have k27 : Kp [] V2 V7 := (show Kp [] V2 V3 by rw [e3]; exact Kp.alloc _ _).trans k37 (by simp)
  have k17 : Kp [] V1 V7 := (show Kp [] V1 V2 by rw [e2]; exact Kp.alloc _ _).trans k27 (by simp)
  have k07 : Kp [] V V7 := (show Kp [] V V1 by rw [e1]; exact Kp.alloc _ _).trans k17 (by simp)
  have b1 := (box_at (W := V) (cs := #[.pointer (some ⟨b, 0, none⟩)]) (t := 25) (g := V.heap.size) rfl)
  have b2 := (box_at (W := V1) (cs := Array.replicate n (Value.slice none 0 0)) (t := 42) (g := V.heap.size + 1) s1.symm)
  have b3 := (box_at (W := V2) (cs := #[.slice (some ⟨V.heap.size + 1, 0, none⟩) n n]) (t := 41) (g := V.heap.size + 2) s2.symm)
  have b4 := (box_at (W := V3) (cs := Array.replicate n (Value.int .i64 0)) (t := 3) (g := V.heap.size + 3) s3.symm)
  have b5 := (box_at (W := V4) (cs := #[.slice (some ⟨V.heap.size + 3, 0, none⟩) n n]) (t := 42) (g := V.heap.size + 4) s4.symm)
  have b6 := (box_at (W := V5) (cs := Array.replicate n (Value.int .i64 0)) (t := 3) (g := V.heap.size + 5) s5.symm)
  have b7 := (box_at (W := V6) (cs := #[.int .i64 0]) (t := 3) (g := V.heap.size + 6) s6.symm)
  rw [← e1] at b1
  rw [← e2] at b2
  rw [← e3] at b3
  rw [← e4] at b4
  rw [← e5] at b5
  rw [← e6] at b6
  rw [← e7] at b7
  rw [eW]
  refine ⟨⟨h.kp k07, hk.trans k07 (by simp), b1.kp k17 (by simp), b7, h2.kp k07 (by simp), b5.kp k57 (by simp), b3.kp k37 (by simp), ?_, ?_, ?_, fun c hc => World.ownsRow_nil _ _ _ _, fun _ _ _ _ _ g hg => (by cases hg), ⟨?_, ?_, ?_, ?_⟩⟩, s7⟩
  · rw [rowN_zero]; exact b4.kp k47 (by simp)
  · rw [rowN_zero]; exact b6.kp k67 (by simp)
  · rw [rowV_zero]; exact b2.kp k27 (by simp)
  all_goals (unfold gaK; dsimp only; omega)
end Go.Proofs.Ytcgmoadahdkbbaa
namespace Go.Proofs.Ytcgmoadahdkbbaa
open Go.RowKit Gt Cr

theorem tot_zero (n : Nat) : tot n (fun _ => []) (fun _ => 0) = 0 := by
  unfold tot
  generalize List.range n = l
  induction l with
  | nil => rfl
  | cons a r ih => simp only [List.map_cons, List.sum_cons, ih]; rfl
/-- What there is behind i moves. -/
def Gs (w W : World) (K : Bk) (b L n Bq i nx : Nat) : Prop := ∃ G I O Z told vs, Md w W K b L n G I O Z told vs Bq ∧ Al n G I O told ∧ tot n I O ≤ i ∧ (∀ c, c < n → (I c).length ≤ i ∧ Z c = zs (I c) ∧ ∀ m ∈ I c, m ≤ nx) ∧ Bq ≤ W.heap.size
theorem gs_up {w W : World} {K : Bk} {b L n Bq i nx j nx' : Nat} (h : Gs w W K b L n Bq i nx) (hi : i ≤ j) (hn : nx ≤ nx') : Gs w W K b L n Bq j nx' := by
  obtain ⟨G, I, O, Z, told, vs, h1, h2, h3, h4, h5⟩ := h
  exact ⟨G, I, O, Z, told, vs, h1, h2, by omega, fun c hc => ⟨by have := (h4 c hc).1; omega, (h4 c hc).2.1, fun m hm => by have := (h4 c hc).2.2 m hm; omega⟩, h5⟩
theorem gs_put {n i nx nx' c m : Nat} {I : Nat → List Nat} {O Z Z' : Nat → Nat} (hI : ∀ c, c < n → (I c).length ≤ i ∧ Z c = zs (I c) ∧ ∀ m ∈ I c, m ≤ nx) (ht : tot n I O ≤ i) (hc : c < n) (ho : O c ≤ (I c).length) (hm : m ≤ nx') (hn : nx ≤ nx') (hZ : ∀ d, d < n → Z' d = zs (upI I c m d)) :
    tot n (upI I c m) O ≤ i + 1 ∧ ∀ d, d < n → (upI I c m d).length ≤ i + 1 ∧ Z' d = zs (upI I c m d) ∧ ∀ x ∈ upI I c m d, x ≤ nx' := by
  refine ⟨by rw [tot_put hc ho]; omega, fun d hd => ⟨?_, hZ d hd, fun x hx => ?_⟩⟩
  · unfold upI
    by_cases e : d = c
    · subst e
      rw [if_pos rfl, List.length_append, List.length_singleton]
      have := (hI d hd).1; omega
    · rw [if_neg e]
      have := (hI d hd).1; omega
  · unfold upI at hx
    by_cases e : d = c
    · subst e
      rw [if_pos rfl] at hx
      rcases List.mem_append.1 hx with hx | hx
      · have := (hI d hd).2.2 x hx; omega
      · rw [List.mem_singleton] at hx; omega
    · rw [if_neg e] at hx
      have := (hI d hd).2.2 x hx; omega
/-- What an append to a channel's row leaves. -/
theorem gs_push {w W V3 w9 : World} {K : Bk} {b L n Bq i nx' c m g9 cap9 : Nat} {G : Gt} {I : Nat → List Nat} {O Z : Nat → Nat} {told : Nat} {vs : Nat → Value} (h : Md w W K b L n G I O Z told vs Bq) (ha : Al n G (upI I c m) O told) (hB : Bq ≤ W.heap.size) (hp : tot n (upI I c m) O ≤ i ∧ ∀ d, d < n → (upI I c m d).length ≤ i ∧ Z d = zs (upI I c m d) ∧ ∀ x ∈ upI I c m d, x ≤ nx') (hc : c < n) (k3 : Kp [] W V3)
    (ho : w9.ownsRow Bq 3 1 (.slice (some ⟨g9, 0, none⟩) ((I c).length + 1) cap9) ((I c).length + 1) (inC (I c) ++ [.int .i64 (m : Int)])) (hg : V3.grownBy w9 (vs c).ownBlock) (hat : (vs c).ownBlock = some g9 ∨ g9 = V3.heap.size) :
    w9.cell? ⟨K.gi, c, none⟩ = some (vs c) ∧ w9.cell? ⟨K.q7, 0, none⟩ = some (.slice (some ⟨K.gi, 0, none⟩) n n) ∧ w9.frozen? ⟨K.gi, c, none⟩ = false ∧ Gs w (w9.setCell ⟨K.gi, c, none⟩ (.slice (some ⟨g9, 0, none⟩) ((I c).length + 1) cap9)) K b L n Bq i nx' := by
  have h3 := h.quiet k3
  have hsz := k3.size
  have kg := Kp.of hg
  have hsz9 := kg.size
  have ir : IR Bq w9 (.slice (some ⟨g9, 0, none⟩) ((I c).length + 1) cap9) (I c ++ [m]) := by
    unfold IR inC
    rw [List.length_append, List.map_append]
    exact ho
  obtain ⟨a1, a2, a3⟩ := h3.push hc (by omega) ir hg hat
  refine ⟨a1, ?_, a2, ⟨G, _, O, Z, told, _, a3, ha, hp.1, hp.2, ?_⟩⟩
  · refine (h3.b7.kp kg (fun hm => ?_)).cell rfl
    have := (h3.ir c hc).block (k := K.q7) (by simpa using hm)
    have := h.bk.hi.2.2.2.2.1
    omega
  · have := (Kp.set w9 K.gi c (.slice (some ⟨g9, 0, none⟩) ((I c).length + 1) cap9)).size
    omega
theorem zs_up {n c m : Nat} {I : Nat → List Nat} {Z : Nat → Nat} (hI : ∀ c, c < n → Z c = zs (I c)) (hm : m ≠ 0) : ∀ d, d < n → Z d = zs (upI I c m d) := fun d hd => by
  unfold upI
  by_cases e : d = c
  · subst e; rw [if_pos rfl, zs_snoc, if_neg hm, Nat.add_zero]; exact hI d hd
  · rw [if_neg e]; exact hI d hd
theorem zs_up0 {n c : Nat} {I : Nat → List Nat} {Z : Nat → Nat} (hI : ∀ c, c < n → Z c = zs (I c)) : ∀ d, d < n → upO Z c d = zs (upI I c 0 d) := fun d hd => by
  unfold upI upO
  by_cases e : d = c
  · subst e; rw [if_pos rfl, if_pos rfl, zs_snoc, if_pos rfl, hI d hd]
  · rw [if_neg e, if_neg e]; exact hI d hd
end Go.Proofs.Ytcgmoadahdkbbaa
namespace Go.Proofs.Ytcgmoadahdkbbaa
open Go.RowKit Gt Cr

theorem info_bo : (Try.prog.info? 4).map (fun i => (i.zero, i.size, i.bytes)) = some (some (.bool false), 1, 1) := by kernel_rfl
/-- The first of these marks, in a row of as many as there are channels. -/
def blC (f : Nat → Bool) (n k : Nat) : List Value := (List.range n).map fun j => .bool (decide (j < k) && f j)
theorem blC_len (f : Nat → Bool) (n k : Nat) : (blC f n k).length = n := by unfold blC; simp
theorem blC_zero (f : Nat → Bool) (n : Nat) : blC f n 0 = List.replicate n (.bool false) := by
  refine List.ext_getElem (by simp [blC]) fun i h1 h2 => ?_
  simp [blC]
theorem blC_set (f : Nat → Bool) {n k : Nat} (_h : k < n) : (blC f n k).set k (.bool (f k)) = blC f n (k + 1) := by
  refine List.ext_getElem (by simp [blC]) fun i h1 h2 => ?_
  rw [List.getElem_set]
  split
  · rename_i e
    subst e
    simp [blC]
  · rename_i e
    simp only [blC, List.getElem_map, List.getElem_range]
    by_cases h3 : i < k
    · rw [decide_eq_true h3, decide_eq_true (by omega)]
    · rw [decide_eq_false h3, decide_eq_false (by omega)]
theorem blC_at (f : Nat → Bool) {n k j : Nat} (h : j < n) (hk : j < k) : (blC f n k)[j]? = some (.bool (f j)) := by
  rw [List.getElem?_eq_getElem (by rw [blC_len]; exact h)]
  simp [blC, hk]
theorem mk_bo (n : Nat) (hn : n ≤ 100000) (W : World) : (Instr.makeSlice 35 (.int .i64 (n : Int)) (.int .i64 (n : Int))).run Try.prog W = .ok (.slice (some ⟨W.heap.size, 0, none⟩) n n) (W.alloc (.cells (Array.replicate n (Value.bool false)) 4)) := by
  obtain ⟨i0, hi, hz0, hz1, hz2⟩ := info_parts info_bo
  have h := run_make (P := Try.prog) W 35 4 i0 (.bool false) Try.underlying35 hi hz0 .i64 .i64 (n : Int) (n : Int) (by omega) (by omega) (by rw [hz2]; omega) (by omega)
  rw [hz1] at h
  simp only [Int.toNat_natCast, Nat.mul_one] at h
  rw [h]
  have e : madeCells (Value.bool false).cells n = Array.replicate n (Value.bool false) := by
    apply Array.ext'
    rw [Array.toList_replicate]
    exact toList_madeCells_one (Value.bool false) n
  rw [e]
/-- A row of marks of the call's own. -/
def BlRow (w0 w : World) (v : Value) (n : Nat) (f : Nat → Bool) : Prop := ∃ g, v = .slice (some ⟨g, 0, none⟩) n n ∧ w0.heap.size ≤ g ∧ CBox g (blC f n n).toArray 4 w
theorem BlRow.kp {w0 w w' : World} {v : Value} {n : Nat} {f : Nat → Bool} (h : BlRow w0 w v n f) (hk : Kp [] w w') : BlRow w0 w' v n f := by
  obtain ⟨g, e, h1, h2⟩ := h
  exact ⟨g, e, h1, h2.kp hk (by simp)⟩
set_option maxHeartbeats 4000000 in
set_option maxRecDepth 100000 in
theorem gBlocked_any (B b L : Nat) (G : Gt) (w : World) (h : GtAt B w b L G) :
    Calls Try.prog 10 #[.pointer (some ⟨b, 0, none⟩)] w fun e w' => ∃ v, e = .returned v ∧ BlRow w w' v G.n (fun k => (G.ch k).blk) ∧ Kp [] w w' := by
  obtain ⟨cs, rs, vs, hv, hl⟩ := h
  have c0 := hv.lines.1
  have hn1 := hv.ok.n1
  have HW := hide (fun wr (k1 : Kp [] w wr) => (hv.kp k1).lines.1)
  have BK := hide (fun wr (k1 : Kp [] w wr) k (hk : k < G.n) => gBlk_any (hv.kp k1) hk)
  clear hv hl
  generalize hf : (fun k => (G.ch k).blk) = f at *
  have BK : Hid (∀ wr, Kp [] w wr → ∀ k, k < G.n → Calls Try.prog 25 #[.pointer (some ⟨L, k * 3, none⟩)] wr fun e w' => e = .returned (.bool (f k)) ∧ w' = wr) := hide (fun wr k1 k hk => by
    have := unhide BK wr k1 k hk
    rw [← hf]
    exact this)
  clear hf
  generalize G.n = n at *
  have mb := mk_bo n (by omega)
  have KB : Hid (Kp [] w (w.alloc (.cells (Array.replicate n (Value.bool false)) 4))) := hide (Kp.alloc _ _)
  have CB : Hid (CBox w.heap.size (blC f n 0).toArray 4 (w.alloc (.cells (Array.replicate n (Value.bool false)) 4))) := hide (by rw [blC_zero, List.toArray_replicate]; exact CBox.new w _ _)
  have c0' := unhide HW _ (unhide KB)
  go_enter Try.func10, Try.ntmps10
  go_upto_region 2 with fail
  generalize w.alloc (.cells (Array.replicate n (Value.bool false)) 4) = W0 at *
  generalize hgb : w.heap.size = gb at *
  have HGB := hide hgb
  clear hgb mb c0
  go_wp2
  go_loopw [16] (fun i wr => ∃ k : Nat, k ≤ n ∧ i = .int .i64 (k : Int) ∧ Hid (Kp [] w wr ∧ CBox gb (blC f n k).toArray 4 wr)) (fun i _ => n - (intOf i).toNat)
  case atStart => exact ⟨0, Nat.zero_le _, rfl, hide ⟨unhide KB, unhide CB⟩⟩
  case round =>
    obtain ⟨k, hk, rfl, HR⟩ := hrel
    by_cases hlt : k < n
    · have hli : (k : Int) < (n : Int) := by omega
      have BK2 := hide (unhide BK wr (unhide HR).1 k hlt)
      have d0 := unhide HW wr (unhide HR).1
      have d1 : wr.cell? ⟨gb, k, none⟩ = some ((blC f n k)[k]'(by rw [blC_len]; exact hlt)) := (unhide HR).2.cell (by simp [blC_len, hlt])
      have d2 := (unhide HR).2.froz k
      have HN : Hid (Kp [] w (wr.setCell ⟨gb, k, none⟩ (.bool (f k))) ∧ CBox gb (blC f n (k + 1)).toArray 4 (wr.setCell ⟨gb, k, none⟩ (.bool (f k)))) := hide (by
        refine ⟨(unhide HR).1.trans (Kp.set _ _ _ _) (fun x hx => Or.inr (by simp at hx; subst hx; rw [← unhide HGB]; exact Nat.le_refl _)), ?_⟩
        have := (unhide HR).2.set k (.bool (f k))
        rw [List.setIfInBounds_toArray, blC_set f hlt] at this
        exact this)
      generalize (blC f n k)[k]'(by rw [blC_len]; exact hlt) = old at *
      go_wp2_with fail
      refine (unhide BK2).mono ?_
      rintro r w2 ⟨rfl, rfl⟩
      go_wp2
      go_roundw
      case rel => exact ⟨k + 1, by omega, by go_num, HN⟩
      case measure => simp [intOf]; omega
    · obtain rfl : k = n := by omega
      go_wp2
      go_ret
      exact ⟨_, rfl, ⟨gb, rfl, by rw [← unhide HGB]; exact Nat.le_refl _, (unhide HR).2⟩, (unhide HR).1⟩
end Go.Proofs.Ytcgmoadahdkbbaa
