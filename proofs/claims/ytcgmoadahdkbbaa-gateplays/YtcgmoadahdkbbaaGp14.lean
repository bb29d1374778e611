/-
  Gates: the chapter's example.
  A slice of structs that comes in as an argument: they lie where it says.
-/
import Derived.Test.YtcgmoadahdkbbaaGp08
import Derived.Test.YtcgmoadahdkbbaaGp01
import Derived.Test.YtcgmoadahdkbbaaProg
import Derived.ProofKit
import Derived.OpenShut
import Derived.Deep.Slices
namespace Go.Proofs.Ytcgmoadahdkbbaa
open Go.RowKit Gt Cr

theorem wr_at {g : Nat} {W : World} (h : CBox g wkC 74 W) (i : Nat) {v : Value} (hi : wkC[i]? = some v) : W.cell? ⟨g, i, none⟩ = some v := CBox.cell h hi
theorem wg_k0 : wp 0 = wg 8 := rfl
set_option maxHeartbeats 8000000 in
set_option maxRecDepth 100000 in
theorem gWorks_any (w : World) : Calls Try.prog 12 #[] w fun e w' => e = .returned (.bool true) ∧ Kp [] w w' := by
  have N := hide (newGate_ok 2 9 1 w (by decide) (by decide) (by decide) (by decide) (by decide) (by decide))
  have S0 : Hid (∀ W b L, Wk w W b L (wg 0) → _) := hide (fun W b L (h : Wk w W b L (wg 0)) => h.give 0 9 (n := 9) (e0 := 0) (by kernel_rfl) (by kernel_rfl))
  have S1 : Hid (∀ W b L, Wk w W b L (wg 1) → _) := hide (fun W b L (h : Wk w W b L (wg 1)) => h.give 1 9 (n := 9) (e0 := 0) (by kernel_rfl) (by kernel_rfl))
  have S2 : Hid (∀ W b L, Wk w W b L (wg 2) → _) := hide (fun W b L (h : Wk w W b L (wg 2)) => h.text 0 ⟨#[97]⟩ (by decide) (e0 := 0) (by kernel_rfl))
  have S3 : Hid (∀ W b L, Wk w W b L (wg 3) → _) := hide (fun W b L (h : Wk w W b L (wg 3)) => h.bar 0 1 (wg_next 3 (by decide)) (e0 := 0) (by kernel_rfl))
  have S4 : Hid (∀ W b L, Wk w W b L (wg 4) → _) := hide (fun W b L (h : Wk w W b L (wg 4)) => h.text 0 ⟨#[98]⟩ (by decide) (e0 := 0) (by kernel_rfl))
  have S5 : Hid (∀ W b L, Wk w W b L (wg 5) → _) := hide (fun W b L (h : Wk w W b L (wg 5)) => h.text 1 ⟨#[99]⟩ (by decide) (e0 := 0) (by kernel_rfl))
  have S6 : Hid (∀ W b L, Wk w W b L (wg 6) → _) := hide (fun W b L (h : Wk w W b L (wg 6)) => h.text 1 ⟨#[100]⟩ (by decide) (e0 := 0) (by kernel_rfl))
  have S7 : Hid (∀ W b L, Wk w W b L (wg 7) → _) := hide (fun W b L (h : Wk w W b L (wg 7)) => h.bar 1 1 (wg_next 7 (by decide)) (e0 := 0) (by kernel_rfl))
  have P0 : Hid (∀ W b L, Wk w W b L (wp 0) → _) := hide (fun W b L (h : Wk w W b L (wp 0)) => h.pull (c := 0) (t := ⟨#[97]⟩) (m := 0) (e0 := 0) (by kernel_rfl) (by kernel_rfl) (by kernel_rfl) (by kernel_rfl))
  have P1 : Hid (∀ W b L, Wk w W b L (wp 1) → _) := hide (fun W b L (h : Wk w W b L (wp 1)) => h.pull (c := 1) (t := ⟨#[99]⟩) (m := 0) (e0 := 0) (by kernel_rfl) (by kernel_rfl) (by kernel_rfl) (by kernel_rfl))
  have P2 : Hid (∀ W b L, Wk w W b L (wp 2) → _) := hide (fun W b L (h : Wk w W b L (wp 2)) => h.pull (c := 1) (t := ⟨#[100]⟩) (m := 0) (e0 := 0) (by kernel_rfl) (by kernel_rfl) (by kernel_rfl) (by kernel_rfl))
  have P3 : Hid (∀ W b L, Wk w W b L (wp 3) → _) := hide (fun W b L (h : Wk w W b L (wp 3)) => h.pull (c := (-1)) (t := ⟨#[]⟩) (m := 1) (e0 := 0) (by kernel_rfl) (by kernel_rfl) (by kernel_rfl) (by kernel_rfl))
  have P4 : Hid (∀ W b L, Wk w W b L (wp 4) → _) := hide (fun W b L (h : Wk w W b L (wp 4)) => h.pull (c := 0) (t := ⟨#[98]⟩) (m := 0) (e0 := 0) (by kernel_rfl) (by kernel_rfl) (by kernel_rfl) (by kernel_rfl))
  have P5 : Hid (∀ W b L, Wk w W b L (wp 5) → _) := hide (fun W b L (h : Wk w W b L (wp 5)) => h.pull (c := 0) (t := ⟨#[]⟩) (m := 0) (e0 := 5) (by kernel_rfl) (by kernel_rfl) (by kernel_rfl) (by kernel_rfl))
  go_enter Try.func12, Try.ntmps12
  go_wp2_with fail
  refine (unhide N).mono ?_
  rintro r w1 ⟨b, rfl, h1, h2⟩
  generalize hL : w.heap.size = L at h1
  have A0 : Hid (Wk w w1 b L (wg 0)) := hide ⟨by rw [hL]; exact h1, h2⟩
  clear h1 h2 N
  go_wp2_with fail
  refine (unhide S0 _ _ _ (unhide A0)).mono ?_
  rintro r w2 ⟨rfl, h1, _⟩
  have A1 : Hid (Wk w w2 b L (wg 1)) := hide h1
  clear h1 S0 A0
  go_wp2_with fail
  refine (unhide S1 _ _ _ (unhide A1)).mono ?_
  rintro r w3 ⟨rfl, h1, _⟩
  have A2 : Hid (Wk w w3 b L (wg 2)) := hide h1
  clear h1 S1 A1
  go_wp2_with fail
  refine (unhide S2 _ _ _ (unhide A2)).mono ?_
  rintro r w4 ⟨rfl, h1, _⟩
  have A3 : Hid (Wk w w4 b L (wg 3)) := hide h1
  clear h1 S2 A2
  go_wp2_with fail
  refine (unhide S3 _ _ _ (unhide A3)).mono ?_
  rintro r w5 ⟨rfl, h1, _⟩
  have A4 : Hid (Wk w w5 b L (wg 4)) := hide h1
  clear h1 S3 A3
  go_wp2_with fail
  refine (unhide S4 _ _ _ (unhide A4)).mono ?_
  rintro r w6 ⟨rfl, h1, _⟩
  have A5 : Hid (Wk w w6 b L (wg 5)) := hide h1
  clear h1 S4 A4
  go_wp2_with fail
  refine (unhide S5 _ _ _ (unhide A5)).mono ?_
  rintro r w7 ⟨rfl, h1, _⟩
  have A6 : Hid (Wk w w7 b L (wg 6)) := hide h1
  clear h1 S5 A5
  go_wp2_with fail
  refine (unhide S6 _ _ _ (unhide A6)).mono ?_
  rintro r w8 ⟨rfl, h1, _⟩
  have A7 : Hid (Wk w w8 b L (wg 7)) := hide h1
  clear h1 S6 A6
  go_wp2_with fail
  refine (unhide S7 _ _ _ (unhide A7)).mono ?_
  rintro r w9 ⟨rfl, h1, _⟩
  have A8 : Hid (Wk w w9 b L (wg 8)) := hide h1
  clear h1 S7 A7
  have CB : Hid (CBox w9.heap.size wkC 74 (w9.alloc (.cells wkC 74))) := hide (CBox.new w9 _ _)
  have A9 : Hid (Wk w (w9.alloc (.cells wkC 74)) b L (wp 0)) := hide ((unhide A8).quiet (Kp.alloc _ _))
  go_wp2
  change Code.wp _ _ _ _ (w9.alloc (.cells wkC 74))
  clear A8
  generalize w9.alloc (.cells wkC 74) = W0 at *
  generalize w9.heap.size = g at *
  go_loopw [58] (fun i wr => ∃ k : Nat, k ≤ 5 ∧ i = .int .i64 (k : Int) ∧ Hid (Wk w wr b L (wp k) ∧ CBox g wkC 74 wr)) (fun i _ => 5 - (intOf i).toNat)
  case atStart => exact ⟨0, Nat.zero_le _, rfl, hide ⟨unhide A9, unhide CB⟩⟩
  case round =>
    obtain ⟨k, hk, rfl, HR⟩ := hrel
    clear A9 CB
    rcases (by omega : k = 0 ∨ k = 1 ∨ k = 2 ∨ k = 3 ∨ k = 4 ∨ k = 5) with rfl | rfl | rfl | rfl | rfl | rfl
    · have c0 := wr_at (unhide HR).2 0 (v := .int .i64 0) rfl
      have c1 := wr_at (unhide HR).2 1 (v := .string ⟨#[97]⟩) rfl
      have c2 := wr_at (unhide HR).2 2 (v := .int .i64 0) rfl
      clear P1 P2 P3 P4 P5
      go_wp2_with fail
      refine (unhide P0 _ _ _ ((unhide HR).1.quiet (Kp.alloc wr (.cells #[.int .i64 0, .string ⟨#[97]⟩, .int .i64 0] 74)))).mono ?_
      rintro r w2 ⟨rfl, h1, h2⟩
      have xb := (CBox.new wr #[.int .i64 0, .string ⟨#[97]⟩, .int .i64 0] 74).ko h2 (Or.inr rfl)
      have x0 := xb.cell (i := 0) rfl
      have x1 := xb.cell (i := 1) rfl
      have x2 := xb.cell (i := 2) rfl
      have HN : Hid (Wk w w2 b L (wp 1) ∧ CBox g wkC 74 w2) := hide ⟨h1, ((unhide HR).2.kp (Kp.alloc wr (.cells #[.int .i64 0, .string ⟨#[97]⟩, .int .i64 0] 74)) (by simp)).ko h2 (Or.inr rfl)⟩
      clear h1 h2 xb c0 c1 c2 HR P0
      go_wp2
      go_roundw
      case rel => exact ⟨1, by omega, by trivial, HN⟩
      case measure => simp [intOf]
    · have c0 := wr_at (unhide HR).2 3 (v := .int .i64 1) rfl
      have c1 := wr_at (unhide HR).2 4 (v := .string ⟨#[99]⟩) rfl
      have c2 := wr_at (unhide HR).2 5 (v := .int .i64 0) rfl
      clear P0 P2 P3 P4 P5
      go_wp2_with fail
      refine (unhide P1 _ _ _ ((unhide HR).1.quiet (Kp.alloc wr (.cells #[.int .i64 1, .string ⟨#[99]⟩, .int .i64 0] 74)))).mono ?_
      rintro r w2 ⟨rfl, h1, h2⟩
      have xb := (CBox.new wr #[.int .i64 1, .string ⟨#[99]⟩, .int .i64 0] 74).ko h2 (Or.inr rfl)
      have x0 := xb.cell (i := 0) rfl
      have x1 := xb.cell (i := 1) rfl
      have x2 := xb.cell (i := 2) rfl
      have HN : Hid (Wk w w2 b L (wp 2) ∧ CBox g wkC 74 w2) := hide ⟨h1, ((unhide HR).2.kp (Kp.alloc wr (.cells #[.int .i64 1, .string ⟨#[99]⟩, .int .i64 0] 74)) (by simp)).ko h2 (Or.inr rfl)⟩
      clear h1 h2 xb c0 c1 c2 HR P1
      go_wp2
      go_roundw
      case rel => exact ⟨2, by omega, by trivial, HN⟩
      case measure => simp [intOf]
    · have c0 := wr_at (unhide HR).2 6 (v := .int .i64 1) rfl
      have c1 := wr_at (unhide HR).2 7 (v := .string ⟨#[100]⟩) rfl
      have c2 := wr_at (unhide HR).2 8 (v := .int .i64 0) rfl
      clear P0 P1 P3 P4 P5
      go_wp2_with fail
      refine (unhide P2 _ _ _ ((unhide HR).1.quiet (Kp.alloc wr (.cells #[.int .i64 1, .string ⟨#[100]⟩, .int .i64 0] 74)))).mono ?_
      rintro r w2 ⟨rfl, h1, h2⟩
      have xb := (CBox.new wr #[.int .i64 1, .string ⟨#[100]⟩, .int .i64 0] 74).ko h2 (Or.inr rfl)
      have x0 := xb.cell (i := 0) rfl
      have x1 := xb.cell (i := 1) rfl
      have x2 := xb.cell (i := 2) rfl
      have HN : Hid (Wk w w2 b L (wp 3) ∧ CBox g wkC 74 w2) := hide ⟨h1, ((unhide HR).2.kp (Kp.alloc wr (.cells #[.int .i64 1, .string ⟨#[100]⟩, .int .i64 0] 74)) (by simp)).ko h2 (Or.inr rfl)⟩
      clear h1 h2 xb c0 c1 c2 HR P2
      go_wp2
      go_roundw
      case rel => exact ⟨3, by omega, by trivial, HN⟩
      case measure => simp [intOf]
    · have c0 := wr_at (unhide HR).2 9 (v := .int .i64 (-1)) rfl
      have c1 := wr_at (unhide HR).2 10 (v := .string ⟨#[]⟩) rfl
      have c2 := wr_at (unhide HR).2 11 (v := .int .i64 1) rfl
      clear P0 P1 P2 P4 P5
      go_wp2_with fail
      refine (unhide P3 _ _ _ ((unhide HR).1.quiet (Kp.alloc wr (.cells #[.int .i64 (-1), .string ⟨#[]⟩, .int .i64 1] 74)))).mono ?_
      rintro r w2 ⟨rfl, h1, h2⟩
      have xb := (CBox.new wr #[.int .i64 (-1), .string ⟨#[]⟩, .int .i64 1] 74).ko h2 (Or.inr rfl)
      have x0 := xb.cell (i := 0) rfl
      have x1 := xb.cell (i := 1) rfl
      have x2 := xb.cell (i := 2) rfl
      have HN : Hid (Wk w w2 b L (wp 4) ∧ CBox g wkC 74 w2) := hide ⟨h1, ((unhide HR).2.kp (Kp.alloc wr (.cells #[.int .i64 (-1), .string ⟨#[]⟩, .int .i64 1] 74)) (by simp)).ko h2 (Or.inr rfl)⟩
      clear h1 h2 xb c0 c1 c2 HR P3
      go_wp2
      go_roundw
      case rel => exact ⟨4, by omega, by trivial, HN⟩
      case measure => simp [intOf]
    · have c0 := wr_at (unhide HR).2 12 (v := .int .i64 0) rfl
      have c1 := wr_at (unhide HR).2 13 (v := .string ⟨#[98]⟩) rfl
      have c2 := wr_at (unhide HR).2 14 (v := .int .i64 0) rfl
      clear P0 P1 P2 P3 P5
      go_wp2_with fail
      refine (unhide P4 _ _ _ ((unhide HR).1.quiet (Kp.alloc wr (.cells #[.int .i64 0, .string ⟨#[98]⟩, .int .i64 0] 74)))).mono ?_
      rintro r w2 ⟨rfl, h1, h2⟩
      have xb := (CBox.new wr #[.int .i64 0, .string ⟨#[98]⟩, .int .i64 0] 74).ko h2 (Or.inr rfl)
      have x0 := xb.cell (i := 0) rfl
      have x1 := xb.cell (i := 1) rfl
      have x2 := xb.cell (i := 2) rfl
      have HN : Hid (Wk w w2 b L (wp 5) ∧ CBox g wkC 74 w2) := hide ⟨h1, ((unhide HR).2.kp (Kp.alloc wr (.cells #[.int .i64 0, .string ⟨#[98]⟩, .int .i64 0] 74)) (by simp)).ko h2 (Or.inr rfl)⟩
      clear h1 h2 xb c0 c1 c2 HR P4
      go_wp2
      go_roundw
      case rel => exact ⟨5, by omega, by trivial, HN⟩
      case measure => simp [intOf]
    · clear P0 P1 P2 P3 P4
      go_wp2_with fail
      refine (unhide P5 _ _ _ (unhide HR).1).mono ?_
      rintro r w2 ⟨rfl, h1, h2⟩
      have H1 := hide h1.kp
      clear h1 h2 HR P5
      go_wp2
      go_ret
      exact ⟨rfl, unhide H1⟩
end Go.Proofs.Ytcgmoadahdkbbaa
namespace Go.Proofs.Ytcgmoadahdkbbaa
open Go.RowKit Go.Deep

/-- One of them. -/
structure A21 where
  k : Int
  c : Int
  n : Int
  t : ByteArray
  o : Bool
def A21.ok (a : A21) : Prop := (-9223372036854775808 ≤ a.k ∧ a.k ≤ 9223372036854775807) ∧ (-9223372036854775808 ≤ a.c ∧ a.c ≤ 9223372036854775807) ∧ (-9223372036854775808 ≤ a.n ∧ a.n ≤ 9223372036854775807) ∧ a.t.size ≤ 9223372036854775807 ∧ True
def A21At (w : World) (ad : Option Addr) (l : List A21) : Prop :=
  l ≠ [] → ∃ b off, ad = some ⟨b, off, none⟩ ∧ b < w.heap.size ∧ ∀ i (h : i < l.length), w.cell? ⟨b, off + i * 5, none⟩ = some (.int .i64 l[i].k) ∧ w.cell? ⟨b, off + i * 5 + 1, none⟩ = some (.int .i64 l[i].c) ∧ w.cell? ⟨b, off + i * 5 + 2, none⟩ = some (.int .i64 l[i].n) ∧ w.cell? ⟨b, off + i * 5 + 3, none⟩ = some (.string l[i].t) ∧ w.cell? ⟨b, off + i * 5 + 4, none⟩ = some (.bool l[i].o)
theorem A21At.kp {w w' : World} {ad : Option Addr} {l : List A21} (h : A21At w ad l) (hk : Kp [] w w') : A21At w' ad l := fun hl => by
  obtain ⟨b, off, e, hlt, hc⟩ := h hl
  refine ⟨b, off, e, Nat.lt_of_lt_of_le hlt hk.size, fun i hi => ?_⟩
  obtain ⟨c0, c1, c2, c3, c4⟩ := hc i hi
  exact ⟨hk.cell c0 (by simp), hk.cell c1 (by simp), hk.cell c2 (by simp), hk.cell c3 (by simp), hk.cell c4 (by simp)⟩
theorem A21At.at {w : World} {ad : Option Addr} {l : List A21} (h : A21At w ad l) (i : Nat) (hi : i < l.length) : ∃ b off, ad = some ⟨b, off, none⟩ ∧ b < w.heap.size ∧ w.cell? ⟨b, off + i * 5, none⟩ = some (.int .i64 l[i].k) ∧ w.cell? ⟨b, off + i * 5 + 1, none⟩ = some (.int .i64 l[i].c) ∧ w.cell? ⟨b, off + i * 5 + 2, none⟩ = some (.int .i64 l[i].n) ∧ w.cell? ⟨b, off + i * 5 + 3, none⟩ = some (.string l[i].t) ∧ w.cell? ⟨b, off + i * 5 + 4, none⟩ = some (.bool l[i].o) := by
  obtain ⟨b, off, e, hlt, hc⟩ := h (by intro e; subst e; simp at hi)
  exact ⟨b, off, e, hlt, hc i hi⟩
theorem open_ac21_cells : Try.prog.cellsOf 34 = 5 := by kernel_rfl
theorem open_ac21_cells_int : Try.prog.cellsOf 3 = 1 := by kernel_rfl
theorem open_ac21_cells_string : Try.prog.cellsOf 9 = 1 := by kernel_rfl
theorem open_ac21_cells_bool : Try.prog.cellsOf 4 = 1 := by kernel_rfl
theorem open_ac21_fields : ∃ f0 f1 f2 f3 f4 : Field, Try.prog.underlying 34 = some (.struct #[f0, f1, f2, f3, f4]) ∧ f0.type = 3 ∧ f1.type = 3 ∧ f2.type = 3 ∧ f3.type = 9 ∧ f4.type = 4 ∧ f0.offset = 0 ∧ f1.offset = 1 ∧ f2.offset = 2 ∧ f3.offset = 3 ∧ f4.offset = 4 :=
  ⟨_, _, _, _, _, Try.underlying34, rfl, rfl, rfl, rfl, rfl, rfl, rfl, rfl, rfl, rfl⟩
theorem open_ac21_list {α : Type} : ∀ (l : List α), l.length = 5 → ∃ x0 x1 x2 x3 x4, l = [x0, x1, x2, x3, x4]
  | [x0, x1, x2, x3, x4], _ => ⟨x0, x1, x2, x3, x4, rfl⟩
set_option maxRecDepth 100000 in
theorem open_ac21 {H : Type} {enc : TypeId × Value → H} {W : World} {spare : Nat → Bool} {held : Bool} {fuel : Nat} {v : Value} {x : DataW H × List MemPlace}
    (h : DataW.trod enc Try.prog W 0 spare held fuel 24 [v] = some x) :
    ∃ (ad : Option Addr) (cap : Nat) (l : List A21), v = .slice ad l.length cap ∧ l.length ≤ 9223372036854775807 ∧ A21At W ad l ∧ ∀ y ∈ l, y.ok := by
  obtain ⟨f0, f1, f2, f3, f4, hu, t0, t1, t2, t3, t4, o0, o1, o2, o3, o4⟩ := open_ac21_fields
  rcases open_slice Try.underlying24 h with ⟨hcs, _⟩ | ⟨a, len, cap, m, n, D, Pl, hcs, hb, hl, hm, hmm, _, hx⟩
  · simp only [List.cons.injEq, and_true] at hcs
    subst hcs
    exact ⟨none, 0, [], rfl, by simp, fun hne => absurd rfl hne, by simp⟩
  · simp only [List.cons.injEq, and_true] at hcs
    subst hcs
    have hlm : len ≤ m := by rw [hmm]; split <;> omega
    have each : ∀ i, i < len → ∃ y : A21, W.cell? (a.add (i * 5)) = some (.int .i64 y.k) ∧ W.cell? (a.add (i * 5 + 1)) = some (.int .i64 y.c) ∧ W.cell? (a.add (i * 5 + 2)) = some (.int .i64 y.n) ∧ W.cell? (a.add (i * 5 + 3)) = some (.string y.t) ∧ W.cell? (a.add (i * 5 + 4)) = some (.bool y.o) ∧ y.ok := by
      intro i hi
      obtain ⟨cs', h1, h2⟩ := hx i (by omega)
      rw [open_ac21_cells] at h1
      obtain ⟨_, hlen, hcell⟩ := World.cells?_some h1
      obtain ⟨xs, k, hk, hxy, _, hxl, hf⟩ := DataW.trod_struct hu h2
      obtain ⟨y0, y1, y2, y3, y4, rfl⟩ := open_ac21_list xs hxl
      obtain ⟨v0, v1, v2, v3, v4, rfl⟩ := open_ac21_list cs' hlen
      have g0 := hf 0 f0 rfl
      have g1 := hf 1 f1 rfl
      have g2 := hf 2 f2 rfl
      have g3 := hf 3 f3 rfl
      have g4 := hf 4 f4 rfl
      simp [o0, o1, o2, o3, o4, t0, t1, t2, t3, t4, open_ac21_cells_int, open_ac21_cells_string, open_ac21_cells_bool] at g0 g1 g2 g3 g4
      have e0 := hcell 0 (by omega)
      have e1 := hcell 1 (by omega)
      have e2 := hcell 2 (by omega)
      have e3 := hcell 3 (by omega)
      have e4 := hcell 4 (by omega)
      rw [Go.Deep.add_add] at e0 e1 e2 e3 e4
      obtain ⟨k0, q0, _, wf0⟩ := DataW.trod_int Try.underlying3 g0
      obtain ⟨k1, q1, _, wf1⟩ := DataW.trod_int Try.underlying3 g1
      obtain ⟨k2, q2, _, wf2⟩ := DataW.trod_int Try.underlying3 g2
      obtain ⟨k3, q3, _, wf3⟩ := DataW.trod_string Try.underlying9 g3
      obtain ⟨k4, q4, _⟩ := DataW.trod_bool Try.underlying4 g4
      simp only [List.cons.injEq, and_true] at q0 q1 q2 q3 q4
      subst q0 q1 q2 q3 q4
      have b0 := bounds_i64 wf0
      have b1 := bounds_i64 wf1
      have b2 := bounds_i64 wf2
      unfold maxLen at wf3
      exact ⟨⟨k0, k1, k2, k3, k4⟩, by simpa using e0, by simpa using e1, by simpa using e2, by simpa using e3, by simpa using e4, ⟨b0.1, by show k0 ≤ _; omega⟩, ⟨b1.1, by show k1 ≤ _; omega⟩, ⟨b2.1, by show k2 ≤ _; omega⟩, by show k3.size ≤ _; omega, trivial⟩
    have hinh : Inhabited A21 := ⟨⟨0, 0, 0, ⟨#[]⟩, true⟩⟩
    obtain ⟨q, hq⟩ := choose_lt each
    refine ⟨some a, cap, (List.range len).map q, by simp, by simp; unfold maxLen at hm; omega, fun hne => ?_, fun y hy => ?_⟩
    · have h0 : 0 < len := by
        rcases Nat.eq_zero_or_pos len with e | e
        · subst e; simp at hne
        · exact e
      obtain ⟨b, off, spot⟩ := a
      have hc0 := (hq 0 h0).1
      have hspot : spot = none := by simpa [Addr.add] using World.cell?_spot hc0
      subst hspot
      refine ⟨b, off, rfl, ?_, fun i hi => ?_⟩
      · rcases Nat.lt_or_ge b W.heap.size with hlt | hge
        · exact hlt
        · exfalso
          rw [Go.WideShapes.add_plain] at hc0
          simp [World.cell?, Array.getElem?_eq_none hge] at hc0
      · have hi' : i < len := by simpa using hi
        obtain ⟨c0, c1, c2, c3, c4, _⟩ := hq i hi'
        rw [Go.WideShapes.add_plain] at c0 c1 c2 c3 c4
        simp only [List.getElem_map, List.getElem_range]
        exact ⟨c0, by rw [Nat.add_assoc]; exact c1, by rw [Nat.add_assoc]; exact c2, by rw [Nat.add_assoc]; exact c3, by rw [Nat.add_assoc]; exact c4⟩
    · obtain ⟨i, hi, rfl⟩ := List.mem_map.1 hy
      exact (hq i (List.mem_range.1 hi)).2.2.2.2.2
end Go.Proofs.Ytcgmoadahdkbbaa
