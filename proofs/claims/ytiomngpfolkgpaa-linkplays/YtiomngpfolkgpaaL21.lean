/-
  The document's link: what any bytes are as a packet.
-/
import Derived.Test.YtiomngpfolkgpaaL19
import Derived.Test.YtiomngpfolkgpaaL20
import Derived.Test.YtiomngpfolkgpaaL12
import Derived.BigQuiet
namespace Go.Proofs.Ytiomngpfolkgpaa
open Go.RowKit Lk

theorem results_tmp4 {fn : Func} {t u v x : Tmp} (h : fn.results = #[.tmp t, .tmp u, .tmp v, .tmp x]) (tmps : Array Value) (P : Program) (w : World) :
    (results fn tmps).run P w = .ok (.tuple #[tmps.getD t undef, tmps.getD u undef, tmps.getD v undef, tmps.getD x undef]) w := by
  simp [results, h, go_sem]
/-- The fault's own box. -/
def parW (w1 : World) (p c : Int) : World := w1.alloc (.cells #[.int .i64 p, .int .i64 c] 92)
theorem parW_is (w1 : World) (p c : Int) : Kp [] w1 (parW w1 p c) ∧ (parW w1 p c).cell? ⟨w1.heap.size, 1, none⟩ = some (.int .i64 c) :=
  ⟨Kp.alloc _ _, (CBox.new w1 _ _).cell rfl⟩
theorem par_items {B : Nat} {W : World} {v : Value} {x y z : It} {r : List It} (h : OwnsI B W v (x :: y :: z :: r)) : ∃ bb cp, v = .slice (some ⟨bb, 0, none⟩) (r.length + 3) cp ∧ r.length + 3 ≤ cp ∧ W.cell? ⟨bb, 0, none⟩ = some (.bool x.t) ∧ W.cell? ⟨bb, 1, none⟩ = some (.int .i64 x.n) ∧ W.cell? ⟨bb, 3, none⟩ = some (.bool y.t) ∧ W.cell? ⟨bb, 4, none⟩ = some (.int .i64 y.n) ∧ W.cell? ⟨bb, 6, none⟩ = some (.bool z.t) ∧ W.cell? ⟨bb, 7, none⟩ = some (.int .i64 z.n) := by
  obtain ⟨_, ⟨_, h0⟩ | ⟨g, cp, cur, rfl, _, _, hn, _⟩⟩ := id h
  · simp at h0
  · have k := World.ownsRow.cells h (g := g) rfl
    have e : itemC (x :: y :: z :: r) = .bool x.t :: .int .i64 x.n :: .string x.s :: .bool y.t :: .int .i64 y.n :: .string y.s :: .bool z.t :: .int .i64 z.n :: .string z.s :: itemC r := rfl
    rw [e] at k
    have f : ∀ j u, (Value.bool x.t :: .int .i64 x.n :: .string x.s :: .bool y.t :: .int .i64 y.n :: .string y.s :: .bool z.t :: .int .i64 z.n :: .string z.s :: itemC r)[j]? = some u → W.cell? ⟨g, j, none⟩ = some u := fun j u hj => by
      have := k j u hj
      rwa [Go.WideShapes.add_plain, Nat.zero_add] at this
    exact ⟨g, cp, rfl, by simpa using hn, f 0 _ rfl, f 1 _ rfl, f 3 _ rfl, f 4 _ rfl, f 6 _ rfl, f 7 _ rfl⟩
set_option maxHeartbeats 4000000 in
set_option maxRecDepth 100000 in
theorem rparse_code (p : ByteArray) (many : Nat) (k m : Int) (w : World) (hp : p.size ≤ 262144) (_hmany : 3 ≤ many ∧ many ≤ 4) (hc : (decS p.data.toList).2.2 ≠ 0) :
    Calls Try.prog 29 #[.string p, .int .i64 k, .int .i64 (many : Int), .int .i64 m] w fun e w' => e = .returned (.tuple #[.int .i64 0, .int .i64 0, .slice none 0 0, .bool false]) ∧ Below w.heap.size w w' := by
  have hps : ¬ (262144 : Int) < (p.size : Int) := by omega
  have DE := hide (refDecode_any p w (by omega))
  generalize (decS p.data.toList).2.1 = P at *
  generalize (decS p.data.toList).2.2 = C at *
  generalize (decS p.data.toList).1 = l at *
  go_enter Try.func29, Try.ntmps29
  go_wp2_with fail
  refine (unhide DE).mono ?_
  rintro e w1 ⟨v, rfl, h1, k1⟩
  obtain ⟨kp, kc⟩ := parW_is w1 P C
  have HB : Hid (Below w.heap.size w (parW w1 P C)) := hide (k1.trans ((kp.below (Nat.le_refl _) (by simp)).mono k1.size))
  obtain ⟨ad, cp, rfl⟩ := h1.form
  clear DE h1 k1 kp
  go_upto_region 4 with fail
  unfold parW at kc HB
  go_wp2
  (try simp only [Exit.inBlock, Exit.then])
  refine bodyPost_ret (results_tmp4 rfl _ _ _) rfl ?_
  exact ⟨rfl, unhide HB⟩
set_option maxHeartbeats 4000000 in
set_option maxRecDepth 100000 in
theorem rparse_many (p : ByteArray) (many : Nat) (k m : Int) (w : World) (hp : p.size ≤ 262144) (_hmany : 3 ≤ many ∧ many ≤ 4) (hc : (decS p.data.toList).2.2 = 0) (hl : (decS p.data.toList).1.length ≠ many) :
    Calls Try.prog 29 #[.string p, .int .i64 k, .int .i64 (many : Int), .int .i64 m] w fun e w' => e = .returned (.tuple #[.int .i64 0, .int .i64 0, .slice none 0 0, .bool false]) ∧ Below w.heap.size w w' := by
  have hps : ¬ (262144 : Int) < (p.size : Int) := by omega
  have DE := hide (refDecode_any p w (by omega))
  rw [hc] at DE
  clear hc
  generalize (decS p.data.toList).2.1 = P at *
  generalize (decS p.data.toList).1 = l at *
  have hli : ¬ (l.length : Int) = (many : Int) := by omega
  obtain ⟨C, hC⟩ : ∃ C : Int, C = 0 := ⟨_, rfl⟩
  go_enter Try.func29, Try.ntmps29
  go_wp2_with fail
  refine (unhide DE).mono ?_
  rintro e w1 ⟨v, rfl, h1, k1⟩
  obtain ⟨kp, kc⟩ := parW_is w1 P 0
  have HB : Hid (Below w.heap.size w (parW w1 P 0)) := hide (k1.trans ((kp.below (Nat.le_refl _) (by simp)).mono k1.size))
  obtain ⟨ad, cp, rfl⟩ := h1.form
  clear DE h1 k1 kp hC
  generalize l.length = n at *
  go_upto_region 4 with fail
  unfold parW at kc HB
  go_wp2
  (try simp only [Exit.inBlock, Exit.then])
  refine bodyPost_ret (results_tmp4 rfl _ _ _) rfl ?_
  exact ⟨rfl, unhide HB⟩
set_option maxHeartbeats 4000000 in
set_option maxRecDepth 100000 in
theorem rparse_f0 (p : ByteArray) (many : Nat) (k m : Int) (w : World) (hp : p.size ≤ 262144) (_hmany : 3 ≤ many ∧ many ≤ 4) (x y z : It) (r : List It) (hc : (decS p.data.toList).2.2 = 0) (hl : (decS p.data.toList).1.length = many) (he : (decS p.data.toList).1 = x :: y :: z :: r) (g0 : x.t = true) :
    Calls Try.prog 29 #[.string p, .int .i64 k, .int .i64 (many : Int), .int .i64 m] w fun e w' => e = .returned (.tuple #[.int .i64 0, .int .i64 0, .slice none 0 0, .bool false]) ∧ Below w.heap.size w w' := by
  have hps : ¬ (262144 : Int) < (p.size : Int) := by omega
  have DE := hide (refDecode_any p w (by omega))
  rw [hc, he] at DE
  rw [he] at hl
  have hli : ((r.length + 3 : Nat) : Int) = (many : Int) := by rw [← hl]; rfl
  have hl3 : 0 < r.length + 3 ∧ 1 < r.length + 3 ∧ 2 < r.length + 3 := by omega
  clear hc he hl
  generalize (decS p.data.toList).2.1 = P at *
  obtain ⟨C, hC⟩ : ∃ C : Int, C = 0 := ⟨_, rfl⟩
  go_enter Try.func29, Try.ntmps29
  go_wp2_with fail
  refine (unhide DE).mono ?_
  rintro e w1 ⟨v, rfl, h1, k1⟩
  obtain ⟨kp, kc⟩ := parW_is w1 P 0
  have HB : Hid (Below w.heap.size w (parW w1 P 0)) := hide (k1.trans ((kp.below (Nat.le_refl _) (by simp)).mono k1.size))
  have h2 : OwnsI w.heap.size (parW w1 P 0) v (x :: y :: z :: r) := h1.below (kp.below (Nat.le_refl _) (by simp)) (Nat.le_refl _)
  obtain ⟨bb, cp, rfl, hcp, x0, x1, y0, y1, z0, z1⟩ := par_items h2
  have H2 := hide h2
  clear DE h1 k1 kp hC h2
  generalize r.length + 3 = n at *
  obtain ⟨l0, l1, l2⟩ := hl3
  have l0i : (0 : Int) < (n : Int) := by omega
  have l1i : (1 : Int) < (n : Int) := by omega
  have l2i : (2 : Int) < (n : Int) := by omega
  go_upto_region 4 with fail
  unfold parW at kc HB x0 x1 y0 y1 z0 z1 H2
  rw [g0] at x0
  clear g0
  go_wp2
  (try simp only [Exit.inBlock, Exit.then])
  refine bodyPost_ret (results_tmp4 rfl _ _ _) rfl ?_
  exact ⟨rfl, unhide HB⟩
set_option maxHeartbeats 4000000 in
set_option maxRecDepth 100000 in
theorem rparse_f1 (p : ByteArray) (many : Nat) (k m : Int) (w : World) (hp : p.size ≤ 262144) (_hmany : 3 ≤ many ∧ many ≤ 4) (x y z : It) (r : List It) (hc : (decS p.data.toList).2.2 = 0) (hl : (decS p.data.toList).1.length = many) (he : (decS p.data.toList).1 = x :: y :: z :: r) (g0 : x.t = false) (g1 : ¬ x.n = k) :
    Calls Try.prog 29 #[.string p, .int .i64 k, .int .i64 (many : Int), .int .i64 m] w fun e w' => e = .returned (.tuple #[.int .i64 0, .int .i64 0, .slice none 0 0, .bool false]) ∧ Below w.heap.size w w' := by
  have hps : ¬ (262144 : Int) < (p.size : Int) := by omega
  have DE := hide (refDecode_any p w (by omega))
  rw [hc, he] at DE
  rw [he] at hl
  have hli : ((r.length + 3 : Nat) : Int) = (many : Int) := by rw [← hl]; rfl
  have hl3 : 0 < r.length + 3 ∧ 1 < r.length + 3 ∧ 2 < r.length + 3 := by omega
  clear hc he hl
  generalize (decS p.data.toList).2.1 = P at *
  obtain ⟨C, hC⟩ : ∃ C : Int, C = 0 := ⟨_, rfl⟩
  go_enter Try.func29, Try.ntmps29
  go_wp2_with fail
  refine (unhide DE).mono ?_
  rintro e w1 ⟨v, rfl, h1, k1⟩
  obtain ⟨kp, kc⟩ := parW_is w1 P 0
  have HB : Hid (Below w.heap.size w (parW w1 P 0)) := hide (k1.trans ((kp.below (Nat.le_refl _) (by simp)).mono k1.size))
  have h2 : OwnsI w.heap.size (parW w1 P 0) v (x :: y :: z :: r) := h1.below (kp.below (Nat.le_refl _) (by simp)) (Nat.le_refl _)
  obtain ⟨bb, cp, rfl, hcp, x0, x1, y0, y1, z0, z1⟩ := par_items h2
  have H2 := hide h2
  clear DE h1 k1 kp hC h2
  generalize r.length + 3 = n at *
  obtain ⟨l0, l1, l2⟩ := hl3
  have l0i : (0 : Int) < (n : Int) := by omega
  have l1i : (1 : Int) < (n : Int) := by omega
  have l2i : (2 : Int) < (n : Int) := by omega
  go_upto_region 4 with fail
  unfold parW at kc HB x0 x1 y0 y1 z0 z1 H2
  rw [g0] at x0
  clear g0
  go_wp2
  (try simp only [Exit.inBlock, Exit.then])
  refine bodyPost_ret (results_tmp4 rfl _ _ _) rfl ?_
  exact ⟨rfl, unhide HB⟩
set_option maxHeartbeats 4000000 in
set_option maxRecDepth 100000 in
theorem rparse_f2 (p : ByteArray) (many : Nat) (k m : Int) (w : World) (hp : p.size ≤ 262144) (_hmany : 3 ≤ many ∧ many ≤ 4) (x y z : It) (r : List It) (hc : (decS p.data.toList).2.2 = 0) (hl : (decS p.data.toList).1.length = many) (he : (decS p.data.toList).1 = x :: y :: z :: r) (g0 : x.t = false) (g1 : x.n = k) (g2 : y.t = true) :
    Calls Try.prog 29 #[.string p, .int .i64 k, .int .i64 (many : Int), .int .i64 m] w fun e w' => e = .returned (.tuple #[.int .i64 0, .int .i64 0, .slice none 0 0, .bool false]) ∧ Below w.heap.size w w' := by
  have hps : ¬ (262144 : Int) < (p.size : Int) := by omega
  have DE := hide (refDecode_any p w (by omega))
  rw [hc, he] at DE
  rw [he] at hl
  have hli : ((r.length + 3 : Nat) : Int) = (many : Int) := by rw [← hl]; rfl
  have hl3 : 0 < r.length + 3 ∧ 1 < r.length + 3 ∧ 2 < r.length + 3 := by omega
  clear hc he hl
  generalize (decS p.data.toList).2.1 = P at *
  obtain ⟨C, hC⟩ : ∃ C : Int, C = 0 := ⟨_, rfl⟩
  go_enter Try.func29, Try.ntmps29
  go_wp2_with fail
  refine (unhide DE).mono ?_
  rintro e w1 ⟨v, rfl, h1, k1⟩
  obtain ⟨kp, kc⟩ := parW_is w1 P 0
  have HB : Hid (Below w.heap.size w (parW w1 P 0)) := hide (k1.trans ((kp.below (Nat.le_refl _) (by simp)).mono k1.size))
  have h2 : OwnsI w.heap.size (parW w1 P 0) v (x :: y :: z :: r) := h1.below (kp.below (Nat.le_refl _) (by simp)) (Nat.le_refl _)
  obtain ⟨bb, cp, rfl, hcp, x0, x1, y0, y1, z0, z1⟩ := par_items h2
  have H2 := hide h2
  clear DE h1 k1 kp hC h2
  generalize r.length + 3 = n at *
  obtain ⟨l0, l1, l2⟩ := hl3
  have l0i : (0 : Int) < (n : Int) := by omega
  have l1i : (1 : Int) < (n : Int) := by omega
  have l2i : (2 : Int) < (n : Int) := by omega
  go_upto_region 4 with fail
  unfold parW at kc HB x0 x1 y0 y1 z0 z1 H2
  rw [g0] at x0
  rw [g1] at x1
  rw [g2] at y0
  clear g0 g1 g2
  go_wp2
  (try simp only [Exit.inBlock, Exit.then])
  refine bodyPost_ret (results_tmp4 rfl _ _ _) rfl ?_
  exact ⟨rfl, unhide HB⟩
set_option maxHeartbeats 4000000 in
set_option maxRecDepth 100000 in
theorem rparse_f3 (p : ByteArray) (many : Nat) (k m : Int) (w : World) (hp : p.size ≤ 262144) (_hmany : 3 ≤ many ∧ many ≤ 4) (x y z : It) (r : List It) (hc : (decS p.data.toList).2.2 = 0) (hl : (decS p.data.toList).1.length = many) (he : (decS p.data.toList).1 = x :: y :: z :: r) (g0 : x.t = false) (g1 : x.n = k) (g2 : y.t = false) (g3 : y.n < 0) :
    Calls Try.prog 29 #[.string p, .int .i64 k, .int .i64 (many : Int), .int .i64 m] w fun e w' => e = .returned (.tuple #[.int .i64 0, .int .i64 0, .slice none 0 0, .bool false]) ∧ Below w.heap.size w w' := by
  have hps : ¬ (262144 : Int) < (p.size : Int) := by omega
  have DE := hide (refDecode_any p w (by omega))
  rw [hc, he] at DE
  rw [he] at hl
  have hli : ((r.length + 3 : Nat) : Int) = (many : Int) := by rw [← hl]; rfl
  have hl3 : 0 < r.length + 3 ∧ 1 < r.length + 3 ∧ 2 < r.length + 3 := by omega
  clear hc he hl
  generalize (decS p.data.toList).2.1 = P at *
  obtain ⟨C, hC⟩ : ∃ C : Int, C = 0 := ⟨_, rfl⟩
  go_enter Try.func29, Try.ntmps29
  go_wp2_with fail
  refine (unhide DE).mono ?_
  rintro e w1 ⟨v, rfl, h1, k1⟩
  obtain ⟨kp, kc⟩ := parW_is w1 P 0
  have HB : Hid (Below w.heap.size w (parW w1 P 0)) := hide (k1.trans ((kp.below (Nat.le_refl _) (by simp)).mono k1.size))
  have h2 : OwnsI w.heap.size (parW w1 P 0) v (x :: y :: z :: r) := h1.below (kp.below (Nat.le_refl _) (by simp)) (Nat.le_refl _)
  obtain ⟨bb, cp, rfl, hcp, x0, x1, y0, y1, z0, z1⟩ := par_items h2
  have H2 := hide h2
  clear DE h1 k1 kp hC h2
  generalize r.length + 3 = n at *
  obtain ⟨l0, l1, l2⟩ := hl3
  have l0i : (0 : Int) < (n : Int) := by omega
  have l1i : (1 : Int) < (n : Int) := by omega
  have l2i : (2 : Int) < (n : Int) := by omega
  go_upto_region 4 with fail
  unfold parW at kc HB x0 x1 y0 y1 z0 z1 H2
  rw [g0] at x0
  rw [g1] at x1
  rw [g2] at y0
  clear g0 g1 g2
  go_wp2
  (try simp only [Exit.inBlock, Exit.then])
  refine bodyPost_ret (results_tmp4 rfl _ _ _) rfl ?_
  exact ⟨rfl, unhide HB⟩
set_option maxHeartbeats 4000000 in
set_option maxRecDepth 100000 in
theorem rparse_f4 (p : ByteArray) (many : Nat) (k m : Int) (w : World) (hp : p.size ≤ 262144) (_hmany : 3 ≤ many ∧ many ≤ 4) (x y z : It) (r : List It) (hc : (decS p.data.toList).2.2 = 0) (hl : (decS p.data.toList).1.length = many) (he : (decS p.data.toList).1 = x :: y :: z :: r) (g0 : x.t = false) (g1 : x.n = k) (g2 : y.t = false) (g3 : ¬ y.n < 0) (g4 : 1073741824 < y.n) :
    Calls Try.prog 29 #[.string p, .int .i64 k, .int .i64 (many : Int), .int .i64 m] w fun e w' => e = .returned (.tuple #[.int .i64 0, .int .i64 0, .slice none 0 0, .bool false]) ∧ Below w.heap.size w w' := by
  have hps : ¬ (262144 : Int) < (p.size : Int) := by omega
  have DE := hide (refDecode_any p w (by omega))
  rw [hc, he] at DE
  rw [he] at hl
  have hli : ((r.length + 3 : Nat) : Int) = (many : Int) := by rw [← hl]; rfl
  have hl3 : 0 < r.length + 3 ∧ 1 < r.length + 3 ∧ 2 < r.length + 3 := by omega
  clear hc he hl
  generalize (decS p.data.toList).2.1 = P at *
  obtain ⟨C, hC⟩ : ∃ C : Int, C = 0 := ⟨_, rfl⟩
  go_enter Try.func29, Try.ntmps29
  go_wp2_with fail
  refine (unhide DE).mono ?_
  rintro e w1 ⟨v, rfl, h1, k1⟩
  obtain ⟨kp, kc⟩ := parW_is w1 P 0
  have HB : Hid (Below w.heap.size w (parW w1 P 0)) := hide (k1.trans ((kp.below (Nat.le_refl _) (by simp)).mono k1.size))
  have h2 : OwnsI w.heap.size (parW w1 P 0) v (x :: y :: z :: r) := h1.below (kp.below (Nat.le_refl _) (by simp)) (Nat.le_refl _)
  obtain ⟨bb, cp, rfl, hcp, x0, x1, y0, y1, z0, z1⟩ := par_items h2
  have H2 := hide h2
  clear DE h1 k1 kp hC h2
  generalize r.length + 3 = n at *
  obtain ⟨l0, l1, l2⟩ := hl3
  have l0i : (0 : Int) < (n : Int) := by omega
  have l1i : (1 : Int) < (n : Int) := by omega
  have l2i : (2 : Int) < (n : Int) := by omega
  go_upto_region 4 with fail
  unfold parW at kc HB x0 x1 y0 y1 z0 z1 H2
  rw [g0] at x0
  rw [g1] at x1
  rw [g2] at y0
  clear g0 g1 g2
  go_wp2
  (try simp only [Exit.inBlock, Exit.then])
  refine bodyPost_ret (results_tmp4 rfl _ _ _) rfl ?_
  exact ⟨rfl, unhide HB⟩
set_option maxHeartbeats 4000000 in
set_option maxRecDepth 100000 in
theorem rparse_f5 (p : ByteArray) (many : Nat) (k m : Int) (w : World) (hp : p.size ≤ 262144) (_hmany : 3 ≤ many ∧ many ≤ 4) (x y z : It) (r : List It) (hc : (decS p.data.toList).2.2 = 0) (hl : (decS p.data.toList).1.length = many) (he : (decS p.data.toList).1 = x :: y :: z :: r) (g0 : x.t = false) (g1 : x.n = k) (g2 : y.t = false) (g3 : ¬ y.n < 0) (g4 : ¬ 1073741824 < y.n) (g5 : z.t = true) :
    Calls Try.prog 29 #[.string p, .int .i64 k, .int .i64 (many : Int), .int .i64 m] w fun e w' => e = .returned (.tuple #[.int .i64 0, .int .i64 0, .slice none 0 0, .bool false]) ∧ Below w.heap.size w w' := by
  have hps : ¬ (262144 : Int) < (p.size : Int) := by omega
  have DE := hide (refDecode_any p w (by omega))
  rw [hc, he] at DE
  rw [he] at hl
  have hli : ((r.length + 3 : Nat) : Int) = (many : Int) := by rw [← hl]; rfl
  have hl3 : 0 < r.length + 3 ∧ 1 < r.length + 3 ∧ 2 < r.length + 3 := by omega
  clear hc he hl
  generalize (decS p.data.toList).2.1 = P at *
  obtain ⟨C, hC⟩ : ∃ C : Int, C = 0 := ⟨_, rfl⟩
  go_enter Try.func29, Try.ntmps29
  go_wp2_with fail
  refine (unhide DE).mono ?_
  rintro e w1 ⟨v, rfl, h1, k1⟩
  obtain ⟨kp, kc⟩ := parW_is w1 P 0
  have HB : Hid (Below w.heap.size w (parW w1 P 0)) := hide (k1.trans ((kp.below (Nat.le_refl _) (by simp)).mono k1.size))
  have h2 : OwnsI w.heap.size (parW w1 P 0) v (x :: y :: z :: r) := h1.below (kp.below (Nat.le_refl _) (by simp)) (Nat.le_refl _)
  obtain ⟨bb, cp, rfl, hcp, x0, x1, y0, y1, z0, z1⟩ := par_items h2
  have H2 := hide h2
  clear DE h1 k1 kp hC h2
  generalize r.length + 3 = n at *
  obtain ⟨l0, l1, l2⟩ := hl3
  have l0i : (0 : Int) < (n : Int) := by omega
  have l1i : (1 : Int) < (n : Int) := by omega
  have l2i : (2 : Int) < (n : Int) := by omega
  go_upto_region 4 with fail
  unfold parW at kc HB x0 x1 y0 y1 z0 z1 H2
  rw [g0] at x0
  rw [g1] at x1
  rw [g2] at y0
  rw [g5] at z0
  clear g0 g1 g2 g5
  go_wp2
  (try simp only [Exit.inBlock, Exit.then])
  refine bodyPost_ret (results_tmp4 rfl _ _ _) rfl ?_
  exact ⟨rfl, unhide HB⟩
set_option maxHeartbeats 4000000 in
set_option maxRecDepth 100000 in
theorem rparse_f6 (p : ByteArray) (many : Nat) (k m : Int) (w : World) (hp : p.size ≤ 262144) (_hmany : 3 ≤ many ∧ many ≤ 4) (x y z : It) (r : List It) (hc : (decS p.data.toList).2.2 = 0) (hl : (decS p.data.toList).1.length = many) (he : (decS p.data.toList).1 = x :: y :: z :: r) (g0 : x.t = false) (g1 : x.n = k) (g2 : y.t = false) (g3 : ¬ y.n < 0) (g4 : ¬ 1073741824 < y.n) (g5 : z.t = false) (g6 : z.n < 0) :
    Calls Try.prog 29 #[.string p, .int .i64 k, .int .i64 (many : Int), .int .i64 m] w fun e w' => e = .returned (.tuple #[.int .i64 0, .int .i64 0, .slice none 0 0, .bool false]) ∧ Below w.heap.size w w' := by
  have hps : ¬ (262144 : Int) < (p.size : Int) := by omega
  have DE := hide (refDecode_any p w (by omega))
  rw [hc, he] at DE
  rw [he] at hl
  have hli : ((r.length + 3 : Nat) : Int) = (many : Int) := by rw [← hl]; rfl
  have hl3 : 0 < r.length + 3 ∧ 1 < r.length + 3 ∧ 2 < r.length + 3 := by omega
  clear hc he hl
  generalize (decS p.data.toList).2.1 = P at *
  obtain ⟨C, hC⟩ : ∃ C : Int, C = 0 := ⟨_, rfl⟩
  go_enter Try.func29, Try.ntmps29
  go_wp2_with fail
  refine (unhide DE).mono ?_
  rintro e w1 ⟨v, rfl, h1, k1⟩
  obtain ⟨kp, kc⟩ := parW_is w1 P 0
  have HB : Hid (Below w.heap.size w (parW w1 P 0)) := hide (k1.trans ((kp.below (Nat.le_refl _) (by simp)).mono k1.size))
  have h2 : OwnsI w.heap.size (parW w1 P 0) v (x :: y :: z :: r) := h1.below (kp.below (Nat.le_refl _) (by simp)) (Nat.le_refl _)
  obtain ⟨bb, cp, rfl, hcp, x0, x1, y0, y1, z0, z1⟩ := par_items h2
  have H2 := hide h2
  clear DE h1 k1 kp hC h2
  generalize r.length + 3 = n at *
  obtain ⟨l0, l1, l2⟩ := hl3
  have l0i : (0 : Int) < (n : Int) := by omega
  have l1i : (1 : Int) < (n : Int) := by omega
  have l2i : (2 : Int) < (n : Int) := by omega
  go_upto_region 4 with fail
  unfold parW at kc HB x0 x1 y0 y1 z0 z1 H2
  rw [g0] at x0
  rw [g1] at x1
  rw [g2] at y0
  rw [g5] at z0
  clear g0 g1 g2 g5
  go_wp2
  (try simp only [Exit.inBlock, Exit.then])
  refine bodyPost_ret (results_tmp4 rfl _ _ _) rfl ?_
  exact ⟨rfl, unhide HB⟩
set_option maxHeartbeats 4000000 in
set_option maxRecDepth 100000 in
theorem rparse_f7 (p : ByteArray) (many : Nat) (k m : Int) (w : World) (hp : p.size ≤ 262144) (_hmany : 3 ≤ many ∧ many ≤ 4) (x y z : It) (r : List It) (hc : (decS p.data.toList).2.2 = 0) (hl : (decS p.data.toList).1.length = many) (he : (decS p.data.toList).1 = x :: y :: z :: r) (g0 : x.t = false) (g1 : x.n = k) (g2 : y.t = false) (g3 : ¬ y.n < 0) (g4 : ¬ 1073741824 < y.n) (g5 : z.t = false) (g6 : ¬ z.n < 0) (g7 : m < z.n) :
    Calls Try.prog 29 #[.string p, .int .i64 k, .int .i64 (many : Int), .int .i64 m] w fun e w' => e = .returned (.tuple #[.int .i64 0, .int .i64 0, .slice none 0 0, .bool false]) ∧ Below w.heap.size w w' := by
  have hps : ¬ (262144 : Int) < (p.size : Int) := by omega
  have DE := hide (refDecode_any p w (by omega))
  rw [hc, he] at DE
  rw [he] at hl
  have hli : ((r.length + 3 : Nat) : Int) = (many : Int) := by rw [← hl]; rfl
  have hl3 : 0 < r.length + 3 ∧ 1 < r.length + 3 ∧ 2 < r.length + 3 := by omega
  clear hc he hl
  generalize (decS p.data.toList).2.1 = P at *
  obtain ⟨C, hC⟩ : ∃ C : Int, C = 0 := ⟨_, rfl⟩
  go_enter Try.func29, Try.ntmps29
  go_wp2_with fail
  refine (unhide DE).mono ?_
  rintro e w1 ⟨v, rfl, h1, k1⟩
  obtain ⟨kp, kc⟩ := parW_is w1 P 0
  have HB : Hid (Below w.heap.size w (parW w1 P 0)) := hide (k1.trans ((kp.below (Nat.le_refl _) (by simp)).mono k1.size))
  have h2 : OwnsI w.heap.size (parW w1 P 0) v (x :: y :: z :: r) := h1.below (kp.below (Nat.le_refl _) (by simp)) (Nat.le_refl _)
  obtain ⟨bb, cp, rfl, hcp, x0, x1, y0, y1, z0, z1⟩ := par_items h2
  have H2 := hide h2
  clear DE h1 k1 kp hC h2
  generalize r.length + 3 = n at *
  obtain ⟨l0, l1, l2⟩ := hl3
  have l0i : (0 : Int) < (n : Int) := by omega
  have l1i : (1 : Int) < (n : Int) := by omega
  have l2i : (2 : Int) < (n : Int) := by omega
  go_upto_region 4 with fail
  unfold parW at kc HB x0 x1 y0 y1 z0 z1 H2
  rw [g0] at x0
  rw [g1] at x1
  rw [g2] at y0
  rw [g5] at z0
  clear g0 g1 g2 g5
  go_wp2
  (try simp only [Exit.inBlock, Exit.then])
  refine bodyPost_ret (results_tmp4 rfl _ _ _) rfl ?_
  exact ⟨rfl, unhide HB⟩
set_option maxHeartbeats 4000000 in
set_option maxRecDepth 100000 in
theorem rparse_y (p : ByteArray) (many : Nat) (k m : Int) (w : World) (hp : p.size ≤ 262144) (_hmany : 3 ≤ many ∧ many ≤ 4) (x y z : It) (r : List It) (hc : (decS p.data.toList).2.2 = 0) (hl : (decS p.data.toList).1.length = many) (he : (decS p.data.toList).1 = x :: y :: z :: r) (g0 : x.t = false) (g1 : x.n = k) (g2 : y.t = false) (g3 : ¬ y.n < 0) (g4 : ¬ 1073741824 < y.n) (g5 : z.t = false) (g6 : ¬ z.n < 0) (g7 : ¬ m < z.n) :
    Calls Try.prog 29 #[.string p, .int .i64 k, .int .i64 (many : Int), .int .i64 m] w fun e w' => (∃ v, e = .returned (.tuple #[.int .i64 y.n, .int .i64 z.n, v, .bool true]) ∧ OwnsI w.heap.size w' v (x :: y :: z :: r)) ∧ Below w.heap.size w w' := by
  have hps : ¬ (262144 : Int) < (p.size : Int) := by omega
  have DE := hide (refDecode_any p w (by omega))
  rw [hc, he] at DE
  rw [he] at hl
  have hli : ((r.length + 3 : Nat) : Int) = (many : Int) := by rw [← hl]; rfl
  have hl3 : 0 < r.length + 3 ∧ 1 < r.length + 3 ∧ 2 < r.length + 3 := by omega
  clear hc he hl
  generalize (decS p.data.toList).2.1 = P at *
  obtain ⟨C, hC⟩ : ∃ C : Int, C = 0 := ⟨_, rfl⟩
  go_enter Try.func29, Try.ntmps29
  go_wp2_with fail
  refine (unhide DE).mono ?_
  rintro e w1 ⟨v, rfl, h1, k1⟩
  obtain ⟨kp, kc⟩ := parW_is w1 P 0
  have HB : Hid (Below w.heap.size w (parW w1 P 0)) := hide (k1.trans ((kp.below (Nat.le_refl _) (by simp)).mono k1.size))
  have h2 : OwnsI w.heap.size (parW w1 P 0) v (x :: y :: z :: r) := h1.below (kp.below (Nat.le_refl _) (by simp)) (Nat.le_refl _)
  obtain ⟨bb, cp, rfl, hcp, x0, x1, y0, y1, z0, z1⟩ := par_items h2
  have H2 := hide h2
  clear DE h1 k1 kp hC h2
  have HOUT : Hid (∀ q, OwnsI w.heap.size ((parW w1 P 0).drewN q) (.slice (some ⟨bb, 0, none⟩) (r.length + 3) cp) (x :: y :: z :: r) ∧ Below w.heap.size w ((parW w1 P 0).drewN q)) := hide (fun q => ⟨(unhide H2).below ((Kp.drewQ (parW w1 P 0) q).below (Nat.le_refl _) (by simp)) (Nat.le_refl _), (unhide HB).trans (((Kp.drewQ (parW w1 P 0) q).below (Nat.le_refl _) (by simp)).mono (unhide HB).size)⟩)
  generalize r.length + 3 = n at *
  obtain ⟨l0, l1, l2⟩ := hl3
  have l0i : (0 : Int) < (n : Int) := by omega
  have l1i : (1 : Int) < (n : Int) := by omega
  have l2i : (2 : Int) < (n : Int) := by omega
  go_upto_region 4 with fail
  unfold parW at kc x0 x1 y0 y1 z0 z1 HOUT
  clear H2 HB
  rw [g0] at x0
  rw [g1] at x1
  rw [g2] at y0
  rw [g5] at z0
  clear g0 g1 g2 g5
  go_wp2
  go_quiet (fail)
  go_wp2
  (try simp only [Exit.inBlock, Exit.then])
  refine bodyPost_ret (results_tmp4 rfl _ _ _) rfl ?_
  exact ⟨⟨_, rfl, (unhide HOUT _).1⟩, (unhide HOUT _).2⟩
theorem rparse_not (p : ByteArray) (many : Nat) (k m : Int) (w : World) (hp : p.size ≤ 262144) (hmany : 3 ≤ many ∧ many ≤ 4) (h : ¬ prs p many k m) :
    Calls Try.prog 29 #[.string p, .int .i64 k, .int .i64 (many : Int), .int .i64 m] w fun e w' => e = .returned (.tuple #[.int .i64 0, .int .i64 0, .slice none 0 0, .bool false]) ∧ Below w.heap.size w w' := by
  by_cases hc : (decS p.data.toList).2.2 = 0
  · by_cases hl : (decS p.data.toList).1.length = many
    · obtain ⟨x, y, z, r, he⟩ : ∃ x y z r, (decS p.data.toList).1 = x :: y :: z :: r := by
        match hm : (decS p.data.toList).1 with
        | x :: y :: z :: r => exact ⟨x, y, z, r, rfl⟩
        | [] => rw [hm] at hl; simp at hl; omega
        | [_] => rw [hm] at hl; simp at hl; omega
        | [_, _] => rw [hm] at hl; simp at hl; omega
      have hn : ¬ hdR k m x y z := fun hh => h ⟨hc, hl, x, y, z, r, he, hh⟩
      unfold hdR at hn
      cases g0 : x.t with
      | true => exact rparse_f0 p many k m w hp hmany x y z r hc hl he g0
      | false =>
        by_cases g1 : x.n = k
        · cases g2 : y.t with
          | true => exact rparse_f2 p many k m w hp hmany x y z r hc hl he g0 g1 g2
          | false =>
            by_cases g3 : y.n < 0
            · exact rparse_f3 p many k m w hp hmany x y z r hc hl he g0 g1 g2 g3
            · by_cases g4 : 1073741824 < y.n
              · exact rparse_f4 p many k m w hp hmany x y z r hc hl he g0 g1 g2 g3 g4
              · cases g5 : z.t with
                | true => exact rparse_f5 p many k m w hp hmany x y z r hc hl he g0 g1 g2 g3 g4 g5
                | false =>
                  by_cases g6 : z.n < 0
                  · exact rparse_f6 p many k m w hp hmany x y z r hc hl he g0 g1 g2 g3 g4 g5 g6
                  · by_cases g7 : m < z.n
                    · exact rparse_f7 p many k m w hp hmany x y z r hc hl he g0 g1 g2 g3 g4 g5 g6 g7
                    · exact absurd ⟨g0, g1, g2, by omega, by omega, g5, by omega, by omega⟩ hn
        · exact rparse_f1 p many k m w hp hmany x y z r hc hl he g0 g1
    · exact rparse_many p many k m w hp hmany hc hl
  · exact rparse_code p many k m w hp hmany hc
theorem rparse_ok (p : ByteArray) (many : Nat) (k m : Int) (w : World) (hp : p.size ≤ 262144) (hmany : 3 ≤ many ∧ many ≤ 4) (x y z : It) (r : List It) (hc : (decS p.data.toList).2.2 = 0) (hl : (decS p.data.toList).1.length = many) (he : (decS p.data.toList).1 = x :: y :: z :: r) (hh : hdR k m x y z) :
    Calls Try.prog 29 #[.string p, .int .i64 k, .int .i64 (many : Int), .int .i64 m] w fun e w' => (∃ v, e = .returned (.tuple #[.int .i64 y.n, .int .i64 z.n, v, .bool true]) ∧ OwnsI w.heap.size w' v (x :: y :: z :: r)) ∧ Below w.heap.size w w' := by
  obtain ⟨g0, g1, g2, g3, g4, g5, g6, g7⟩ := hh
  exact rparse_y p many k m w hp hmany x y z r hc hl he g0 g1 g2 (by omega) (by omega) g5 (by omega) (by omega)
end Go.Proofs.Ytiomngpfolkgpaa
