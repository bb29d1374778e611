/-
  A net: Counts, New.
  A number from 0 to n - 1: the plain fact.
  A net: the chapter's example; a number from 0 to n - 1; four counts compared.
-/
import Derived.Test.YtledoopfffhigaaT07
import Derived.Laws.Rows
import Derived.Test.YtledoopfffhigaaT01
import Derived.Test.YtledoopfffhigaaT06
namespace Go.Proofs.Ytledoopfffhigaa
open Go.RowKit Nt

/-- Four counts as cells. -/
def q4 (c : Nat → Int) : Array Value := #[.int .i64 (c 0), .int .i64 (c 1), .int .i64 (c 2), .int .i64 (c 3)]
theorem q4_at (c : Nat → Int) (k : Nat) (hk : k < 4) : (q4 c)[k]? = some (.int .i64 (c k)) := by
  match k, hk with
  | 0, _ => rfl
  | 1, _ => rfl
  | 2, _ => rfl
  | 3, _ => rfl
theorem q4_up (c : Nat → Int) (k : Nat) (x : Int) (hk : k < 4) : (q4 c).setIfInBounds k (.int .i64 x) = q4 (up c k x) := by
  match k, hk with
  | 0, _ => rfl
  | 1, _ => rfl
  | 2, _ => rfl
  | 3, _ => rfl
theorem q4_ext {c d : Nat → Int} (h : ∀ k, k < 4 → c k = d k) : q4 c = q4 d := by
  unfold q4
  rw [h 0 (by decide), h 1 (by decide), h 2 (by decide), h 3 (by decide)]
/-- The first k counts. -/
def fst4 (c : Nat → Int) (k : Nat) : Nat → Int := fun i => if i < k then c i else 0
theorem fst4_next (c : Nat → Int) (k : Nat) : up (fst4 c k) k (c k) = fst4 c (k + 1) := by
  funext i
  unfold up fst4
  by_cases h : i = k
  · subst h; simp
  · by_cases h2 : i < k
    · simp [h, h2, show i < k + 1 by omega]
    · simp [h, h2, show ¬ i < k + 1 by omega]
theorem fst4_all (c : Nat → Int) : q4 (fst4 c 4) = q4 c := q4_ext fun k hk => by unfold fst4; simp [hk]
theorem fst4_none (c : Nat → Int) : fst4 c 0 = zero := by funext i; unfold fst4 zero; simp
/-- A row of four written over. -/
def set4 (g : Nat) (c : Nat → Int) (w : World) : World := (((w.setCell ⟨g, 0, none⟩ (.int .i64 (c 0))).setCell ⟨g, 1, none⟩ (.int .i64 (c 1))).setCell ⟨g, 2, none⟩ (.int .i64 (c 2))).setCell ⟨g, 3, none⟩ (.int .i64 (c 3))
theorem CBox.set4 {g t : Nat} {z : Nat → Int} {w : World} (h : CBox g (q4 z) t w) (c : Nat → Int) : CBox g (q4 c) t (set4 g c w) := by
  have h1 := (((h.set 0 (.int .i64 (c 0))).set 1 (.int .i64 (c 1))).set 2 (.int .i64 (c 2))).set 3 (.int .i64 (c 3))
  exact h1
theorem Kp.set4 (w : World) (g : Nat) (c : Nat → Int) : Kp [g] w (set4 g c w) := by
  unfold Go.Proofs.Ytledoopfffhigaa.set4
  exact (((Kp.set w g 0 _).trans (Kp.set _ g 1 _) (fun _ hx => Or.inl hx)).trans (Kp.set _ g 2 _) (fun _ hx => Or.inl hx)).trans (Kp.set _ g 3 _) (fun _ hx => Or.inl hx)
set_option maxHeartbeats 1000000 in
set_option maxRecDepth 100000 in
theorem nall_any (b q : Nat) (vs : List Value) (s : St) (w : World) (h : NtV w b q vs s) :
    Calls Try.prog 25 #[.pointer (some ⟨b, 1, none⟩)] w fun e w' => e = .returned (.agg (q4 s.c)) ∧ Kp [] w w' := by
  have LD : Hid (∀ k, k < 4 → ∀ W, Kp [] w W → Calls Try.prog 38 #[.pointer (some ⟨b, 1 + k, none⟩)] W fun e w' => e = .returned (.int .i64 (s.c k)) ∧ w' = W) := hide (fun k hk W hW => naLoad b (1 + k) (s.c k) W ((h.kp hW (by simp)).box.cell (ntC_at _ _ _ k hk)))
  clear h
  generalize s.c = c at *
  have HST : Hid (CBox (w.heap.size + 1) (q4 (fst4 c 0)) 33 ((w.alloc (.cells (q4 zero) 33)).alloc (.cells (q4 zero) 33)) ∧ CBox w.heap.size (q4 zero) 33 ((w.alloc (.cells (q4 zero) 33)).alloc (.cells (q4 zero) 33)) ∧ Kp [] w ((w.alloc (.cells (q4 zero) 33)).alloc (.cells (q4 zero) 33))) := hide (by
    refine ⟨?_, (CBox.new w _ _).kp (Kp.alloc _ _) (by simp), kp_tr (Kp.alloc _ _) (Kp.alloc _ _)⟩
    rw [fst4_none]
    have := CBox.new (w.alloc (.cells (q4 zero) 33)) (q4 zero) 33
    rwa [World.size_alloc] at this)
  go_enter Try.func25, Try.ntmps25
  go_wp2_with fail
  go_loopw [5] (fun i wr => ∃ k : Nat, k ≤ 4 ∧ i = .int .i64 (k : Int) ∧ Hid (CBox (w.heap.size + 1) (q4 (fst4 c k)) 33 wr ∧ CBox w.heap.size (q4 zero) 33 wr ∧ Kp [] w wr)) (fun i _ => 4 - (intOf i).toNat)
  case atStart => exact ⟨0, by decide, rfl, HST⟩
  case round =>
    clear HST
    obtain ⟨k, hk, rfl, HR⟩ := hrel
    by_cases hk8 : k < 4
    · have h1 : (k : Int) < 4 := by omega
      have CO := hide (unhide LD k hk8 wr (unhide HR).2.2)
      have fc := (unhide HR).1.cell (q4_at _ k hk8)
      have fz := (unhide HR).1.froz k
      have HN : Hid (CBox (w.heap.size + 1) (q4 (fst4 c (k + 1))) 33 (wr.setCell ⟨w.heap.size + 1, k, none⟩ (.int .i64 (c k))) ∧ CBox w.heap.size (q4 zero) 33 (wr.setCell ⟨w.heap.size + 1, k, none⟩ (.int .i64 (c k))) ∧ Kp [] w (wr.setCell ⟨w.heap.size + 1, k, none⟩ (.int .i64 (c k)))) := hide (by
        refine ⟨?_, (unhide HR).2.1.kp (Kp.set _ _ _ _) (by simp), (unhide HR).2.2.trans (Kp.set _ _ _ _) (by simp)⟩
        rw [← fst4_next, ← q4_up _ _ _ hk8]
        exact (unhide HR).1.set k _)
      clear HR LD
      generalize c k = ck at *
      go_wp2_with fail
      refine (unhide CO).mono ?_
      rintro r w1 ⟨rfl, rfl⟩
      go_wp2
      go_roundw
      case rel => exact ⟨k + 1, by omega, by go_num, HN⟩
      case measure => simp [intOf]; omega
    · have hk9 : k = 4 := by omega
      subst hk9
      obtain ⟨hx, hz, hkp⟩ := unhide HR
      rw [fst4_all] at hx
      have d0 := hx.cell (q4_at c 0 (by decide))
      have z0 := hz.cell (q4_at zero 0 (by decide))
      have f0 := hz.froz 0
      have d1 := hx.cell (q4_at c 1 (by decide))
      have z1 := hz.cell (q4_at zero 1 (by decide))
      have f1 := hz.froz 1
      have d2 := hx.cell (q4_at c 2 (by decide))
      have z2 := hz.cell (q4_at zero 2 (by decide))
      have f2 := hz.froz 2
      have d3 := hx.cell (q4_at c 3 (by decide))
      have z3 := hz.cell (q4_at zero 3 (by decide))
      have f3 := hz.froz 3
      have HX := hide hx
      have HZ := hide hz
      have HK := hide hkp
      clear HR hx hz hkp LD
      go_wp2
      have hw : (set4 w.heap.size c wr).heap[w.heap.size]? = some (.cells (q4 c) 33 (0, 0)) := CBox.set4 (unhide HZ) c
      have hq : Kp [] w (set4 w.heap.size c wr) := (unhide HK).trans (Kp.set4 _ _ _) (by simp)
      refine bodyPost_ret (v := .agg (q4 c)) ?_ rfl ⟨rfl, hq⟩
      exact results_cell_row (p := 2) (ty := 33) rfl _ _ w.heap.size 33 (q4 c) (0, 0) _ rfl hw Try.underlying33 rfl rfl
set_option maxHeartbeats 1000000 in
set_option maxRecDepth 100000 in
theorem ncounts_any (B b : Nat) (s : St) (w : World) (h : NtAt B w b s) :
    Calls Try.prog 10 #[.pointer (some ⟨b, 0, none⟩)] w fun e w' => e = .returned (.agg (q4 s.c)) ∧ Kp [] w w' := by
  obtain ⟨q, vs, hn, hB⟩ := h
  have AL := hide (nall_any b q vs s (w.alloc (.cells (q4 zero) 33)) (hn.kp (Kp.alloc _ _) (by simp)))
  have hb := CBox.new w (q4 zero) 33
  have HB := hide hb
  clear hn hB hb
  generalize s.c = c at *
  go_enter Try.func10, Try.ntmps10
  go_wp2_with fail
  refine (unhide AL).mono ?_
  rintro r w1 ⟨rfl, hk⟩
  have hz := (unhide HB).kp hk (by simp)
  have z0 := hz.cell (q4_at zero 0 (by decide))
  have f0 := hz.froz 0
  have z1 := hz.cell (q4_at zero 1 (by decide))
  have f1 := hz.froz 1
  have z2 := hz.cell (q4_at zero 2 (by decide))
  have f2 := hz.froz 2
  have z3 := hz.cell (q4_at zero 3 (by decide))
  have f3 := hz.froz 3
  have HZ := hide hz
  have HK := hide (kp_tr (Kp.alloc w (.cells (q4 zero) 33)) hk)
  clear hz hk AL HB
  unfold q4
  go_wp2
  have hw : (set4 w.heap.size c w1).heap[w.heap.size]? = some (.cells (q4 c) 33 (0, 0)) := CBox.set4 (unhide HZ) c
  have hq : Kp [] w (set4 w.heap.size c w1) := (unhide HK).trans (Kp.set4 _ _ _) (by simp)
  refine bodyPost_ret (v := .agg (q4 c)) ?_ rfl ⟨rfl, hq⟩
  exact results_cell_row (p := 2) (ty := 33) rfl _ _ w.heap.size 33 (q4 c) (0, 0) _ rfl hw Try.underlying33 rfl rfl
theorem nnew_not (n : Int) (w : World) (h : n < 1 ∨ 17 < n) :
    Calls Try.prog 7 #[.int .i64 n] w fun e w' => e = .returned (.tuple #[.pointer none, .int .i64 1]) ∧ w' = w := by
  go_enter Try.func7, Try.ntmps7
  by_cases h1 : n < 1
  · clear h
    go_wp2
    go_ret2
    exact ⟨rfl, rfl⟩
  · have h2 : 17 < n := by omega
    clear h
    go_wp2
    go_ret2
    exact ⟨rfl, rfl⟩
theorem made_one (x : Value) (n : Nat) : madeCells #[x] n = (List.replicate n x).toArray := by
  apply Array.ext_getElem?
  intro j
  unfold madeCells
  by_cases hj : j < n
  · simp [hj, Nat.mod_one]
  · simp [hj]
theorem info_way : (Try.prog.info? 68).map (fun i => (i.zero, i.size, i.bytes)) = some (some (.slice none 0 0), 1, 24) := by kernel_rfl
theorem nmk_parts (n : Nat) (hn : n ≤ 17) (W : World) : (Instr.makeSlice 56 (.int .i64 (n : Int)) (.int .i64 (n : Int))).run Try.prog W = .ok (.slice (some ⟨W.heap.size, 0, none⟩) n n) (W.alloc (.cells (Array.replicate n (Value.slice none 0 0)) 68)) := by
  obtain ⟨i0, hi, hz0, hz1, hz2⟩ := info_parts info_way
  have := run_make (P := Try.prog) W 56 68 i0 (.slice none 0 0) Try.underlying56 hi hz0 .i64 .i64 (n : Int) (n : Int) (by omega) (by omega) (by rw [hz2]; omega) (by omega)
  rw [hz1] at this
  simp only [Int.toNat_natCast, Nat.mul_one] at this
  rw [this]
  show _ = Result.ok _ (W.alloc (.cells (List.replicate n (Value.slice none 0 0)).toArray _))
  rw [← made_one]
  rfl
set_option maxHeartbeats 1000000 in
set_option maxRecDepth 100000 in
theorem nnew_ok (n : Nat) (h1 : 1 ≤ n) (h2 : n ≤ 17) (w : World) :
    Calls Try.prog 7 #[.int .i64 (n : Int)] w fun e w' => ∃ b, e = .returned (.tuple #[.pointer (some ⟨b, 0, none⟩), .int .i64 0]) ∧ NtAt w.heap.size w' b (new n) ∧ Kp [] w w' := by
  have hmk := nmk_parts n h2
  go_enter Try.func7, Try.ntmps7
  go_wp2
  go_ret2
  have hq := CBox.new w (Array.replicate n (Value.slice none 0 0)) 68
  have k1 := Kp.alloc w (.cells (Array.replicate n (Value.slice none 0 0)) 68)
  have hz : (w.alloc (.cells (Array.replicate n (Value.slice none 0 0)) 68)).heap.size = w.heap.size + 1 := by simp
  generalize w.alloc (.cells (Array.replicate n (Value.slice none 0 0)) 68) = W1 at *
  have hg := CBox.new W1 (ntC w.heap.size n zero) 65
  have k2 := Kp.alloc W1 (.cells (ntC w.heap.size n zero) 65)
  rw [hz] at hg
  refine ⟨w.heap.size + 1, rfl, ⟨w.heap.size, List.replicate n (.slice none 0 0), ⟨?_, ?_, by unfold new; simp, ?_, ?_⟩, ?_⟩, kp_tr k1 k2⟩
  · show CBox _ (ntC w.heap.size (List.replicate n ([] : List Pk)).length zero) _ _
    rw [List.length_replicate]
    exact hg
  · have := hq.kp k2 (by simp)
    rwa [show (List.replicate n (Value.slice none 0 0)).toArray = Array.replicate n (Value.slice none 0 0) by simp]
  · intro i v l hv hl
    have e1 := List.eq_of_mem_replicate (List.mem_of_getElem? hv)
    have e2 := List.eq_of_mem_replicate (List.mem_of_getElem? (show (List.replicate n ([] : List Pk))[i]? = some l from hl))
    rw [e1, e2]
    exact PkRow.nil _
  · intro i j u v k hu hv hk
    rw [List.eq_of_mem_replicate (List.mem_of_getElem? hu)] at hk
    cases hk
  · intro k hk
    rcases mem_ntF.1 hk with rfl | rfl | ⟨v, hv, hb⟩
    · omega
    · exact Nat.le_refl _
    · rw [List.eq_of_mem_replicate hv] at hb
      cases hb
end Go.Proofs.Ytledoopfffhigaa
namespace Go.Proofs.Ytledoopfffhigaa

theorem among_eq (x n : Int) (hn : 0 < n) : (x.tmod n + n).tmod n = x % n := by
  rcases Int.lt_or_le x 0 with h | h
  · have h1 := Int.tmod_eq_emod (a := x) (b := n)
    have h2 := Int.emod_nonneg x (by omega : n ≠ 0)
    have h3 := Int.emod_lt_of_pos x hn
    by_cases hd : n ∣ x
    · have e : x % n = 0 := Int.emod_eq_zero_of_dvd hd
      rw [h1, if_pos (Or.inr hd), e]
      simp
    · rw [h1, if_neg (by omega), show (n.natAbs : Int) = n by omega, show x % n - n + n = x % n by omega, Int.tmod_eq_emod_of_nonneg h2, Int.emod_emod_of_dvd x (Int.dvd_refl n)]
  · rw [Int.tmod_eq_emod_of_nonneg h, Int.tmod_eq_emod_of_nonneg (by have := Int.emod_nonneg x (by omega : n ≠ 0); omega)]
    simp
end Go.Proofs.Ytledoopfffhigaa
namespace Go.Proofs.Ytledoopfffhigaa
open Go.RowKit Nt

theorem eq4i (d : Nat) (a0 a1 a2 a3 b0 b1 b2 b3 : Int) (w : World) : (Op.equalIn (d + 2) 33 (.agg #[.int .i64 a0, .int .i64 a1, .int .i64 a2, .int .i64 a3]) (.agg #[.int .i64 b0, .int .i64 b1, .int .i64 b2, .int .i64 b3])).run Try.prog w = .ok (a0 == b0 && (a1 == b1 && (a2 == b2 && a3 == b3))) w := by
  have hi := fun (a b : Int) (w : World) => run_equalIn_int (P := Try.prog) w d 3 .i64 .i64 a b Try.underlying3
  unfold Op.equalIn
  simp only [Sem.run_bind, run_underlying Try.underlying33, Result.andThen_ok]
  simp [part, Try.sizeOf3, go_sem, hi, Std.Legacy.Range.forIn_eq_forIn_range', List.range'_succ]
  by_cases h0 : a0 = b0 <;> by_cases h1 : a1 = b1 <;> by_cases h2 : a2 = b2 <;> by_cases h3 : a3 = b3 <;> simp [h0, h1, h2, h3]
set_option maxHeartbeats 400000 in
theorem nAmong_any (x n : Int) (w : World) (hn : 0 < n) (hn1 : n ≤ 1099511627776) :
    Calls Try.prog 15 #[.int .i64 x, .int .i64 n] w fun e w' => e = .returned (.int .i64 (x % n)) ∧ w' = w := by
  have hne : (n == 0) = false := beq_eq_false_iff_ne.2 (by omega)
  have e1 := among_eq x n hn
  have b1 : -n < x.tmod n := Int.lt_tmod_of_pos x hn
  have b2 : x.tmod n < n := Int.tmod_lt_of_pos x hn
  go_enter Try.func15, Try.ntmps15
  go_wp2
  go_ret
  exact ⟨rfl, rfl⟩
theorem ks_kp {w w' : World} {T : List Nat} (h : Ks w.heap.size T w w') : Kp [] w w' := Kp.ofBelow (h.below (Nat.le_refl _))
/-- The nets of the chapter's example, one by one. -/
def y0 : St := new 2
def y1 : St := seS y0 0 1 ⟨#[97]⟩
def y2 : St := seS y1 0 1 ⟨#[98]⟩
def y3 : St := coS y2 1 0
def y4 : St := off y3 1 0 1
def y5 : St := off y4 1 1 3
theorem yo0 : Ok 0 y0 := Ok.new 2 (by decide) (by decide)
theorem yo1 : Ok 1 y1 := yo0.see 0 1 _
theorem yo2 : Ok 2 y2 := yo1.see 0 1 _
theorem yo3 : Ok 3 y3 := yo2.co 1 0
theorem yo4 : Ok 4 y4 := yo3.off 1 0 1
theorem yo5 : Ok 5 y5 := yo4.off 1 1 3
theorem ya1 : seE y0 0 1 ⟨#[97]⟩ = 0 := by rfl
theorem ya2 : seE y1 0 1 ⟨#[98]⟩ = 0 := by rfl
theorem ya3 : coE y2 1 0 = 0 := by rfl
theorem ya4 : fiE y3 1 0 = 0 := by rfl
theorem ya5 : fiE y4 1 1 = 0 ∧ taF y4 1 1 = 0 ∧ taB y4 1 1 = ⟨#[97]⟩ := ⟨by rfl, by rfl, by rfl⟩
theorem ya6 : wyE y5 1 = 0 ∧ wyN y5 1 = 1 := ⟨by rfl, by rfl⟩
theorem ya7 : q4 y5.c = #[.int .i64 2, .int .i64 1, .int .i64 1, .int .i64 1] := by rfl
set_option maxHeartbeats 2000000 in
set_option maxRecDepth 100000 in
theorem nworks_any (w : World) : Calls Try.prog 11 #[] w fun e w' => e = .returned (.bool true) ∧ Kp [] w w' := by
  have NW := hide (nnew_ok 2 (by decide) (by decide) w)
  have S1 := hide (fun W b (h : NtAt w.heap.size W b y0) => nsend_any _ b y0 0 1 ⟨#[97]⟩ W 0 h yo0 (by decide) (by decide))
  have S2 := hide (fun W b (h : NtAt w.heap.size W b y1) => nsend_any _ b y1 0 1 ⟨#[98]⟩ W 1 h yo1 (by decide) (by decide))
  have S3 := hide (fun W b (h : NtAt w.heap.size W b y2) => ncopy_any _ b y2 1 0 W 2 h yo2 (by decide))
  have S4 := hide (fun W b (h : NtAt w.heap.size W b y3) => nlose_any _ b y3 1 0 W 3 h yo3 (by decide))
  have S5 := hide (fun W b (h : NtAt w.heap.size W b y4) => ntake_any _ b y4 1 1 W 4 h yo4 (by decide))
  have S6 := hide (fun W b (h : NtAt w.heap.size W b y5) => h.elim fun q h => h.elim fun vs h => nway_any b q vs y5 1 W h.1)
  have S7 := hide (fun W b (h : NtAt w.heap.size W b y5) => ncounts_any _ b y5 W h)
  rw [ya1] at S1
  rw [ya2] at S2
  rw [ya3] at S3
  rw [ya4] at S4
  rw [ya5.1, ya5.2.1, ya5.2.2] at S5
  rw [ya6.1, ya6.2] at S6
  rw [ya7] at S7
  have E4 := fun a0 a1 a2 a3 b0 b1 b2 b3 W => eq4i 9998 a0 a1 a2 a3 b0 b1 b2 b3 W
  go_enter Try.func11, Try.ntmps11
  go_wp2_with fail
  refine (unhide NW).mono ?_
  rintro r w1 ⟨b, rfl, h1, k1⟩
  have H1 := hide h1
  have K1 : Hid (Ks w.heap.size ntT w w1) := hide (Ks.nil k1)
  clear NW h1 k1
  go_wp2_with fail
  refine (unhide S1 _ _ (unhide H1)).mono ?_
  rintro r w2 ⟨rfl, h1, k1⟩
  have H2 := hide h1
  have K2 : Hid (Ks w.heap.size ntT w w2) := hide ((unhide K1).trans k1)
  clear S1 H1 K1 h1 k1
  go_wp2_with fail
  refine (unhide S2 _ _ (unhide H2)).mono ?_
  rintro r w3 ⟨rfl, h1, k1⟩
  have H3 := hide h1
  have K3 : Hid (Ks w.heap.size ntT w w3) := hide ((unhide K2).trans k1)
  clear S2 H2 K2 h1 k1
  go_wp2_with fail
  refine (unhide S3 _ _ (unhide H3)).mono ?_
  rintro r w4 ⟨rfl, h1, k1⟩
  have H4 := hide h1
  have K4 : Hid (Ks w.heap.size ntT w w4) := hide ((unhide K3).trans k1)
  clear S3 H3 K3 h1 k1
  go_wp2_with fail
  refine (unhide S4 _ _ (unhide H4)).mono ?_
  rintro r w5 ⟨rfl, h1, k1⟩
  have H5 := hide h1
  have K5 : Hid (Ks w.heap.size ntT w w5) := hide ((unhide K4).trans k1)
  clear S4 H4 K4 h1 k1
  go_wp2_with fail
  refine (unhide S5 _ _ (unhide H5)).mono ?_
  rintro r w6 ⟨rfl, h1, k1⟩
  have H6 := hide h1
  have K6 : Hid (Ks w.heap.size ntT w w6) := hide ((unhide K5).trans k1)
  clear S5 H5 K5 h1 k1
  go_wp2_with fail
  refine (unhide S6 _ _ (unhide H6)).mono ?_
  rintro r w7 ⟨rfl, rfl⟩
  go_wp2_with fail
  refine (unhide S7 _ _ (unhide H6)).mono ?_
  rintro r w8 ⟨rfl, k1⟩
  have K8 : Hid (Ks w.heap.size ntT w w8) := hide ((unhide K6).trans (Ks.nil k1))
  clear S6 S7 H6 K6 k1
  go_wp2
  go_ret
  exact ⟨rfl, ks_kp (unhide K8)⟩
end Go.Proofs.Ytledoopfffhigaa
