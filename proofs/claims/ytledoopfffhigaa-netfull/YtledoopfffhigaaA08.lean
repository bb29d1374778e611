/-
  A net: Counts, New.
  A number from 0 to n - 1: the plain fact.
  A net: the chapter's example; a number from 0 to n - 1; four counts compared.
  NetFull: the walk.
-/
import Derived.Test.YtledoopfffhigaaA07
import Derived.Laws.Rows
import Derived.Test.YtledoopfffhigaaA01
import Derived.Test.YtledoopfffhigaaA06
import Derived.Laws.MakeOwn
namespace Go.Proofs.Ytledoopfffhigaa
open Go.RowKit Nt

/-- Four counts as cells. -/
def q4 (c : Nat → Int) : Array Value := #[.int .i64 (c 0), .int .i64 (c 1), .int .i64 (c 2), .int .i64 (c 3)]
theorem q4_at (c : Nat → Int) (k : Nat) (hk : k < 4) : (q4 c)[k]? = some (.int .i64 (c k)) := by
  match k, hk with
  | 0, _ => rfl
  | 1, _ => rfl
  | 2, _ => rfl
  | 3, _ => rfl
theorem q4_up (c : Nat → Int) (k : Nat) (x : Int) (hk : k < 4) : (q4 c).setIfInBounds k (.int .i64 x) = q4 (up c k x) := by
  match k, hk with
  | 0, _ => rfl
  | 1, _ => rfl
  | 2, _ => rfl
  | 3, _ => rfl
theorem q4_ext {c d : Nat → Int} (h : ∀ k, k < 4 → c k = d k) : q4 c = q4 d := by
  unfold q4
  rw [h 0 (by decide), h 1 (by decide), h 2 (by decide), h 3 (by decide)]
/-- The first k counts. -/
def fst4 (c : Nat → Int) (k : Nat) : Nat → Int := fun i => if i < k then c i else 0
theorem fst4_next (c : Nat → Int) (k : Nat) : up (fst4 c k) k (c k) = fst4 c (k + 1) := by
  funext i
  unfold up fst4
  by_cases h : i = k
  · subst h; simp
  · by_cases h2 : i < k
    · simp [h, h2, show i < k + 1 by omega]
    · simp [h, h2, show ¬ i < k + 1 by omega]
theorem fst4_all (c : Nat → Int) : q4 (fst4 c 4) = q4 c := q4_ext fun k hk => by unfold fst4; simp [hk]
theorem fst4_none (c : Nat → Int) : fst4 c 0 = zero := by funext i; unfold fst4 zero; simp
/-- A row of four written over. -/
def set4 (g : Nat) (c : Nat → Int) (w : World) : World := (((w.setCell ⟨g, 0, none⟩ (.int .i64 (c 0))).setCell ⟨g, 1, none⟩ (.int .i64 (c 1))).setCell ⟨g, 2, none⟩ (.int .i64 (c 2))).setCell ⟨g, 3, none⟩ (.int .i64 (c 3))
theorem CBox.set4 {g t : Nat} {z : Nat → Int} {w : World} (h : CBox g (q4 z) t w) (c : Nat → Int) : CBox g (q4 c) t (set4 g c w) := by
  have h1 := (((h.set 0 (.int .i64 (c 0))).set 1 (.int .i64 (c 1))).set 2 (.int .i64 (c 2))).set 3 (.int .i64 (c 3))
  exact h1
theorem Kp.set4 (w : World) (g : Nat) (c : Nat → Int) : Kp [g] w (set4 g c w) := by
  unfold Go.Proofs.Ytledoopfffhigaa.set4
  exact (((Kp.set w g 0 _).trans (Kp.set _ g 1 _) (fun _ hx => Or.inl hx)).trans (Kp.set _ g 2 _) (fun _ hx => Or.inl hx)).trans (Kp.set _ g 3 _) (fun _ hx => Or.inl hx)
set_option maxHeartbeats 1000000 in
set_option maxRecDepth 100000 in
theorem nall_any (b q : Nat) (vs : List Value) (s : St) (w : World) (h : NtV w b q vs s) :
    Calls Try.prog 25 #[.pointer (some ⟨b, 1, none⟩)] w fun e w' => e = .returned (.agg (q4 s.c)) ∧ Kp [] w w' := by
  have LD : Hid (∀ k, k < 4 → ∀ W, Kp [] w W → Calls Try.prog 38 #[.pointer (some ⟨b, 1 + k, none⟩)] W fun e w' => e = .returned (.int .i64 (s.c k)) ∧ w' = W) := hide (fun k hk W hW => naLoad b (1 + k) (s.c k) W ((h.kp hW (by simp)).box.cell (ntC_at _ _ _ k hk)))
  clear h
  generalize s.c = c at *
  have HST : Hid (CBox (w.heap.size + 1) (q4 (fst4 c 0)) 33 ((w.alloc (.cells (q4 zero) 33)).alloc (.cells (q4 zero) 33)) ∧ CBox w.heap.size (q4 zero) 33 ((w.alloc (.cells (q4 zero) 33)).alloc (.cells (q4 zero) 33)) ∧ Kp [] w ((w.alloc (.cells (q4 zero) 33)).alloc (.cells (q4 zero) 33))) := hide (by
    refine ⟨?_, (CBox.new w _ _).kp (Kp.alloc _ _) (by simp), kp_tr (Kp.alloc _ _) (Kp.alloc _ _)⟩
    rw [fst4_none]
    have := CBox.new (w.alloc (.cells (q4 zero) 33)) (q4 zero) 33
    rwa [World.size_alloc] at this)
  go_enter Try.func25, Try.ntmps25
  go_wp2_with fail
  go_loopw [5] (fun i wr => ∃ k : Nat, k ≤ 4 ∧ i = .int .i64 (k : Int) ∧ Hid (CBox (w.heap.size + 1) (q4 (fst4 c k)) 33 wr ∧ CBox w.heap.size (q4 zero) 33 wr ∧ Kp [] w wr)) (fun i _ => 4 - (intOf i).toNat)
  case atStart => exact ⟨0, by decide, rfl, HST⟩
  case round =>
    clear HST
    obtain ⟨k, hk, rfl, HR⟩ := hrel
    by_cases hk8 : k < 4
    · have h1 : (k : Int) < 4 := by omega
      have CO := hide (unhide LD k hk8 wr (unhide HR).2.2)
      have fc := (unhide HR).1.cell (q4_at _ k hk8)
      have fz := (unhide HR).1.froz k
      have HN : Hid (CBox (w.heap.size + 1) (q4 (fst4 c (k + 1))) 33 (wr.setCell ⟨w.heap.size + 1, k, none⟩ (.int .i64 (c k))) ∧ CBox w.heap.size (q4 zero) 33 (wr.setCell ⟨w.heap.size + 1, k, none⟩ (.int .i64 (c k))) ∧ Kp [] w (wr.setCell ⟨w.heap.size + 1, k, none⟩ (.int .i64 (c k)))) := hide (by
        refine ⟨?_, (unhide HR).2.1.kp (Kp.set _ _ _ _) (by simp), (unhide HR).2.2.trans (Kp.set _ _ _ _) (by simp)⟩
        rw [← fst4_next, ← q4_up _ _ _ hk8]
        exact (unhide HR).1.set k _)
      clear HR LD
      generalize c k = ck at *
      go_wp2_with fail
      refine (unhide CO).mono ?_
      rintro r w1 ⟨rfl, rfl⟩
      go_wp2
      go_roundw
      case rel => exact ⟨k + 1, by omega, by go_num, HN⟩
      case measure => simp [intOf]; omega
    · have hk9 : k = 4 := by omega
      subst hk9
      obtain ⟨hx, hz, hkp⟩ := unhide HR
      rw [fst4_all] at hx
      have d0 := hx.cell (q4_at c 0 (by decide))
      have z0 := hz.cell (q4_at zero 0 (by decide))
      have f0 := hz.froz 0
      have d1 := hx.cell (q4_at c 1 (by decide))
      have z1 := hz.cell (q4_at zero 1 (by decide))
      have f1 := hz.froz 1
      have d2 := hx.cell (q4_at c 2 (by decide))
      have z2 := hz.cell (q4_at zero 2 (by decide))
      have f2 := hz.froz 2
      have d3 := hx.cell (q4_at c 3 (by decide))
      have z3 := hz.cell (q4_at zero 3 (by decide))
      have f3 := hz.froz 3
      have HX := hide hx
      have HZ := hide hz
      have HK := hide hkp
      clear HR hx hz hkp LD
      go_wp2
      have hw : (set4 w.heap.size c wr).heap[w.heap.size]? = some (.cells (q4 c) 33 (0, 0)) := CBox.set4 (unhide HZ) c
      have hq : Kp [] w (set4 w.heap.size c wr) := (unhide HK).trans (Kp.set4 _ _ _) (by simp)
      refine bodyPost_ret (v := .agg (q4 c)) ?_ rfl ⟨rfl, hq⟩
      exact results_cell_row (p := 2) (ty := 33) rfl _ _ w.heap.size 33 (q4 c) (0, 0) _ rfl hw Try.underlying33 rfl rfl
set_option maxHeartbeats 1000000 in
set_option maxRecDepth 100000 in
theorem ncounts_any (B b : Nat) (s : St) (w : World) (h : NtAt B w b s) :
    Calls Try.prog 10 #[.pointer (some ⟨b, 0, none⟩)] w fun e w' => e = .returned (.agg (q4 s.c)) ∧ Kp [] w w' := by
  obtain ⟨q, vs, hn, hB⟩ := h
  have AL := hide (nall_any b q vs s (w.alloc (.cells (q4 zero) 33)) (hn.kp (Kp.alloc _ _) (by simp)))
  have hb := CBox.new w (q4 zero) 33
  have HB := hide hb
  clear hn hB hb
  generalize s.c = c at *
  go_enter Try.func10, Try.ntmps10
  go_wp2_with fail
  refine (unhide AL).mono ?_
  rintro r w1 ⟨rfl, hk⟩
  have hz := (unhide HB).kp hk (by simp)
  have z0 := hz.cell (q4_at zero 0 (by decide))
  have f0 := hz.froz 0
  have z1 := hz.cell (q4_at zero 1 (by decide))
  have f1 := hz.froz 1
  have z2 := hz.cell (q4_at zero 2 (by decide))
  have f2 := hz.froz 2
  have z3 := hz.cell (q4_at zero 3 (by decide))
  have f3 := hz.froz 3
  have HZ := hide hz
  have HK := hide (kp_tr (Kp.alloc w (.cells (q4 zero) 33)) hk)
  clear hz hk AL HB
  unfold q4
  go_wp2
  have hw : (set4 w.heap.size c w1).heap[w.heap.size]? = some (.cells (q4 c) 33 (0, 0)) := CBox.set4 (unhide HZ) c
  have hq : Kp [] w (set4 w.heap.size c w1) := (unhide HK).trans (Kp.set4 _ _ _) (by simp)
  refine bodyPost_ret (v := .agg (q4 c)) ?_ rfl ⟨rfl, hq⟩
  exact results_cell_row (p := 2) (ty := 33) rfl _ _ w.heap.size 33 (q4 c) (0, 0) _ rfl hw Try.underlying33 rfl rfl
theorem nnew_not (n : Int) (w : World) (h : n < 1 ∨ 17 < n) :
    Calls Try.prog 7 #[.int .i64 n] w fun e w' => e = .returned (.tuple #[.pointer none, .int .i64 1]) ∧ w' = w := by
  go_enter Try.func7, Try.ntmps7
  by_cases h1 : n < 1
  · clear h
    go_wp2
    go_ret2
    exact ⟨rfl, rfl⟩
  · have h2 : 17 < n := by omega
    clear h
    go_wp2
    go_ret2
    exact ⟨rfl, rfl⟩
theorem made_one (x : Value) (n : Nat) : madeCells #[x] n = (List.replicate n x).toArray := by
  apply Array.ext_getElem?
  intro j
  unfold madeCells
  by_cases hj : j < n
  · simp [hj, Nat.mod_one]
  · simp [hj]
theorem info_way : (Try.prog.info? 68).map (fun i => (i.zero, i.size, i.bytes)) = some (some (.slice none 0 0), 1, 24) := by kernel_rfl
theorem nmk_parts (n : Nat) (hn : n ≤ 17) (W : World) : (Instr.makeSlice 56 (.int .i64 (n : Int)) (.int .i64 (n : Int))).run Try.prog W = .ok (.slice (some ⟨W.heap.size, 0, none⟩) n n) (W.alloc (.cells (Array.replicate n (Value.slice none 0 0)) 68)) := by
  obtain ⟨i0, hi, hz0, hz1, hz2⟩ := info_parts info_way
  have := run_make (P := Try.prog) W 56 68 i0 (.slice none 0 0) Try.underlying56 hi hz0 .i64 .i64 (n : Int) (n : Int) (by omega) (by omega) (by rw [hz2]; omega) (by omega)
  rw [hz1] at this
  simp only [Int.toNat_natCast, Nat.mul_one] at this
  rw [this]
  show _ = Result.ok _ (W.alloc (.cells (List.replicate n (Value.slice none 0 0)).toArray _))
  rw [← made_one]
  rfl
set_option maxHeartbeats 1000000 in
set_option maxRecDepth 100000 in
theorem nnew_ok (n : Nat) (h1 : 1 ≤ n) (h2 : n ≤ 17) (w : World) :
    Calls Try.prog 7 #[.int .i64 (n : Int)] w fun e w' => ∃ b, e = .returned (.tuple #[.pointer (some ⟨b, 0, none⟩), .int .i64 0]) ∧ NtAt w.heap.size w' b (new n) ∧ Kp [] w w' := by
  have hmk := nmk_parts n h2
  go_enter Try.func7, Try.ntmps7
  go_wp2
  go_ret2
  have hq := CBox.new w (Array.replicate n (Value.slice none 0 0)) 68
  have k1 := Kp.alloc w (.cells (Array.replicate n (Value.slice none 0 0)) 68)
  have hz : (w.alloc (.cells (Array.replicate n (Value.slice none 0 0)) 68)).heap.size = w.heap.size + 1 := by simp
  generalize w.alloc (.cells (Array.replicate n (Value.slice none 0 0)) 68) = W1 at *
  have hg := CBox.new W1 (ntC w.heap.size n zero) 65
  have k2 := Kp.alloc W1 (.cells (ntC w.heap.size n zero) 65)
  rw [hz] at hg
  refine ⟨w.heap.size + 1, rfl, ⟨w.heap.size, List.replicate n (.slice none 0 0), ⟨?_, ?_, by unfold new; simp, ?_, ?_⟩, ?_⟩, kp_tr k1 k2⟩
  · show CBox _ (ntC w.heap.size (List.replicate n ([] : List Pk)).length zero) _ _
    rw [List.length_replicate]
    exact hg
  · have := hq.kp k2 (by simp)
    rwa [show (List.replicate n (Value.slice none 0 0)).toArray = Array.replicate n (Value.slice none 0 0) by simp]
  · intro i v l hv hl
    have e1 := List.eq_of_mem_replicate (List.mem_of_getElem? hv)
    have e2 := List.eq_of_mem_replicate (List.mem_of_getElem? (show (List.replicate n ([] : List Pk))[i]? = some l from hl))
    rw [e1, e2]
    exact PkRow.nil _
  · intro i j u v k hu hv hk
    rw [List.eq_of_mem_replicate (List.mem_of_getElem? hu)] at hk
    cases hk
  · intro k hk
    rcases mem_ntF.1 hk with rfl | rfl | ⟨v, hv, hb⟩
    · omega
    · exact Nat.le_refl _
    · rw [List.eq_of_mem_replicate hv] at hb
      cases hb
end Go.Proofs.Ytledoopfffhigaa
namespace Go.Proofs.Ytledoopfffhigaa

theorem among_eq (x n : Int) (hn : 0 < n) : (x.tmod n + n).tmod n = x % n := by
  rcases Int.lt_or_le x 0 with h | h
  · have h1 := Int.tmod_eq_emod (a := x) (b := n)
    have h2 := Int.emod_nonneg x (by omega : n ≠ 0)
    have h3 := Int.emod_lt_of_pos x hn
    by_cases hd : n ∣ x
    · have e : x % n = 0 := Int.emod_eq_zero_of_dvd hd
      rw [h1, if_pos (Or.inr hd), e]
      simp
    · rw [h1, if_neg (by omega), show (n.natAbs : Int) = n by omega, show x % n - n + n = x % n by omega, Int.tmod_eq_emod_of_nonneg h2, Int.emod_emod_of_dvd x (Int.dvd_refl n)]
  · rw [Int.tmod_eq_emod_of_nonneg h, Int.tmod_eq_emod_of_nonneg (by have := Int.emod_nonneg x (by omega : n ≠ 0); omega)]
    simp
end Go.Proofs.Ytledoopfffhigaa
namespace Go.Proofs.Ytledoopfffhigaa
open Go.RowKit Nt

theorem eq4i (d : Nat) (a0 a1 a2 a3 b0 b1 b2 b3 : Int) (w : World) : (Op.equalIn (d + 2) 33 (.agg #[.int .i64 a0, .int .i64 a1, .int .i64 a2, .int .i64 a3]) (.agg #[.int .i64 b0, .int .i64 b1, .int .i64 b2, .int .i64 b3])).run Try.prog w = .ok (a0 == b0 && (a1 == b1 && (a2 == b2 && a3 == b3))) w := by
  have hi := fun (a b : Int) (w : World) => run_equalIn_int (P := Try.prog) w d 3 .i64 .i64 a b Try.underlying3
  unfold Op.equalIn
  simp only [Sem.run_bind, run_underlying Try.underlying33, Result.andThen_ok]
  simp [part, Try.sizeOf3, go_sem, hi, Std.Legacy.Range.forIn_eq_forIn_range', List.range'_succ]
  by_cases h0 : a0 = b0 <;> by_cases h1 : a1 = b1 <;> by_cases h2 : a2 = b2 <;> by_cases h3 : a3 = b3 <;> simp [h0, h1, h2, h3]
set_option maxHeartbeats 400000 in
theorem nAmong_any (x n : Int) (w : World) (hn : 0 < n) (hn1 : n ≤ 1099511627776) :
    Calls Try.prog 15 #[.int .i64 x, .int .i64 n] w fun e w' => e = .returned (.int .i64 (x % n)) ∧ w' = w := by
  have hne : (n == 0) = false := beq_eq_false_iff_ne.2 (by omega)
  have e1 := among_eq x n hn
  have b1 : -n < x.tmod n := Int.lt_tmod_of_pos x hn
  have b2 : x.tmod n < n := Int.tmod_lt_of_pos x hn
  go_enter Try.func15, Try.ntmps15
  go_wp2
  go_ret
  exact ⟨rfl, rfl⟩
theorem ks_kp {w w' : World} {T : List Nat} (h : Ks w.heap.size T w w') : Kp [] w w' := Kp.ofBelow (h.below (Nat.le_refl _))
/-- The nets of the chapter's example, one by one. -/
def y0 : St := new 2
def y1 : St := seS y0 0 1 ⟨#[97]⟩
def y2 : St := seS y1 0 1 ⟨#[98]⟩
def y3 : St := coS y2 1 0
def y4 : St := off y3 1 0 1
def y5 : St := off y4 1 1 3
theorem yo0 : Ok 0 y0 := Ok.new 2 (by decide) (by decide)
theorem yo1 : Ok 1 y1 := yo0.see 0 1 _
theorem yo2 : Ok 2 y2 := yo1.see 0 1 _
theorem yo3 : Ok 3 y3 := yo2.co 1 0
theorem yo4 : Ok 4 y4 := yo3.off 1 0 1
theorem yo5 : Ok 5 y5 := yo4.off 1 1 3
theorem ya1 : seE y0 0 1 ⟨#[97]⟩ = 0 := by rfl
theorem ya2 : seE y1 0 1 ⟨#[98]⟩ = 0 := by rfl
theorem ya3 : coE y2 1 0 = 0 := by rfl
theorem ya4 : fiE y3 1 0 = 0 := by rfl
theorem ya5 : fiE y4 1 1 = 0 ∧ taF y4 1 1 = 0 ∧ taB y4 1 1 = ⟨#[97]⟩ := ⟨by rfl, by rfl, by rfl⟩
theorem ya6 : wyE y5 1 = 0 ∧ wyN y5 1 = 1 := ⟨by rfl, by rfl⟩
theorem ya7 : q4 y5.c = #[.int .i64 2, .int .i64 1, .int .i64 1, .int .i64 1] := by rfl
set_option maxHeartbeats 2000000 in
set_option maxRecDepth 100000 in
theorem nworks_any (w : World) : Calls Try.prog 11 #[] w fun e w' => e = .returned (.bool true) ∧ Kp [] w w' := by
  have NW := hide (nnew_ok 2 (by decide) (by decide) w)
  have S1 := hide (fun W b (h : NtAt w.heap.size W b y0) => nsend_any _ b y0 0 1 ⟨#[97]⟩ W 0 h yo0 (by decide) (by decide))
  have S2 := hide (fun W b (h : NtAt w.heap.size W b y1) => nsend_any _ b y1 0 1 ⟨#[98]⟩ W 1 h yo1 (by decide) (by decide))
  have S3 := hide (fun W b (h : NtAt w.heap.size W b y2) => ncopy_any _ b y2 1 0 W 2 h yo2 (by decide))
  have S4 := hide (fun W b (h : NtAt w.heap.size W b y3) => nlose_any _ b y3 1 0 W 3 h yo3 (by decide))
  have S5 := hide (fun W b (h : NtAt w.heap.size W b y4) => ntake_any _ b y4 1 1 W 4 h yo4 (by decide))
  have S6 := hide (fun W b (h : NtAt w.heap.size W b y5) => h.elim fun q h => h.elim fun vs h => nway_any b q vs y5 1 W h.1)
  have S7 := hide (fun W b (h : NtAt w.heap.size W b y5) => ncounts_any _ b y5 W h)
  rw [ya1] at S1
  rw [ya2] at S2
  rw [ya3] at S3
  rw [ya4] at S4
  rw [ya5.1, ya5.2.1, ya5.2.2] at S5
  rw [ya6.1, ya6.2] at S6
  rw [ya7] at S7
  have E4 := fun a0 a1 a2 a3 b0 b1 b2 b3 W => eq4i 9998 a0 a1 a2 a3 b0 b1 b2 b3 W
  go_enter Try.func11, Try.ntmps11
  go_wp2_with fail
  refine (unhide NW).mono ?_
  rintro r w1 ⟨b, rfl, h1, k1⟩
  have H1 := hide h1
  have K1 : Hid (Ks w.heap.size ntT w w1) := hide (Ks.nil k1)
  clear NW h1 k1
  go_wp2_with fail
  refine (unhide S1 _ _ (unhide H1)).mono ?_
  rintro r w2 ⟨rfl, h1, k1⟩
  have H2 := hide h1
  have K2 : Hid (Ks w.heap.size ntT w w2) := hide ((unhide K1).trans k1)
  clear S1 H1 K1 h1 k1
  go_wp2_with fail
  refine (unhide S2 _ _ (unhide H2)).mono ?_
  rintro r w3 ⟨rfl, h1, k1⟩
  have H3 := hide h1
  have K3 : Hid (Ks w.heap.size ntT w w3) := hide ((unhide K2).trans k1)
  clear S2 H2 K2 h1 k1
  go_wp2_with fail
  refine (unhide S3 _ _ (unhide H3)).mono ?_
  rintro r w4 ⟨rfl, h1, k1⟩
  have H4 := hide h1
  have K4 : Hid (Ks w.heap.size ntT w w4) := hide ((unhide K3).trans k1)
  clear S3 H3 K3 h1 k1
  go_wp2_with fail
  refine (unhide S4 _ _ (unhide H4)).mono ?_
  rintro r w5 ⟨rfl, h1, k1⟩
  have H5 := hide h1
  have K5 : Hid (Ks w.heap.size ntT w w5) := hide ((unhide K4).trans k1)
  clear S4 H4 K4 h1 k1
  go_wp2_with fail
  refine (unhide S5 _ _ (unhide H5)).mono ?_
  rintro r w6 ⟨rfl, h1, k1⟩
  have H6 := hide h1
  have K6 : Hid (Ks w.heap.size ntT w w6) := hide ((unhide K5).trans k1)
  clear S5 H5 K5 h1 k1
  go_wp2_with fail
  refine (unhide S6 _ _ (unhide H6)).mono ?_
  rintro r w7 ⟨rfl, rfl⟩
  go_wp2_with fail
  refine (unhide S7 _ _ (unhide H6)).mono ?_
  rintro r w8 ⟨rfl, k1⟩
  have K8 : Hid (Ks w.heap.size ntT w w8) := hide ((unhide K6).trans (Ks.nil k1))
  clear S6 S7 H6 K6 k1
  go_wp2
  go_ret
  exact ⟨rfl, ks_kp (unhide K8)⟩
end Go.Proofs.Ytledoopfffhigaa
namespace Go.Proofs.Ytledoopfffhigaa
open Go.RowKit Nt

/-- The nets while one way is filled. -/
structure Fl (s : St) (x : ByteArray) (i : Nat) : Prop where
  ws : s.ws = [[], List.replicate i ⟨0, x⟩]
  c0 : s.c 0 = (i : Int)
  c1 : s.c 1 = 0
  c2 : s.c 2 = 0
  c3 : s.c 3 = 0
theorem Fl.start (x : ByteArray) : Fl (new 2) x 0 := ⟨rfl, rfl, rfl, rfl, rfl⟩
theorem Fl.row0 {s : St} {x : ByteArray} {i : Nat} (h : Fl s x i) : row s 0 = [] := by unfold row; rw [h.ws]; rfl
theorem Fl.row1 {s : St} {x : ByteArray} {i : Nat} (h : Fl s x i) : row s 1 = List.replicate i ⟨0, x⟩ := by unfold row; rw [h.ws]; rfl
theorem Fl.len {s : St} {x : ByteArray} {i : Nat} (h : Fl s x i) : s.ws.length = 2 := by rw [h.ws]; rfl
theorem Fl.has0 {s : St} {x : ByteArray} {i : Nat} (h : Fl s x i) : hasN s.ws.length 0 = true := by rw [h.len]; rfl
theorem Fl.has1 {s : St} {x : ByteArray} {i : Nat} (h : Fl s x i) : hasN s.ws.length 1 = true := by rw [h.len]; rfl
theorem Fl.next {s : St} {x : ByteArray} {i : Nat} (h : Fl s x i) (hi : i < 4096) (hx : x.size ≤ 20) : seE s 0 1 x = 0 ∧ Fl (seS s 0 1 x) x (i + 1) := by
  have he : seE s 0 1 x = 0 := by
    unfold seE
    rw [h.has0, h.has1, h.row1, List.length_replicate]
    simp only [Bool.and_self, if_true]
    rw [if_neg (by omega)]
  refine ⟨he, ?_⟩
  unfold seS
  rw [if_pos he]
  unfold put up
  refine ⟨?_, ?_, ?_, ?_, ?_⟩
  · rw [h.row1, h.ws, List.replicate_succ']
    rfl
  · have := h.c0
    simp
    omega
  · simpa using h.c1
  · simpa using h.c2
  · simpa using h.c3
theorem Fl.full {s : St} {x : ByteArray} (h : Fl s x 4096) (hx : x.size ≤ 20) (z : ByteArray) (hz : z.size = 65537) : seE s 0 1 x = 2 ∧ seS s 0 1 x = s ∧ coE s 1 0 = 2 ∧ coS s 1 0 = s ∧ seE s 1 0 x = 0 ∧ seE (seS s 1 0 x) 0 0 z = 2 ∧ seS (seS s 1 0 x) 0 0 z = seS s 1 0 x ∧ clN (seS s 1 0 x) 1 = 4097 ∧ wyE (seS s 1 0 x) 1 = 0 ∧ q4 (clS (seS s 1 0 x) 1).c = #[.int .i64 4097, .int .i64 4097, .int .i64 0, .int .i64 0] := by
  have e1 : seE s 0 1 x = 2 := by
    unfold seE
    rw [h.has0, h.has1, h.row1, List.length_replicate]
    simp
  have e2 : coE s 1 0 = 2 := by
    have hf : fiE s 1 0 = 0 := by unfold fiE; rw [h.has1, h.row1, List.length_replicate]; rfl
    unfold coE
    rw [if_pos hf, h.row1, List.length_replicate]
    rfl
  have e3 : seE s 1 0 x = 0 := by
    unfold seE
    rw [h.has0, h.has1, h.row0]
    simp only [Bool.and_self, if_true]
    rw [if_neg (by simp; omega)]
  have e4 : (seS s 1 0 x).ws = [[⟨1, x⟩], List.replicate 4096 ⟨0, x⟩] ∧ (seS s 1 0 x).c 0 = 4097 ∧ (seS s 1 0 x).c 1 = 0 ∧ (seS s 1 0 x).c 2 = 0 ∧ (seS s 1 0 x).c 3 = 0 := by
    unfold seS
    rw [if_pos e3]
    unfold put up
    refine ⟨?_, ?_, by simpa using h.c1, by simpa using h.c2, by simpa using h.c3⟩
    · rw [h.row0, h.ws]; rfl
    · have := h.c0; simp; omega
  obtain ⟨w1, k0, k1, k2, k3⟩ := e4
  generalize seS s 1 0 x = S at *
  have e5 : seE S 0 0 z = 2 := by
    have hh0 : hasN S.ws.length 0 = true := by rw [w1]; rfl
    unfold seE
    rw [hh0]
    simp only [Bool.and_self, if_true]
    rw [if_pos (Or.inl (by omega))]
  have hh : hasN S.ws.length 1 = true := by rw [w1]; rfl
  have hcl : clr 1 0 S.ws = [[], []] := by
    rw [w1]
    unfold clr clr clr
    simp
  have ht : tot S.ws = 4097 := by rw [w1]; unfold tot tot tot; rw [List.length_replicate]; rfl
  have e6 : clN S 1 = 4097 := by
    unfold clN
    rw [if_pos hh, hcl, ht]
    rfl
  refine ⟨e1, by unfold seS; rw [if_neg (by rw [e1]; decide)], e2, by unfold coS; rw [if_neg (by rw [e2]; decide)], e3, e5, by unfold seS; rw [if_neg (by rw [e5]; decide)], e6, by unfold wyE; rw [hh]; rfl, ?_⟩
  unfold clS
  rw [if_pos hh, e6]
  unfold q4 up
  simp [k0, k1, k2, k3]
theorem mk_str (n : Nat) (hn : n ≤ 1000000) (W : World) : ∃ cs, (Instr.makeSlice 42 (.int .i64 (n : Int)) (.int .i64 (n : Int))).run Try.prog W = .ok (.slice (some ⟨W.heap.size, 0, none⟩) n n) (W.alloc (.cells cs 5)) ∧ (convert 42 9 (.slice (some ⟨W.heap.size, 0, none⟩) n n)).run Try.prog (W.alloc (.cells cs 5)) = .ok (.string ⟨(List.replicate n (0 : UInt8)).toArray⟩) (W.alloc (.cells cs 5)) := by
  obtain ⟨i8, hi8, hz0, hz1, hz2⟩ := info_parts info_u8
  have h1 := run_make (P := Try.prog) W 42 5 i8 (.int .u8 0) Try.underlying42 hi8 hz0 .i64 .i64 (n : Int) (n : Int) (by omega) (by omega) (by rw [hz2]; omega) (by omega)
  rw [hz1, Int.toNat_natCast, Nat.mul_one, show (Value.int .u8 0).cells = #[Value.int .u8 0] from rfl, made_one] at h1
  refine ⟨_, h1, ?_⟩
  have hb := CBox.new W (List.replicate n (Value.int .u8 0)).toArray 5
  have hc := run_convert_bytes_arg (P := Try.prog) (W.alloc (.cells (List.replicate n (Value.int .u8 0)).toArray 5)) 42 5 Try.underlying42 Try.underlying5 W.heap.size 0 n n (List.replicate n 0) (by rw [List.length_replicate]) (fun i hi => by
    rw [Nat.zero_add]
    refine hb.cell ?_
    rw [List.getElem?_toArray, List.getElem?_replicate, if_pos hi, List.getD_eq_getElem?_getD, List.getElem?_replicate, if_pos hi]
    rfl) 9 Try.underlying9
  have e2 : strOfNums (List.replicate n 0) = ⟨(List.replicate n (0 : UInt8)).toArray⟩ := by
    unfold strOfNums
    rw [List.map_replicate]
    rfl
  rw [e2] at hc
  exact hc
set_option maxHeartbeats 4000000 in
set_option maxRecDepth 100000 in
theorem nfull_walk (x0 : ByteArray) (w : World) (hx0 : x0.size ≤ 9223372036854775807) : Calls Try.prog 4 #[.string x0] w fun e w' => e = .returned (.bool true) ∧ Below w.heap.size w w' := by
  have NW := hide (nnew_ok 2 (by decide) (by decide) w)
  have WK := hide nworks_any
  have E4 := fun a0 a1 a2 a3 b0 b1 b2 b3 W => eq4i 9998 a0 a1 a2 a3 b0 b1 b2 b3 W
  go_enter Try.func4, Try.ntmps4
  go_wp2_with fail
  refine (unhide NW).mono ?_
  rintro r w1 ⟨b, rfl, h1, k1⟩
  have H1 := hide h1
  have K1 : Hid (Ks w.heap.size ntT w w1) := hide (Ks.nil k1)
  clear NW h1 k1
  go_wp2_with fail
  refine (unhide WK _).mono ?_
  rintro r w2 ⟨rfl, k2⟩
  have H2 : Hid (NtAt w.heap.size w2 b (new 2) ∧ Ks w.heap.size ntT w w2) := hide (nt_al ⟨unhide H1, unhide K1⟩ k2)
  clear WK k2 H1 K1
  go_upto_if 24 with fail
  go_cut [0] (fun v wc => ∃ x : ByteArray, v = .string x ∧ x.size ≤ 20 ∧ wc = w2)
  case first =>
    by_cases hs : 20 < x0.size
    · have hz : (20 : Int) < (x0.size : Int) := by omega
      go_wp2
      go_meet
      exact ⟨x0.extract 0 20, rfl, by rw [ByteArray.size_extract]; omega, rfl⟩
    · have hz : ¬ (20 : Int) < (x0.size : Int) := by omega
      go_wp2
      go_meet
      exact ⟨x0, rfl, by omega, rfl⟩
  case rest =>
    obtain ⟨x, rfl, hx, hw⟩ := hcut
    obtain rfl := hw.symm
    go_wp2_with fail
    go_loopw [5] (fun iv wr => ∃ (i : Nat) (s : St), i ≤ 4096 ∧ iv = .int .i64 (i : Int) ∧ Hid (Fl s x i ∧ Ok (i : Int) s ∧ NtAt w.heap.size wr b s ∧ Ks w.heap.size ntT w wr)) (fun iv _ => 4096 - (intOf iv).toNat)
    case atStart => exact ⟨0, new 2, by decide, rfl, hide ⟨Fl.start x, Ok.new 2 (by decide) (by decide), unhide H2⟩⟩
    case round =>
      clear H2
      obtain ⟨i, s, hi, rfl, HR⟩ := hrel
      by_cases hlt : i < 4096
      · have hii : (i : Int) < 4096 := by omega
        obtain ⟨f1, f2⟩ := (unhide HR).1.next hlt hx
        have SE := hide (nsend_any _ b s 0 1 x wr i (unhide HR).2.2.1 (unhide HR).2.1 (by omega) (by omega))
        rw [f1] at SE
        have HN : Hid (Fl (seS s 0 1 x) x (i + 1) ∧ Ok ((i + 1 : Nat) : Int) (seS s 0 1 x)) := hide ⟨f2, by have := (unhide HR).2.1.see 0 1 x; simpa using this⟩
        have HK := hide (unhide HR).2.2.2
        clear HR f1 f2
        generalize seS s 0 1 x = s2 at *
        go_wp2_with fail
        refine (unhide SE).mono ?_
        rintro r w5 ⟨rfl, a1, a2⟩
        have HR2 : Hid (Fl s2 x (i + 1) ∧ Ok ((i + 1 : Nat) : Int) s2 ∧ NtAt w.heap.size w5 b s2 ∧ Ks w.heap.size ntT w w5) := hide ⟨(unhide HN).1, (unhide HN).2, a1, (unhide HK).trans a2⟩
        clear a1 a2 SE HN HK
        go_wp2
        go_roundw
        case rel => exact ⟨i + 1, s2, by omega, by go_num, HR2⟩
        case measure => simp [intOf]; omega
      · obtain rfl : i = 4096 := by omega
        obtain ⟨fl, ok, at_, ks⟩ := unhide HR
        obtain ⟨z, hz⟩ : ∃ z : ByteArray, z = ⟨(List.replicate 65537 (0 : UInt8)).toArray⟩ := ⟨_, rfl⟩
        have hzs : z.size = 65537 := by rw [hz]; show (List.replicate 65537 (0 : UInt8)).toArray.size = 65537; rw [List.size_toArray, List.length_replicate]
        obtain ⟨e1, e2, e3, e4, e5, e6, e7, e8, e9, e10⟩ := fl.full hx z hzs
        have S1 := hide (nsend_any _ b s 0 1 x wr 4096 at_ ok (by decide) (by omega))
        have S2 := hide (fun W (h : NtAt w.heap.size W b s) => ncopy_any _ b s 1 0 W 4096 h ok (by decide))
        have S3 := hide (fun W (h : NtAt w.heap.size W b s) => nsend_any _ b s 1 0 x W 4096 h ok (by decide) (by omega))
        have o2 := ok.see 1 0 x
        have S4 := hide (fun W (h : NtAt w.heap.size W b (seS s 1 0 x)) => nsend_any _ b _ 0 0 z W 4097 h o2 (by decide) (by omega))
        have S5 := hide (fun W (h : NtAt w.heap.size W b (seS s 1 0 x)) => nclear_any _ b _ 1 W 4097 h o2 (by decide))
        have S6 := hide (fun W (h : NtAt w.heap.size W b (clS (seS s 1 0 x) 1)) => ncounts_any _ b _ W h)
        rw [e1, e2] at S1
        rw [e3, e4] at S2
        rw [e5] at S3
        rw [e6, e7] at S4
        rw [e8, e9] at S5
        rw [e10] at S6
        have KS := hide ks
        have MK := fun W => mk_str 65537 (by decide) W
        rw [show ((65537 : Nat) : Int) = 65537 from rfl, ← hz] at MK
        clear HR fl ok at_ ks e1 e2 e3 e4 e5 e6 e7 e8 e9 e10 hz o2
        generalize clS (seS s 1 0 x) 1 = T2 at *
        generalize seS s 1 0 x = T1 at *
        go_wp2_with fail
        refine (unhide S1).mono ?_
        rintro r w5 ⟨rfl, a1, a2⟩
        have H5 := hide a1
        have K5 := hide ((unhide KS).trans a2)
        clear a1 a2 S1 KS
        go_wp2_with fail
        refine (unhide S2 _ (unhide H5)).mono ?_
        rintro r w6 ⟨rfl, a1, a2⟩
        have H6 := hide a1
        have K6 := hide ((unhide K5).trans a2)
        clear a1 a2 S2 K5 H5
        go_wp2_with fail
        refine (unhide S3 _ (unhide H6)).mono ?_
        rintro r w7 ⟨rfl, a1, a2⟩
        have H7 := hide a1
        have K7 := hide ((unhide K6).trans a2)
        clear a1 a2 S3 K6 H6
        obtain ⟨cs, m1, m2⟩ := MK w7
        have H8 : Hid (NtAt w.heap.size (w7.alloc (.cells cs 5)) b T1 ∧ Ks w.heap.size ntT w (w7.alloc (.cells cs 5))) := hide (nt_al ⟨unhide H7, unhide K7⟩ (Kp.alloc _ _))
        clear MK H7 K7
        go_wp2_with fail
        refine (unhide S4 _ (unhide H8).1).mono ?_
        rintro r w9 ⟨rfl, a1, a2⟩
        have H9 := hide a1
        have K9 := hide ((unhide H8).2.trans a2)
        clear a1 a2 S4 H8 m1 m2
        go_wp2_with fail
        refine (unhide S5 _ (unhide H9)).mono ?_
        rintro r w10 ⟨rfl, a1, a2⟩
        have H10 := hide a1
        have K10 := hide ((unhide K9).trans a2)
        clear a1 a2 S5 K9 H9
        go_wp2_with fail
        refine (unhide S6 _ (unhide H10)).mono ?_
        rintro r w11 ⟨rfl, a2⟩
        have K11 : Hid (Ks w.heap.size ntT w w11) := hide ((unhide K10).trans (Ks.nil a2))
        clear a2 S6 K10 H10
        go_wp2
        go_ret
        exact ⟨rfl, (unhide K11).below (Nat.le_refl _)⟩
end Go.Proofs.Ytledoopfffhigaa
