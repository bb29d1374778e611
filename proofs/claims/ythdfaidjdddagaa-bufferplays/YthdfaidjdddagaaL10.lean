/-
  The document's buffer: how it lies; is an entry there; how many; its count; held once more.
-/
import Derived.Test.YthdfaidjdddagaaL09
namespace Go.Proofs.Ythdfaidjdddagaa
open Go.RowKit

/-- An entry's five cells. -/
def E5 (cur : Array Value) (i : Nat) (e : Ent) : Prop := cur[i * 5]? = some (.int .i64 e.s) ∧ cur[i * 5 + 1]? = some (.int .i64 e.p) ∧ cur[i * 5 + 2]? = some (.int .i64 e.q) ∧ cur[i * 5 + 3]? = some (.int .i64 e.h) ∧ cur[i * 5 + 4]? = some (.int .i64 e.k)
/-- A row of entries lies there. -/
structure RoE (g n cap : Nat) (es : Nat → Ent) (w : World) : Prop where
  ex : ∃ cur : Array Value, w.heap[g]? = some (.cells cur 69 (0, 0)) ∧ n ≤ cap ∧ cap ≤ maxLen ∧ cur.size = cap * 5 ∧ ∀ i, i < n → E5 cur i (es i)
theorem RoE.kp {g n cap : Nat} {es : Nat → Ent} {w w' : World} {F : List Nat} (h : RoE g n cap es w) (hk : Kp F w w') (hF : g ∉ F) : RoE g n cap es w' := by
  obtain ⟨cur, h1, h2⟩ := h.ex
  exact ⟨cur, (hk.block g (Array.getElem?_eq_some_iff.1 h1).1 hF).trans h1, h2⟩
theorem RoE.cells {g n cap : Nat} {es : Nat → Ent} {w : World} (h : RoE g n cap es w) (i : Nat) (hi : i < n) : w.cell? ⟨g, i * 5, none⟩ = some (.int .i64 (es i).s) ∧ w.cell? ⟨g, i * 5 + 1, none⟩ = some (.int .i64 (es i).p) ∧ w.cell? ⟨g, i * 5 + 2, none⟩ = some (.int .i64 (es i).q) ∧ w.cell? ⟨g, i * 5 + 3, none⟩ = some (.int .i64 (es i).h) ∧ w.cell? ⟨g, i * 5 + 4, none⟩ = some (.int .i64 (es i).k) := by
  obtain ⟨cur, h1, _, _, _, h5⟩ := h.ex
  obtain ⟨a1, a2, a3, a4, a5⟩ := h5 i hi
  exact ⟨cell_of h1 a1, cell_of h1 a2, cell_of h1 a3, cell_of h1 a4, cell_of h1 a5⟩
theorem RoE.froz {g n cap : Nat} {es : Nat → Ent} {w : World} (h : RoE g n cap es w) (i : Nat) : w.frozen? ⟨g, i, none⟩ = false := by
  obtain ⟨cur, h1, _⟩ := h.ex
  simp [World.frozen?, h1]
theorem RoE.setH {g n cap : Nat} {es : Nat → Ent} {w : World} (h : RoE g n cap es w) (i : Nat) (hi : i < n) (x : Int) : RoE g n cap (setE es i ⟨(es i).s, (es i).p, (es i).q, x, (es i).k⟩) (w.setCell ⟨g, i * 5 + 3, none⟩ (.int .i64 x)) := by
  obtain ⟨cur, h1, h2, h3, h4, h5⟩ := h.ex
  refine ⟨_, heap_set h1 _, h2, h3, by simp [h4], fun j hj => ?_⟩
  obtain ⟨a1, a2, a3, a4, a5⟩ := h5 j hj
  by_cases e : j = i
  · subst e
    rw [setE_same]
    refine ⟨?_, ?_, ?_, ?_, ?_⟩
    · rw [Array.getElem?_setIfInBounds_ne (by omega)]; exact a1
    · rw [Array.getElem?_setIfInBounds_ne (by omega)]; exact a2
    · rw [Array.getElem?_setIfInBounds_ne (by omega)]; exact a3
    · rw [Array.getElem?_setIfInBounds_self_of_lt (by omega)]
    · rw [Array.getElem?_setIfInBounds_ne (by omega)]; exact a5
  · rw [setE_ne _ _ e]
    refine ⟨?_, ?_, ?_, ?_, ?_⟩ <;> (rw [Array.getElem?_setIfInBounds_ne (by omega)]; assumption)
theorem RoE.setK {g n cap : Nat} {es : Nat → Ent} {w : World} (h : RoE g n cap es w) (i : Nat) (hi : i < n) (x : Int) : RoE g n cap (setE es i ⟨(es i).s, (es i).p, (es i).q, (es i).h, x⟩) (w.setCell ⟨g, i * 5 + 4, none⟩ (.int .i64 x)) := by
  obtain ⟨cur, h1, h2, h3, h4, h5⟩ := h.ex
  refine ⟨_, heap_set h1 _, h2, h3, by simp [h4], fun j hj => ?_⟩
  obtain ⟨a1, a2, a3, a4, a5⟩ := h5 j hj
  by_cases e : j = i
  · subst e
    rw [setE_same]
    refine ⟨?_, ?_, ?_, ?_, ?_⟩
    · rw [Array.getElem?_setIfInBounds_ne (by omega)]; exact a1
    · rw [Array.getElem?_setIfInBounds_ne (by omega)]; exact a2
    · rw [Array.getElem?_setIfInBounds_ne (by omega)]; exact a3
    · rw [Array.getElem?_setIfInBounds_ne (by omega)]; exact a4
    · rw [Array.getElem?_setIfInBounds_self_of_lt (by omega)]
  · rw [setE_ne _ _ e]
    refine ⟨?_, ?_, ?_, ?_, ?_⟩ <;> (rw [Array.getElem?_setIfInBounds_ne (by omega)]; assumption)
/-- The row says what the entries are: what is not there has no counts. -/
structure RbI (c : Nat → Ent) (x : Int) (n : Nat) (es : Nat → Ent) : Prop where
  eq : ∀ i, i < n → prE c x i = true → es i = c i
  no : ∀ i, i < n → prE c x i = false → (es i).h = 0 ∧ (es i).k = 0
  out : ∀ i, i < 4096 → n ≤ i → prE c x i = false
  le : n ≤ 4096
/-- The document's buffer lies there: its box, and its row. -/
structure Rb (br : Nat) (v : Value) (n : Nat) (es : Nat → Ent) (c : Nat → Ent) (x : Int) (w : World) : Prop where
  box : CBox br #[v] 28 w
  row : (v = .slice none 0 0 ∧ n = 0) ∨ ∃ g cap, v = .slice (some ⟨g, 0, none⟩) n cap ∧ br < g ∧ RoE g n cap es w
  iv : RbI c x n es
theorem Rb.kp {br n : Nat} {v : Value} {es c : Nat → Ent} {x : Int} {w w' : World} (h : Rb br v n es c x w) (hk : Kp [] w w') : Rb br v n es c x w' :=
  ⟨h.box.kp hk (by simp), h.row.imp id fun ⟨g, cap, a, b, e⟩ => ⟨g, cap, a, b, e.kp hk (by simp)⟩, h.iv⟩
theorem Rb.below {br n : Nat} {v : Value} {es c : Nat → Ent} {x : Int} {w w' : World} {F : List Nat} (h : Rb br v n es c x w) (hk : Kp F w w') (hF : ∀ b ∈ F, b < br) : Rb br v n es c x w' :=
  ⟨h.box.kp hk (fun hm => by have := hF _ hm; omega), h.row.imp id fun ⟨g, cap, a, b, e⟩ => ⟨g, cap, a, b, e.kp hk (fun hm => by have := hF _ hm; omega)⟩, h.iv⟩
theorem Rb.len {br n : Nat} {v : Value} {es c : Nat → Ent} {x : Int} {w : World} (h : Rb br v n es c x w) : ∃ ad cap, v = .slice ad n cap := by
  rcases h.row with ⟨rfl, rfl⟩ | ⟨g, cap, rfl, _⟩
  · exact ⟨_, _, rfl⟩
  · exact ⟨_, _, rfl⟩
theorem RbI.small {c : Nat → Ent} {x : Int} {n : Nat} {es : Nat → Ent} (h : RbI c x n es) (hS : Sml c) (i : Nat) (hi : i < n) : 0 ≤ (es i).h ∧ (es i).h ≤ 2305843009213693952 ∧ 0 ≤ (es i).k ∧ (es i).k ≤ 4096 := by
  cases e : prE c x i with
  | true => rw [h.eq i hi e]; exact hS i (by have := h.le; omega)
  | false => obtain ⟨a, b⟩ := h.no i hi e; rw [a, b]; decide
theorem RbI.lv {c : Nat → Ent} {n : Nat} {es : Nat → Ent} (h : RbI c (-1) n es) (i : Nat) (hi : i < n) : lvE (es i) = lvE (c i) := by
  cases e : prE c (-1) i with
  | true => rw [h.eq i hi e]
  | false =>
    obtain ⟨a, b⟩ := h.no i hi e
    rw [prE_neg] at e
    rw [e, lvE_not, a, b]; decide
set_option maxHeartbeats 1000000 in
set_option maxRecDepth 100000 in
theorem rhas_any (br n : Nat) (v : Value) (es c : Nat → Ent) (id : Int) (w : World) (h : Rb br v n es c (-1) w) (hS : Sml c) : Calls Try.prog 29 #[.pointer (some ⟨br, 0, none⟩), .int .i64 id] w fun e w' => e = .returned (.bool (hasE c id)) ∧ Kp [] w w' := by
  have b0 := h.box.cell (i := 0) (v := v) rfl
  have hle := h.iv.le
  by_cases h1 : 0 ≤ id
  · by_cases h2 : id < (n : Int)
    · obtain ⟨i, rfl⟩ : ∃ i : Nat, id = (i : Int) := ⟨id.toNat, by omega⟩
      have hi : i < n := by omega
      rcases h.row with ⟨_, rfl⟩ | ⟨g, cap, rfl, _, hr⟩
      · omega
      · obtain ⟨_, _, _, c3, c4⟩ := hr.cells i hi
        obtain ⟨s1, s2, s3, s4⟩ := h.iv.small hS i hi
        have HB : Hid (hasE c (i : Int) = true ↔ 0 < (es i).h + (es i).k) := hide (by rw [hasE_nat c i (by omega), ← h.iv.lv i hi, lvE_iff])
        generalize hasE c (i : Int) = B at *
        clear h hr hS
        generalize (es i).h = H at *
        generalize (es i).k = Kk at *
        go_enter Try.func29, Try.ntmps29
        go_wp2_with fail
        go_quiet (fail)
        go_wp2_with fail
        go_ret
        exact ⟨ret_bool (Bool.eq_iff_iff.2 (by rw [unhide HB]; simp)), Kp.drewQ w _⟩
    · have e : hasE c id = false := by
        cases e : hasE c id with
        | false => rfl
        | true =>
          obtain ⟨i, rfl, hi, hv⟩ := hasE_some e
          have := h.iv.out i hi (by omega)
          rw [prE_neg, hv] at this; cases this
      rw [e]
      obtain ⟨ad, cap, hv⟩ := h.len
      rw [hv] at b0
      have hd : decide (id < (n : Int)) = false := by simp [h2]
      clear h hS e hv
      go_enter Try.func29, Try.ntmps29
      go_wp2_with fail
      go_quiet (fail)
      go_wp2_with fail
      go_ret
      exact ⟨rfl, Kp.drewQ w _⟩
  · have e : hasE c id = false := by simp [hasE, h1]
    rw [e]
    have hd : decide (0 ≤ id) = false := by simp [h1]
    clear h hS e
    go_enter Try.func29, Try.ntmps29
    go_wp2_with fail
    go_quiet (fail)
    go_wp2_with fail
    go_ret
    exact ⟨rfl, Kp.drewQ w _⟩
theorem RbI.many {c : Nat → Ent} {n m : Nat} {B : Int} {es : Nat → Ent} (h : RbI c (-1) n es) (hI : BIv c (-1) m B) : cnt (fun i => lvE (es i)) n = m := by
  rw [cnt_congr (f := fun i => lvE (es i)) (g := fun i => lvE (c i)) fun i hi => h.lv i hi, hI.many]
  rw [cnt_congr (f := prE c (-1)) (g := fun i => lvE (c i)) fun i _ => prE_neg c i]
  have : ∀ k, n + k ≤ 4096 → cnt (fun i => lvE (c i)) n = cnt (fun i => lvE (c i)) (n + k) := fun k => by
    induction k with
    | zero => intro _; rfl
    | succ k ih =>
      intro hk
      have e := h.out (n + k) (by omega) (by omega)
      rw [prE_neg] at e
      rw [ih (by omega), show n + (k + 1) = n + k + 1 by omega, cnt_one, e]
      simp
  have hle := h.le
  have := this (4096 - n) (by omega)
  rw [show n + (4096 - n) = 4096 by omega] at this
  exact this
set_option maxHeartbeats 1000000 in
set_option maxRecDepth 100000 in
theorem rlen_any (br n m : Nat) (B : Int) (v : Value) (es c : Nat → Ent) (w : World) (h : Rb br v n es c (-1) w) (hI : BIv c (-1) m B) (hS : Sml c) : Calls Try.prog 22 #[.pointer (some ⟨br, 0, none⟩)] w fun e w' => e = .returned (.int .i64 (m : Int)) ∧ Kp [] w w' := by
  have HM := hide (h.iv.many hI)
  have HR := hide h
  have hle := h.iv.le
  obtain ⟨ad, cap, hv⟩ := h.len
  subst hv
  clear h hI
  go_enter Try.func22, Try.ntmps22
  go_wp2_with fail
  go_loopw [3, 4] (fun a i wr => ∃ k q : Nat, k ≤ n ∧ q ≤ k ∧ i = .int .i64 (k : Int) ∧ a = .int .i64 (q : Int) ∧ Hid (q = cnt (fun i => lvE (es i)) k) ∧ Hid (Kp [] w wr)) (fun _ i _ => n - (intOf i).toNat)
  case atStart => exact ⟨0, 0, Nat.zero_le _, Nat.le_refl _, rfl, rfl, hide rfl, hide (Kp.refl _ _)⟩
  case round =>
    obtain ⟨k, q, hk, hq, rfl, rfl, HQ, HK⟩ := hrel
    have hr := (unhide HR).kp (unhide HK)
    have b0 := hr.box.cell (i := 0) (v := .slice ad n cap) rfl
    by_cases hkn : k < n
    · have hki : (k : Int) < (n : Int) := by omega
      rcases hr.row with ⟨_, rfl⟩ | ⟨g, cap', hv, _, hrow⟩
      · omega
      · simp only [Value.slice.injEq, true_and] at hv
        obtain ⟨rfl, hcp⟩ := hv
        obtain rfl := hcp.symm
        obtain ⟨_, _, _, c3, c4⟩ := hrow.cells k hkn
        obtain ⟨s1, s2, s3, s4⟩ := (unhide HR).iv.small hS k hkn
        have HB := hide (lvE_iff (es k))
        have HQ1 : Hid (cnt (fun i => lvE (es i)) (k + 1) = q + (if lvE (es k) = true then 1 else 0)) := hide (by rw [cnt_one, ← unhide HQ])
        clear hr hrow
        generalize lvE (es k) = lv at *
        generalize (es k).h = H at *
        generalize (es k).k = Kk at *
        by_cases hlv : 0 < H + Kk
        · have e : lv = true := (unhide HB).2 hlv
          subst e
          go_wp2_with fail
          go_quiet (fail)
          go_wp2_with fail
          go_roundw
          case rel => exact ⟨k + 1, q + 1, by omega, by omega, by go_num, by go_num, hide (by have := unhide HQ1; simpa using this.symm), hide ((unhide HK).trans (Kp.drewQ _ _) (by simp))⟩
          case measure => simp [intOf]; omega
        · have e : lv = false := by
            cases lv with
            | false => rfl
            | true => exact absurd ((unhide HB).1 (by trivial)) hlv
          subst e
          go_wp2_with fail
          go_quiet (fail)
          go_wp2_with fail
          go_roundw
          case rel => exact ⟨k + 1, q, by omega, by omega, by go_num, rfl, hide (by have := unhide HQ1; simpa using this.symm), hide ((unhide HK).trans (Kp.drewQ _ _) (by simp))⟩
          case measure => simp [intOf]; omega
    · obtain rfl : k = n := by omega
      have hkk : ¬ (k : Int) < (k : Int) := by omega
      clear hr
      go_wp2_with fail
      go_ret
      exact ⟨ret_int (by have a := unhide HQ; have b := unhide HM; omega), unhide HK⟩
set_option maxHeartbeats 1000000 in
set_option maxRecDepth 100000 in
theorem rcount_not (br n : Nat) (v : Value) (es c : Nat → Ent) (id : Int) (w : World) (h : Rb br v n es c (-1) w) (hS : Sml c) (hn : hasE c id = false) : Calls Try.prog 19 #[.pointer (some ⟨br, 0, none⟩), .int .i64 id] w fun e w' => e = .returned (.tuple #[.int .i64 0, .int .i64 160]) ∧ Kp [] w w' := by
  have HA := hide (rhas_any br n v es c id w h hS)
  rw [hn] at HA
  clear h hn
  go_enter Try.func19, Try.ntmps19
  go_wp2_with fail
  refine (unhide HA).mono ?_
  rintro r w1 ⟨rfl, HK1⟩
  have HK1 := hide HK1
  clear HA
  go_wp2_with fail
  go_ret2
  exact ⟨rfl, unhide HK1⟩
theorem RbI.inrow {c : Nat → Ent} {n : Nat} {es : Nat → Ent} {x : Int} (h : RbI c x n es) (i : Nat) (hi : i < 4096) (hv : prE c x i = true) : i < n := by
  rcases Nat.lt_or_ge i n with g | g
  · exact g
  · rw [h.out i hi g] at hv; cases hv
set_option maxHeartbeats 1000000 in
set_option maxRecDepth 100000 in
theorem rcount_ok (br n i : Nat) (hi : i < 4096) (v : Value) (es c : Nat → Ent) (w : World) (h : Rb br v n es c (-1) w) (hS : Sml c) (hv : lvE (c i) = true) : Calls Try.prog 19 #[.pointer (some ⟨br, 0, none⟩), .int .i64 (i : Int)] w fun e w' => e = .returned (.tuple #[.int .i64 ((c i).h + (c i).k), .int .i64 0]) ∧ Kp [] w w' := by
  have HA := hide (rhas_any br n v es c (i : Int) w h hS)
  rw [hasE_nat c i hi, hv] at HA
  have hin := h.iv.inrow i hi (by rw [prE_neg]; exact hv)
  have hii : (i : Int) < (n : Int) := by omega
  have hec := h.iv.eq i hin (by rw [prE_neg]; exact hv)
  obtain ⟨s1, s2, s3, s4⟩ := hS i hi
  have HR := hide h
  clear h hv
  go_enter Try.func19, Try.ntmps19
  go_wp2_with fail
  refine (unhide HA).mono ?_
  rintro r w1 ⟨rfl, HK1⟩
  have hr := (unhide HR).kp HK1
  have HK1 := hide HK1
  rcases hr.row with ⟨_, rfl⟩ | ⟨g, cap, rfl, _, hrow⟩
  · omega
  · have b0 := hr.box.cell (i := 0) rfl
    obtain ⟨_, _, _, c3, c4⟩ := hrow.cells i hin
    rw [hec] at c3 c4
    clear HA hr hrow HR hec
    go_wp2_with fail
    go_quiet (fail)
    go_wp2_with fail
    go_ret2
    exact ⟨rfl, (unhide HK1).trans (Kp.drewQ _ _) (by simp)⟩
set_option maxHeartbeats 1000000 in
set_option maxRecDepth 100000 in
theorem rhold_not (br n : Nat) (v : Value) (es c : Nat → Ent) (id : Int) (w : World) (h : Rb br v n es c (-1) w) (hS : Sml c) (hn : hasE c id = false) : Calls Try.prog 13 #[.pointer (some ⟨br, 0, none⟩), .int .i64 id] w fun e w' => e = .returned (.int .i64 160) ∧ Kp [] w w' := by
  have HA := hide (rhas_any br n v es c id w h hS)
  rw [hn] at HA
  clear h hn
  go_enter Try.func13, Try.ntmps13
  go_wp2_with fail
  refine (unhide HA).mono ?_
  rintro r w1 ⟨rfl, HK1⟩
  have HK1 := hide HK1
  clear HA
  go_wp2_with fail
  go_ret
  exact ⟨rfl, unhide HK1⟩
/-- What stays below a block. -/
def KpB (B : Nat) (w w' : World) : Prop := ∃ F : List Nat, (∀ b ∈ F, B ≤ b) ∧ Kp F w w'
theorem KpB.of {B : Nat} {F : List Nat} {w w' : World} (hk : Kp F w w') (hF : ∀ b ∈ F, B ≤ b) : KpB B w w' := ⟨F, hF, hk⟩
theorem RbI.hold {c : Nat → Ent} {n i : Nat} {es : Nat → Ent} (h : RbI c (-1) n es) (hi : i < n) (hv : lvE (c i) = true) (he : es i = c i) : RbI (hoE c i) (-1) n (setE es i ⟨(es i).s, (es i).p, (es i).q, (es i).h + 1, (es i).k⟩) := by
  have pe : ∀ j, prE (hoE c i) (-1) j = prE c (-1) j := fun j => by
    rw [prE_neg, prE_neg]
    unfold hoE
    by_cases e : j = i
    · subst e
      rw [setE_same, hv, lvE_iff]
      rw [lvE_iff] at hv
      show 0 < (c j).h + 1 + (c j).k
      omega
    · rw [setE_ne _ _ e]
  refine ⟨fun j hj hp => ?_, fun j hj hp => ?_, fun j hj hn => by rw [pe]; exact h.out j hj hn, h.le⟩
  · rw [pe] at hp
    unfold hoE
    by_cases e : j = i
    · subst e; rw [setE_same, setE_same, he]
    · rw [setE_ne _ _ e, setE_ne _ _ e]; exact h.eq j hj hp
  · rw [pe] at hp
    have e : j ≠ i := fun e => by subst e; rw [prE_neg, hv] at hp; cases hp
    rw [setE_ne _ _ e]; exact h.no j hj hp
set_option maxHeartbeats 1000000 in
set_option maxRecDepth 100000 in
theorem rhold_ok (br n i : Nat) (hi : i < 4096) (v : Value) (es c : Nat → Ent) (w : World) (h : Rb br v n es c (-1) w) (hS : Sml c) (hv : lvE (c i) = true) : Calls Try.prog 13 #[.pointer (some ⟨br, 0, none⟩), .int .i64 (i : Int)] w fun e w' => ∃ es', e = .returned (.int .i64 0) ∧ Rb br v n es' (hoE c i) (-1) w' ∧ KpB br w w' := by
  have HA := hide (rhas_any br n v es c (i : Int) w h hS)
  rw [hasE_nat c i hi, hv] at HA
  have hin := h.iv.inrow i hi (by rw [prE_neg]; exact hv)
  have hii : (i : Int) < (n : Int) := by omega
  have hec := h.iv.eq i hin (by rw [prE_neg]; exact hv)
  obtain ⟨s1, s2, s3, s4⟩ := hS i hi
  have HI := hide (h.iv.hold hin hv hec)
  have HR := hide h
  clear h hv
  go_enter Try.func13, Try.ntmps13
  go_wp2_with fail
  refine (unhide HA).mono ?_
  rintro r w1 ⟨rfl, HK1⟩
  have hr := (unhide HR).kp HK1
  have HK1 := hide HK1
  rcases hr.row with ⟨_, rfl⟩ | ⟨g, cap, rfl, hg, hrow⟩
  · omega
  · have b0 := hr.box.cell (i := 0) rfl
    obtain ⟨_, _, _, c3, _⟩ := hrow.cells i hin
    have f3 := hrow.froz (i * 5 + 3)
    have HN := hide (hrow.setH i hin ((es i).h + 1))
    have HBX := hide (hr.box.kp (Kp.set w1 g (i * 5 + 3) (.int .i64 ((es i).h + 1))) (by simp; omega))
    rw [hec] at c3 HN HBX HI
    clear HA hr hrow HR hec
    go_wp2_with fail
    go_ret
    exact ⟨_, rfl, ⟨unhide HBX, Or.inr ⟨g, cap, rfl, hg, unhide HN⟩, unhide HI⟩, KpB.of (((unhide HK1).mono (by simp)).trans (Kp.set w1 g _ _) (by simp)) (F := [g]) (by simp; omega)⟩
end Go.Proofs.Ythdfaidjdddagaa
