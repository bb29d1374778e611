/-
  Expressions, plain: reading does not hang on places; the tokens of a written expression may be; what is written is read back from its text. Of no program.
-/
import Derived.Test.YtogklmljllocbabGreatDoorF04
namespace Go.Proofs.YtogklmljllocbabGreatDoor

def zT (t : Tk) : Tk := t.out 0
def PR.mp : PR → PR
  | .bad r => .bad (r.map zT)
  | .good x r => .good x (r.map zT)
theorem wdT_z (t : Tk) : wdT (zT t) = wdT t := rfl
theorem kd_z (t : Tk) : (zT t).kd = t.kd := rfl
theorem fdE_z (st : ByteArray) (ts : List Tk) : fdE st (ts.map zT) = (fdE st ts).mp := by
  cases ts with
  | nil => rfl
  | cons c r => rw [List.map_cons, fdE, fdE, wdT_z]; split <;> rfl
theorem fdR_z (t : Tk) (r : List Tk) : fdR (zT t) (r.map zT) = (fdR t r).mp := by
  unfold fdR
  rw [wdT_z]
  split
  · cases r with
    | nil => rfl
    | cons c q =>
      rw [List.map_cons]
      dsimp only
      rw [wdT_z]
      split
      · exact fdE_z t.s q
      · rfl
  · exact fdE_z (txt []) (t :: r)
theorem shut_z (x : List Pt) (q : List Tk) : shut x (q.map zT) = (shut x q).mp := by
  cases q with
  | nil => rfl
  | cons c q => rw [List.map_cons, shut, shut, wdT_z]; split <;> rfl
theorem pRd_z (f : Nat) : ∀ (m d : Nat) (acc : List Pt) (ts : List Tk), pRd f m d acc (ts.map zT) = (pRd f m d acc ts).mp := by
  induction f with
  | zero => intro m d acc ts; rw [pRd, pRd]; rfl
  | succ f ih =>
    intro m d acc ts
    cases ts with
    | nil => rw [List.map_nil, pRd]; rfl
    | cons t r =>
      have ihc := fun m d acc => ih m d acc (t :: r)
      rw [List.map_cons] at ihc ⊢
      rw [pRd, pRd, wdT_z, kd_z]
      by_cases h6 : m = 6
      · rw [if_pos h6, if_pos h6]
        by_cases k2 : t.kd = 2
        · rw [if_pos k2, if_pos k2]; rfl
        rw [if_neg k2, if_neg k2]
        by_cases k3 : t.kd = 3
        · rw [if_pos k3, if_pos k3]; rfl
        rw [if_neg k3, if_neg k3]
        by_cases k1 : t.kd = 1
        · rw [if_pos k1, if_pos k1]; exact fdR_z t r
        rw [if_neg k1, if_neg k1]
        by_cases hp : wdT t = [40]
        · rw [if_pos hp, if_pos hp]
          by_cases hd : d + 1 ≤ 200
          · rw [if_pos hd, if_pos hd, ih]
            cases pRd f 0 (d + 1) [] r with
            | bad q => rfl
            | good x q => exact shut_z x q
          · rw [if_neg hd, if_neg hd]; rfl
        · rw [if_neg hp, if_neg hp]; rfl
      rw [if_neg h6, if_neg h6]
      by_cases h2 : m = 2
      · rw [if_pos h2, if_pos h2]
        cases opA 2 (wdT t) with
        | none => exact ihc 3 d []
        | some k =>
          dsimp only
          by_cases hd : d + 1 ≤ 200
          · rw [if_pos hd, if_pos hd, ih]
            cases pRd f 2 (d + 1) [] r <;> rfl
          · rw [if_neg hd, if_neg hd]; rfl
      rw [if_neg h2, if_neg h2]
      by_cases h3 : m = 3
      · rw [if_pos h3, if_pos h3, ihc]
        cases pRd f 4 d [] (t :: r) with
        | bad q => rfl
        | good x q =>
          cases q with
          | nil => rfl
          | cons c q =>
            show (match opA 3 (wdT (zT c)) with | none => _ | some k => _) = _
            rw [wdT_z]
            dsimp only
            cases opA 3 (wdT c) with
            | none => rfl
            | some k =>
              dsimp only
              rw [ih]
              cases pRd f 4 d [] q <;> rfl
      rw [if_neg h3, if_neg h3]
      by_cases hlt : m < 6
      · rw [if_pos hlt, if_pos hlt, ihc]
        cases pRd f (m + 1) d [] (t :: r) with
        | bad q => rfl
        | good x q => exact ih (m + 10) d x q
      · rw [if_neg hlt, if_neg hlt]
        cases opA (m - 10) (wdT t) with
        | none => rfl
        | some k =>
          dsimp only
          rw [ih]
          cases pRd f (m - 10 + 1) d [] r with
          | bad q => rfl
          | good y q => exact ih m d _ q
/-! The tokens of a written expression may be. -/
theorem dec_digs (u : Nat) : (∀ x ∈ Lib.decDigits u, isDig x = true) ∧ dvl 0 (Lib.decDigits u) = u ∧ (0 < u → (Lib.decDigits u).head? ≠ some 48) ∧ Lib.decDigits u ≠ [] := by
  induction u using Nat.strongRecOn with
  | _ u ih =>
    have hdig : ∀ k : Nat, k < 10 → isDig (UInt8.ofNat (48 + k)) = true ∧ (UInt8.ofNat (48 + k)).toNat = 48 + k := fun k hk => by
      have e : (UInt8.ofNat (48 + k)).toNat = 48 + k := by simp; omega
      exact ⟨(dig_iff _).2 (by rw [e]; omega), e⟩
    by_cases h : u < 10
    · rw [Lib.decDigits_one h]
      obtain ⟨d1, d2⟩ := hdig u h
      refine ⟨by simpa using d1, ?_, fun hu => ?_, by simp⟩
      · rw [dvl_cons, dvl_nil, d2]; omega
      · simp only [List.head?_cons, ne_eq, Option.some.injEq]
        intro e
        have := congrArg UInt8.toNat e
        rw [d2] at this
        have e48 : (48 : UInt8).toNat = 48 := by decide
        omega
    · obtain ⟨d1, d2⟩ := hdig (u % 10) (by omega)
      obtain ⟨i1, i2, i3, i4⟩ := ih (u / 10) (by omega)
      have e : Lib.decDigits u = Lib.decDigits (u / 10) ++ [UInt8.ofNat (48 + u % 10)] := by rw [Lib.decDigits, dif_neg h]
      rw [e]
      refine ⟨?_, ?_, fun _ => ?_, by simp⟩
      · intro x hx
        rcases List.mem_append.1 hx with hx | hx
        · exact i1 x hx
        · rw [List.mem_singleton.1 hx]; exact d1
      · rw [dvl_snoc, i2, d2]; omega
      · rw [List.head?_append]
        have := i3 (by omega)
        cases hh : (Lib.decDigits (u / 10)).head? with
        | none => exact absurd (List.head?_eq_none_iff.1 hh) i4
        | some b => rw [hh] at this; exact this
theorem wr_num (n : Int) (h0 : 0 ≤ n) (h1 : n ≤ 9223372036854775807) : wrOk ⟨2, txt [], n, 0⟩ = true := by
  obtain ⟨u, rfl⟩ : ∃ u : Nat, n = (u : Int) := ⟨n.toNat, by omega⟩
  obtain ⟨i1, i2, i3, i4⟩ := dec_digs u
  rw [wrOk_iff, spell_n, itoa_nat]
  refine ⟨by show (txt []).size ≤ 256; decide, ?_⟩
  have hs := spn_all (p := isDig) i1
  cases hl : Lib.decDigits u with
  | nil => exact absurd hl i4
  | cons b r =>
    rw [hl] at i1 i2 i3 hs
    have hb := (dig_iff b).1 (i1 b (by simp))
    rw [tkR, if_neg (by unfold isLet; simp; omega), if_pos ((dig_iff b).2 hb), tkN, hs, List.take_length, i2, if_neg, if_neg (by omega)]
    · rfl
    · rintro ⟨h2, h3⟩
      rcases Nat.eq_zero_or_pos u with h | h
      · subst h
        rw [show Lib.decDigits 0 = [48] from by rw [Lib.decDigits_one (by omega)]; rfl] at hl
        cases hl
        simp at h3
      · exact i3 h h2
theorem wr_text (s : ByteArray) (h : isTx s = true) : wrOk ⟨3, s, 0, 0⟩ = true := by
  unfold isTx at h
  simp only [Bool.and_eq_true, decide_eq_true_eq] at h
  rw [wrOk_iff, spell_t]
  refine ⟨h.1, ?_⟩
  have hl : s.data.toList.length = s.size := rfl
  rw [tkR, if_neg (by decide), if_neg (by decide), if_pos (by decide), tkT]
  have e : spn isIn (s.data.toList ++ [39]) = s.size := by
    rw [spn_full (by rw [h.2, hl])]
    simp [spn, hl, show isIn 39 = false by decide]
  rw [e, if_neg (by omega), ← hl, List.drop_left' rfl, List.take_left' rfl, if_pos (show [(39 : UInt8)].head? = some 39 from rfl), txt_self]
  simp [Tk.out]
theorem wr_stage (s : ByteArray) (h : isSg s = true) : wrOk ⟨1, s, 0, 0⟩ = true := by
  unfold isSg at h
  simp only [Bool.and_eq_true, decide_eq_true_eq] at h
  obtain ⟨⟨⟨⟨h1, h2⟩, h3⟩, h4⟩, _⟩ := h
  rw [wrOk_iff, spell_s (by omega) (by omega)]
  refine ⟨by show s.size ≤ 256; omega, ?_⟩
  have hl : s.data.toList.length = s.size := rfl
  have hts := txt_self s
  cases hd : s.data.toList with
  | nil => rw [hd] at hl; simp at hl; omega
  | cons b r =>
    rw [hd] at h3 h4 hl hts
    rw [tkR, if_pos (show isLet b = true from h3), tkW, h4, if_neg (by omega), ← hl, List.take_length, hts]
    rfl
theorem op_wr : ∀ k : Fin 10, wrOk (opT ((k.val : Int) + 4)) = true := by decide +kernel
theorem opT_wr {k : Int} (h1 : 4 ≤ k) (h2 : k ≤ 13) : wrOk (opT k) = true := by
  obtain ⟨n, rfl⟩ : ∃ n : Nat, k = (n : Int) + 4 := ⟨(k - 4).toNat, by omega⟩
  exact op_wr ⟨n, by omega⟩
theorem wr_br : wrOk lbr = true ∧ wrOk rbr = true ∧ wrOk dot = true := by decide +kernel
/-- Parts whose numbers are numbers of a machine. -/
def Pt.nk (p : Pt) : Prop := p.n ≤ 9223372036854775807
theorem wr_leaf {p : Pt} (h : lfK p ≠ 0) (hk : p.nk) : (∀ t ∈ lfT p, wrOk t = true) ∧ (lfT p).length ≤ 3 := by
  rcases lfK_ne h with ⟨h1, h2, _⟩ | ⟨h1, h2, _⟩ | ⟨h1, h2, h3, h4, _⟩
  · unfold lfT
    rw [if_pos h1]
    exact ⟨by intro t ht; rw [List.mem_singleton.1 ht]; exact wr_num _ h2 hk, by simp⟩
  · unfold lfT
    rw [if_neg (by omega), if_pos h1]
    exact ⟨by intro t ht; rw [List.mem_singleton.1 ht]; exact wr_text _ h2, by simp⟩
  · unfold lfT
    rw [if_neg (by omega), if_neg (by omega)]
    have hf := (fld_facts h2 h3).2.2.2
    split
    · exact ⟨by intro t ht; rw [List.mem_singleton.1 ht]; exact hf, by simp⟩
    · rename_i hne
      rcases h4 with h4 | h4
      · exact absurd (by rw [h4]; rfl) hne
      · refine ⟨?_, by simp⟩
        intro t ht
        simp only [List.mem_cons, List.not_mem_nil, or_false] at ht
        rcases ht with rfl | rfl | rfl
        · exact wr_stage _ h4
        · exact wr_br.2.2
        · exact hf
theorem brk_len (o : Bool) (l : List Tk) : (brk o l).length ≤ l.length + 2 := by unfold brk; split <;> simp
theorem brk_wr (o : Bool) (l : List Tk) (h : ∀ t ∈ l, wrOk t = true) : ∀ t ∈ brk o l, wrOk t = true := by
  unfold brk
  split
  · intro t ht
    simp only [List.mem_cons, List.mem_append, List.not_mem_nil, or_false] at ht
    rcases ht with rfl | ht | rfl
    · exact wr_br.1
    · exact h t ht
    · exact wr_br.2.1
  · exact h
theorem Ex.bod_wr (t : Ex) (h : t.fine) (hk : ∀ p ∈ t.flat, p.nk) : (∀ u ∈ t.bod, wrOk u = true) ∧ t.bod.length + 2 ≤ 5 * t.flat.length := by
  induction t with
  | lf p =>
    obtain ⟨h1, h2⟩ := wr_leaf (show lfK p ≠ 0 from h) (hk p (by simp [Ex.flat]))
    exact ⟨h1, by show (lfT p).length + 2 ≤ 5 * 1; omega⟩
  | un p a ih =>
    obtain ⟨k1, k2, k3⟩ := h
    obtain ⟨h1, h2⟩ := ih k3 (fun q hq => hk q (by simp [Ex.flat, hq]))
    have hb := brk_len a.op a.bod
    refine ⟨?_, by simp only [Ex.bod, Ex.flat, List.length_cons]; omega⟩
    intro u hu
    rcases List.mem_cons.1 hu with rfl | hu
    · exact opT_wr (by omega) (by omega)
    · exact brk_wr _ _ h1 u hu
  | bi p a b iha ihb =>
    obtain ⟨k1, k2, _, k4, k5⟩ := h
    obtain ⟨h1, h2⟩ := iha k4 (fun q hq => hk q (by simp [Ex.flat, hq]))
    obtain ⟨g1, g2⟩ := ihb k5 (fun q hq => hk q (by simp [Ex.flat, hq]))
    have hb := brk_len a.op a.bod
    have gb := brk_len b.op b.bod
    refine ⟨?_, by simp only [Ex.bod, Ex.flat, List.length_cons, List.length_append]; omega⟩
    intro u hu
    rcases List.mem_append.1 hu with hu | hu
    · exact brk_wr _ _ h1 u hu
    · rcases List.mem_cons.1 hu with rfl | hu
      · exact opT_wr (by omega) (by omega)
      · exact brk_wr _ _ g1 u hu
theorem dn_pos (t : Ex) : 1 ≤ t.dn := by cases t <;> simp [Ex.dn]
/-- The end of tokens. -/
def endZ (n : Nat) : Tk := ⟨0, ⟨#[]⟩, 0, (n : Int)⟩
theorem wdT_end (n : Nat) : wdT (endZ n) = [] := by unfold wdT endZ; rw [if_neg (by dsimp only; omega)]
theorem stp_end (n : Nat) : Stp (endZ n) := by unfold Stp; rw [wdT_end]; decide
/-- Tokens that are those of a written expression, but for their places, are read as it. -/
theorem read_back (t : Ex) (h : t.fine) (hd : t.dn ≤ 32) (ts : List Tk) (n : Nat) (hts : ts.map (Tk.out · 0) = t.bod.map (Tk.out · 0)) : ∃ e, pRd (mRd 0 (ts ++ [endZ n])) 0 0 [] (ts ++ [endZ n]) = .good t.flat [e] ∧ e.kd = 0 := by
  obtain ⟨u, r, h1, h2⟩ := body_back t h 0 (endZ 0) [] (by omega) (stp_end 0)
  have hm : mRd 0 (ts ++ [endZ n]) = mRd 0 (u :: (r ++ [endZ 0])) := by
    have hl := congrArg List.length hts
    rw [List.length_map, List.length_map, h1] at hl
    rw [mRd_le (by omega), mRd_le (by omega)]
    simp at hl ⊢
    omega
  have hz := h2 (mRd 0 (ts ++ [endZ n])) (by rw [hm]; exact Nat.le_refl _)
  have hz2 := pRd_z (mRd 0 (ts ++ [endZ n])) 0 0 [] (u :: (r ++ [endZ 0]))
  have hz3 := pRd_z (mRd 0 (ts ++ [endZ n])) 0 0 [] (ts ++ [endZ n])
  have e : (u :: (r ++ [endZ 0])).map zT = (ts ++ [endZ n]).map zT := by
    rw [← List.cons_append, ← h1, List.map_append, List.map_append]
    congr 1
    exact hts.symm
  rw [e, hz3, hz] at hz2
  cases hp : pRd (mRd 0 (ts ++ [endZ n])) 0 0 [] (ts ++ [endZ n]) with
  | bad q => rw [hp] at hz2; cases hz2
  | good x q =>
    rw [hp] at hz2
    simp only [PR.mp, PR.good.injEq] at hz2
    obtain ⟨e1, e2⟩ := hz2
    have hl := congrArg List.length e2
    simp only [List.length_map, List.length_cons, List.length_nil] at hl
    obtain ⟨c, rfl⟩ := List.length_eq_one_iff.1 hl
    refine ⟨c, by rw [e1], ?_⟩
    simp only [List.map_cons, List.map_nil, List.cons.injEq, and_true] at e2
    exact congrArg Tk.kd e2
end Go.Proofs.YtogklmljllocbabGreatDoor
