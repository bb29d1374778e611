/-
  The document's tokens: one.
-/
import Derived.Test.YtjijhefmbmdbeaaGreatDoorD38
namespace Go.Proofs.YtjijhefmbmdbeaaGreatDoor
open Go.RowKit

/-- What the document's token at a place is. -/
def OneOk (l : List UInt8) (at_ : Nat) (T : Tk) (E : Int) (ok : Bool) : Prop := (ok = false ∧ tkR l = none) ∨ (ok = true ∧ ∃ t n, tkR l = some (t, n) ∧ T = t.out (at_ : Int) ∧ E = ((at_ + n : Nat) : Int))
theorem tkR_at (s : ByteArray) (at_ : Nat) (h : at_ < s.size) : tkR (s.data.toList.drop at_) = if isLet s[at_] then tkW (s.data.toList.drop at_) else if isDig s[at_] then tkN (s.data.toList.drop at_) else if s[at_].toNat = 39 then tkT (s.data.toList.drop (at_ + 1)) else tkS s[at_] (s.data.toList.drop (at_ + 1)) := by
  rw [drop_get s at_ h, tkR]
theorem one_word (s : ByteArray) (at_ : Nat) (h : at_ < s.size) (hL : isLet s[at_] = true) : OneOk (s.data.toList.drop at_) at_ ⟨1, s.extract at_ (at_ + spn isAln (s.data.toList.drop at_)), 0, (at_ : Int)⟩ ((at_ + spn isAln (s.data.toList.drop at_) : Nat) : Int) (decide (spn isAln (s.data.toList.drop at_) ≤ 32)) := by
  unfold OneOk
  rw [tkR_at s at_ h, if_pos hL, ext_seg]
  unfold tkW
  by_cases h32 : 32 < spn isAln (s.data.toList.drop at_)
  · exact Or.inl ⟨decide_eq_false (by omega), if_pos h32⟩
  · exact Or.inr ⟨decide_eq_true (by omega), _, _, if_neg h32, rfl, rfl⟩
theorem one_num (s : ByteArray) (at_ : Nat) (h : at_ < s.size) (hL : ¬ isLet s[at_] = true) (hD : isDig s[at_] = true) (x : Int) (hx : nuB s at_ h = true → x = ((dvl 0 ((s.data.toList.drop at_).take (spn isDig (s.data.toList.drop at_))) : Nat) : Int)) :
    OneOk (s.data.toList.drop at_) at_ ⟨2, ⟨#[]⟩, x, (at_ : Int)⟩ ((at_ + spn isDig (s.data.toList.drop at_) : Nat) : Int) (nuB s at_ h) := by
  have h1 : 1 ≤ spn isDig (s.data.toList.drop at_) := by rw [drop_get s at_ h, spn, if_pos hD]; omega
  have hh : (s.data.toList.drop at_).head? = some 48 ↔ s[at_].toNat = 48 := by
    rw [drop_get s at_ h, List.head?_cons, Option.some.injEq]
    exact ⟨fun e => by rw [e]; rfl, fun e => UInt8.toNat_inj.1 e⟩
  have e0 : tkR (s.data.toList.drop at_) = tkN (s.data.toList.drop at_) := by rw [tkR_at s at_ h, if_neg hL, if_pos hD]
  have hdef : nuB s at_ h = (decide (dvl 0 ((s.data.toList.drop at_).take (spn isDig (s.data.toList.drop at_))) ≤ 9223372036854775807) && (decide (¬ s[at_].toNat = 48) || decide (spn isDig (s.data.toList.drop at_) = 1))) := rfl
  unfold OneOk
  rw [e0]
  unfold tkN
  by_cases hz : s[at_].toNat = 48 ∧ 1 < spn isDig (s.data.toList.drop at_)
  · refine Or.inl ⟨?_, if_pos ⟨hh.2 hz.1, hz.2⟩⟩
    rw [hdef, decide_eq_false (p := ¬ s[at_].toNat = 48) (by simpa using hz.1), decide_eq_false (p := spn isDig (s.data.toList.drop at_) = 1) (by omega), Bool.or_false, Bool.and_false]
  · rw [if_neg (fun h => hz ⟨hh.1 h.1, h.2⟩)]
    have hr : (decide (¬ s[at_].toNat = 48) || decide (spn isDig (s.data.toList.drop at_) = 1)) = true := by
      rw [Bool.or_eq_true, decide_eq_true_eq, decide_eq_true_eq]
      omega
    by_cases hv : 9223372036854775807 < dvl 0 ((s.data.toList.drop at_).take (spn isDig (s.data.toList.drop at_)))
    · refine Or.inl ⟨?_, if_pos hv⟩
      rw [hdef, decide_eq_false (by omega), Bool.false_and]
    · have hok : nuB s at_ h = true := by rw [hdef, decide_eq_true (by omega), hr]; rfl
      exact Or.inr ⟨hok, _, _, if_neg hv, by rw [hx hok]; rfl, rfl⟩
theorem one_text (s : ByteArray) (at_ : Nat) (h : at_ < s.size) (hL : ¬ isLet s[at_] = true) (hD : ¬ isDig s[at_] = true) (h39 : s[at_].toNat = 39) : ∃ (k : Int) (t : ByteArray) (n p : Int) (E : Int) (ok : Bool), txV at_ (tkT (s.data.toList.drop (at_ + 1))) = .tuple #[.agg #[.int .i64 k, .string t, .int .i64 n, .int .i64 p], .int .i64 E, .bool ok] ∧ OneOk (s.data.toList.drop at_) at_ ⟨k, t, n, p⟩ E ok := by
  have e0 : tkR (s.data.toList.drop at_) = tkT (s.data.toList.drop (at_ + 1)) := by rw [tkR_at s at_ h, if_neg hL, if_neg hD, if_pos h39]
  unfold OneOk
  rw [e0]
  cases hq : tkT (s.data.toList.drop (at_ + 1)) with
  | none => exact ⟨_, _, _, _, _, _, rfl, Or.inl ⟨rfl, rfl⟩⟩
  | some x =>
    obtain ⟨t, m⟩ := x
    refine ⟨_, _, _, _, _, _, rfl, Or.inr ⟨rfl, t, m, rfl, ?_, rfl⟩⟩
    unfold tkT at hq
    split at hq
    · cases hq
    · split at hq
      · simp only [Option.some.injEq, Prod.mk.injEq] at hq
        rw [← hq.1]
        rfl
      · cases hq
theorem one_sign (s : ByteArray) (at_ : Nat) (h : at_ < s.size) (hL : ¬ isLet s[at_] = true) (hD : ¬ isDig s[at_] = true) (h39 : ¬ s[at_].toNat = 39) : OneOk (s.data.toList.drop at_) at_ ⟨4, sgS s at_ h, 0, (at_ : Int)⟩ ((at_ : Int) + ((sgS s at_ h).size : Int)) (!(sgS s at_ h).toList.isEmpty) := by
  have e0 : tkR (s.data.toList.drop at_) = tkS s[at_] (s.data.toList.drop (at_ + 1)) := by rw [tkR_at s at_ h, if_neg hL, if_neg hD, if_neg h39]
  have hd1 := drop_get s at_ h
  unfold OneOk
  rw [e0]
  unfold tkS sgS
  by_cases h2 : isTwo s[at_] = true ∧ (s.data.toList.drop (at_ + 1)).head? = some 61
  · have ht : twoB s at_ h = true := by unfold twoB; rw [h2.1, decide_eq_true h2.2]; rfl
    have hl : at_ + 1 < s.size := by
      rcases Nat.lt_or_ge (at_ + 1) s.size with h' | h'
      · exact h'
      · rw [List.drop_eq_nil_of_le (by rw [size_list]; exact h')] at h2; exact absurd h2.2 (by simp)
    have hd2 := drop_get s (at_ + 1) hl
    have h61 : s[at_ + 1] = 61 := by have := h2.2; rw [hd2] at this; simpa using this
    have hx : s.extract at_ (at_ + 2) = txt [s[at_], 61] := by rw [ext_seg, hd1, hd2, h61]; rfl
    rw [if_pos ht, if_pos h2, hx]
    exact Or.inr ⟨by rw [ByteArray.toList_eq]; rfl, _, _, rfl, rfl, by rw [txt_size]; simp⟩
  · have ht : ¬ twoB s at_ h = true := by
      unfold twoB
      rw [Bool.and_eq_true, decide_eq_true_eq]
      exact h2
    rw [if_neg ht, if_neg h2]
    by_cases h1 : isOne s[at_] = true
    · have hx : s.extract at_ (at_ + 1) = txt [s[at_]] := by rw [ext_seg, hd1]; rfl
      rw [if_pos h1, if_pos h1, hx]
      exact Or.inr ⟨by rw [ByteArray.toList_eq]; rfl, _, _, rfl, rfl, by rw [txt_size]; simp⟩
    · rw [if_neg h1, if_neg h1]
      exact Or.inl ⟨by rw [ByteArray.toList_eq]; rfl, rfl⟩
set_option maxHeartbeats 1000000 in
set_option maxRecDepth 100000 in
theorem rOne_any (s : ByteArray) (at_ : Nat) (w : World) (hat : at_ < s.size) (hs : s.size ≤ 140737488351232) :
    Calls Tryz.prog 70 #[.string s, .int .i64 (at_ : Int)] w fun e w' => ∃ (k : Int) (t : ByteArray) (n p : Int) (E : Int) (ok : Bool), e = .returned (.tuple #[.agg #[.int .i64 k, .string t, .int .i64 n, .int .i64 p], .int .i64 E, .bool ok]) ∧ OneOk (s.data.toList.drop at_) at_ ⟨k, t, n, p⟩ E ok ∧ Below w.heap.size w w' := by
  have L1 := fun W => rLetter_any s[at_] W
  have D1 := fun W => rDigit_any s[at_] W
  by_cases hL : isLet s[at_] = true
  · have ON := one_word s at_ hat hL
    have RW := fun W => rWord_any s at_ W (Nat.le_of_lt hat) hs
    rw [hL] at L1
    generalize s.extract at_ (at_ + spn isAln (s.data.toList.drop at_)) = X at *
    generalize ((at_ + spn isAln (s.data.toList.drop at_) : Nat) : Int) = E at *
    generalize decide (spn isAln (s.data.toList.drop at_) ≤ 32) = ok at *
    have HL1 := hide L1
    have HRW := hide RW
    have HON := hide ON
    clear L1 D1 RW ON hL
    go_enter Tryz.func70, Tryz.ntmps70
    go_wp2_with fail
    refine (unhide HL1 _).mono ?_
    rintro e w1 ⟨rfl, rfl⟩
    go_wp2_with fail
    refine (unhide HRW _).mono ?_
    rintro e w1 ⟨rfl, hb⟩
    obtain ⟨hb0, q⟩ := rd_left hb
    have q0 := CBox.cell (i := 0) (v := .int .i64 0) q rfl
    have q1 := CBox.cell (i := 1) (v := .string ⟨#[]⟩) q rfl
    have q2 := CBox.cell (i := 2) (v := .int .i64 0) q rfl
    have q3 := CBox.cell (i := 3) (v := .int .i64 0) q rfl
    have f0 := CBox.froz q 0
    have f1 := CBox.froz q 1
    have f2 := CBox.froz q 2
    have f3 := CBox.froz q 3
    have HB0 := hide hb0
    clear hb hb0 q
    go_wp2
    exact bodyPost_ret (v := .tuple #[.agg #[.int .i64 1, .string X, .int .i64 0, .int .i64 (at_ : Int)], .int .i64 E, .bool ok]) (by simp [results, Tryz.results70, go_sem, q0, q1, q2, q3]) rfl ⟨_, _, _, _, _, _, rfl, unhide HON, ((((unhide HB0).setCell (p := ⟨w.heap.size, 0, none⟩) (Nat.le_refl _) _).setCell (p := ⟨w.heap.size, 1, none⟩) (Nat.le_refl _) _).setCell (p := ⟨w.heap.size, 2, none⟩) (Nat.le_refl _) _).setCell (p := ⟨w.heap.size, 3, none⟩) (Nat.le_refl _) _⟩
  · rw [Bool.eq_false_iff.2 hL] at L1
    by_cases hD : isDig s[at_] = true
    · have ON := one_num s at_ hat hL hD
      have RW := fun W => rNumber_any s at_ W hat hs
      rw [hD] at D1
      have HRW := hide RW
      have HON := hide ON
      have HL1 := hide L1
      have HD1 := hide D1
      clear L1 D1 RW ON hL hD
      go_enter Tryz.func70, Tryz.ntmps70
      go_wp2_with fail
      refine (unhide HL1 _).mono ?_
      rintro e w1 ⟨rfl, rfl⟩
      go_wp2_with fail
      refine (unhide HD1 _).mono ?_
      rintro e w1 ⟨rfl, rfl⟩
      go_wp2_with fail
      refine (unhide HRW _).mono ?_
      rintro e w1 ⟨⟨x, rfl, hx⟩, hb⟩
      have ON := unhide HON x hx
      generalize ((at_ + spn isDig (s.data.toList.drop at_) : Nat) : Int) = E at *
      generalize nuB s at_ hat = ok at *
      have HON := hide ON
      clear ON hx HRW
      obtain ⟨hb0, q⟩ := rd_left hb
      have q0 := CBox.cell (i := 0) (v := .int .i64 0) q rfl
      have q1 := CBox.cell (i := 1) (v := .string ⟨#[]⟩) q rfl
      have q2 := CBox.cell (i := 2) (v := .int .i64 0) q rfl
      have q3 := CBox.cell (i := 3) (v := .int .i64 0) q rfl
      have f0 := CBox.froz q 0
      have f1 := CBox.froz q 1
      have f2 := CBox.froz q 2
      have f3 := CBox.froz q 3
      have HB0 := hide hb0
      clear hb hb0 q
      go_wp2
      exact bodyPost_ret (v := .tuple #[.agg #[.int .i64 2, .string ⟨#[]⟩, .int .i64 x, .int .i64 (at_ : Int)], .int .i64 E, .bool ok]) (by simp [results, Tryz.results70, go_sem, q0, q1, q2, q3]) rfl ⟨_, _, _, _, _, _, rfl, unhide HON, ((((unhide HB0).setCell (p := ⟨w.heap.size, 0, none⟩) (Nat.le_refl _) _).setCell (p := ⟨w.heap.size, 1, none⟩) (Nat.le_refl _) _).setCell (p := ⟨w.heap.size, 2, none⟩) (Nat.le_refl _) _).setCell (p := ⟨w.heap.size, 3, none⟩) (Nat.le_refl _) _⟩
    · rw [Bool.eq_false_iff.2 hD] at D1
      by_cases h39 : s[at_].toNat = 39
      · obtain ⟨k, t, n, p, E, ok, he, ON⟩ := one_text s at_ hat hL hD h39
        have RW := fun W => rText_any s at_ W hat hs
        rw [he] at RW
        have g39 : ((s[at_].toNat : Int) == 39) = true := by simp [h39]
        have HRW := hide RW
        have HON := hide ON
        have HL1 := hide L1
        have HD1 := hide D1
        clear L1 D1 RW ON hL hD he h39
        go_enter Tryz.func70, Tryz.ntmps70
        go_wp2_with fail
        refine (unhide HL1 _).mono ?_
        rintro e w1 ⟨rfl, rfl⟩
        go_wp2_with fail
        refine (unhide HD1 _).mono ?_
        rintro e w1 ⟨rfl, rfl⟩
        go_wp2_with fail
        refine (unhide HRW _).mono ?_
        rintro e w1 ⟨rfl, hb⟩
        obtain ⟨hb0, q⟩ := rd_left hb
        have q0 := CBox.cell (i := 0) (v := .int .i64 0) q rfl
        have q1 := CBox.cell (i := 1) (v := .string ⟨#[]⟩) q rfl
        have q2 := CBox.cell (i := 2) (v := .int .i64 0) q rfl
        have q3 := CBox.cell (i := 3) (v := .int .i64 0) q rfl
        have f0 := CBox.froz q 0
        have f1 := CBox.froz q 1
        have f2 := CBox.froz q 2
        have f3 := CBox.froz q 3
        have HB0 := hide hb0
        clear hb hb0 q
        go_wp2
        exact bodyPost_ret (v := .tuple #[.agg #[.int .i64 k, .string t, .int .i64 n, .int .i64 p], .int .i64 E, .bool ok]) (by simp [results, Tryz.results70, go_sem, q0, q1, q2, q3]) rfl ⟨_, _, _, _, _, _, rfl, unhide HON, ((((unhide HB0).setCell (p := ⟨w.heap.size, 0, none⟩) (Nat.le_refl _) _).setCell (p := ⟨w.heap.size, 1, none⟩) (Nat.le_refl _) _).setCell (p := ⟨w.heap.size, 2, none⟩) (Nat.le_refl _) _).setCell (p := ⟨w.heap.size, 3, none⟩) (Nat.le_refl _) _⟩
      · have ON := one_sign s at_ hat hL hD h39
        have RW := fun W => rSign_any s at_ W hat hs
        have g39 : ((s[at_].toNat : Int) == 39) = false := by simp; omega
        have hsz : (sgS s at_ hat).size ≤ 140737488351232 := by
          unfold sgS
          split
          · rw [ByteArray.size_extract]; omega
          · split
            · rw [ByteArray.size_extract]; omega
            · show (0 : Nat) ≤ _; omega
        generalize sgS s at_ hat = X at *
        have HRW := hide RW
        have HON := hide ON
        have HL1 := hide L1
        have HD1 := hide D1
        clear L1 D1 RW ON hL hD h39
        go_enter Tryz.func70, Tryz.ntmps70
        go_wp2_with fail
        refine (unhide HL1 _).mono ?_
        rintro e w1 ⟨rfl, rfl⟩
        go_wp2_with fail
        refine (unhide HD1 _).mono ?_
        rintro e w1 ⟨rfl, rfl⟩
        go_wp2_with fail
        refine (unhide HRW _).mono ?_
        rintro e w1 ⟨rfl, hb⟩
        obtain ⟨hb0, q⟩ := rd_left hb
        have q0 := CBox.cell (i := 0) (v := .int .i64 0) q rfl
        have q1 := CBox.cell (i := 1) (v := .string ⟨#[]⟩) q rfl
        have q2 := CBox.cell (i := 2) (v := .int .i64 0) q rfl
        have q3 := CBox.cell (i := 3) (v := .int .i64 0) q rfl
        have f0 := CBox.froz q 0
        have f1 := CBox.froz q 1
        have f2 := CBox.froz q 2
        have f3 := CBox.froz q 3
        have HB0 := hide hb0
        clear hb hb0 q
        go_wp2
        exact bodyPost_ret (v := .tuple #[.agg #[.int .i64 4, .string X, .int .i64 0, .int .i64 (at_ : Int)], .int .i64 ((at_ : Int) + (X.size : Int)), .bool (!X.toList.isEmpty)]) (by simp [results, Tryz.results70, go_sem, q0, q1, q2, q3]) rfl ⟨_, _, _, _, _, _, rfl, unhide HON, ((((unhide HB0).setCell (p := ⟨w.heap.size, 0, none⟩) (Nat.le_refl _) _).setCell (p := ⟨w.heap.size, 1, none⟩) (Nat.le_refl _) _).setCell (p := ⟨w.heap.size, 2, none⟩) (Nat.le_refl _) _).setCell (p := ⟨w.heap.size, 3, none⟩) (Nat.le_refl _) _⟩
end Go.Proofs.YtjijhefmbmdbeaaGreatDoor
