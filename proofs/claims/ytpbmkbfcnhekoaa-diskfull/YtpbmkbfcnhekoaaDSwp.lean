/-
  DiskSwap: whatever the bytes, the fuse, and how a crash keeps and tears, the law returns true.
-/
import Derived.Test.YtpbmkbfcnhekoaaDkX
namespace Go.Proofs.Ytpbmkbfcnhekoaa
open Go.RowKit

section
variable (a b : ByteArray)
abbrev fA : Fs := [(⟨#[97]⟩, a.data.toList)]
abbrev fAB : Fs := [(⟨#[97]⟩, a.data.toList), (⟨#[98]⟩, b.data.toList)]
theorem over_nil (d : List UInt8) : over [] 0 d = d := by simp [over]
theorem mk1 : made [] (.wr ⟨#[97]⟩ 0 a) = fA a := by
  show [((⟨#[97]⟩ : ByteArray), over [] 0 a.data.toList)] = _
  rw [over_nil]
theorem mk2 : made (fA a) (.wr ⟨#[98]⟩ 0 b) = fAB a b := by
  show [((⟨#[97]⟩ : ByteArray), a.data.toList), ((⟨#[98]⟩ : ByteArray), over [] 0 b.data.toList)] = _
  rw [over_nil]
theorem mk3 : made (fAB a b) (.rn ⟨#[98]⟩ ⟨#[97]⟩) = fA b := rfl
theorem sz (s : ByteArray) : s.data.toList.length = s.size := Array.length_toList
theorem arr (s : ByteArray) : (⟨s.data.toList.toArray⟩ : ByteArray) = s := by
  apply ByteArray.ext
  simp
variable (ha : a.size ≤ 1000) (hb : b.size ≤ 1000)
theorem n97 : dnm ⟨#[97]⟩ = true := by decide
theorem n98 : dnm ⟨#[98]⟩ = true := by decide
include ha in
theorem sw1 : Dk.new.wrE ⟨#[97]⟩ 0 a = 0 ∧ Dk.new.wrD ⟨#[97]⟩ 0 a = ⟨[], fA a, [.wr ⟨#[97]⟩ 0 a], -1, false⟩ := by
  have hbad : Dk.new.badW ⟨#[97]⟩ 0 a = 0 := by
    unfold Dk.badW
    rw [if_neg (by simp [n97]), if_neg (by decide), if_neg]
    have h1 : (hasF Dk.new.now ⟨#[97]⟩).length = 0 := rfl
    have h2 : total Dk.new.now = 0 := rfl
    have h3 : Dk.new.now.length = 0 := rfl
    simp only [Dk.fullW, Dk.grows, h1, h2, h3]
    simp
    omega
  refine ⟨by rw [Dk.wrE, if_pos hbad]; rfl, ?_⟩
  rw [Dk.wrD, if_pos hbad]
  show Dk.mk [] (made [] (.wr ⟨#[97]⟩ 0 a)) [.wr ⟨#[97]⟩ 0 a] (-1) false = _
  rw [mk1]
theorem sw2 : (Dk.mk [] (fA a) [.wr ⟨#[97]⟩ 0 a] (-1) false).syE = 0 ∧ (Dk.mk [] (fA a) [.wr ⟨#[97]⟩ 0 a] (-1) false).syD = ⟨fA a, fA a, [], -1, false⟩ := ⟨rfl, rfl⟩
theorem sw3 (f : Int) (hf : 0 ≤ f) : Dk.fuE f = 0 ∧ (Dk.mk (fA a) (fA a) [] (-1) false).fuD f = ⟨fA a, fA a, [], f, false⟩ := by
  unfold Dk.fuE Dk.fuD
  rw [if_neg (by omega), if_neg (by omega)]; exact ⟨rfl, rfl⟩
include ha hb in
theorem sw4b (f : Int) : (Dk.mk (fA a) (fA a) [] f false).badW ⟨#[98]⟩ 0 b = 0 := by
  unfold Dk.badW
  have h1 : (hasF (fA a) ⟨#[98]⟩).length = 0 := rfl
  have h2 : total (fA a) = a.size := by simp [total, fA]
  rw [if_neg (by simp [n98]), if_neg (by show ¬ ((0 : Int) < 0 ∨ ((hasF (fA a) ⟨#[98]⟩).length : Int) < 0); rw [h1]; decide), if_neg]
  have h3 : (fA a).length = 1 := rfl
  simp only [Dk.fullW, Dk.grows, h1, h2, h3]
  simp
  omega
include ha hb in
theorem sw4 (f : Int) : (Dk.mk (fA a) (fA a) [] f false).wrE ⟨#[98]⟩ 0 b = (Dk.mk (fA a) (fA a) [] f false).doE ∧ (Dk.mk (fA a) (fA a) [] f false).wrD ⟨#[98]⟩ 0 b = (Dk.mk (fA a) (fA a) [] f false).doD (.wr ⟨#[98]⟩ 0 b) := by
  have hbad := sw4b a b ha hb f
  exact ⟨by rw [Dk.wrE, if_pos hbad], by rw [Dk.wrD, if_pos hbad]; rfl⟩
end
/-- What is read of a behind a crash. -/
theorem rd_old (a : ByteArray) (left : Int) (down : Bool) (nw : Fs) (k t : Int) : (Dk.mk (fA a) nw [] left down).crash k t = ⟨fA a, fA a, [], -1, false⟩ := by
  unfold Dk.crash Dk.left' Dk.kept
  simp
  rfl
theorem rd_A (a : ByteArray) (fs : Fs) (rest : Fs) (h : fs = (⟨#[97]⟩, a.data.toList) :: rest) : (Dk.mk fs fs [] (-1) false).rdE ⟨#[97]⟩ = 0 ∧ (Dk.mk fs fs [] (-1) false).rdS ⟨#[97]⟩ = a := by
  subst h
  have e : (Dk.mk ((⟨#[97]⟩, a.data.toList) :: rest) ((⟨#[97]⟩, a.data.toList) :: rest) [] (-1) false).badN ⟨#[97]⟩ = 0 := rfl
  refine ⟨e, ?_⟩
  unfold Dk.rdS
  rw [if_pos e]
  show (⟨a.data.toList.toArray⟩ : ByteArray) = a
  exact arr a
theorem rd_oldF (fs : Fs) (left : Int) (down : Bool) (nw : Fs) (k t : Int) : (Dk.mk fs nw [] left down).crash k t = ⟨fs, fs, [], -1, false⟩ := by
  unfold Dk.crash Dk.left' Dk.kept
  simp
  rfl
theorem crash_one (fs nw : Fs) (c : Chg) (left : Int) (down : Bool) (k t : Int) : ((Dk.mk fs nw [c] left down).crash k t = ⟨torn fs t c, torn fs t c, [], -1, false⟩) ∨ ((Dk.mk fs nw [c] left down).crash k t = ⟨made fs c, made fs c, [], -1, false⟩) := by
  by_cases hk : k ≤ 0
  · left
    have : (Dk.mk fs nw [c] left down).kept k = 0 := by unfold Dk.kept; simp; omega
    unfold Dk.crash Dk.left'
    rw [this]; rfl
  · right
    have : (Dk.mk fs nw [c] left down).kept k = 1 := by unfold Dk.kept; simp; omega
    unfold Dk.crash Dk.left'
    rw [this]; rfl
/-- What is read behind a crash that came while b was written. -/
theorem sw_f1 (a b : ByteArray) (k t : Int) : ((Dk.mk (fA a) (fAB a b) [.wr ⟨#[98]⟩ 0 b] 0 true).crash k t).rdE ⟨#[97]⟩ = 0 ∧ ((Dk.mk (fA a) (fAB a b) [.wr ⟨#[98]⟩ 0 b] 0 true).crash k t).rdS ⟨#[97]⟩ = a := by
  rcases crash_one (fA a) (fAB a b) (.wr ⟨#[98]⟩ 0 b) 0 true k t with h | h
  · rw [h]
    by_cases h0 : t < 0
    · have e : torn (fA a) t (.wr ⟨#[98]⟩ 0 b) = fA a := if_pos h0
      rw [e]; exact rd_A a _ _ rfl
    · have e : torn (fA a) t (.wr ⟨#[98]⟩ 0 b) = made (fA a) (.wr ⟨#[98]⟩ 0 ⟨(b.data.toList.take t.toNat).toArray⟩) := if_neg h0
      rw [e, mk2]; exact rd_A a _ _ rfl
  · rw [h, mk2]; exact rd_A a _ _ rfl
theorem sw_f3 (a b : ByteArray) (k t : Int) : ((Dk.mk (fAB a b) (fA b) [.rn ⟨#[98]⟩ ⟨#[97]⟩] 0 true).crash k t).rdE ⟨#[97]⟩ = 0 ∧ (((Dk.mk (fAB a b) (fA b) [.rn ⟨#[98]⟩ ⟨#[97]⟩] 0 true).crash k t).rdS ⟨#[97]⟩ = a ∨ ((Dk.mk (fAB a b) (fA b) [.rn ⟨#[98]⟩ ⟨#[97]⟩] 0 true).crash k t).rdS ⟨#[97]⟩ = b) := by
  rcases crash_one (fAB a b) (fA b) (.rn ⟨#[98]⟩ ⟨#[97]⟩) 0 true k t with h | h
  · rw [h]
    have := rd_A a (fAB a b) _ rfl
    exact ⟨this.1, Or.inl this.2⟩
  · rw [h, mk3]
    have := rd_A b (fA b) _ rfl
    exact ⟨this.1, Or.inr this.2⟩
set_option maxHeartbeats 4000000 in
set_option maxRecDepth 100000 in
theorem swap_0 (a b : ByteArray) (xf xk xt : Int) (w : World) (ha : a.size ≤ 1000) (hb : b.size ≤ 1000) (ht : xt ≤ 9223372036854775807) (hf : xf % 6 = 0) :
    Calls Try.prog 7 #[.string a, .string b, .agg #[.int .i64 xf, .int .i64 xk, .int .i64 xt]] w fun e w' => e = .returned (.bool true) ∧ Below w.heap.size w w' := by
  have hk0 := Kp.alloc w (.cells #[.int .i64 xf, .int .i64 xk, .int .i64 xt] 53)
  have bx0 := CBox.new w #[.int .i64 xf, .int .i64 xk, .int .i64 xt] 53
  have hbx : ∀ W, Kp [] (w.alloc (.cells #[.int .i64 xf, .int .i64 xk, .int .i64 xt] 53)) W → W.cell? ⟨w.heap.size, 0, none⟩ = some (.int .i64 xf) ∧ W.cell? ⟨w.heap.size, 1, none⟩ = some (.int .i64 xk) ∧ W.cell? ⟨w.heap.size, 2, none⟩ = some (.int .i64 xt) := fun W hk => by
    have b := bx0.kp hk (by simp)
    exact ⟨b.cell rfl, b.cell rfl, b.cell rfl⟩
  have am := fun W => among_any xf 6 W (by decide) (by decide)
  rw [hf] at am
  have wk := fun W => works_any W
  generalize hW0 : w.alloc (.cells #[.int .i64 xf, .int .i64 xk, .int .i64 xt] 53) = W0 at *
  have s1 : ∀ W p, OwnD W0 W p Dk.new → Calls Try.prog 14 #[.pointer (some ⟨p, 0, none⟩), .string ⟨#[97]⟩, .int .i64 0, .string a] W fun e w' => e = .returned (.int .i64 0) ∧ OwnD W0 w' p ⟨[], fA a, [.wr ⟨#[97]⟩ 0 a], -1, false⟩ := fun W p h => by
    have := h.write ⟨#[97]⟩ 0 a (by decide) (by decide) (by decide) (by omega)
    rw [(sw1 a ha).1, (sw1 a ha).2] at this; exact this
  have s2 : ∀ W p, OwnD W0 W p ⟨[], fA a, [.wr ⟨#[97]⟩ 0 a], -1, false⟩ → Calls Try.prog 19 #[.pointer (some ⟨p, 0, none⟩)] W fun e w' => e = .returned (.int .i64 0) ∧ OwnD W0 w' p ⟨fA a, fA a, [], -1, false⟩ := fun W p h => h.sync
  have s3 : ∀ W p, OwnD W0 W p ⟨fA a, fA a, [], -1, false⟩ → Calls Try.prog 26 #[.pointer (some ⟨p, 0, none⟩), .int .i64 0] W fun e w' => e = .returned (.int .i64 0) ∧ OwnD W0 w' p ⟨fA a, fA a, [], 0, false⟩ := fun W p h => h.step fun F hd => fuse_any p _ F 0 W hd (by decide)
  have s4 : ∀ W p, OwnD W0 W p (Dk.mk (fA a) (fA a) [] 0 false) → Calls Try.prog 14 #[.pointer (some ⟨p, 0, none⟩), .string ⟨#[98]⟩, .int .i64 0, .string b] W fun e w' => e = .returned (.int .i64 31) ∧ OwnD W0 w' p (Dk.mk (fA a) (fA a) [] 0 true) := fun W p h => by
    have := h.write ⟨#[98]⟩ 0 b (by decide) (by decide) (by decide) (by omega)
    rw [(sw4 a b ha hb 0).1, (sw4 a b ha hb 0).2] at this
    exact this
  have sc : ∀ W p, OwnD W0 W p (Dk.mk (fA a) (fA a) [] 0 true) → Calls Try.prog 20 #[.pointer (some ⟨p, 0, none⟩), .int .i64 xk, .int .i64 xt] W fun e w' => e = .returned (.tuple #[]) ∧ OwnD W0 w' p ((Dk.mk (fA a) (fA a) [] 0 true).crash xk xt) := fun W p h => h.crash xk xt ht
  have hcr : (Dk.mk (fA a) (fA a) [] 0 true).crash xk xt = ⟨(fA a), (fA a), [], -1, false⟩ := rd_oldF _ _ _ _ _ _
  have q0 := (rd_A a (fA a) _ rfl)
  rw [← hcr] at q0
  obtain ⟨q1, q2⟩ := q0
  generalize (Dk.mk (fA a) (fA a) [] 0 true).crash xk xt = DC at *
  have sr : ∀ W p, OwnD W0 W p DC → Calls Try.prog 21 #[.pointer (some ⟨p, 0, none⟩), .string ⟨#[97]⟩] W fun e w' => e = .returned (.tuple #[.string (DC.rdS ⟨#[97]⟩), .int .i64 0]) ∧ w' = W := fun W p h => by
    have := h.read ⟨#[97]⟩ (by decide)
    rw [q1] at this; exact this
  generalize DC.rdS ⟨#[97]⟩ = rs at *
  have S1 := hide s1
  have S2 := hide s2
  have S3 := hide s3
  have S4 := hide s4
  have SC := hide sc
  have SR := hide sr
  have AM := hide am
  have WK := hide wk
  have HBX := hide hbx
  have HK0 := hide hk0
  have HQ := hide q2
  clear q2
  have la : (a.size : Int) ≤ 1000 := by omega
  have lb : (b.size : Int) ≤ 1000 := by omega
  clear s1 s2 s3 s4 sc sr am wk hbx q1 hf hk0 bx0 hcr
  go_enter Try.func7, Try.ntmps7
  go_wp2_with fail
  refine (new_own W0).mono ?_
  rintro e w1 ⟨p, rfl, o1⟩
  go_wp2_with fail
  refine (unhide WK w1).mono ?_
  rintro e w2 ⟨rfl, hk2⟩
  have o2 := o1.kp hk2
  clear o1
  go_wp2_with fail
  refine (unhide S1 w2 p o2).mono ?_
  rintro e w3 ⟨rfl, o3⟩
  go_wp2_with fail
  refine (unhide S2 w3 p o3).mono ?_
  rintro e w4 ⟨rfl, o4⟩
  have c4 := unhide HBX w4 o4.bel
  go_wp2_with fail
  refine (unhide AM w4).mono ?_
  rintro e w4b ⟨rfl, rfl⟩
  go_wp2_with fail
  refine (unhide S3 w4b p o4).mono ?_
  rintro e w5 ⟨rfl, o5⟩
  clear c4
  go_wp2_with fail
  refine (unhide S4 w5 p o5).mono ?_
  rintro e w6 ⟨rfl, o6⟩
  have cc := unhide HBX w6 o6.bel
  go_wp2_with fail
  refine (unhide SC w6 p o6).mono ?_
  rintro e w9 ⟨rfl, o9⟩
  clear cc
  go_wp2_with fail
  refine (unhide SR w9 p o9).mono ?_
  rintro e w10 ⟨rfl, rfl⟩
  have hfin : Below w.heap.size w w10 := ((unhide HK0).trans o9.bel (by simp)).below (Nat.le_refl _) (by simp)
  have q2 := unhide HQ
  subst q2
  go_wp2
  all_goals go_ret
  all_goals exact ⟨rfl, hfin⟩
set_option maxHeartbeats 4000000 in
set_option maxRecDepth 100000 in
theorem swap_1 (a b : ByteArray) (xf xk xt : Int) (w : World) (ha : a.size ≤ 1000) (hb : b.size ≤ 1000) (ht : xt ≤ 9223372036854775807) (hf : xf % 6 = 1) :
    Calls Try.prog 7 #[.string a, .string b, .agg #[.int .i64 xf, .int .i64 xk, .int .i64 xt]] w fun e w' => e = .returned (.bool true) ∧ Below w.heap.size w w' := by
  have hk0 := Kp.alloc w (.cells #[.int .i64 xf, .int .i64 xk, .int .i64 xt] 53)
  have bx0 := CBox.new w #[.int .i64 xf, .int .i64 xk, .int .i64 xt] 53
  have hbx : ∀ W, Kp [] (w.alloc (.cells #[.int .i64 xf, .int .i64 xk, .int .i64 xt] 53)) W → W.cell? ⟨w.heap.size, 0, none⟩ = some (.int .i64 xf) ∧ W.cell? ⟨w.heap.size, 1, none⟩ = some (.int .i64 xk) ∧ W.cell? ⟨w.heap.size, 2, none⟩ = some (.int .i64 xt) := fun W hk => by
    have b := bx0.kp hk (by simp)
    exact ⟨b.cell rfl, b.cell rfl, b.cell rfl⟩
  have am := fun W => among_any xf 6 W (by decide) (by decide)
  rw [hf] at am
  have wk := fun W => works_any W
  generalize hW0 : w.alloc (.cells #[.int .i64 xf, .int .i64 xk, .int .i64 xt] 53) = W0 at *
  have s1 : ∀ W p, OwnD W0 W p Dk.new → Calls Try.prog 14 #[.pointer (some ⟨p, 0, none⟩), .string ⟨#[97]⟩, .int .i64 0, .string a] W fun e w' => e = .returned (.int .i64 0) ∧ OwnD W0 w' p ⟨[], fA a, [.wr ⟨#[97]⟩ 0 a], -1, false⟩ := fun W p h => by
    have := h.write ⟨#[97]⟩ 0 a (by decide) (by decide) (by decide) (by omega)
    rw [(sw1 a ha).1, (sw1 a ha).2] at this; exact this
  have s2 : ∀ W p, OwnD W0 W p ⟨[], fA a, [.wr ⟨#[97]⟩ 0 a], -1, false⟩ → Calls Try.prog 19 #[.pointer (some ⟨p, 0, none⟩)] W fun e w' => e = .returned (.int .i64 0) ∧ OwnD W0 w' p ⟨fA a, fA a, [], -1, false⟩ := fun W p h => h.sync
  have s3 : ∀ W p, OwnD W0 W p ⟨fA a, fA a, [], -1, false⟩ → Calls Try.prog 26 #[.pointer (some ⟨p, 0, none⟩), .int .i64 1] W fun e w' => e = .returned (.int .i64 0) ∧ OwnD W0 w' p ⟨fA a, fA a, [], 1, false⟩ := fun W p h => h.step fun F hd => fuse_any p _ F 1 W hd (by decide)
  have s4 : ∀ W p, OwnD W0 W p (Dk.mk (fA a) (fA a) [] 1 false) → Calls Try.prog 14 #[.pointer (some ⟨p, 0, none⟩), .string ⟨#[98]⟩, .int .i64 0, .string b] W fun e w' => e = .returned (.int .i64 0) ∧ OwnD W0 w' p (Dk.mk (fA a) (fAB a b) [.wr ⟨#[98]⟩ 0 b] 0 false) := fun W p h => by
    have := h.write ⟨#[98]⟩ 0 b (by decide) (by decide) (by decide) (by omega)
    rw [(sw4 a b ha hb 1).1, (sw4 a b ha hb 1).2] at this
    have e2 : (Dk.mk (fA a) (fA a) [] 1 false).doD (.wr ⟨#[98]⟩ 0 b) = ⟨fA a, made (fA a) (.wr ⟨#[98]⟩ 0 b), [.wr ⟨#[98]⟩ 0 b], 0, false⟩ := rfl
    rw [e2, mk2] at this
    exact this
  have s5 : ∀ W p, OwnD W0 W p (Dk.mk (fA a) (fAB a b) [.wr ⟨#[98]⟩ 0 b] 0 false) → Calls Try.prog 19 #[.pointer (some ⟨p, 0, none⟩)] W fun e w' => e = .returned (.int .i64 31) ∧ OwnD W0 w' p (Dk.mk (fA a) (fAB a b) [.wr ⟨#[98]⟩ 0 b] 0 true) := fun W p h => h.sync
  have sc : ∀ W p, OwnD W0 W p (Dk.mk (fA a) (fAB a b) [.wr ⟨#[98]⟩ 0 b] 0 true) → Calls Try.prog 20 #[.pointer (some ⟨p, 0, none⟩), .int .i64 xk, .int .i64 xt] W fun e w' => e = .returned (.tuple #[]) ∧ OwnD W0 w' p ((Dk.mk (fA a) (fAB a b) [.wr ⟨#[98]⟩ 0 b] 0 true).crash xk xt) := fun W p h => h.crash xk xt ht
  obtain ⟨q1, q2⟩ := (sw_f1 a b xk xt)
  generalize (Dk.mk (fA a) (fAB a b) [.wr ⟨#[98]⟩ 0 b] 0 true).crash xk xt = DC at *
  have sr : ∀ W p, OwnD W0 W p DC → Calls Try.prog 21 #[.pointer (some ⟨p, 0, none⟩), .string ⟨#[97]⟩] W fun e w' => e = .returned (.tuple #[.string (DC.rdS ⟨#[97]⟩), .int .i64 0]) ∧ w' = W := fun W p h => by
    have := h.read ⟨#[97]⟩ (by decide)
    rw [q1] at this; exact this
  generalize DC.rdS ⟨#[97]⟩ = rs at *
  have S1 := hide s1
  have S2 := hide s2
  have S3 := hide s3
  have S4 := hide s4
  have S5 := hide s5
  have SC := hide sc
  have SR := hide sr
  have AM := hide am
  have WK := hide wk
  have HBX := hide hbx
  have HK0 := hide hk0
  have HQ := hide q2
  clear q2
  have la : (a.size : Int) ≤ 1000 := by omega
  have lb : (b.size : Int) ≤ 1000 := by omega
  clear s1 s2 s3 s4 s5 sc sr am wk hbx q1 hf hk0 bx0
  go_enter Try.func7, Try.ntmps7
  go_wp2_with fail
  refine (new_own W0).mono ?_
  rintro e w1 ⟨p, rfl, o1⟩
  go_wp2_with fail
  refine (unhide WK w1).mono ?_
  rintro e w2 ⟨rfl, hk2⟩
  have o2 := o1.kp hk2
  clear o1
  go_wp2_with fail
  refine (unhide S1 w2 p o2).mono ?_
  rintro e w3 ⟨rfl, o3⟩
  go_wp2_with fail
  refine (unhide S2 w3 p o3).mono ?_
  rintro e w4 ⟨rfl, o4⟩
  have c4 := unhide HBX w4 o4.bel
  go_wp2_with fail
  refine (unhide AM w4).mono ?_
  rintro e w4b ⟨rfl, rfl⟩
  go_wp2_with fail
  refine (unhide S3 w4b p o4).mono ?_
  rintro e w5 ⟨rfl, o5⟩
  clear c4
  go_wp2_with fail
  refine (unhide S4 w5 p o5).mono ?_
  rintro e w6 ⟨rfl, o6⟩
  go_wp2_with fail
  refine (unhide S5 w6 p o6).mono ?_
  rintro e w7 ⟨rfl, o7⟩
  have cc := unhide HBX w7 o7.bel
  go_wp2_with fail
  refine (unhide SC w7 p o7).mono ?_
  rintro e w9 ⟨rfl, o9⟩
  clear cc
  go_wp2_with fail
  refine (unhide SR w9 p o9).mono ?_
  rintro e w10 ⟨rfl, rfl⟩
  have hfin : Below w.heap.size w w10 := ((unhide HK0).trans o9.bel (by simp)).below (Nat.le_refl _) (by simp)
  have q2 := unhide HQ
  subst q2
  go_wp2
  all_goals go_ret
  all_goals exact ⟨rfl, hfin⟩
set_option maxHeartbeats 4000000 in
set_option maxRecDepth 100000 in
theorem swap_2 (a b : ByteArray) (xf xk xt : Int) (w : World) (ha : a.size ≤ 1000) (hb : b.size ≤ 1000) (ht : xt ≤ 9223372036854775807) (hf : xf % 6 = 2) :
    Calls Try.prog 7 #[.string a, .string b, .agg #[.int .i64 xf, .int .i64 xk, .int .i64 xt]] w fun e w' => e = .returned (.bool true) ∧ Below w.heap.size w w' := by
  have hk0 := Kp.alloc w (.cells #[.int .i64 xf, .int .i64 xk, .int .i64 xt] 53)
  have bx0 := CBox.new w #[.int .i64 xf, .int .i64 xk, .int .i64 xt] 53
  have hbx : ∀ W, Kp [] (w.alloc (.cells #[.int .i64 xf, .int .i64 xk, .int .i64 xt] 53)) W → W.cell? ⟨w.heap.size, 0, none⟩ = some (.int .i64 xf) ∧ W.cell? ⟨w.heap.size, 1, none⟩ = some (.int .i64 xk) ∧ W.cell? ⟨w.heap.size, 2, none⟩ = some (.int .i64 xt) := fun W hk => by
    have b := bx0.kp hk (by simp)
    exact ⟨b.cell rfl, b.cell rfl, b.cell rfl⟩
  have am := fun W => among_any xf 6 W (by decide) (by decide)
  rw [hf] at am
  have wk := fun W => works_any W
  generalize hW0 : w.alloc (.cells #[.int .i64 xf, .int .i64 xk, .int .i64 xt] 53) = W0 at *
  have s1 : ∀ W p, OwnD W0 W p Dk.new → Calls Try.prog 14 #[.pointer (some ⟨p, 0, none⟩), .string ⟨#[97]⟩, .int .i64 0, .string a] W fun e w' => e = .returned (.int .i64 0) ∧ OwnD W0 w' p ⟨[], fA a, [.wr ⟨#[97]⟩ 0 a], -1, false⟩ := fun W p h => by
    have := h.write ⟨#[97]⟩ 0 a (by decide) (by decide) (by decide) (by omega)
    rw [(sw1 a ha).1, (sw1 a ha).2] at this; exact this
  have s2 : ∀ W p, OwnD W0 W p ⟨[], fA a, [.wr ⟨#[97]⟩ 0 a], -1, false⟩ → Calls Try.prog 19 #[.pointer (some ⟨p, 0, none⟩)] W fun e w' => e = .returned (.int .i64 0) ∧ OwnD W0 w' p ⟨fA a, fA a, [], -1, false⟩ := fun W p h => h.sync
  have s3 : ∀ W p, OwnD W0 W p ⟨fA a, fA a, [], -1, false⟩ → Calls Try.prog 26 #[.pointer (some ⟨p, 0, none⟩), .int .i64 2] W fun e w' => e = .returned (.int .i64 0) ∧ OwnD W0 w' p ⟨fA a, fA a, [], 2, false⟩ := fun W p h => h.step fun F hd => fuse_any p _ F 2 W hd (by decide)
  have s4 : ∀ W p, OwnD W0 W p (Dk.mk (fA a) (fA a) [] 2 false) → Calls Try.prog 14 #[.pointer (some ⟨p, 0, none⟩), .string ⟨#[98]⟩, .int .i64 0, .string b] W fun e w' => e = .returned (.int .i64 0) ∧ OwnD W0 w' p (Dk.mk (fA a) (fAB a b) [.wr ⟨#[98]⟩ 0 b] 1 false) := fun W p h => by
    have := h.write ⟨#[98]⟩ 0 b (by decide) (by decide) (by decide) (by omega)
    rw [(sw4 a b ha hb 2).1, (sw4 a b ha hb 2).2] at this
    have e2 : (Dk.mk (fA a) (fA a) [] 2 false).doD (.wr ⟨#[98]⟩ 0 b) = ⟨fA a, made (fA a) (.wr ⟨#[98]⟩ 0 b), [.wr ⟨#[98]⟩ 0 b], 1, false⟩ := rfl
    rw [e2, mk2] at this
    exact this
  have s5 : ∀ W p, OwnD W0 W p (Dk.mk (fA a) (fAB a b) [.wr ⟨#[98]⟩ 0 b] 1 false) → Calls Try.prog 19 #[.pointer (some ⟨p, 0, none⟩)] W fun e w' => e = .returned (.int .i64 0) ∧ OwnD W0 w' p (Dk.mk (fAB a b) (fAB a b) [] 0 false) := fun W p h => h.sync
  have s6 : ∀ W p, OwnD W0 W p (Dk.mk (fAB a b) (fAB a b) [] 0 false) → Calls Try.prog 18 #[.pointer (some ⟨p, 0, none⟩), .string ⟨#[98]⟩, .string ⟨#[97]⟩] W fun e w' => e = .returned (.int .i64 31) ∧ OwnD W0 w' p (Dk.mk (fAB a b) (fAB a b) [] 0 true) := fun W p h => h.rename ⟨#[98]⟩ ⟨#[97]⟩ (by decide) (by decide)
  have sc : ∀ W p, OwnD W0 W p (Dk.mk (fAB a b) (fAB a b) [] 0 true) → Calls Try.prog 20 #[.pointer (some ⟨p, 0, none⟩), .int .i64 xk, .int .i64 xt] W fun e w' => e = .returned (.tuple #[]) ∧ OwnD W0 w' p ((Dk.mk (fAB a b) (fAB a b) [] 0 true).crash xk xt) := fun W p h => h.crash xk xt ht
  have hcr : (Dk.mk (fAB a b) (fAB a b) [] 0 true).crash xk xt = ⟨(fAB a b), (fAB a b), [], -1, false⟩ := rd_oldF _ _ _ _ _ _
  have q0 := (rd_A a (fAB a b) _ rfl)
  rw [← hcr] at q0
  obtain ⟨q1, q2⟩ := q0
  generalize (Dk.mk (fAB a b) (fAB a b) [] 0 true).crash xk xt = DC at *
  have sr : ∀ W p, OwnD W0 W p DC → Calls Try.prog 21 #[.pointer (some ⟨p, 0, none⟩), .string ⟨#[97]⟩] W fun e w' => e = .returned (.tuple #[.string (DC.rdS ⟨#[97]⟩), .int .i64 0]) ∧ w' = W := fun W p h => by
    have := h.read ⟨#[97]⟩ (by decide)
    rw [q1] at this; exact this
  generalize DC.rdS ⟨#[97]⟩ = rs at *
  have S1 := hide s1
  have S2 := hide s2
  have S3 := hide s3
  have S4 := hide s4
  have S5 := hide s5
  have S6 := hide s6
  have SC := hide sc
  have SR := hide sr
  have AM := hide am
  have WK := hide wk
  have HBX := hide hbx
  have HK0 := hide hk0
  have HQ := hide q2
  clear q2
  have la : (a.size : Int) ≤ 1000 := by omega
  have lb : (b.size : Int) ≤ 1000 := by omega
  clear s1 s2 s3 s4 s5 s6 sc sr am wk hbx q1 hf hk0 bx0 hcr
  go_enter Try.func7, Try.ntmps7
  go_wp2_with fail
  refine (new_own W0).mono ?_
  rintro e w1 ⟨p, rfl, o1⟩
  go_wp2_with fail
  refine (unhide WK w1).mono ?_
  rintro e w2 ⟨rfl, hk2⟩
  have o2 := o1.kp hk2
  clear o1
  go_wp2_with fail
  refine (unhide S1 w2 p o2).mono ?_
  rintro e w3 ⟨rfl, o3⟩
  go_wp2_with fail
  refine (unhide S2 w3 p o3).mono ?_
  rintro e w4 ⟨rfl, o4⟩
  have c4 := unhide HBX w4 o4.bel
  go_wp2_with fail
  refine (unhide AM w4).mono ?_
  rintro e w4b ⟨rfl, rfl⟩
  go_wp2_with fail
  refine (unhide S3 w4b p o4).mono ?_
  rintro e w5 ⟨rfl, o5⟩
  clear c4
  go_wp2_with fail
  refine (unhide S4 w5 p o5).mono ?_
  rintro e w6 ⟨rfl, o6⟩
  go_wp2_with fail
  refine (unhide S5 w6 p o6).mono ?_
  rintro e w7 ⟨rfl, o7⟩
  go_wp2_with fail
  refine (unhide S6 w7 p o7).mono ?_
  rintro e w8 ⟨rfl, o8⟩
  have cc := unhide HBX w8 o8.bel
  go_wp2_with fail
  refine (unhide SC w8 p o8).mono ?_
  rintro e w9 ⟨rfl, o9⟩
  clear cc
  go_wp2_with fail
  refine (unhide SR w9 p o9).mono ?_
  rintro e w10 ⟨rfl, rfl⟩
  have hfin : Below w.heap.size w w10 := ((unhide HK0).trans o9.bel (by simp)).below (Nat.le_refl _) (by simp)
  have q2 := unhide HQ
  subst q2
  go_wp2
  all_goals go_ret
  all_goals exact ⟨rfl, hfin⟩
set_option maxHeartbeats 4000000 in
set_option maxRecDepth 100000 in
theorem swap_3 (a b : ByteArray) (xf xk xt : Int) (w : World) (ha : a.size ≤ 1000) (hb : b.size ≤ 1000) (ht : xt ≤ 9223372036854775807) (hf : xf % 6 = 3) :
    Calls Try.prog 7 #[.string a, .string b, .agg #[.int .i64 xf, .int .i64 xk, .int .i64 xt]] w fun e w' => e = .returned (.bool true) ∧ Below w.heap.size w w' := by
  have hk0 := Kp.alloc w (.cells #[.int .i64 xf, .int .i64 xk, .int .i64 xt] 53)
  have bx0 := CBox.new w #[.int .i64 xf, .int .i64 xk, .int .i64 xt] 53
  have hbx : ∀ W, Kp [] (w.alloc (.cells #[.int .i64 xf, .int .i64 xk, .int .i64 xt] 53)) W → W.cell? ⟨w.heap.size, 0, none⟩ = some (.int .i64 xf) ∧ W.cell? ⟨w.heap.size, 1, none⟩ = some (.int .i64 xk) ∧ W.cell? ⟨w.heap.size, 2, none⟩ = some (.int .i64 xt) := fun W hk => by
    have b := bx0.kp hk (by simp)
    exact ⟨b.cell rfl, b.cell rfl, b.cell rfl⟩
  have am := fun W => among_any xf 6 W (by decide) (by decide)
  rw [hf] at am
  have wk := fun W => works_any W
  generalize hW0 : w.alloc (.cells #[.int .i64 xf, .int .i64 xk, .int .i64 xt] 53) = W0 at *
  have s1 : ∀ W p, OwnD W0 W p Dk.new → Calls Try.prog 14 #[.pointer (some ⟨p, 0, none⟩), .string ⟨#[97]⟩, .int .i64 0, .string a] W fun e w' => e = .returned (.int .i64 0) ∧ OwnD W0 w' p ⟨[], fA a, [.wr ⟨#[97]⟩ 0 a], -1, false⟩ := fun W p h => by
    have := h.write ⟨#[97]⟩ 0 a (by decide) (by decide) (by decide) (by omega)
    rw [(sw1 a ha).1, (sw1 a ha).2] at this; exact this
  have s2 : ∀ W p, OwnD W0 W p ⟨[], fA a, [.wr ⟨#[97]⟩ 0 a], -1, false⟩ → Calls Try.prog 19 #[.pointer (some ⟨p, 0, none⟩)] W fun e w' => e = .returned (.int .i64 0) ∧ OwnD W0 w' p ⟨fA a, fA a, [], -1, false⟩ := fun W p h => h.sync
  have s3 : ∀ W p, OwnD W0 W p ⟨fA a, fA a, [], -1, false⟩ → Calls Try.prog 26 #[.pointer (some ⟨p, 0, none⟩), .int .i64 3] W fun e w' => e = .returned (.int .i64 0) ∧ OwnD W0 w' p ⟨fA a, fA a, [], 3, false⟩ := fun W p h => h.step fun F hd => fuse_any p _ F 3 W hd (by decide)
  have s4 : ∀ W p, OwnD W0 W p (Dk.mk (fA a) (fA a) [] 3 false) → Calls Try.prog 14 #[.pointer (some ⟨p, 0, none⟩), .string ⟨#[98]⟩, .int .i64 0, .string b] W fun e w' => e = .returned (.int .i64 0) ∧ OwnD W0 w' p (Dk.mk (fA a) (fAB a b) [.wr ⟨#[98]⟩ 0 b] 2 false) := fun W p h => by
    have := h.write ⟨#[98]⟩ 0 b (by decide) (by decide) (by decide) (by omega)
    rw [(sw4 a b ha hb 3).1, (sw4 a b ha hb 3).2] at this
    have e2 : (Dk.mk (fA a) (fA a) [] 3 false).doD (.wr ⟨#[98]⟩ 0 b) = ⟨fA a, made (fA a) (.wr ⟨#[98]⟩ 0 b), [.wr ⟨#[98]⟩ 0 b], 2, false⟩ := rfl
    rw [e2, mk2] at this
    exact this
  have s5 : ∀ W p, OwnD W0 W p (Dk.mk (fA a) (fAB a b) [.wr ⟨#[98]⟩ 0 b] 2 false) → Calls Try.prog 19 #[.pointer (some ⟨p, 0, none⟩)] W fun e w' => e = .returned (.int .i64 0) ∧ OwnD W0 w' p (Dk.mk (fAB a b) (fAB a b) [] 1 false) := fun W p h => h.sync
  have s6 : ∀ W p, OwnD W0 W p (Dk.mk (fAB a b) (fAB a b) [] 1 false) → Calls Try.prog 18 #[.pointer (some ⟨p, 0, none⟩), .string ⟨#[98]⟩, .string ⟨#[97]⟩] W fun e w' => e = .returned (.int .i64 0) ∧ OwnD W0 w' p (Dk.mk (fAB a b) (fA b) [.rn ⟨#[98]⟩ ⟨#[97]⟩] 0 false) := fun W p h => h.rename ⟨#[98]⟩ ⟨#[97]⟩ (by decide) (by decide)
  have s7 : ∀ W p, OwnD W0 W p (Dk.mk (fAB a b) (fA b) [.rn ⟨#[98]⟩ ⟨#[97]⟩] 0 false) → Calls Try.prog 19 #[.pointer (some ⟨p, 0, none⟩)] W fun e w' => e = .returned (.int .i64 31) ∧ OwnD W0 w' p (Dk.mk (fAB a b) (fA b) [.rn ⟨#[98]⟩ ⟨#[97]⟩] 0 true) := fun W p h => h.sync
  have sc : ∀ W p, OwnD W0 W p (Dk.mk (fAB a b) (fA b) [.rn ⟨#[98]⟩ ⟨#[97]⟩] 0 true) → Calls Try.prog 20 #[.pointer (some ⟨p, 0, none⟩), .int .i64 xk, .int .i64 xt] W fun e w' => e = .returned (.tuple #[]) ∧ OwnD W0 w' p ((Dk.mk (fAB a b) (fA b) [.rn ⟨#[98]⟩ ⟨#[97]⟩] 0 true).crash xk xt) := fun W p h => h.crash xk xt ht
  obtain ⟨q1, q2⟩ := (sw_f3 a b xk xt)
  generalize (Dk.mk (fAB a b) (fA b) [.rn ⟨#[98]⟩ ⟨#[97]⟩] 0 true).crash xk xt = DC at *
  have sr : ∀ W p, OwnD W0 W p DC → Calls Try.prog 21 #[.pointer (some ⟨p, 0, none⟩), .string ⟨#[97]⟩] W fun e w' => e = .returned (.tuple #[.string (DC.rdS ⟨#[97]⟩), .int .i64 0]) ∧ w' = W := fun W p h => by
    have := h.read ⟨#[97]⟩ (by decide)
    rw [q1] at this; exact this
  generalize DC.rdS ⟨#[97]⟩ = rs at *
  have S1 := hide s1
  have S2 := hide s2
  have S3 := hide s3
  have S4 := hide s4
  have S5 := hide s5
  have S6 := hide s6
  have S7 := hide s7
  have SC := hide sc
  have SR := hide sr
  have AM := hide am
  have WK := hide wk
  have HBX := hide hbx
  have HK0 := hide hk0
  have HQ := hide q2
  clear q2
  have la : (a.size : Int) ≤ 1000 := by omega
  have lb : (b.size : Int) ≤ 1000 := by omega
  clear s1 s2 s3 s4 s5 s6 s7 sc sr am wk hbx q1 hf hk0 bx0
  go_enter Try.func7, Try.ntmps7
  go_wp2_with fail
  refine (new_own W0).mono ?_
  rintro e w1 ⟨p, rfl, o1⟩
  go_wp2_with fail
  refine (unhide WK w1).mono ?_
  rintro e w2 ⟨rfl, hk2⟩
  have o2 := o1.kp hk2
  clear o1
  go_wp2_with fail
  refine (unhide S1 w2 p o2).mono ?_
  rintro e w3 ⟨rfl, o3⟩
  go_wp2_with fail
  refine (unhide S2 w3 p o3).mono ?_
  rintro e w4 ⟨rfl, o4⟩
  have c4 := unhide HBX w4 o4.bel
  go_wp2_with fail
  refine (unhide AM w4).mono ?_
  rintro e w4b ⟨rfl, rfl⟩
  go_wp2_with fail
  refine (unhide S3 w4b p o4).mono ?_
  rintro e w5 ⟨rfl, o5⟩
  clear c4
  go_wp2_with fail
  refine (unhide S4 w5 p o5).mono ?_
  rintro e w6 ⟨rfl, o6⟩
  go_wp2_with fail
  refine (unhide S5 w6 p o6).mono ?_
  rintro e w7 ⟨rfl, o7⟩
  go_wp2_with fail
  refine (unhide S6 w7 p o7).mono ?_
  rintro e w8 ⟨rfl, o8⟩
  go_wp2_with fail
  refine (unhide S7 w8 p o8).mono ?_
  rintro e w9 ⟨rfl, o9⟩
  have cc := unhide HBX w9 o9.bel
  go_wp2_with fail
  refine (unhide SC w9 p o9).mono ?_
  rintro e w9 ⟨rfl, o9⟩
  clear cc
  go_wp2_with fail
  refine (unhide SR w9 p o9).mono ?_
  rintro e w10 ⟨rfl, rfl⟩
  have hfin : Below w.heap.size w w10 := ((unhide HK0).trans o9.bel (by simp)).below (Nat.le_refl _) (by simp)
  rcases unhide HQ with q2 | q2
  · skip
    subst q2
    go_wp2
    all_goals go_ret
    all_goals exact ⟨rfl, hfin⟩
  · subst q2
    go_wp2
    go_ret
    exact ⟨rfl, hfin⟩
set_option maxHeartbeats 4000000 in
set_option maxRecDepth 100000 in
theorem swap_4 (a b : ByteArray) (xf xk xt : Int) (w : World) (ha : a.size ≤ 1000) (hb : b.size ≤ 1000) (ht : xt ≤ 9223372036854775807) (hf : xf % 6 = 4) :
    Calls Try.prog 7 #[.string a, .string b, .agg #[.int .i64 xf, .int .i64 xk, .int .i64 xt]] w fun e w' => e = .returned (.bool true) ∧ Below w.heap.size w w' := by
  have hk0 := Kp.alloc w (.cells #[.int .i64 xf, .int .i64 xk, .int .i64 xt] 53)
  have bx0 := CBox.new w #[.int .i64 xf, .int .i64 xk, .int .i64 xt] 53
  have hbx : ∀ W, Kp [] (w.alloc (.cells #[.int .i64 xf, .int .i64 xk, .int .i64 xt] 53)) W → W.cell? ⟨w.heap.size, 0, none⟩ = some (.int .i64 xf) ∧ W.cell? ⟨w.heap.size, 1, none⟩ = some (.int .i64 xk) ∧ W.cell? ⟨w.heap.size, 2, none⟩ = some (.int .i64 xt) := fun W hk => by
    have b := bx0.kp hk (by simp)
    exact ⟨b.cell rfl, b.cell rfl, b.cell rfl⟩
  have am := fun W => among_any xf 6 W (by decide) (by decide)
  rw [hf] at am
  have wk := fun W => works_any W
  generalize hW0 : w.alloc (.cells #[.int .i64 xf, .int .i64 xk, .int .i64 xt] 53) = W0 at *
  have s1 : ∀ W p, OwnD W0 W p Dk.new → Calls Try.prog 14 #[.pointer (some ⟨p, 0, none⟩), .string ⟨#[97]⟩, .int .i64 0, .string a] W fun e w' => e = .returned (.int .i64 0) ∧ OwnD W0 w' p ⟨[], fA a, [.wr ⟨#[97]⟩ 0 a], -1, false⟩ := fun W p h => by
    have := h.write ⟨#[97]⟩ 0 a (by decide) (by decide) (by decide) (by omega)
    rw [(sw1 a ha).1, (sw1 a ha).2] at this; exact this
  have s2 : ∀ W p, OwnD W0 W p ⟨[], fA a, [.wr ⟨#[97]⟩ 0 a], -1, false⟩ → Calls Try.prog 19 #[.pointer (some ⟨p, 0, none⟩)] W fun e w' => e = .returned (.int .i64 0) ∧ OwnD W0 w' p ⟨fA a, fA a, [], -1, false⟩ := fun W p h => h.sync
  have s3 : ∀ W p, OwnD W0 W p ⟨fA a, fA a, [], -1, false⟩ → Calls Try.prog 26 #[.pointer (some ⟨p, 0, none⟩), .int .i64 4] W fun e w' => e = .returned (.int .i64 0) ∧ OwnD W0 w' p ⟨fA a, fA a, [], 4, false⟩ := fun W p h => h.step fun F hd => fuse_any p _ F 4 W hd (by decide)
  have s4 : ∀ W p, OwnD W0 W p (Dk.mk (fA a) (fA a) [] 4 false) → Calls Try.prog 14 #[.pointer (some ⟨p, 0, none⟩), .string ⟨#[98]⟩, .int .i64 0, .string b] W fun e w' => e = .returned (.int .i64 0) ∧ OwnD W0 w' p (Dk.mk (fA a) (fAB a b) [.wr ⟨#[98]⟩ 0 b] 3 false) := fun W p h => by
    have := h.write ⟨#[98]⟩ 0 b (by decide) (by decide) (by decide) (by omega)
    rw [(sw4 a b ha hb 4).1, (sw4 a b ha hb 4).2] at this
    have e2 : (Dk.mk (fA a) (fA a) [] 4 false).doD (.wr ⟨#[98]⟩ 0 b) = ⟨fA a, made (fA a) (.wr ⟨#[98]⟩ 0 b), [.wr ⟨#[98]⟩ 0 b], 3, false⟩ := rfl
    rw [e2, mk2] at this
    exact this
  have s5 : ∀ W p, OwnD W0 W p (Dk.mk (fA a) (fAB a b) [.wr ⟨#[98]⟩ 0 b] 3 false) → Calls Try.prog 19 #[.pointer (some ⟨p, 0, none⟩)] W fun e w' => e = .returned (.int .i64 0) ∧ OwnD W0 w' p (Dk.mk (fAB a b) (fAB a b) [] 2 false) := fun W p h => h.sync
  have s6 : ∀ W p, OwnD W0 W p (Dk.mk (fAB a b) (fAB a b) [] 2 false) → Calls Try.prog 18 #[.pointer (some ⟨p, 0, none⟩), .string ⟨#[98]⟩, .string ⟨#[97]⟩] W fun e w' => e = .returned (.int .i64 0) ∧ OwnD W0 w' p (Dk.mk (fAB a b) (fA b) [.rn ⟨#[98]⟩ ⟨#[97]⟩] 1 false) := fun W p h => h.rename ⟨#[98]⟩ ⟨#[97]⟩ (by decide) (by decide)
  have s7 : ∀ W p, OwnD W0 W p (Dk.mk (fAB a b) (fA b) [.rn ⟨#[98]⟩ ⟨#[97]⟩] 1 false) → Calls Try.prog 19 #[.pointer (some ⟨p, 0, none⟩)] W fun e w' => e = .returned (.int .i64 0) ∧ OwnD W0 w' p (Dk.mk (fA b) (fA b) [] 0 false) := fun W p h => h.sync
  have sc : ∀ W p, OwnD W0 W p (Dk.mk (fA b) (fA b) [] 0 false) → Calls Try.prog 20 #[.pointer (some ⟨p, 0, none⟩), .int .i64 xk, .int .i64 xt] W fun e w' => e = .returned (.tuple #[]) ∧ OwnD W0 w' p ((Dk.mk (fA b) (fA b) [] 0 false).crash xk xt) := fun W p h => h.crash xk xt ht
  have hcr : (Dk.mk (fA b) (fA b) [] 0 false).crash xk xt = ⟨(fA b), (fA b), [], -1, false⟩ := rd_oldF _ _ _ _ _ _
  have q0 := (rd_A b (fA b) _ rfl)
  rw [← hcr] at q0
  obtain ⟨q1, q2⟩ := q0
  generalize (Dk.mk (fA b) (fA b) [] 0 false).crash xk xt = DC at *
  have sr : ∀ W p, OwnD W0 W p DC → Calls Try.prog 21 #[.pointer (some ⟨p, 0, none⟩), .string ⟨#[97]⟩] W fun e w' => e = .returned (.tuple #[.string (DC.rdS ⟨#[97]⟩), .int .i64 0]) ∧ w' = W := fun W p h => by
    have := h.read ⟨#[97]⟩ (by decide)
    rw [q1] at this; exact this
  generalize DC.rdS ⟨#[97]⟩ = rs at *
  have S1 := hide s1
  have S2 := hide s2
  have S3 := hide s3
  have S4 := hide s4
  have S5 := hide s5
  have S6 := hide s6
  have S7 := hide s7
  have SC := hide sc
  have SR := hide sr
  have AM := hide am
  have WK := hide wk
  have HBX := hide hbx
  have HK0 := hide hk0
  have HQ := hide q2
  clear q2
  have la : (a.size : Int) ≤ 1000 := by omega
  have lb : (b.size : Int) ≤ 1000 := by omega
  clear s1 s2 s3 s4 s5 s6 s7 sc sr am wk hbx q1 hf hk0 bx0 hcr
  go_enter Try.func7, Try.ntmps7
  go_wp2_with fail
  refine (new_own W0).mono ?_
  rintro e w1 ⟨p, rfl, o1⟩
  go_wp2_with fail
  refine (unhide WK w1).mono ?_
  rintro e w2 ⟨rfl, hk2⟩
  have o2 := o1.kp hk2
  clear o1
  go_wp2_with fail
  refine (unhide S1 w2 p o2).mono ?_
  rintro e w3 ⟨rfl, o3⟩
  go_wp2_with fail
  refine (unhide S2 w3 p o3).mono ?_
  rintro e w4 ⟨rfl, o4⟩
  have c4 := unhide HBX w4 o4.bel
  go_wp2_with fail
  refine (unhide AM w4).mono ?_
  rintro e w4b ⟨rfl, rfl⟩
  go_wp2_with fail
  refine (unhide S3 w4b p o4).mono ?_
  rintro e w5 ⟨rfl, o5⟩
  clear c4
  go_wp2_with fail
  refine (unhide S4 w5 p o5).mono ?_
  rintro e w6 ⟨rfl, o6⟩
  go_wp2_with fail
  refine (unhide S5 w6 p o6).mono ?_
  rintro e w7 ⟨rfl, o7⟩
  go_wp2_with fail
  refine (unhide S6 w7 p o7).mono ?_
  rintro e w8 ⟨rfl, o8⟩
  go_wp2_with fail
  refine (unhide S7 w8 p o8).mono ?_
  rintro e w9 ⟨rfl, o9⟩
  have cc := unhide HBX w9 o9.bel
  go_wp2_with fail
  refine (unhide SC w9 p o9).mono ?_
  rintro e w9 ⟨rfl, o9⟩
  clear cc
  go_wp2_with fail
  refine (unhide SR w9 p o9).mono ?_
  rintro e w10 ⟨rfl, rfl⟩
  have hfin : Below w.heap.size w w10 := ((unhide HK0).trans o9.bel (by simp)).below (Nat.le_refl _) (by simp)
  have q2 := unhide HQ
  subst q2
  go_wp2
  go_ret
  exact ⟨rfl, hfin⟩
set_option maxHeartbeats 4000000 in
set_option maxRecDepth 100000 in
theorem swap_5 (a b : ByteArray) (xf xk xt : Int) (w : World) (ha : a.size ≤ 1000) (hb : b.size ≤ 1000) (ht : xt ≤ 9223372036854775807) (hf : xf % 6 = 5) :
    Calls Try.prog 7 #[.string a, .string b, .agg #[.int .i64 xf, .int .i64 xk, .int .i64 xt]] w fun e w' => e = .returned (.bool true) ∧ Below w.heap.size w w' := by
  have hk0 := Kp.alloc w (.cells #[.int .i64 xf, .int .i64 xk, .int .i64 xt] 53)
  have bx0 := CBox.new w #[.int .i64 xf, .int .i64 xk, .int .i64 xt] 53
  have hbx : ∀ W, Kp [] (w.alloc (.cells #[.int .i64 xf, .int .i64 xk, .int .i64 xt] 53)) W → W.cell? ⟨w.heap.size, 0, none⟩ = some (.int .i64 xf) ∧ W.cell? ⟨w.heap.size, 1, none⟩ = some (.int .i64 xk) ∧ W.cell? ⟨w.heap.size, 2, none⟩ = some (.int .i64 xt) := fun W hk => by
    have b := bx0.kp hk (by simp)
    exact ⟨b.cell rfl, b.cell rfl, b.cell rfl⟩
  have am := fun W => among_any xf 6 W (by decide) (by decide)
  rw [hf] at am
  have wk := fun W => works_any W
  generalize hW0 : w.alloc (.cells #[.int .i64 xf, .int .i64 xk, .int .i64 xt] 53) = W0 at *
  have s1 : ∀ W p, OwnD W0 W p Dk.new → Calls Try.prog 14 #[.pointer (some ⟨p, 0, none⟩), .string ⟨#[97]⟩, .int .i64 0, .string a] W fun e w' => e = .returned (.int .i64 0) ∧ OwnD W0 w' p ⟨[], fA a, [.wr ⟨#[97]⟩ 0 a], -1, false⟩ := fun W p h => by
    have := h.write ⟨#[97]⟩ 0 a (by decide) (by decide) (by decide) (by omega)
    rw [(sw1 a ha).1, (sw1 a ha).2] at this; exact this
  have s2 : ∀ W p, OwnD W0 W p ⟨[], fA a, [.wr ⟨#[97]⟩ 0 a], -1, false⟩ → Calls Try.prog 19 #[.pointer (some ⟨p, 0, none⟩)] W fun e w' => e = .returned (.int .i64 0) ∧ OwnD W0 w' p ⟨fA a, fA a, [], -1, false⟩ := fun W p h => h.sync
  have s3 : ∀ W p, OwnD W0 W p ⟨fA a, fA a, [], -1, false⟩ → Calls Try.prog 26 #[.pointer (some ⟨p, 0, none⟩), .int .i64 5] W fun e w' => e = .returned (.int .i64 0) ∧ OwnD W0 w' p ⟨fA a, fA a, [], 5, false⟩ := fun W p h => h.step fun F hd => fuse_any p _ F 5 W hd (by decide)
  have s4 : ∀ W p, OwnD W0 W p (Dk.mk (fA a) (fA a) [] 5 false) → Calls Try.prog 14 #[.pointer (some ⟨p, 0, none⟩), .string ⟨#[98]⟩, .int .i64 0, .string b] W fun e w' => e = .returned (.int .i64 0) ∧ OwnD W0 w' p (Dk.mk (fA a) (fAB a b) [.wr ⟨#[98]⟩ 0 b] 4 false) := fun W p h => by
    have := h.write ⟨#[98]⟩ 0 b (by decide) (by decide) (by decide) (by omega)
    rw [(sw4 a b ha hb 5).1, (sw4 a b ha hb 5).2] at this
    have e2 : (Dk.mk (fA a) (fA a) [] 5 false).doD (.wr ⟨#[98]⟩ 0 b) = ⟨fA a, made (fA a) (.wr ⟨#[98]⟩ 0 b), [.wr ⟨#[98]⟩ 0 b], 4, false⟩ := rfl
    rw [e2, mk2] at this
    exact this
  have s5 : ∀ W p, OwnD W0 W p (Dk.mk (fA a) (fAB a b) [.wr ⟨#[98]⟩ 0 b] 4 false) → Calls Try.prog 19 #[.pointer (some ⟨p, 0, none⟩)] W fun e w' => e = .returned (.int .i64 0) ∧ OwnD W0 w' p (Dk.mk (fAB a b) (fAB a b) [] 3 false) := fun W p h => h.sync
  have s6 : ∀ W p, OwnD W0 W p (Dk.mk (fAB a b) (fAB a b) [] 3 false) → Calls Try.prog 18 #[.pointer (some ⟨p, 0, none⟩), .string ⟨#[98]⟩, .string ⟨#[97]⟩] W fun e w' => e = .returned (.int .i64 0) ∧ OwnD W0 w' p (Dk.mk (fAB a b) (fA b) [.rn ⟨#[98]⟩ ⟨#[97]⟩] 2 false) := fun W p h => h.rename ⟨#[98]⟩ ⟨#[97]⟩ (by decide) (by decide)
  have s7 : ∀ W p, OwnD W0 W p (Dk.mk (fAB a b) (fA b) [.rn ⟨#[98]⟩ ⟨#[97]⟩] 2 false) → Calls Try.prog 19 #[.pointer (some ⟨p, 0, none⟩)] W fun e w' => e = .returned (.int .i64 0) ∧ OwnD W0 w' p (Dk.mk (fA b) (fA b) [] 1 false) := fun W p h => h.sync
  have sc : ∀ W p, OwnD W0 W p (Dk.mk (fA b) (fA b) [] 1 false) → Calls Try.prog 20 #[.pointer (some ⟨p, 0, none⟩), .int .i64 xk, .int .i64 xt] W fun e w' => e = .returned (.tuple #[]) ∧ OwnD W0 w' p ((Dk.mk (fA b) (fA b) [] 1 false).crash xk xt) := fun W p h => h.crash xk xt ht
  have hcr : (Dk.mk (fA b) (fA b) [] 1 false).crash xk xt = ⟨(fA b), (fA b), [], -1, false⟩ := rd_oldF _ _ _ _ _ _
  have q0 := (rd_A b (fA b) _ rfl)
  rw [← hcr] at q0
  obtain ⟨q1, q2⟩ := q0
  generalize (Dk.mk (fA b) (fA b) [] 1 false).crash xk xt = DC at *
  have sr : ∀ W p, OwnD W0 W p DC → Calls Try.prog 21 #[.pointer (some ⟨p, 0, none⟩), .string ⟨#[97]⟩] W fun e w' => e = .returned (.tuple #[.string (DC.rdS ⟨#[97]⟩), .int .i64 0]) ∧ w' = W := fun W p h => by
    have := h.read ⟨#[97]⟩ (by decide)
    rw [q1] at this; exact this
  generalize DC.rdS ⟨#[97]⟩ = rs at *
  have S1 := hide s1
  have S2 := hide s2
  have S3 := hide s3
  have S4 := hide s4
  have S5 := hide s5
  have S6 := hide s6
  have S7 := hide s7
  have SC := hide sc
  have SR := hide sr
  have AM := hide am
  have WK := hide wk
  have HBX := hide hbx
  have HK0 := hide hk0
  have HQ := hide q2
  clear q2
  have la : (a.size : Int) ≤ 1000 := by omega
  have lb : (b.size : Int) ≤ 1000 := by omega
  clear s1 s2 s3 s4 s5 s6 s7 sc sr am wk hbx q1 hf hk0 bx0 hcr
  go_enter Try.func7, Try.ntmps7
  go_wp2_with fail
  refine (new_own W0).mono ?_
  rintro e w1 ⟨p, rfl, o1⟩
  go_wp2_with fail
  refine (unhide WK w1).mono ?_
  rintro e w2 ⟨rfl, hk2⟩
  have o2 := o1.kp hk2
  clear o1
  go_wp2_with fail
  refine (unhide S1 w2 p o2).mono ?_
  rintro e w3 ⟨rfl, o3⟩
  go_wp2_with fail
  refine (unhide S2 w3 p o3).mono ?_
  rintro e w4 ⟨rfl, o4⟩
  have c4 := unhide HBX w4 o4.bel
  go_wp2_with fail
  refine (unhide AM w4).mono ?_
  rintro e w4b ⟨rfl, rfl⟩
  go_wp2_with fail
  refine (unhide S3 w4b p o4).mono ?_
  rintro e w5 ⟨rfl, o5⟩
  clear c4
  go_wp2_with fail
  refine (unhide S4 w5 p o5).mono ?_
  rintro e w6 ⟨rfl, o6⟩
  go_wp2_with fail
  refine (unhide S5 w6 p o6).mono ?_
  rintro e w7 ⟨rfl, o7⟩
  go_wp2_with fail
  refine (unhide S6 w7 p o7).mono ?_
  rintro e w8 ⟨rfl, o8⟩
  go_wp2_with fail
  refine (unhide S7 w8 p o8).mono ?_
  rintro e w9 ⟨rfl, o9⟩
  have cc := unhide HBX w9 o9.bel
  go_wp2_with fail
  refine (unhide SC w9 p o9).mono ?_
  rintro e w9 ⟨rfl, o9⟩
  clear cc
  go_wp2_with fail
  refine (unhide SR w9 p o9).mono ?_
  rintro e w10 ⟨rfl, rfl⟩
  have hfin : Below w.heap.size w w10 := ((unhide HK0).trans o9.bel (by simp)).below (Nat.le_refl _) (by simp)
  have q2 := unhide HQ
  subst q2
  go_wp2
  go_ret
  exact ⟨rfl, hfin⟩
end Go.Proofs.Ytpbmkbfcnhekoaa
