/-
  The document's answers: the kind of an operation, its sign.
  Names of chapter 2, plainly. Of no program.
  Which parts may be, as the document asks it, plainly. Of no program.
  The document's tokens: digits.
  The document's tokens: letter, digit, blank, word.
-/
import Derived.Test.YtjijhefmbmdbeaaGreatDoorD36
import Derived.Test.YtjijhefmbmdbeaaGreatDoorD03
import Derived.Test.YtjijhefmbmdbeaaGreatDoorD01
import Derived.Test.YtjijhefmbmdbeaaGreatDoorD12
import Derived.Test.YtjijhefmbmdbeaaGreatDoorD05
import Derived.Test.YtjijhefmbmdbeaaGreatDoorD10
namespace Go.Proofs.YtjijhefmbmdbeaaGreatDoor
open Go.RowKit

set_option maxHeartbeats 2000000 in
set_option maxRecDepth 100000 in
theorem rOf_any (op a b : Int) (w : World) : Calls Tryz.prog 111 #[.int .i64 op, .int .i64 a, .int .i64 b] w fun e w' => e = .returned (.int .i64 (opK op a b)) ∧ w' = w := by
  by_cases hop : 4 ≤ op ∧ op ≤ 13
  · rcases (show op = 4 ∨ op = 5 ∨ op = 6 ∨ op = 7 ∨ op = 8 ∨ op = 9 ∨ op = 10 ∨ op = 11 ∨ op = 12 ∨ op = 13 by omega) with rfl | rfl | rfl | rfl | rfl | rfl | rfl | rfl | rfl | rfl
    all_goals
      clear hop
      by_cases a1 : a = 1
      · subst a1
        by_cases b1 : b = 1
        · subst b1
          go_enter Tryz.func111, Tryz.ntmps111
          go_wp2
          go_ret
          exact ⟨rfl, rfl⟩
        · have g : (b == 1) = false := beq_eq_false_iff_ne.2 b1
          have g2 : ((1 : Int) == b) = false := beq_eq_false_iff_ne.2 (fun h => b1 h.symm)
          go_enter Tryz.func111, Tryz.ntmps111
          go_wp2
          go_ret
          exact ⟨ret_int (by unfold opK; simp [b1]; try omega), rfl⟩
      · have ga : (a == 1) = false := beq_eq_false_iff_ne.2 a1
        by_cases a2 : a = 2
        · subst a2
          by_cases b1 : b = 2
          · subst b1
            go_enter Tryz.func111, Tryz.ntmps111
            go_wp2
            go_ret
            exact ⟨rfl, rfl⟩
          · have g : (b == 2) = false := beq_eq_false_iff_ne.2 b1
            have g2 : ((2 : Int) == b) = false := beq_eq_false_iff_ne.2 (fun h => b1 h.symm)
            go_enter Tryz.func111, Tryz.ntmps111
            go_wp2
            go_ret
            exact ⟨ret_int (by unfold opK; simp; try omega), rfl⟩
        · have ga2 : (a == 2) = false := beq_eq_false_iff_ne.2 a2
          by_cases a3 : a = 3
          · subst a3
            by_cases b1 : b = 3
            · subst b1
              go_enter Tryz.func111, Tryz.ntmps111
              go_wp2
              go_ret
              exact ⟨rfl, rfl⟩
            · have g : (b == 3) = false := beq_eq_false_iff_ne.2 b1
              have g2 : ((3 : Int) == b) = false := beq_eq_false_iff_ne.2 (fun h => b1 h.symm)
              go_enter Tryz.func111, Tryz.ntmps111
              go_wp2
              go_ret
              exact ⟨ret_int (by unfold opK; simp [b1]; try omega), rfl⟩
          · have ga3 : (a == 3) = false := beq_eq_false_iff_ne.2 a3
            by_cases b1 : a = b
            · subst b1
              go_enter Tryz.func111, Tryz.ntmps111
              go_wp2
              go_ret
              exact ⟨ret_int (by unfold opK; simp [a1, a2, a3]; try omega), rfl⟩
            · have g : (a == b) = false := beq_eq_false_iff_ne.2 b1
              go_enter Tryz.func111, Tryz.ntmps111
              go_wp2
              go_ret
              exact ⟨ret_int (by unfold opK; simp [a1, a2, a3]; try omega), rfl⟩
  · have g4 : (op == 4) = false := beq_eq_false_iff_ne.2 (by omega)
    have g5 : (op == 5) = false := beq_eq_false_iff_ne.2 (by omega)
    have g6 : (op == 6) = false := beq_eq_false_iff_ne.2 (by omega)
    have g7 : (op == 7) = false := beq_eq_false_iff_ne.2 (by omega)
    have g8 : (op == 8) = false := beq_eq_false_iff_ne.2 (by omega)
    have g9 : (op == 9) = false := beq_eq_false_iff_ne.2 (by omega)
    have g10 : (op == 10) = false := beq_eq_false_iff_ne.2 (by omega)
    have g11 : (op == 11) = false := beq_eq_false_iff_ne.2 (by omega)
    have g12 : (op == 12) = false := beq_eq_false_iff_ne.2 (by omega)
    have g13 : (op == 13) = false := beq_eq_false_iff_ne.2 (by omega)
    have e : opK op a b = 0 := by
      unfold opK
      rw [if_neg (by omega), if_neg (by omega), if_neg (by omega), if_neg (by omega), if_neg (by omega)]
    rw [e]
    clear hop e
    go_enter Tryz.func111, Tryz.ntmps111
    go_wp2
    go_ret
    exact ⟨rfl, rfl⟩
end Go.Proofs.YtjijhefmbmdbeaaGreatDoor
namespace Go.Proofs.YtjijhefmbmdbeaaGreatDoor

def nb (c : UInt8) : Bool := (decide ((97 : Int) ≤ (c.toNat : Int)) && decide ((c.toNat : Int) ≤ 122)) || (decide ((48 : Int) ≤ (c.toNat : Int)) && decide ((c.toNat : Int) ≤ 57))
/-- Is a text a name? -/
def nameB (s : ByteArray) : Bool := decide (1 ≤ s.size) && decide (s.size ≤ 32) && s.data.toList.all nb
end Go.Proofs.YtjijhefmbmdbeaaGreatDoor
namespace Go.Proofs.YtjijhefmbmdbeaaGreatDoor

/-- May a part be? -/
def mayP (p : Pt) : Bool := if p.kd = 1 ∨ p.kd = 2 ∨ p.kd = 3 then decide (lfK p ≠ 0) else decide (4 ≤ p.kd ∧ p.kd ≤ 13) && bareP p
theorem spn_iff {p : UInt8 → Bool} {l : List UInt8} : spn p l = l.length ↔ l.all p = true := by
  constructor
  · intro h
    rw [List.all_eq_true]
    intro x hx
    exact spn_mem (p := p) (l := l) x (by rw [h, List.take_length]; exact hx)
  · intro h
    exact spn_all (List.all_eq_true.1 h)
theorem isTx_wr (s : ByteArray) : wrOk ⟨3, s, 0, 0⟩ = isTx s := by
  cases ht : isTx s with
  | true => exact wr_text s ht
  | false =>
    cases hw : wrOk ⟨3, s, 0, 0⟩ with
    | false => rfl
    | true =>
      exfalso
      have h := (wrOk_iff _).1 hw
      have hl : s.data.toList.length = s.size := rfl
      rw [spell_t, tkR, if_neg (by decide), if_neg (by decide), if_pos (by decide), tkT] at h
      obtain ⟨h1, h2⟩ := h
      have h1 : s.size ≤ 256 := h1
      have hsp : spn isIn s.data.toList ≠ s.size := by
        intro e
        unfold isTx at ht
        rw [decide_eq_true h1, decide_eq_true e] at ht
        cases ht
      have hlt : spn isIn s.data.toList < s.data.toList.length := by
        have := spn_le isIn s.data.toList
        omega
      rw [spn_lt hlt] at h2
      split at h2
      · cases h2
      · split at h2
        · simp only [Option.some.injEq, Prod.mk.injEq] at h2
          have := h2.2
          simp at this
          omega
        · cases h2
theorem nb_aln (c : UInt8) : nb c = isAln c := by
  unfold nb isAln isLet isDig
  rw [Bool.eq_iff_iff]
  simp
  omega
/-- A stage's name, as the document asks it. -/
theorem sg_ask (s : ByteArray) (h0 : 0 < s.size) : isSg s = (nameB s && (decide (97 ≤ s[0].toNat) && freeW s.data.toList)) := by
  have hl : s.data.toList.length = s.size := rfl
  have hh : s.data.toList.head? = some s[0] := by
    cases hs : s.data.toList with
    | nil => rw [hs] at hl; simp at hl; omega
    | cons b r =>
      have : s[0] = s.data.toList[0]'(by rw [hl]; exact h0) := rfl
      rw [this]
      simp [hs]
  have hm : s[0] ∈ s.data.toList := List.mem_of_mem_head? hh
  have ha : (s.data.toList.all nb) = decide (spn isAln s.data.toList = s.size) := by
    rw [Bool.eq_iff_iff, decide_eq_true_eq, ← hl, spn_iff, show nb = isAln from funext nb_aln]
  unfold isSg nameB
  rw [hh, ha]
  dsimp only
  cases hsp : decide (spn isAln s.data.toList = s.size) with
  | false => simp
  | true =>
    have hall := (spn_iff (p := isAln) (l := s.data.toList)).1 (by rw [hl]; exact of_decide_eq_true hsp)
    have h97 : isLet s[0] = decide (97 ≤ s[0].toNat) := by
      have := List.all_eq_true.1 hall s[0] hm
      unfold isAln isLet isDig at this
      unfold isLet
      rw [Bool.eq_iff_iff]
      simp at this ⊢
      omega
    rw [h97, decide_eq_true (show 1 ≤ s.size from h0), decide_eq_true h0]
    cases decide (s.size ≤ 32) <;> cases decide (97 ≤ s[0].toNat) <;> simp
/-- The number's part. -/
theorem may_num (p : Pt) (h : p.kd = 1) : mayP p = (decide (0 ≤ p.n) && (emptyB p.s && (emptyB p.st && decide (p.fl = 0)))) := by
  unfold mayP lfK
  rw [if_pos (Or.inl h), Bool.eq_iff_iff]
  obtain ⟨k, n, s, st, fl⟩ := p
  dsimp only at h ⊢
  subst h
  by_cases h1 : emptyB s = true <;> by_cases h2 : emptyB st = true <;> by_cases h3 : fl = 0 <;> by_cases h4 : 0 ≤ n <;> simp [h1, h2, h3, h4]
theorem may_text (p : Pt) (h : p.kd = 2) : mayP p = (isTx p.s && (decide (p.n = 0) && (emptyB p.st && decide (p.fl = 0)))) := by
  unfold mayP lfK
  rw [if_pos (Or.inr (Or.inl h)), Bool.eq_iff_iff]
  obtain ⟨k, n, s, st, fl⟩ := p
  dsimp only at h ⊢
  subst h
  by_cases h1 : isTx s = true <;> by_cases h2 : emptyB st = true <;> by_cases h3 : fl = 0 <;> by_cases h4 : n = 0 <;> simp [h1, h2, h3, h4]
theorem may_field (p : Pt) (h : p.kd = 3) : mayP p = ((emptyB p.st || isSg p.st) && (decide (0 ≤ p.fl) && (decide (p.fl ≤ 5) && (decide (p.n = 0) && emptyB p.s)))) := by
  unfold mayP lfK fldK
  rw [if_pos (Or.inr (Or.inr h)), Bool.eq_iff_iff]
  obtain ⟨k, n, s, st, fl⟩ := p
  dsimp only at h ⊢
  subst h
  by_cases h1 : emptyB st = true <;> by_cases h2 : isSg st = true <;> by_cases h3 : n = 0 <;> by_cases h4 : emptyB s = true
  all_goals simp [h1, h2, h3, h4]
  all_goals
    by_cases h5 : fl = 4 ∨ fl = 5
    · simp [h5]; omega
    · by_cases h6 : 0 ≤ fl ∧ fl < 4
      · simp [h5, h6]; omega
      · simp [h5, h6]; omega
theorem may_op (p : Pt) (h : p.kd ≠ 1 ∧ p.kd ≠ 2 ∧ p.kd ≠ 3) : mayP p = (decide (1 ≤ p.kd) && (decide (p.kd ≤ 13) && bareP p)) := by
  unfold mayP
  rw [if_neg (by omega), Bool.eq_iff_iff]
  simp
  constructor
  · rintro ⟨⟨a, b⟩, c⟩; exact ⟨by omega, b, c⟩
  · rintro ⟨a, b, c⟩; exact ⟨⟨by omega, b⟩, c⟩
end Go.Proofs.YtjijhefmbmdbeaaGreatDoor
namespace Go.Proofs.YtjijhefmbmdbeaaGreatDoor
open Go.RowKit

theorem one_string (w : World) (c : Nat) : (convert 106 9 (.slice (some ⟨w.heap.size, 0, none⟩) 1 1)).run Tryz.prog (w.alloc (.cells #[.int .u8 (c : Int)] 5)) = .ok (.string (txt [UInt8.ofNat c])) (w.alloc (.cells #[.int .u8 (c : Int)] 5)) := by
  have := run_convert_bytes_arg (P := Tryz.prog) (w.alloc (.cells #[.int .u8 (c : Int)] 5)) 106 5 Tryz.underlying106 Tryz.underlying5 w.heap.size 0 1 1 [(c : Int)] (by simp) (fun i hi => by
    obtain rfl : i = 0 := by simpa using hi
    simp) 9 Tryz.underlying9
  rw [show strOfNums [(c : Int)] = txt [UInt8.ofNat c] by unfold strOfNums txt; simp] at this
  exact this
theorem dec_step (m : Nat) (h : ¬ m < 10) : Lib.decDigits m = Lib.decDigits (m / 10) ++ [UInt8.ofNat (48 + m % 10)] := by rw [Lib.decDigits, dif_neg h]
set_option maxHeartbeats 400000 in
set_option maxRecDepth 100000 in
theorem rDigits_any (N : Nat) (w : World) (hN : N ≤ 9223372036854775807) :
    Calls Tryz.prog 69 #[.int .i64 (N : Int)] w fun e w' => e = .returned (.string (txt (Lib.decDigits N))) ∧ Below w.heap.size w w' := by
  have HLN : Hid ((Lib.decDigits N).length ≤ 21) := hide (by have := Lib.itoa_length_le (N : Int) (by omega) (by omega); rw [itoa_nat] at this; exact this)
  go_enter Tryz.func69, Tryz.ntmps69
  go_wp2
  go_loopw [0, 3] (fun n s wr => ∃ (m : Nat) (D : List UInt8), n = .int .i64 (m : Int) ∧ s = .string (txt D) ∧ m ≤ 9223372036854775807 ∧ Hid (Lib.decDigits N = Lib.decDigits m ++ D) ∧ Below w.heap.size w wr) (fun n _ _ => (intOf n).toNat)
  case atStart => exact ⟨N, [], rfl, rfl, hN, hide (by simp), Below.refl _ _⟩
  case round =>
    obtain ⟨m, D, rfl, rfl, hm, HD, hbe⟩ := hrel
    have hDl : D.length ≤ 21 := by have := congrArg List.length (unhide HD); have := unhide HLN; simp at *; omega
    have hr : (m : Int) % 10 = ((m % 10 : Nat) : Int) := by omega
    have hq : (m : Int) / 10 = ((m / 10 : Nat) : Int) := by omega
    have hr10 : m % 10 < 10 := by omega
    have hq10 : m / 10 ≤ m := by omega
    have OS := one_string wr (48 + m % 10)
    rw [show ((48 + m % 10 : Nat) : Int) = 48 + ((m % 10 : Nat) : Int) by omega] at OS
    have b1 : (9223372036854775807 < (txt [UInt8.ofNat (48 + m % 10)]).size + (txt D).size) = False := eq_false (by rw [txt_size, txt_size]; simp; omega)
    have HB : Hid (Below w.heap.size w (wr.alloc (.cells #[.int .u8 (48 + ((m % 10 : Nat) : Int))] 5))) := hide (hbe.alloc hbe.size _)
    have HT : Hid (txt [UInt8.ofNat (48 + m % 10)] ++ txt D = txt (UInt8.ofNat (48 + m % 10) :: D)) := hide (by apply ByteArray.ext; apply Array.ext'; simp [txt])
    by_cases hs : m < 10
    · have HE : Hid (Lib.decDigits N = UInt8.ofNat (48 + m % 10) :: D) := hide (by rw [unhide HD, Lib.decDigits_one hs, Nat.mod_eq_of_lt hs]; rfl)
      have h0 : m / 10 = 0 := by omega
      rw [h0] at hq
      have hq' : (m : Int) / 10 = 0 := hq
      clear hq h0
      generalize UInt8.ofNat (48 + m % 10) = c8 at *
      generalize m % 10 = r at *
      clear hDl hbe
      go_wp2
      go_ret
      exact ⟨by rw [unhide HE, ← unhide HT]; rfl, unhide HB⟩
    · have HE : Hid (Lib.decDigits N = Lib.decDigits (m / 10) ++ (UInt8.ofNat (48 + m % 10) :: D)) := hide (by rw [unhide HD, dec_step m hs]; simp)
      have hqp : 0 < m / 10 := by omega
      have hql : m / 10 < m := by omega
      generalize UInt8.ofNat (48 + m % 10) = c8 at *
      generalize m % 10 = r at *
      generalize m / 10 = q at *
      have g0 : ((q : Int) == 0) = false := by simp; omega
      clear hDl hbe
      go_wp2
      go_roundw
      case rel => exact ⟨q, _, rfl, by rw [unhide HT], by omega, HE, unhide HB⟩
      case measure => simp [intOf]; omega
end Go.Proofs.YtjijhefmbmdbeaaGreatDoor
namespace Go.Proofs.YtjijhefmbmdbeaaGreatDoor
open Go.RowKit

theorem rLetter_any (b : UInt8) (w : World) : Calls Tryz.prog 91 #[.int .u8 (b.toNat : Int)] w fun e w' => e = .returned (.bool (isLet b)) ∧ w' = w := by
  have hb := b.toNat_lt
  have HI : Hid (isLet b = (decide (97 ≤ b.toNat) && decide (b.toNat ≤ 122))) := hide rfl
  generalize isLet b = I at *
  generalize b.toNat = n at *
  have hi := unhide HI
  clear HI
  by_cases h1 : 97 ≤ n
  · by_cases h2 : n ≤ 122
    · rw [decide_eq_true h1, decide_eq_true h2] at hi
      subst hi
      go_enter Tryz.func91, Tryz.ntmps91
      go_wp2
      go_ret
      exact ⟨ret_bool (decide_eq_true (by omega)), rfl⟩
    · rw [decide_eq_true h1, decide_eq_false h2] at hi
      subst hi
      go_enter Tryz.func91, Tryz.ntmps91
      go_wp2
      go_ret
      exact ⟨ret_bool (decide_eq_false (by omega)), rfl⟩
  · rw [decide_eq_false h1, Bool.false_and] at hi
    subst hi
    go_enter Tryz.func91, Tryz.ntmps91
    go_wp2
    go_ret
    exact ⟨rfl, rfl⟩
theorem rDigit_any (b : UInt8) (w : World) : Calls Tryz.prog 93 #[.int .u8 (b.toNat : Int)] w fun e w' => e = .returned (.bool (isDig b)) ∧ w' = w := by
  have hb := b.toNat_lt
  have HI : Hid (isDig b = (decide (48 ≤ b.toNat) && decide (b.toNat ≤ 57))) := hide rfl
  generalize isDig b = I at *
  generalize b.toNat = n at *
  have hi := unhide HI
  clear HI
  by_cases h1 : 48 ≤ n
  · by_cases h2 : n ≤ 57
    · rw [decide_eq_true h1, decide_eq_true h2] at hi
      subst hi
      go_enter Tryz.func93, Tryz.ntmps93
      go_wp2
      go_ret
      exact ⟨ret_bool (decide_eq_true (by omega)), rfl⟩
    · rw [decide_eq_true h1, decide_eq_false h2] at hi
      subst hi
      go_enter Tryz.func93, Tryz.ntmps93
      go_wp2
      go_ret
      exact ⟨ret_bool (decide_eq_false (by omega)), rfl⟩
  · rw [decide_eq_false h1, Bool.false_and] at hi
    subst hi
    go_enter Tryz.func93, Tryz.ntmps93
    go_wp2
    go_ret
    exact ⟨rfl, rfl⟩
theorem drop_byte (s : ByteArray) (at_ k : Nat) (h : k < (s.data.toList.drop at_).length) : ∃ h' : at_ + k < s.size, (s.data.toList.drop at_)[k] = s[at_ + k] := by
  rw [List.length_drop, size_list] at h
  exact ⟨by omega, by rw [List.getElem_drop]; rfl⟩
theorem ext_seg (s : ByteArray) (at_ n : Nat) : s.extract at_ (at_ + n) = txt ((s.data.toList.drop at_).take n) := by
  apply ByteArray.ext
  apply Array.ext'
  rw [ByteArray.data_extract, Array.toList_extract, List.extract_eq_take_drop, Nat.add_sub_cancel_left]
  rfl
theorem word_end (s : ByteArray) (at_ E k : Nat) (he : at_ + k = E) (hk : k = spn isAln (s.data.toList.drop at_)) :
    Ending.returned (.tuple #[.agg #[.int .i64 1, .string (s.extract at_ E), .int .i64 0, .int .i64 (at_ : Int)], .int .i64 (E : Int), .bool (decide ((E : Int) - (at_ : Int) ≤ 32))]) = .returned (.tuple #[.agg #[.int .i64 1, .string (s.extract at_ (at_ + spn isAln (s.data.toList.drop at_))), .int .i64 0, .int .i64 (at_ : Int)], .int .i64 ((at_ + spn isAln (s.data.toList.drop at_) : Nat) : Int), .bool (decide (spn isAln (s.data.toList.drop at_) ≤ 32))]) := by
  rw [← hk, he, show decide ((E : Int) - (at_ : Int) ≤ 32) = decide (k ≤ 32) from decide_eq_decide.2 (by omega)]
set_option maxHeartbeats 1000000 in
set_option maxRecDepth 100000 in
theorem rWord_any (s : ByteArray) (at_ : Nat) (w : World) (hat : at_ ≤ s.size) (hs : s.size ≤ 140737488351232) :
    Calls Tryz.prog 92 #[.string s, .int .i64 (at_ : Int)] w fun e w' => e = .returned (.tuple #[.agg #[.int .i64 1, .string (s.extract at_ (at_ + spn isAln (s.data.toList.drop at_))), .int .i64 0, .int .i64 (at_ : Int)], .int .i64 ((at_ + spn isAln (s.data.toList.drop at_) : Nat) : Int), .bool (decide (spn isAln (s.data.toList.drop at_) ≤ 32))]) ∧ Below w.heap.size w w' := by
  have HLE : Hid (spn isAln (s.data.toList.drop at_) ≤ s.size - at_) := hide (by have := spn_le isAln (s.data.toList.drop at_); rw [List.length_drop, size_list] at this; exact this)
  go_enter Tryz.func92, Tryz.ntmps92
  go_wp2
  go_loop [7] (fun i => ∃ k : Nat, at_ + k ≤ s.size ∧ Hid (k ≤ spn isAln (s.data.toList.drop at_)) ∧ i = .int .i64 ((at_ + k : Nat) : Int)) (fun i => s.size - (intOf i).toNat)
  case atStart => exact ⟨0, hat, hide (Nat.zero_le _), rfl⟩
  case round =>
    obtain ⟨k, hk, HK, rfl⟩ := hrel
    generalize hE : at_ + k = E at *
    by_cases hlt : E < s.size
    · have hkl : k < (s.data.toList.drop at_).length := by rw [List.length_drop, size_list]; omega
      have hget : (s.data.toList.drop at_)[k] = s[E] := by obtain ⟨h', e⟩ := drop_byte s at_ k hkl; rw [e]; congr 1
      by_cases hL : isLet s[E] = true
      · have HN : Hid (k + 1 ≤ spn isAln (s.data.toList.drop at_)) := hide (spn_more (unhide HK) hkl (by rw [hget]; unfold isAln; rw [hL]; rfl))
        have HE := hide hE
        clear hE hget
        have L1 := rLetter_any s[E] (w.alloc (.cells #[.int .i64 0, .string ⟨#[]⟩, .int .i64 0, .int .i64 0] 74))
        rw [hL] at L1
        have HL1 := hide L1
        clear L1 hL
        go_wp2_with (go_at_call 91; refine (unhide HL1).mono ?_; rintro e w' ⟨rfl, rfl⟩)
        go_round
        case rel => exact ⟨k + 1, by have := unhide HE; omega, HN, by have := unhide HE; go_num⟩
        case measure => simp [intOf]; omega
      · have hL2 : isLet s[E] = false := Bool.eq_false_iff.2 hL
        have L1 := rLetter_any s[E] (w.alloc (.cells #[.int .i64 0, .string ⟨#[]⟩, .int .i64 0, .int .i64 0] 74))
        have D1 := rDigit_any s[E] (w.alloc (.cells #[.int .i64 0, .string ⟨#[]⟩, .int .i64 0, .int .i64 0] 74))
        rw [hL2] at L1
        by_cases hD : isDig s[E] = true
        · have HN : Hid (k + 1 ≤ spn isAln (s.data.toList.drop at_)) := hide (spn_more (unhide HK) hkl (by rw [hget]; unfold isAln; rw [hL2, hD]; rfl))
          rw [hD] at D1
          have HE := hide hE
          have HL1 := hide L1
          have HD1 := hide D1
          clear hE hget L1 D1 hL hL2 hD
          go_wp2_with (first | (go_at_call 91; refine (unhide HL1).mono ?_; rintro e w' ⟨rfl, rfl⟩) | (go_at_call 93; refine (unhide HD1).mono ?_; rintro e w' ⟨rfl, rfl⟩))
          go_round
          case rel => exact ⟨k + 1, by have := unhide HE; omega, HN, by have := unhide HE; go_num⟩
          case measure => simp [intOf]; omega
        · have hD2 : isDig s[E] = false := Bool.eq_false_iff.2 hD
          have HN : Hid (k = spn isAln (s.data.toList.drop at_)) := hide (spn_stop (unhide HK) (fun _ => by rw [hget]; unfold isAln; rw [hL2, hD2]; rfl))
          rw [hD2] at D1
          have HE := hide hE
          have HL1 := hide L1
          have HD1 := hide D1
          have hEa : at_ ≤ E := by omega
          clear hE hget L1 D1 hL hL2 hD hD2
          go_wp2_with (first | (go_at_call 91; refine (unhide HL1).mono ?_; rintro e w' ⟨rfl, rfl⟩) | (go_at_call 93; refine (unhide HD1).mono ?_; rintro e w' ⟨rfl, rfl⟩))
          exact bodyPost_ret (v := .tuple #[.agg #[.int .i64 1, .string (s.extract at_ E), .int .i64 0, .int .i64 (at_ : Int)], .int .i64 (E : Int), .bool (decide ((E : Int) - (at_ : Int) ≤ 32))]) (by simp [results, Tryz.results92, go_sem]) rfl ⟨word_end s at_ E k (unhide HE) (unhide HN), (Below.refl _ _).alloc (Nat.le_refl _) _⟩
    · have HN : Hid (k = spn isAln (s.data.toList.drop at_)) := hide (spn_stop (unhide HK) (fun h => by rw [List.length_drop, size_list] at h; omega))
      have HE := hide hE
      have hEa : at_ ≤ E := by omega
      clear hE
      go_wp2
      exact bodyPost_ret (v := .tuple #[.agg #[.int .i64 1, .string (s.extract at_ E), .int .i64 0, .int .i64 (at_ : Int)], .int .i64 (E : Int), .bool (decide ((E : Int) - (at_ : Int) ≤ 32))]) (by simp [results, Tryz.results92, go_sem]) rfl ⟨word_end s at_ E k (unhide HE) (unhide HN), (Below.refl _ _).alloc (Nat.le_refl _) _⟩
end Go.Proofs.YtjijhefmbmdbeaaGreatDoor
