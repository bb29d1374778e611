/-
  The document's answer for names (Named) is the plain function's.
  Which texts may be: strings.ContainsAny of a quote and a line feed, at any bytes; isText, isFree, isStage.
  A rune that is no byte of ASCII is none of a quote and a line feed: strings.IndexRune.
  strings.ContainsAny of a quote and a line feed, at any bytes; isText, isFree, isStage.
-/
import Derived.Test.YthipclehhcfahaaGreatDoorChecked
import Derived.Test.YthipclehhcfahaaGreatDoorHC08
import Derived.WalkLawsBesides
import Derived.Deep.QuietTactic
import Derived.BigQuiet
import Derived.Test.YthipclehhcfahaaGreatDoorHC07
import Derived.Test.YthipclehhcfahaaGreatDoorHC06
import Derived.Laws.RangeAny
import Derived.Lib.MapLaws
import Derived.Deep.LoopGhost
import Derived.Lib.IndexAny
import Derived.WalkMore
import Derived.Deep.RegionHeld3
import Derived.Lib.OthersKept
namespace Go.Proofs.YthipclehhcfahaaGreatDoor
open Go.RowKit

set_option maxHeartbeats 1000000 in
theorem refNamed_any (s : ByteArray) (w : World) (hs : s.size ≤ 9223372036854775807) :
    Calls Tryz.prog 74 #[.string s] w fun e w' => e = .returned (.bool (nameB s)) ∧ w' = w := by
  by_cases h1 : 1 ≤ s.size
  · have hse : s.toList ≠ [] := fun e => by
      rw [ByteArray.toList_eq] at e
      have e4 := congrArg List.length e
      have e3 : s.data.toList.length = s.size := Array.length_toList
      rw [e3] at e4
      have : s.size = 0 := e4
      omega
    have hne : (s.toList == (⟨#[]⟩ : ByteArray).toList) = false := by
      rw [beq_eq_false_iff_ne]
      intro e
      refine hse ?_
      rw [e, ByteArray.toList_eq]
    have hne2 : s.toList.isEmpty = false := by
      cases hl : s.toList with
      | nil => exact absurd hl hse
      | cons a r => rfl
    clear hse
    by_cases h2 : s.size ≤ 32
    · have hn : nameB s = s.data.toList.all nb := by unfold nameB; simp [h1, h2]
      rw [hn]
      clear hn
      generalize hR : s.data.toList.all nb = R
      have HR := hide hR
      clear hR
      have hlen : s.data.toList.length = s.size := Array.length_toList
      go_enter Tryz.func74, Tryz.ntmps74
      go_wp2
      go_loop [3] (fun i => ∃ k : Nat, k ≤ s.size ∧ i = .int .i64 (k : Int) ∧ Hid (∀ c ∈ s.data.toList.take k, nb c = true)) (fun i => s.size - (intOf i).toNat)
      case atStart => exact ⟨0, Nat.zero_le _, rfl, hide (by simp)⟩
      case round =>
        obtain ⟨k, hk, rfl, HK⟩ := hrel
        by_cases hlt : k < s.size
        · have hget : s[k] ∈ s.data.toList := by
            have : s[k] = s.data.toList[k]'(by omega) := rfl
            rw [this]; exact List.getElem_mem _
          have hsn : s.data.toList.take (k + 1) = s.data.toList.take k ++ [s[k]] := by
            rw [List.take_succ_eq_append_getElem (by omega)]; rfl
          have hnb : nb s[k] = true ↔ ((97 ≤ (s[k]).toNat ∧ (s[k]).toNat ≤ 122) ∨ (48 ≤ (s[k]).toNat ∧ (s[k]).toNat ≤ 57)) := by
            unfold nb
            simp only [Bool.or_eq_true, Bool.and_eq_true, decide_eq_true_eq]
            omega
          have HG := hide hget
          have HS := hide hsn
          have hb256 := (s[k]).toNat_lt
          clear hget hsn hlen
          by_cases hb : nb s[k] = true
          · have hor := hnb.1 hb
            have HB := hide hb
            clear hnb hb
            rcases hor with ⟨g1, g2⟩ | ⟨g3, g4⟩
            · have d2 : decide (((s[k]).toNat : Int) ≤ 122) = true := decide_eq_true (by omega)
              go_wp2
              go_round
              case rel => exact ⟨k + 1, by omega, by go_num, hide (fun c hc => by
                rw [unhide HS, List.mem_append] at hc
                rcases hc with hc | hc
                · exact unhide HK c hc
                · rw [List.mem_singleton] at hc; rw [hc]; exact unhide HB)⟩
              case measure => simp [intOf]; omega
            · have g1 : ¬ 97 ≤ (s[k]).toNat := by omega
              have d4 : decide (((s[k]).toNat : Int) ≤ 57) = true := decide_eq_true (by omega)
              go_wp2
              go_round
              case rel => exact ⟨k + 1, by omega, by go_num, hide (fun c hc => by
                rw [unhide HS, List.mem_append] at hc
                rcases hc with hc | hc
                · exact unhide HK c hc
                · rw [List.mem_singleton] at hc; rw [hc]; exact unhide HB)⟩
              case measure => simp [intOf]; omega
          · have hb' : nb s[k] = false := by simpa using hb
            have hall : s.data.toList.all nb = false := List.all_eq_false.2 ⟨_, unhide HG, by rw [hb']; simp⟩
            have hR := unhide HR
            rw [hall] at hR
            subst hR
            have hnot := fun h => hb (hnb.2 h)
            clear hb hb' hall HR hnb HG HS HK
            rcases (by omega : (s[k]).toNat < 48 ∨ (57 < (s[k]).toNat ∧ (s[k]).toNat < 97) ∨ 122 < (s[k]).toNat ∨ ((97 ≤ (s[k]).toNat ∧ (s[k]).toNat ≤ 122) ∨ (48 ≤ (s[k]).toNat ∧ (s[k]).toNat ≤ 57))) with g | ⟨g, g'⟩ | g | g
            · clear hnot
              have g1 : ¬ 97 ≤ (s[k]).toNat := by omega
              have g2 : ¬ 48 ≤ (s[k]).toNat := by omega
              go_wp2
              go_ret
              exact ⟨rfl, rfl⟩
            · clear hnot
              have g1 : ¬ 97 ≤ (s[k]).toNat := by omega
              have g2 : 48 ≤ (s[k]).toNat := by omega
              have g3 : decide (((s[k]).toNat : Int) ≤ 57) = false := decide_eq_false (by omega)
              go_wp2
              go_ret
              exact ⟨rfl, rfl⟩
            · clear hnot
              have g1 : 97 ≤ (s[k]).toNat := by omega
              have g2 : decide (((s[k]).toNat : Int) ≤ 122) = false := decide_eq_false (by omega)
              have g3 : 48 ≤ (s[k]).toNat := by omega
              have g4 : decide (((s[k]).toNat : Int) ≤ 57) = false := decide_eq_false (by omega)
              go_wp2
              go_ret
              exact ⟨rfl, rfl⟩
            · exact absurd g hnot
        · have hall : s.data.toList.all nb = true := List.all_eq_true.2 (fun c hc => unhide HK c (by rw [List.take_of_length_le (by omega)]; exact hc))
          have hR := unhide HR
          rw [hall] at hR
          subst hR
          clear hall HR HK
          go_wp2
          go_ret
          exact ⟨rfl, rfl⟩
    · have hn : nameB s = false := by unfold nameB; simp [h2]
      rw [hn]
      go_enter Tryz.func74, Tryz.ntmps74
      go_wp2
      all_goals go_ret
      all_goals exact ⟨rfl, rfl⟩
  · have hn : nameB s = false := by unfold nameB; simp [h1]
    rw [hn]
    have hse : s = ⟨#[]⟩ := ByteArray.ext (Array.eq_empty_of_size_eq_zero (by show s.size = 0; omega))
    subst hse
    go_enter Tryz.func74, Tryz.ntmps74
    go_wp2
    all_goals go_ret
    all_goals exact ⟨rfl, rfl⟩
end Go.Proofs.YthipclehhcfahaaGreatDoor
namespace Go.Proofs.YthipclehhcfahaaGreatDoor
open Go.RowKit

theorem enc_two (r : Nat) (h1 : 128 ≤ r) (h2 : r < 2048) : Utf8.encode (r : Int) = ⟨#[UInt8.ofNat (192 + r / 64), UInt8.ofNat (128 + r % 64)]⟩ := by
  have hv : Utf8.valid (r : Int) = true := by unfold Utf8.valid; simp; omega
  simp only [Utf8.encode, hv, if_true, Int.toNat_natCast]
  rw [if_neg (by omega), if_pos (by omega)]
theorem enc_more (r : Nat) (h2 : 2048 ≤ r) : 3 ≤ (Utf8.encode (r : Int)).size ∧ (Utf8.encode (r : Int)).size ≤ 4 := by
  have hb : 2048 ≤ (if Utf8.valid (r : Int) = true then ((r : Int)).toNat else Utf8.runeError) := by
    split
    · omega
    · unfold Utf8.runeError; omega
  simp only [Utf8.encode]
  generalize (if Utf8.valid (r : Int) = true then ((r : Int)).toNat else Utf8.runeError) = c at hb
  rw [if_neg (by omega), if_neg (by omega)]
  split
  · exact ⟨Nat.le_refl 3, by show 3 ≤ 4; omega⟩
  · exact ⟨by show 3 ≤ 4; omega, Nat.le_refl 4⟩
theorem validRune_any (r : Int) (w : World) : Calls Tryz.prog 136 #[.int .i32 r] w fun e w' => Hid (∃ b, e = .returned (.bool b)) ∧ w' = w := by
  go_enter Tryz.func136, Tryz.ntmps136
  go_wp2
  all_goals go_ret
  all_goals (refine ⟨?_, rfl⟩; first | exact Or.inl rfl | exact Or.inr rfl | exact hide ⟨_, rfl⟩)
end Go.Proofs.YthipclehhcfahaaGreatDoor
namespace Go.Proofs.YthipclehhcfahaaGreatDoor
open Go.RowKit
set_option maxHeartbeats 4000000 in
set_option maxRecDepth 100000 in
theorem indexRune_err (w : World) : Calls Tryz.prog 119 #[.string ⟨#[39, 10]⟩, .int .i32 65533] w fun e w' => e = .returned (.int .i64 (-1)) ∧ Kp [] w w' := by
  go_enter Tryz.func119, Tryz.ntmps119
  go_wp2
  go_loopg [5, 6] 2 (fun g _ _ wx => ∃ i : Nat, i + g = 2 ∧ wx = w.iter ⟨#[39, 10]⟩ i)
  case atStart => exact ⟨0, by omega, rfl⟩
  case round =>
    obtain ⟨i, hig, rfl⟩ := hrel
    rcases (show i = 0 ∨ i = 1 ∨ i = 2 by omega) with rfl | rfl | rfl
    · obtain rfl : gk = 2 := by omega
      have hnx := fun ty => run_next_ascii (P := Tryz.prog) w ⟨#[39, 10]⟩ 0 ty (by decide) (by decide)
      go_wp2
      go_roundg 1
      case measure => omega
      case rel => exact ⟨1, by omega, rfl⟩
    · obtain rfl : gk = 1 := by omega
      have hnx := fun ty => run_next_ascii (P := Tryz.prog) w ⟨#[39, 10]⟩ 1 ty (by decide) (by decide)
      go_wp2
      go_roundg 0
      case measure => omega
      case rel => exact ⟨2, by omega, rfl⟩
    · obtain rfl : gk = 0 := by omega
      have hnx := fun ty => run_next_end (P := Tryz.prog) w ⟨#[39, 10]⟩ 2 ty (by decide)
      go_wp2
      go_ret
      exact ⟨rfl, Kp.alloc _ _⟩
set_option maxHeartbeats 400000 in
set_option maxRecDepth 100000 in
theorem indexRune_more (r : Nat) (h1 : 2048 ≤ r) (hE : r ≠ 65533) (w : World) : Calls Tryz.prog 119 #[.string ⟨#[39, 10]⟩, .int .i32 (r : Int)] w fun e w' => e = .returned (.int .i64 (-1)) ∧ Kp [] w w' := by
  have g1 : ((r : Int) == 65533) = false := by simp; omega
  have g2 : ¬ ((r : Int) = 65533) := by omega
  have g3 : ¬ ((r : Int) < 128) := by omega
  obtain ⟨k1, k2⟩ := enc_more r h1
  obtain ⟨B, hB⟩ : ∃ B, Utf8.encode (r : Int) = B := ⟨_, rfl⟩
  rw [hB] at k1 k2
  have gL : ¬ ((B.size : Int) - 1 < 2) := by omega
  go_enter Tryz.func119, Tryz.ntmps119
  go_wp2_with fail
  refine (validRune_any _ _).mono ?_
  rintro e w1 ⟨hb, rfl⟩
  obtain ⟨b, rfl⟩ := unhide hb
  clear hb
  cases b with
  | false =>
    go_wp2
    go_ret
    exact ⟨rfl, Kp.refl _ _⟩
  | true =>
    go_wp2
    go_step3
    go_wp2
    clear hB
    go_loopw [9] (fun i wr => wr = w1 ∧ i = .int .i64 ((B.size : Int) - 1)) (fun _ _ => 0)
    case atStart => exact ⟨rfl, by go_num⟩
    case round =>
      obtain ⟨rfl, rfl⟩ := hrel
      go_wp2
      rw [Exit.noGoto_ret]
      go_ret
      exact ⟨rfl, Kp.refl _ _⟩
theorem ib_nil (s : ByteArray) (c : Int) (w : World) (h : s.data.toList = []) : Calls Tryz.prog 135 #[.string s, .int .u8 c] w fun e w' => e = .returned (.int .i64 (-1)) ∧ w' = w := by
  have := Tryz.strings_IndexByte s c w
  rw [h] at this
  exact this
set_option maxHeartbeats 400000 in
set_option maxRecDepth 100000 in
theorem indexRune_two (r : Nat) (h1 : 128 ≤ r) (h3 : r < 2048) (w : World) : Calls Tryz.prog 119 #[.string ⟨#[39, 10]⟩, .int .i32 (r : Int)] w fun e w' => e = .returned (.int .i64 (-1)) ∧ Kp [] w w' := by
  have g1 : ((r : Int) == 65533) = false := by simp; omega
  have g2 : ¬ ((r : Int) = 65533) := by omega
  have g3 : ¬ ((r : Int) < 128) := by omega
  have he := enc_two r h1 h3
  have hb : (UInt8.ofNat (128 + r % 64)).toNat = 128 + r % 64 := by simp; omega
  generalize UInt8.ofNat (128 + r % 64) = b2 at *
  generalize UInt8.ofNat (192 + r / 64) = b1 at *
  have hb2 : 128 ≤ b2.toNat := by omega
  have gn : ((10 : Int) != (b2.toNat : Int)) = true := by simp; omega
  clear hb
  go_enter Tryz.func119, Tryz.ntmps119
  go_wp2_with fail
  refine (validRune_any _ _).mono ?_
  rintro e w1 ⟨hb, rfl⟩
  obtain ⟨b, rfl⟩ := unhide hb
  clear hb
  cases b with
  | false =>
    go_wp2
    go_ret
    exact ⟨rfl, Kp.refl _ _⟩
  | true =>
    go_wp2
    go_step3
    go_wp2
    clear he
    go_loopw [9] (fun i wr => wr = w1 ∧ i = .int .i64 1) (fun _ _ => 0)
    case atStart => exact ⟨rfl, rfl⟩
    case round =>
      obtain ⟨rfl, rfl⟩ := hrel
      have IB := fun (s : ByteArray) (c : Int) W (h : s.data.toList = []) => ib_nil s c W h
      go_wp2
      go_step3
      go_wp2
      go_quiet (fail)
      have e1 : (⟨#[39, 10]⟩ : ByteArray)[1].toNat = 10 := rfl
      have e2 : ((⟨#[b1, b2]⟩ : ByteArray)[1]'(by show 1 < 2; omega)).toNat = b2.toNat := rfl
      have e3 : (((10 : Nat) : Int) != (b2.toNat : Int)) = true := gn
      have hk := Kp.drewQ wr nq
      simp only [e1, e2, e3]
      generalize wr.drewN nq = W2 at *
      have w2 : IntKind.i64.wrap 2 = 2 := by decide
      go_wp2
      go_quiet (first | (go_at_call 135; exact Calls.quiet_of_same (IB _ _ _ (by decide))))
      go_wp2
      rw [Exit.noGoto_ret]
      go_wp2
      rw [Exit.noGoto_ret]
      go_ret
      exact ⟨rfl, hk.trans (Kp.drewQ _ _) (by simp)⟩
/-- A rune that is no byte of ASCII is none of the two. -/
theorem indexRune_hi (r : Nat) (h1 : 128 ≤ r) (w : World) : Calls Tryz.prog 119 #[.string ⟨#[39, 10]⟩, .int .i32 (r : Int)] w fun e w' => e = .returned (.int .i64 (-1)) ∧ Kp [] w w' := by
  by_cases hE : r = 65533
  · subst hE
    exact indexRune_err w
  · rcases Nat.lt_or_ge r 2048 with h | h
    · exact indexRune_two r h1 h w
    · exact indexRune_more r h hE w
end Go.Proofs.YthipclehhcfahaaGreatDoor
namespace Go.Proofs.YthipclehhcfahaaGreatDoor
open Go.RowKit

/-- What is decoded at a byte that is none of ASCII. -/
theorem dec_hi (s : ByteArray) (pos : Nat) (h : pos < s.size) (ha : 128 ≤ s[pos].toNat) : 128 ≤ (Utf8.decode s pos).1 ∧ (Utf8.decode s pos).1 ≤ 2147483647 ∧ 1 ≤ (Utf8.decode s pos).2 ∧ ∀ j, pos ≤ j → j < pos + (Utf8.decode s pos).2 → ∃ b, s.data.toList[j]? = some b ∧ 128 ≤ b.toNat := by
  obtain ⟨d1, d2⟩ := decode_high s pos h ha
  refine ⟨d1, decode_le s pos, d2, ?_⟩
  have hl : s.data.toList.length = s.size := rfl
  have at' : ∀ j, j < s.size → s.data.toList[j]? = some (s.data.toList.getD j 0) := fun j hj => by
    rw [List.getD_eq_getElem?_getD, List.getElem?_eq_getElem (by omega)]
    rfl
  have e0 : s.data.toList.getD pos 0 = s[pos] := by
    rw [List.getD_eq_getElem?_getD, List.getElem?_eq_getElem (by omega)]
    rfl
  have hN := Lib.decode_N s pos
  rcases Lib.decodeN_shape (s.data.toList.length - pos) (s.data.toList.getD pos 0).toNat (s.data.toList.getD (pos + 1) 0).toNat (s.data.toList.getD (pos + 2) 0).toNat (s.data.toList.getD (pos + 3) 0).toNat with ⟨c, e⟩ | ⟨c1, c2, c3, cv, e⟩ | ⟨c1, c2, c3, c4, cv, cs, e⟩ | ⟨c1, c2, c3, c4, c5, cv, cw, e⟩ | e
  · rw [e0] at c; omega
  · rw [hN, e]
    intro j h1 h2
    rcases (show j = pos ∨ j = pos + 1 by simp at h2; omega) with rfl | rfl
    · exact ⟨_, at' _ h, by rw [e0]; exact ha⟩
    · exact ⟨_, at' _ (by omega), by omega⟩
  · rw [hN, e]
    intro j h1 h2
    rcases (show j = pos ∨ j = pos + 1 ∨ j = pos + 2 by simp at h2; omega) with rfl | rfl | rfl
    · exact ⟨_, at' _ h, by rw [e0]; exact ha⟩
    · exact ⟨_, at' _ (by omega), by omega⟩
    · exact ⟨_, at' _ (by omega), by omega⟩
  · rw [hN, e]
    intro j h1 h2
    rcases (show j = pos ∨ j = pos + 1 ∨ j = pos + 2 ∨ j = pos + 3 by simp at h2; omega) with rfl | rfl | rfl | rfl
    · exact ⟨_, at' _ h, by rw [e0]; exact ha⟩
    · exact ⟨_, at' _ (by omega), by omega⟩
    · exact ⟨_, at' _ (by omega), by omega⟩
    · exact ⟨_, at' _ (by omega), by omega⟩
  · rw [hN, e]
    intro j h1 h2
    obtain rfl : j = pos := by simp at h2; omega
    exact ⟨_, at' _ h, by rw [e0]; exact ha⟩
theorem spn_far {p : UInt8 → Bool} {l : List UInt8} {i : Nat} (k : Nat) (h : i ≤ spn p l) (hk : ∀ j, i ≤ j → j < i + k → ∃ b, l[j]? = some b ∧ p b = true) : i + k ≤ spn p l := by
  induction k with
  | zero => exact h
  | succ k ih =>
    have h1 := ih (fun j a b => hk j a (by omega))
    obtain ⟨b, hb, hp⟩ := hk (i + k) (by omega) (by omega)
    obtain ⟨hlt, rfl⟩ := List.getElem?_eq_some_iff.1 hb
    exact spn_more h1 hlt hp
theorem in_hi {b : UInt8} (h : 128 ≤ b.toNat) : isIn b = true := by unfold isIn; simp; omega
theorem in_has (b : UInt8) : isIn b = !([39, 10] : List UInt8).contains b := by
  unfold isIn
  have e1 : decide (b.toNat = 39) = (b == 39) := by
    rw [Bool.eq_iff_iff]; simp [← UInt8.toNat_inj]
  have e2 : decide (b.toNat = 10) = (b == 10) := by
    rw [Bool.eq_iff_iff]; simp [← UInt8.toNat_inj]
  rw [e1, e2, List.contains_cons, List.contains_cons, List.contains_nil, Bool.or_false]
theorem idx_in (l : List UInt8) : (0 ≤ Lib.indexAny l [39, 10]) ↔ spn isIn l < l.length := by
  induction l with
  | nil => simp [Lib.indexAny, spn]
  | cons b r ih =>
    have hge := Lib.indexAny_ge [39, 10] r
    rw [Lib.indexAny, spn, in_has]
    cases hc : ([39, 10] : List UInt8).contains b with
    | true => simp
    | false =>
      rw [if_neg Bool.false_ne_true, show (if (!false) = true then spn isIn r + 1 else 0) = spn isIn r + 1 from rfl]
      by_cases hm : Lib.indexAny r [39, 10] = -1
      · rw [if_pos (beq_iff_eq.2 hm)]
        rw [hm] at ih
        have : ¬ spn isIn r < r.length := fun h => by have := ih.2 h; omega
        simp only [List.length_cons]
        constructor
        · intro h; omega
        · intro h; omega
      · rw [if_neg (fun e => hm (beq_iff_eq.1 e))]
        have : 0 ≤ Lib.indexAny r [39, 10] := by omega
        have h2 := ih.1 this
        simp only [List.length_cons]
        constructor
        · intro _; omega
        · intro _; omega
set_option maxHeartbeats 1000000 in
set_option maxRecDepth 100000 in
theorem indexAny_short (s : ByteArray) (h8 : s.size ≤ 8) (w : World) : Calls Tryz.prog 109 #[.string s, .string ⟨#[39, 10]⟩] w fun e w' => (∃ i : Int, e = .returned (.int .i64 i) ∧ (0 ≤ i ↔ spn isIn s.data.toList < s.size)) ∧ Kp [] w w' := by
  have hus := fun W => Tryz.strings_shouldUseASCIISet (s.size : Int) W
  have h8z : decide ((8 : Int) < (s.size : Int)) = false := decide_eq_false (by omega)
  rw [h8z] at hus
  have HUS := hide hus
  clear hus h8z
  go_enter Tryz.func109, Tryz.ntmps109
  go_wp2_with fail
  refine (unhide HUS _).mono ?_
  rintro e w1 ⟨rfl, rfl⟩
  go_wp2
  go_loopg [9, 10] s.size (fun g _ _ wx => ∃ i : Nat, i + g = s.size ∧ wx.heap[w1.heap.size]? = some (.stringIter s i) ∧ Hid (Below w1.heap.size w1 wx) ∧ Hid (i ≤ spn isIn s.data.toList))
  case atStart => exact ⟨0, by omega, World.iter_heap _ _ _, hide ((Below.refl _ _).alloc (Nat.le_refl _) _), hide (Nat.zero_le _)⟩
  case round =>
    obtain ⟨i, hig, hit, HB, HN⟩ := hrel
    cases gk with
    | zero =>
      obtain rfl : i = s.size := by omega
      have hnx := fun ty => Lib.run_next_end_at (P := Tryz.prog) wr w1.heap.size s s.size ty hit (by omega)
      clear hit
      go_wp2
      go_ret
      exact ⟨⟨_, rfl, by constructor <;> intro h <;> (have := unhide HN; omega)⟩, Kp.ofBelow (unhide HB)⟩
    | succ g =>
      have hi : i < s.size := by omega
      by_cases ha : s[i].toNat < 128
      · have hnx := fun ty => Lib.run_next_ascii_at (P := Tryz.prog) wr w1.heap.size s i ty hit hi ha
        have hiA := Lib.iterAt_heap wr w1.heap.size s i (i + 1) hit
        have HB2 : Hid (Below w1.heap.size w1 (wr.iterAt w1.heap.size s (i + 1))) := hide (Lib.below_iterAt (unhide HB) (Nat.le_refl _) s (i + 1))
        have IR := fun W => Tryz.strings_IndexRune_ascii ⟨#[39, 10]⟩ (s[i].toNat : Int) W (by omega) (by omega)
        rw [show ((s[i].toNat : Int)).toNat.toUInt8 = s[i] by simp] at IR
        have hcon := Lib.contains_iff_indexByte [39, 10] s[i]
        have IR2 : Hid (∀ W, Calls Tryz.prog 119 #[.string ⟨#[39, 10]⟩, .int .i32 (s[i].toNat : Int)] W fun e w' => e = .returned (.int .i64 (Lib.indexByte [39, 10] s[i])) ∧ w' = W) := hide IR
        clear IR hit
        have hmo : isIn s[i] = true → i + 1 ≤ spn isIn s.data.toList := fun hin => spn_more (unhide HN) (by simpa using hi) hin
        have hst : isIn s[i] = false → i = spn isIn s.data.toList := fun hin => spn_stop (unhide HN) (fun _ => hin)
        rw [in_has, hcon] at hmo hst
        generalize Lib.indexByte [39, 10] s[i] = q at *
        clear hcon
        generalize wr.iterAt w1.heap.size s (i + 1) = W2 at *
        by_cases hq : (0 : Int) ≤ q
        · have HS : Hid (i = spn isIn s.data.toList) := hide (hst (by rw [decide_eq_true hq]; rfl))
          clear hmo hst
          go_wp2_with fail
          refine (unhide IR2 _).mono ?_
          rintro e w3 ⟨rfl, rfl⟩
          go_wp2
          go_ret
          exact ⟨⟨_, rfl, by have := unhide HS; constructor <;> intro h <;> omega⟩, Kp.ofBelow (unhide HB2)⟩
        · have HN2 : Hid (i + 1 ≤ spn isIn s.data.toList) := hide (hmo (by rw [decide_eq_false hq]; rfl))
          clear hmo hst
          go_wp2_with fail
          refine (unhide IR2 _).mono ?_
          rintro e w3 ⟨rfl, rfl⟩
          go_wp2
          go_roundg g
          case measure => omega
          case rel => exact ⟨i + 1, by omega, hiA, HB2, HN2⟩
      · obtain ⟨d1, d2, d3, d4⟩ := dec_hi s i hi (by omega)
        have hnx := fun ty => Lib.run_next_any_at (P := Tryz.prog) wr w1.heap.size s i ty hit hi
        have HN2 : Hid (i + (Utf8.decode s i).2 ≤ spn isIn s.data.toList) := hide (spn_far _ (unhide HN) (fun j a b => by
          obtain ⟨x, hx, hx2⟩ := d4 j a b
          exact ⟨x, hx, in_hi hx2⟩))
        have hle : spn isIn s.data.toList ≤ s.size := spn_le isIn s.data.toList
        have hk2 : i + (Utf8.decode s i).2 ≤ s.size := Nat.le_trans (unhide HN2) hle
        have hiA := Lib.iterAt_heap wr w1.heap.size s i (i + (Utf8.decode s i).2) hit
        have HB2 : Hid (Below w1.heap.size w1 (wr.iterAt w1.heap.size s (i + (Utf8.decode s i).2))) := hide (Lib.below_iterAt (unhide HB) (Nat.le_refl _) s _)
        generalize (Utf8.decode s i).2 = k at *
        generalize (Utf8.decode s i).1 = c at *
        have IR2 := hide (fun W => indexRune_hi c d1 W)
        clear d4 hit hle ha
        generalize wr.iterAt w1.heap.size s (i + k) = W2 at *
        go_wp2_with fail
        refine (unhide IR2 _).mono ?_
        rintro e w3 ⟨rfl, hk3⟩
        have hiB : w3.heap[w1.heap.size]? = some (.stringIter s (i + k)) := by rw [hk3.block _ (Array.getElem?_eq_some_iff.1 hiA).1 (by simp)]; exact hiA
        have HB3 : Hid (Below w1.heap.size w1 w3) := hide ((unhide HB2).trans (hk3.below (unhide HB2).size (by simp)))
        clear hk3 hiA
        go_wp2
        go_roundg (s.size - (i + k))
        case measure => omega
        case rel => exact ⟨i + k, by omega, hiB, HB3, HN2⟩
theorem set256 : ∀ w, (zeroValue 174).run Tryz.prog w = .ok (.agg (Array.replicate 256 (.bool false))) w := fun w => by
  have e : (Tryz.prog.info? 174).map (fun i => (i.zero, i.size)) = some (some (.agg (Array.replicate 256 (.bool false))), 256) := by kernel_rfl
  cases h : Tryz.prog.info? 174 with
  | none => rw [h] at e; cases e
  | some i =>
    rw [h] at e
    simp at e
    simp [zeroValue, typeInfo, h, e.1]
theorem quote_ascii : ∀ (j : Nat) b, (⟨#[39, 10]⟩ : ByteArray).data.toList[j]? = some b → b.toNat < 128 := fun j b h => by
  have hm := List.mem_of_getElem? h
  simp at hm
  rcases hm with rfl | rfl <;> decide
set_option maxRecDepth 100000 in
/-- Is one of the two among bytes? -/
theorem containsAny_any (s : ByteArray) (hs : s.size ≤ 256) (w : World) : Calls Tryz.prog 90 #[.string s, .string ⟨#[39, 10]⟩] w fun e w' => e = .returned (.bool (!decide (spn isIn s.data.toList = s.size))) ∧ Kp [] w w' := by
  have hle : spn isIn s.data.toList ≤ s.size := spn_le isIn s.data.toList
  have IA : Calls Tryz.prog 109 #[.string s, .string ⟨#[39, 10]⟩] w fun e w' => (∃ i : Int, e = .returned (.int .i64 i) ∧ (0 ≤ i ↔ spn isIn s.data.toList < s.size)) ∧ Kp [] w w' := by
    rcases Nat.lt_or_ge 8 s.size with h8 | h8
    · refine (Tryz.strings_IndexAny_long set256 s ⟨#[39, 10]⟩ w (by decide) h8 (by omega) (by decide) quote_ascii).mono ?_
      rintro e w' ⟨rfl, rfl⟩
      exact ⟨⟨_, rfl, idx_in _⟩, (Kp.alloc _ _).trans (Kp.alloc _ _) (by simp)⟩
    · exact indexAny_short s h8 w
  have HI := hide IA
  clear IA
  go_enter Tryz.func90, Tryz.ntmps90
  go_wp2_with fail
  refine (unhide HI).mono ?_
  rintro e w1 ⟨⟨i, rfl, hi⟩, hk⟩
  have HK := hide hk
  have HB : Hid (decide (0 ≤ i) = !decide (spn isIn s.data.toList = s.size)) := hide (by
    by_cases h : 0 ≤ i
    · have := hi.1 h
      rw [decide_eq_true h, decide_eq_false (by omega)]
      rfl
    · have : ¬ spn isIn s.data.toList < s.size := fun h2 => h (hi.2 h2)
      rw [decide_eq_false h, decide_eq_true (by omega)]
      rfl)
  clear hk hi HI
  go_wp2
  go_ret
  exact ⟨ret_bool (unhide HB), unhide HK⟩
theorem isText_any (s : ByteArray) (w : World) : Calls Tryz.prog 71 #[.string s] w fun e w' => e = .returned (.bool (isTx s)) ∧ Kp [] w w' := by
  unfold isTx
  by_cases h : s.size ≤ 256
  · rw [decide_eq_true h, Bool.true_and]
    have HC := hide (containsAny_any s h w)
    generalize decide (spn isIn s.data.toList = s.size) = b at *
    go_enter Tryz.func71, Tryz.ntmps71
    go_wp2_with fail
    refine (unhide HC).mono ?_
    rintro e w1 ⟨rfl, hk⟩
    have HK := hide hk
    clear hk
    go_wp2
    go_ret
    exact ⟨ret_bool (by simp), unhide HK⟩
  · rw [decide_eq_false h, Bool.false_and]
    go_enter Tryz.func71, Tryz.ntmps71
    go_wp2
    go_ret
    exact ⟨rfl, Kp.refl _ _⟩
end Go.Proofs.YthipclehhcfahaaGreatDoor
