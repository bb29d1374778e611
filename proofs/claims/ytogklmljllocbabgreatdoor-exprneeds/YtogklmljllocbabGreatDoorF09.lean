/-
  strings.ContainsAny of a quote and a line feed, at any bytes; isText, isFree, isStage.
  Which words a stage may have as its name; the kind of a leaf.
-/
import Derived.Test.YtogklmljllocbabGreatDoorF08
import Derived.Lib.OthersKept
namespace Go.Proofs.YtogklmljllocbabGreatDoor
open Go.RowKit

/-- What is decoded at a byte that is none of ASCII. -/
theorem dec_hi (s : ByteArray) (pos : Nat) (h : pos < s.size) (ha : 128 ≤ s[pos].toNat) : 128 ≤ (Utf8.decode s pos).1 ∧ (Utf8.decode s pos).1 ≤ 2147483647 ∧ 1 ≤ (Utf8.decode s pos).2 ∧ ∀ j, pos ≤ j → j < pos + (Utf8.decode s pos).2 → ∃ b, s.data.toList[j]? = some b ∧ 128 ≤ b.toNat := by
  obtain ⟨d1, d2⟩ := decode_high s pos h ha
  refine ⟨d1, decode_le s pos, d2, ?_⟩
  have hl : s.data.toList.length = s.size := rfl
  have at' : ∀ j, j < s.size → s.data.toList[j]? = some (s.data.toList.getD j 0) := fun j hj => by
    rw [List.getD_eq_getElem?_getD, List.getElem?_eq_getElem (by omega)]
    rfl
  have e0 : s.data.toList.getD pos 0 = s[pos] := by
    rw [List.getD_eq_getElem?_getD, List.getElem?_eq_getElem (by omega)]
    rfl
  have hN := Lib.decode_N s pos
  rcases Lib.decodeN_shape (s.data.toList.length - pos) (s.data.toList.getD pos 0).toNat (s.data.toList.getD (pos + 1) 0).toNat (s.data.toList.getD (pos + 2) 0).toNat (s.data.toList.getD (pos + 3) 0).toNat with ⟨c, e⟩ | ⟨c1, c2, c3, cv, e⟩ | ⟨c1, c2, c3, c4, cv, cs, e⟩ | ⟨c1, c2, c3, c4, c5, cv, cw, e⟩ | e
  · rw [e0] at c; omega
  · rw [hN, e]
    intro j h1 h2
    rcases (show j = pos ∨ j = pos + 1 by simp at h2; omega) with rfl | rfl
    · exact ⟨_, at' _ h, by rw [e0]; exact ha⟩
    · exact ⟨_, at' _ (by omega), by omega⟩
  · rw [hN, e]
    intro j h1 h2
    rcases (show j = pos ∨ j = pos + 1 ∨ j = pos + 2 by simp at h2; omega) with rfl | rfl | rfl
    · exact ⟨_, at' _ h, by rw [e0]; exact ha⟩
    · exact ⟨_, at' _ (by omega), by omega⟩
    · exact ⟨_, at' _ (by omega), by omega⟩
  · rw [hN, e]
    intro j h1 h2
    rcases (show j = pos ∨ j = pos + 1 ∨ j = pos + 2 ∨ j = pos + 3 by simp at h2; omega) with rfl | rfl | rfl | rfl
    · exact ⟨_, at' _ h, by rw [e0]; exact ha⟩
    · exact ⟨_, at' _ (by omega), by omega⟩
    · exact ⟨_, at' _ (by omega), by omega⟩
    · exact ⟨_, at' _ (by omega), by omega⟩
  · rw [hN, e]
    intro j h1 h2
    obtain rfl : j = pos := by simp at h2; omega
    exact ⟨_, at' _ h, by rw [e0]; exact ha⟩
theorem spn_far {p : UInt8 → Bool} {l : List UInt8} {i : Nat} (k : Nat) (h : i ≤ spn p l) (hk : ∀ j, i ≤ j → j < i + k → ∃ b, l[j]? = some b ∧ p b = true) : i + k ≤ spn p l := by
  induction k with
  | zero => exact h
  | succ k ih =>
    have h1 := ih (fun j a b => hk j a (by omega))
    obtain ⟨b, hb, hp⟩ := hk (i + k) (by omega) (by omega)
    obtain ⟨hlt, rfl⟩ := List.getElem?_eq_some_iff.1 hb
    exact spn_more h1 hlt hp
theorem in_hi {b : UInt8} (h : 128 ≤ b.toNat) : isIn b = true := by unfold isIn; simp; omega
theorem in_has (b : UInt8) : isIn b = !([39, 10] : List UInt8).contains b := by
  unfold isIn
  have e1 : decide (b.toNat = 39) = (b == 39) := by
    rw [Bool.eq_iff_iff]; simp [← UInt8.toNat_inj]
  have e2 : decide (b.toNat = 10) = (b == 10) := by
    rw [Bool.eq_iff_iff]; simp [← UInt8.toNat_inj]
  rw [e1, e2, List.contains_cons, List.contains_cons, List.contains_nil, Bool.or_false]
theorem idx_in (l : List UInt8) : (0 ≤ Lib.indexAny l [39, 10]) ↔ spn isIn l < l.length := by
  induction l with
  | nil => simp [Lib.indexAny, spn]
  | cons b r ih =>
    have hge := Lib.indexAny_ge [39, 10] r
    rw [Lib.indexAny, spn, in_has]
    cases hc : ([39, 10] : List UInt8).contains b with
    | true => simp
    | false =>
      rw [if_neg Bool.false_ne_true, show (if (!false) = true then spn isIn r + 1 else 0) = spn isIn r + 1 from rfl]
      by_cases hm : Lib.indexAny r [39, 10] = -1
      · rw [if_pos (beq_iff_eq.2 hm)]
        rw [hm] at ih
        have : ¬ spn isIn r < r.length := fun h => by have := ih.2 h; omega
        simp only [List.length_cons]
        constructor
        · intro h; omega
        · intro h; omega
      · rw [if_neg (fun e => hm (beq_iff_eq.1 e))]
        have : 0 ≤ Lib.indexAny r [39, 10] := by omega
        have h2 := ih.1 this
        simp only [List.length_cons]
        constructor
        · intro _; omega
        · intro _; omega
set_option maxHeartbeats 1000000 in
set_option maxRecDepth 100000 in
theorem indexAny_short (s : ByteArray) (h8 : s.size ≤ 8) (w : World) : Calls Tryz.prog 247 #[.string s, .string ⟨#[39, 10]⟩] w fun e w' => (∃ i : Int, e = .returned (.int .i64 i) ∧ (0 ≤ i ↔ spn isIn s.data.toList < s.size)) ∧ Kp [] w w' := by
  have hus := fun W => Tryz.strings_shouldUseASCIISet (s.size : Int) W
  have h8z : decide ((8 : Int) < (s.size : Int)) = false := decide_eq_false (by omega)
  rw [h8z] at hus
  have HUS := hide hus
  clear hus h8z
  go_enter Tryz.func247, Tryz.ntmps247
  go_wp2_with fail
  refine (unhide HUS _).mono ?_
  rintro e w1 ⟨rfl, rfl⟩
  go_wp2
  go_loopg [9, 10] s.size (fun g _ _ wx => ∃ i : Nat, i + g = s.size ∧ wx.heap[w1.heap.size]? = some (.stringIter s i) ∧ Hid (Below w1.heap.size w1 wx) ∧ Hid (i ≤ spn isIn s.data.toList))
  case atStart => exact ⟨0, by omega, World.iter_heap _ _ _, hide ((Below.refl _ _).alloc (Nat.le_refl _) _), hide (Nat.zero_le _)⟩
  case round =>
    obtain ⟨i, hig, hit, HB, HN⟩ := hrel
    cases gk with
    | zero =>
      obtain rfl : i = s.size := by omega
      have hnx := fun ty => Lib.run_next_end_at (P := Tryz.prog) wr w1.heap.size s s.size ty hit (by omega)
      clear hit
      go_wp2
      go_ret
      exact ⟨⟨_, rfl, by constructor <;> intro h <;> (have := unhide HN; omega)⟩, Kp.ofBelow (unhide HB)⟩
    | succ g =>
      have hi : i < s.size := by omega
      by_cases ha : s[i].toNat < 128
      · have hnx := fun ty => Lib.run_next_ascii_at (P := Tryz.prog) wr w1.heap.size s i ty hit hi ha
        have hiA := Lib.iterAt_heap wr w1.heap.size s i (i + 1) hit
        have HB2 : Hid (Below w1.heap.size w1 (wr.iterAt w1.heap.size s (i + 1))) := hide (Lib.below_iterAt (unhide HB) (Nat.le_refl _) s (i + 1))
        have IR := fun W => Tryz.strings_IndexRune_ascii ⟨#[39, 10]⟩ (s[i].toNat : Int) W (by omega) (by omega)
        rw [show ((s[i].toNat : Int)).toNat.toUInt8 = s[i] by simp] at IR
        have hcon := Lib.contains_iff_indexByte [39, 10] s[i]
        have IR2 : Hid (∀ W, Calls Tryz.prog 265 #[.string ⟨#[39, 10]⟩, .int .i32 (s[i].toNat : Int)] W fun e w' => e = .returned (.int .i64 (Lib.indexByte [39, 10] s[i])) ∧ w' = W) := hide IR
        clear IR hit
        have hmo : isIn s[i] = true → i + 1 ≤ spn isIn s.data.toList := fun hin => spn_more (unhide HN) (by simpa using hi) hin
        have hst : isIn s[i] = false → i = spn isIn s.data.toList := fun hin => spn_stop (unhide HN) (fun _ => hin)
        rw [in_has, hcon] at hmo hst
        generalize Lib.indexByte [39, 10] s[i] = q at *
        clear hcon
        generalize wr.iterAt w1.heap.size s (i + 1) = W2 at *
        by_cases hq : (0 : Int) ≤ q
        · have HS : Hid (i = spn isIn s.data.toList) := hide (hst (by rw [decide_eq_true hq]; rfl))
          clear hmo hst
          go_wp2_with fail
          refine (unhide IR2 _).mono ?_
          rintro e w3 ⟨rfl, rfl⟩
          go_wp2
          go_ret
          exact ⟨⟨_, rfl, by have := unhide HS; constructor <;> intro h <;> omega⟩, Kp.ofBelow (unhide HB2)⟩
        · have HN2 : Hid (i + 1 ≤ spn isIn s.data.toList) := hide (hmo (by rw [decide_eq_false hq]; rfl))
          clear hmo hst
          go_wp2_with fail
          refine (unhide IR2 _).mono ?_
          rintro e w3 ⟨rfl, rfl⟩
          go_wp2
          go_roundg g
          case measure => omega
          case rel => exact ⟨i + 1, by omega, hiA, HB2, HN2⟩
      · obtain ⟨d1, d2, d3, d4⟩ := dec_hi s i hi (by omega)
        have hnx := fun ty => Lib.run_next_any_at (P := Tryz.prog) wr w1.heap.size s i ty hit hi
        have HN2 : Hid (i + (Utf8.decode s i).2 ≤ spn isIn s.data.toList) := hide (spn_far _ (unhide HN) (fun j a b => by
          obtain ⟨x, hx, hx2⟩ := d4 j a b
          exact ⟨x, hx, in_hi hx2⟩))
        have hle : spn isIn s.data.toList ≤ s.size := spn_le isIn s.data.toList
        have hk2 : i + (Utf8.decode s i).2 ≤ s.size := Nat.le_trans (unhide HN2) hle
        have hiA := Lib.iterAt_heap wr w1.heap.size s i (i + (Utf8.decode s i).2) hit
        have HB2 : Hid (Below w1.heap.size w1 (wr.iterAt w1.heap.size s (i + (Utf8.decode s i).2))) := hide (Lib.below_iterAt (unhide HB) (Nat.le_refl _) s _)
        generalize (Utf8.decode s i).2 = k at *
        generalize (Utf8.decode s i).1 = c at *
        have IR2 := hide (fun W => indexRune_hi c d1 W)
        clear d4 hit hle ha
        generalize wr.iterAt w1.heap.size s (i + k) = W2 at *
        go_wp2_with fail
        refine (unhide IR2 _).mono ?_
        rintro e w3 ⟨rfl, hk3⟩
        have hiB : w3.heap[w1.heap.size]? = some (.stringIter s (i + k)) := by rw [hk3.block _ (Array.getElem?_eq_some_iff.1 hiA).1 (by simp)]; exact hiA
        have HB3 : Hid (Below w1.heap.size w1 w3) := hide ((unhide HB2).trans (hk3.below (unhide HB2).size (by simp)))
        clear hk3 hiA
        go_wp2
        go_roundg (s.size - (i + k))
        case measure => omega
        case rel => exact ⟨i + k, by omega, hiB, HB3, HN2⟩
theorem set256 : ∀ w, (zeroValue 332).run Tryz.prog w = .ok (.agg (Array.replicate 256 (.bool false))) w := fun w => by
  have e : (Tryz.prog.info? 332).map (fun i => (i.zero, i.size)) = some (some (.agg (Array.replicate 256 (.bool false))), 256) := by kernel_rfl
  cases h : Tryz.prog.info? 332 with
  | none => rw [h] at e; cases e
  | some i =>
    rw [h] at e
    simp at e
    simp [zeroValue, typeInfo, h, e.1]
theorem quote_ascii : ∀ (j : Nat) b, (⟨#[39, 10]⟩ : ByteArray).data.toList[j]? = some b → b.toNat < 128 := fun j b h => by
  have hm := List.mem_of_getElem? h
  simp at hm
  rcases hm with rfl | rfl <;> decide
set_option maxRecDepth 100000 in
/-- Is one of the two among bytes? -/
theorem containsAny_any (s : ByteArray) (hs : s.size ≤ 256) (w : World) : Calls Tryz.prog 225 #[.string s, .string ⟨#[39, 10]⟩] w fun e w' => e = .returned (.bool (!decide (spn isIn s.data.toList = s.size))) ∧ Kp [] w w' := by
  have hle : spn isIn s.data.toList ≤ s.size := spn_le isIn s.data.toList
  have IA : Calls Tryz.prog 247 #[.string s, .string ⟨#[39, 10]⟩] w fun e w' => (∃ i : Int, e = .returned (.int .i64 i) ∧ (0 ≤ i ↔ spn isIn s.data.toList < s.size)) ∧ Kp [] w w' := by
    rcases Nat.lt_or_ge 8 s.size with h8 | h8
    · refine (Tryz.strings_IndexAny_long set256 s ⟨#[39, 10]⟩ w (by decide) h8 (by omega) (by decide) quote_ascii).mono ?_
      rintro e w' ⟨rfl, rfl⟩
      exact ⟨⟨_, rfl, idx_in _⟩, (Kp.alloc _ _).trans (Kp.alloc _ _) (by simp)⟩
    · exact indexAny_short s h8 w
  have HI := hide IA
  clear IA
  go_enter Tryz.func225, Tryz.ntmps225
  go_wp2_with fail
  refine (unhide HI).mono ?_
  rintro e w1 ⟨⟨i, rfl, hi⟩, hk⟩
  have HK := hide hk
  have HB : Hid (decide (0 ≤ i) = !decide (spn isIn s.data.toList = s.size)) := hide (by
    by_cases h : 0 ≤ i
    · have := hi.1 h
      rw [decide_eq_true h, decide_eq_false (by omega)]
      rfl
    · have : ¬ spn isIn s.data.toList < s.size := fun h2 => h (hi.2 h2)
      rw [decide_eq_false h, decide_eq_true (by omega)]
      rfl)
  clear hk hi HI
  go_wp2
  go_ret
  exact ⟨ret_bool (unhide HB), unhide HK⟩
theorem isText_any (s : ByteArray) (w : World) : Calls Tryz.prog 199 #[.string s] w fun e w' => e = .returned (.bool (isTx s)) ∧ Kp [] w w' := by
  unfold isTx
  by_cases h : s.size ≤ 256
  · rw [decide_eq_true h, Bool.true_and]
    have HC := hide (containsAny_any s h w)
    generalize decide (spn isIn s.data.toList = s.size) = b at *
    go_enter Tryz.func199, Tryz.ntmps199
    go_wp2_with fail
    refine (unhide HC).mono ?_
    rintro e w1 ⟨rfl, hk⟩
    have HK := hide hk
    clear hk
    go_wp2
    go_ret
    exact ⟨ret_bool (by simp), unhide HK⟩
  · rw [decide_eq_false h, Bool.false_and]
    go_enter Tryz.func199, Tryz.ntmps199
    go_wp2
    go_ret
    exact ⟨rfl, Kp.refl _ _⟩
end Go.Proofs.YtogklmljllocbabGreatDoor
namespace Go.Proofs.YtogklmljllocbabGreatDoor
open Go.RowKit

set_option maxHeartbeats 1000000 in
set_option maxRecDepth 100000 in
theorem isFree_any (s : ByteArray) (w : World) (hT : TbE w) : Calls Tryz.prog 228 #[.string s] w fun e w' => e = .returned (.bool (freeW s.data.toList)) ∧ w' = w := by
  have tl := toList_data s
  have HF := hide (fieldOf_any s w hT)
  clear hT
  unfold freeW
  generalize hl : s.data.toList = l at tl HF ⊢
  clear hl
  by_cases e1 : l = [111, 114]
  · have g1 : (s.toList = [111, 114]) = True := by rw [tl, e1]; simp
    have g2 : (s.toList == [111, 114]) = true := by rw [tl, e1]; decide
    rw [decide_eq_true e1]
    clear tl e1 HF
    go_enter Tryz.func228, Tryz.ntmps228
    go_wp2
    go_ret
    exact ⟨rfl, rfl⟩
  have g1 : (s.toList = [111, 114]) = False := by rw [tl]; simp [e1]
  have g2 : (s.toList == [111, 114]) = false := by rw [tl]; simpa using e1
  rw [decide_eq_false e1]
  by_cases e2 : l = [97, 110, 100]
  · have g3 : (s.toList = [97, 110, 100]) = True := by rw [tl, e2]; simp
    have g4 : (s.toList == [97, 110, 100]) = true := by rw [tl, e2]; decide
    rw [decide_eq_true e2]
    clear tl e1 e2 HF
    go_enter Tryz.func228, Tryz.ntmps228
    go_wp2
    go_ret
    exact ⟨rfl, rfl⟩
  have g3 : (s.toList = [97, 110, 100]) = False := by rw [tl]; simp [e2]
  have g4 : (s.toList == [97, 110, 100]) = false := by rw [tl]; simpa using e2
  rw [decide_eq_false e2]
  by_cases e3 : l = [110, 111, 116]
  · have g5 : (s.toList = [110, 111, 116]) = True := by rw [tl, e3]; simp
    have g6 : (s.toList == [110, 111, 116]) = true := by rw [tl, e3]; decide
    rw [decide_eq_true e3]
    clear tl e1 e2 e3 HF
    go_enter Tryz.func228, Tryz.ntmps228
    go_wp2
    go_ret
    exact ⟨rfl, rfl⟩
  have g5 : (s.toList = [110, 111, 116]) = False := by rw [tl]; simp [e3]
  have g6 : (s.toList == [110, 111, 116]) = false := by rw [tl]; simpa using e3
  rw [decide_eq_false e3]
  generalize fldOf l = F at *
  clear tl e1 e2 e3
  go_enter Tryz.func228, Tryz.ntmps228
  go_wp2_with fail
  refine (unhide HF).mono ?_
  rintro e w1 ⟨rfl, rfl⟩
  go_wp2
  go_ret
  exact ⟨ret_bool (by simp), rfl⟩
theorem isSg_no {s : ByteArray} (h : s.size = 0 ∨ 32 < s.size ∨ (∃ h : 0 < s.size, isLet s[0] = false) ∨ spn isAln s.data.toList ≠ s.size) : isSg s = false := by
  unfold isSg
  rcases h with h | h | ⟨h0, h⟩ | h
  · rw [decide_eq_false (by omega)]; rfl
  · rw [decide_eq_false (p := s.size ≤ 32) (by omega)]; simp
  · have e : s.data.toList.head? = some s[0] := by
      rw [List.head?_eq_getElem?, List.getElem?_eq_getElem (by simpa using h0)]; rfl
    rw [e]
    simp [h]
  · rw [decide_eq_false h]; simp
theorem isSg_yes {s : ByteArray} (h1 : 0 < s.size) (h2 : s.size ≤ 32) (h3 : isLet s[0] = true) (h4 : spn isAln s.data.toList = s.size) : isSg s = freeW s.data.toList := by
  unfold isSg
  have e : s.data.toList.head? = some s[0] := by
    rw [List.head?_eq_getElem?, List.getElem?_eq_getElem (by simpa using h1)]; rfl
  rw [e, decide_eq_true h1, decide_eq_true h2, decide_eq_true h4]
  simp [h3]
set_option maxHeartbeats 1000000 in
set_option maxRecDepth 100000 in
theorem isStage_any (s : ByteArray) (w : World) (hT : TbE w) (hs : s.size ≤ 9223372036854775807) : Calls Tryz.prog 200 #[.string s] w fun e w' => e = .returned (.bool (isSg s)) ∧ w' = w := by
  have HF := hide (isFree_any s w hT)
  clear hT
  by_cases h0 : s.size = 0
  · rw [isSg_no (Or.inl h0)]
    have g : ((s.size : Int) == 0) = true := by simp [h0]
    have g' : ((s.size : Int) = 0) = True := by simp [h0]
    clear h0 HF
    go_enter Tryz.func200, Tryz.ntmps200
    go_wp2
    go_ret
    exact ⟨rfl, rfl⟩
  have g0 : ((s.size : Int) == 0) = false := beq_eq_false_iff_ne.2 (by omega)
  by_cases h1 : 32 < s.size
  · rw [isSg_no (Or.inr (Or.inl h1))]
    go_enter Tryz.func200, Tryz.ntmps200
    go_wp2
    go_ret
    exact ⟨rfl, rfl⟩
  have hp : 0 < s.size := by omega
  have LT := hide (fun (k : Nat) (hk : k < s.size) => isLetter_any s[k] w)
  have DG := hide (fun (k : Nat) (hk : k < s.size) => isDigit_any s[k] w)
  by_cases h2 : isLet s[0] = true
  · generalize hR : isSg s = R
    have HR := hide hR
    have HY := hide (isSg_yes hp (by omega) h2)
    have L0 : Hid (Calls Tryz.prog 226 #[.int .u8 (s[0].toNat : Int)] w fun e w' => e = .returned (.bool true) ∧ w' = w) := hide (by have := unhide LT 0 hp; rw [h2] at this; exact this)
    clear hR h2
    go_enter Tryz.func200, Tryz.ntmps200
    go_wp2_with fail
    refine (unhide L0).mono ?_
    rintro e w1 ⟨rfl, rfl⟩
    go_wp2
    go_loopw [20] (fun i wr => wr = w1 ∧ ∃ k : Nat, k ≤ s.size ∧ Hid (k ≤ spn isAln s.data.toList) ∧ i = .int .i64 (k : Int)) (fun i _ => s.size - (intOf i).toNat)
    case atStart => exact ⟨rfl, 0, Nat.zero_le _, hide (Nat.zero_le _), rfl⟩
    case round =>
      obtain ⟨rfl, k, hk, HN, rfl⟩ := hrel
      by_cases hlt : k < s.size
      · have A1 := hide (unhide LT k hlt)
        have A2 := hide (unhide DG k hlt)
        have hmo : (isLet s[k] || isDig s[k]) = true → k + 1 ≤ spn isAln s.data.toList := fun h => spn_more (unhide HN) (by simpa using hlt) h
        have hst : (isLet s[k] || isDig s[k]) = false → k = spn isAln s.data.toList := fun h => spn_stop (unhide HN) (fun _ => h)
        cases c1 : isLet s[k] with
        | true =>
          have HN2 : Hid (k + 1 ≤ spn isAln s.data.toList) := hide (hmo (by rw [c1]; rfl))
          rw [c1] at A1
          clear hmo hst c1 A2
          go_wp2_with fail
          refine (unhide A1).mono ?_
          rintro e w2 ⟨rfl, rfl⟩
          go_wp2
          go_roundw
          case rel => exact ⟨trivial, k + 1, by omega, HN2, by go_num⟩
          case measure => simp [intOf]; omega
        | false =>
          rw [c1] at A1
          cases c2 : isDig s[k] with
          | true =>
            have HN2 : Hid (k + 1 ≤ spn isAln s.data.toList) := hide (hmo (by rw [c1, c2]; rfl))
            rw [c2] at A2
            clear hmo hst c1 c2
            go_wp2_with fail
            refine (unhide A1).mono ?_
            rintro e w2 ⟨rfl, rfl⟩
            go_wp2_with fail
            refine (unhide A2).mono ?_
            rintro e w3 ⟨rfl, rfl⟩
            go_wp2
            go_roundw
            case rel => exact ⟨trivial, k + 1, by omega, HN2, by go_num⟩
            case measure => simp [intOf]; omega
          | false =>
            have HS : Hid (R = false) := hide (by
              have := hst (by rw [c1, c2]; rfl)
              rw [← unhide HR]
              exact isSg_no (Or.inr (Or.inr (Or.inr (by omega)))))
            rw [c2] at A2
            clear hmo hst c1 c2
            go_wp2_with fail
            refine (unhide A1).mono ?_
            rintro e w2 ⟨rfl, rfl⟩
            go_wp2_with fail
            refine (unhide A2).mono ?_
            rintro e w3 ⟨rfl, rfl⟩
            go_wp2
            go_ret
            exact ⟨ret_bool (unhide HS).symm, rfl⟩
      · obtain rfl : k = s.size := by omega
        have HS : Hid (R = freeW s.data.toList) := hide (by
          have h1 := unhide HN
          have h2 : spn isAln s.data.toList ≤ s.size := spn_le isAln s.data.toList
          rw [← unhide HR]
          exact unhide HY (by omega))
        go_wp2_with fail
        refine (unhide HF).mono ?_
        rintro e w2 ⟨rfl, rfl⟩
        go_wp2
        go_ret
        exact ⟨ret_bool (unhide HS).symm, rfl⟩
  · have h2' : isLet s[0] = false := by simpa using h2
    rw [isSg_no (Or.inr (Or.inr (Or.inl ⟨hp, h2'⟩)))]
    have L0 : Hid (Calls Tryz.prog 226 #[.int .u8 (s[0].toNat : Int)] w fun e w' => e = .returned (.bool false) ∧ w' = w) := hide (by have := unhide LT 0 hp; rw [h2'] at this; exact this)
    clear h2 h2'
    go_enter Tryz.func200, Tryz.ntmps200
    go_wp2_with fail
    refine (unhide L0).mono ?_
    rintro e w1 ⟨rfl, rfl⟩
    go_wp2
    go_ret
    exact ⟨rfl, rfl⟩
end Go.Proofs.YtogklmljllocbabGreatDoor
