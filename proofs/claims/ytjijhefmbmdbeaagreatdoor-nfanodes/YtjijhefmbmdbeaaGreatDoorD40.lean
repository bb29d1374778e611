/-
  The document's tokens: Written.
-/
import Derived.Test.YtjijhefmbmdbeaaGreatDoorD37
import Derived.Test.YtjijhefmbmdbeaaGreatDoorD39
import Derived.Test.YtjijhefmbmdbeaaGreatDoorD20
import Derived.Test.YtjijhefmbmdbeaaGreatDoorD25
import Derived.BigQuiet
import Derived.Deep.RegionWith
import Derived.Test.YtjijhefmbmdbeaaGreatDoorD12
namespace Go.Proofs.YtjijhefmbmdbeaaGreatDoor
open Go.RowKit

theorem tkR_two {l : List UInt8} {t : Tk} {n : Nat} (h : tkR l = some (t, n)) (hk : t.kd = 2) : t.s.size = 0 := by
  cases l with
  | nil => cases h
  | cons b r =>
    rw [tkR] at h
    split at h
    · unfold tkW at h
      split at h
      · cases h
      · simp only [Option.some.injEq, Prod.mk.injEq] at h
        rw [← h.1] at hk
        simp at hk
    · split at h
      · unfold tkN at h
        split at h
        · cases h
        · split at h
          · cases h
          · simp only [Option.some.injEq, Prod.mk.injEq] at h
            rw [← h.1]
            rfl
      · split at h
        · unfold tkT at h
          split at h
          · cases h
          · split at h
            · simp only [Option.some.injEq, Prod.mk.injEq] at h
              rw [← h.1] at hk
              simp at hk
            · cases h
        · unfold tkS at h
          split at h
          · simp only [Option.some.injEq, Prod.mk.injEq] at h
            rw [← h.1] at hk
            simp at hk
          · split at h
            · simp only [Option.some.injEq, Prod.mk.injEq] at h
              rw [← h.1] at hk
              simp at hk
            · cases h
/-- When a token can't come out. -/
theorem wr_no {t : Tk} (h : (t.kd = 2 ∧ (t.n < 0 ∨ ¬ t.s.size = 0)) ∨ spell t = [] ∨ 258 < (spell t).length ∨ (¬ t.kd = 2 ∧ ¬ t.n = 0)) : wrOk t = false := by
  rw [Bool.eq_false_iff]
  intro hw
  have h1 := (wrOk_iff t).1 hw
  have hf := wr_facts hw
  have h2 := tkR_some h1.2
  have e1 : (t.out 0).kd = t.kd := rfl
  have e2 : (t.out 0).n = t.n := rfl
  rcases h with ⟨hk, hn | hs⟩ | hs | hs | ⟨hk, hn⟩
  · omega
  · exact hs (tkR_two (t := t.out 0) h1.2 hk)
  · rw [hs] at h1; cases h1.2
  · omega
  · exact hn (by have := h2.2.2.2.2.2.2.2.2.2.2 (by rw [e1]; exact hk); rw [e2] at this; exact this)
/-- What the document asks of a token that is read from what it is written as. -/
theorem wr_ask {t u : Tk} {m : Nat} (h : tkR (spell t) = some (u, m)) : wrOk t = (((m : Int) == ((txt (spell t)).size : Int)) && (u.kd == t.kd && (u.s.toList == t.s.toList && u.n == t.n))) := by
  have h2 := tkR_some h
  cases hw : wrOk t with
  | true =>
    have h1 := ((wrOk_iff t).1 hw).2
    rw [h] at h1
    simp only [Option.some.injEq, Prod.mk.injEq] at h1
    rw [h1.1, h1.2, txt_size]
    simp [Tk.out]
  | false =>
    symm
    rw [Bool.eq_false_iff]
    intro hc
    simp only [Bool.and_eq_true, beq_iff_eq] at hc
    obtain ⟨c1, c2, c3, c4⟩ := hc
    rw [ByteArray.toList_eq, ByteArray.toList_eq] at c3
    have hu : u = t.out 0 := by
      apply (tkEq_iff _ _).1
      unfold tkEq Tk.out
      simp [c2, c3, c4, h2.2.2.2.1]
    have : wrOk t = true := by
      rw [wrOk_iff]
      have c3' : u.s = t.s := by rw [← txt_self u.s, ← txt_self t.s, c3]
      exact ⟨by rw [← c3']; exact h2.2.2.2.2.2.2.1, by rw [h, hu]; congr 2; rw [txt_size] at c1; omega⟩
    rw [hw] at this
    cases this
theorem emp_eq (x : ByteArray) : (x.toList == (⟨#[]⟩ : ByteArray).toList) = x.toList.isEmpty := by
  rw [show (⟨#[]⟩ : ByteArray).toList = [] by rw [ByteArray.toList_eq]]
  cases x.toList <;> rfl
set_option maxHeartbeats 2000000 in
set_option maxRecDepth 100000 in
theorem rWritten_any (t : Tk) (w : World) (hs : t.s.size ≤ 140737488351232) (h0 : -9223372036854775808 ≤ t.n) (h1 : t.n ≤ 9223372036854775807) :
    Calls Tryz.prog 44 #[t.v] w fun e w' => ∃ b, e = .returned (.tuple #[.string b, .bool (wrOk t)]) ∧ (wrOk t = true → b = txt (spell t)) ∧ Below w.heap.size w w' := by
  have HNO := hide (wr_no (t := t))
  have HAS := hide (fun u m => wr_ask (t := t) (u := u) (m := m))
  have ON := fun W (h : 0 < (txt (spell t)).size) (h' : (txt (spell t)).size ≤ 140737488351232) => rOne_any (txt (spell t)) 0 W h h'
  rw [txt_list, List.drop_zero] at ON
  have HE : Hid ((txt (spell t)).toList.isEmpty = (spell t).isEmpty) := hide (by rw [ByteArray.toList_eq]; rfl)
  have HSZ : Hid ((txt (spell t)).size = (spell t).length) := hide rfl
  have HSP : Hid (spell t = if t.kd = 2 then Lib.itoa t.n else if t.kd = 3 then 39 :: (t.s.data.toList ++ [39]) else t.s.data.toList) := hide rfl
  have HON := hide ON
  clear ON
  have HOKX0 : Hid (wrOk t = wrOk t) := hide rfl
  generalize hOKe : wrOk t = OK at *
  have HOKX := hide hOKe
  clear hOKe HOKX0
  generalize hX : spell t = sp at *
  have HX := hide hX
  clear hX
  obtain ⟨k, s, n, p⟩ := t
  unfold Tk.v
  dsimp only at *
  by_cases hk2 : k = 2
  · subst hk2
    by_cases hbad : n < 0 ∨ ¬ s.size = 0
    · have hok := unhide HNO (Or.inl ⟨rfl, hbad⟩)
      subst hok
      have HBD := hide hbad
      clear hbad HNO HAS HON
      by_cases hn : n < 0
      · go_enter Tryz.func44, Tryz.ntmps44
        go_wp2
        go_ret2
        exact ⟨⟨_, rfl⟩, (Below.refl _ _).alloc (Nat.le_refl _) _⟩
      · have hs0 : ¬ s.size = 0 := (unhide HBD).resolve_left hn
        have ge : s.toList.isEmpty = false := by
          rw [ByteArray.toList_eq, List.isEmpty_eq_false_iff]
          intro e
          have := size_list s
          rw [e] at this
          simp at this
          omega
        clear hs0
        go_enter Tryz.func44, Tryz.ntmps44
        go_wp2
        go_ret2
        exact ⟨⟨_, rfl⟩, (Below.refl _ _).alloc (Nat.le_refl _) _⟩
    · have hn : 0 ≤ n := by omega
      have hs0 : s.size = 0 := by omega
      obtain rfl := size_zero hs0
      clear hbad hs0
      obtain ⟨N, rfl⟩ := Int.eq_ofNat_of_zero_le hn
      have hsp := unhide HSP
      rw [if_pos rfl, itoa_nat] at hsp
      have DG := fun W => rDigits_any N W (by omega)
      rw [← hsp] at DG
      have HDG := hide DG
      clear DG hsp HSP hs
      by_cases hem : sp = []
      · have hok := unhide HNO (Or.inr (Or.inl hem))
        subst hok
        have ge : (txt sp).toList.isEmpty = true := by rw [unhide HE, hem]; rfl
        clear hem HNO HAS HON
        go_enter Tryz.func44, Tryz.ntmps44
        go_wp2_with fail
        refine (unhide HDG _).mono ?_
        rintro e w1 ⟨rfl, hb1⟩
        have q1 : CBox w.heap.size #[.int .i64 2, .string ⟨#[]⟩, .int .i64 (N : Int), .int .i64 p] 74 w1 := CBox.kp (CBox.new w _ _) (Kp.ofBelow hb1) (by simp)
        have c0 := CBox.cell (i := 0) (v := .int .i64 2) q1 rfl
        have c2 := CBox.cell (i := 2) (v := .int .i64 (N : Int)) q1 rfl
        have HB1 : Hid (Below w.heap.size w w1) := hide (((Below.refl _ _).alloc (Nat.le_refl _) _).trans (hb1.mono (by simp)))
        clear hb1 q1
        go_wp2
        go_ret2
        first | exact ⟨⟨_, rfl⟩, unhide HB1⟩ | exact ⟨_, rfl, fun h => absurd h (by simp), unhide HB1⟩ | exact ⟨rfl, fun h => absurd h (by simp), unhide HB1⟩
      · have ge : (txt sp).toList.isEmpty = false := by rw [unhide HE]; simpa using hem
        by_cases hbig : 258 < (txt sp).size
        · have hok := unhide HNO (Or.inr (Or.inr (Or.inl (by rw [unhide HSZ] at hbig; exact hbig))))
          subst hok
          clear hem HNO HAS HON
          go_enter Tryz.func44, Tryz.ntmps44
          go_wp2_with fail
          refine (unhide HDG _).mono ?_
          rintro e w1 ⟨rfl, hb1⟩
          have q1 : CBox w.heap.size #[.int .i64 2, .string ⟨#[]⟩, .int .i64 (N : Int), .int .i64 p] 74 w1 := CBox.kp (CBox.new w _ _) (Kp.ofBelow hb1) (by simp)
          have c0 := CBox.cell (i := 0) (v := .int .i64 2) q1 rfl
          have c2 := CBox.cell (i := 2) (v := .int .i64 (N : Int)) q1 rfl
          have HB1 : Hid (Below w.heap.size w w1) := hide (((Below.refl _ _).alloc (Nat.le_refl _) _).trans (hb1.mono (by simp)))
          clear hb1 q1
          go_wp2
          go_ret2
          first | exact ⟨⟨_, rfl⟩, unhide HB1⟩ | exact ⟨_, rfl, fun h => absurd h (by simp), unhide HB1⟩ | exact ⟨rfl, fun h => absurd h (by simp), unhide HB1⟩
        · skip
          have hp : 0 < (txt sp).size := by rw [unhide HSZ]; exact List.length_pos_iff.2 hem
          clear hem
          go_enter Tryz.func44, Tryz.ntmps44
          go_wp2_with fail
          refine (unhide HDG _).mono ?_
          rintro e w1 ⟨rfl, hb1⟩
          have q1 : CBox w.heap.size #[.int .i64 2, .string ⟨#[]⟩, .int .i64 (N : Int), .int .i64 p] 74 w1 := CBox.kp (CBox.new w _ _) (Kp.ofBelow hb1) (by simp)
          have c0 := CBox.cell (i := 0) (v := .int .i64 2) q1 rfl
          have c2 := CBox.cell (i := 2) (v := .int .i64 (N : Int)) q1 rfl
          have hB1 : Below w.heap.size w w1 := ((Below.refl _ _).alloc (Nat.le_refl _) _).trans (hb1.mono (by simp))
          have HB1 := hide hB1
          have Q1 := hide q1
          clear hb1 q1 hB1
          go_wp2_with fail
          refine (unhide HON _ hp (by omega)).mono ?_
          rintro e w2 ⟨uk, us, un, up, E, ok, rfl, hone, hb2⟩
          have q : CBox w.heap.size #[.int .i64 2, .string ⟨#[]⟩, .int .i64 (N : Int), .int .i64 p] 74 w2 := CBox.kp (unhide Q1) (Kp.ofBelow hb2) (by simp)
          have hB : Below w.heap.size w w2 := (unhide HB1).trans (hb2.mono (unhide HB1).size)
          have q3 : CBox w.heap.size #[.int .i64 2, .string ⟨#[]⟩, .int .i64 (N : Int), .int .i64 p] 74 (w2.alloc (.cells #[.int .i64 uk, .string us, .int .i64 un, .int .i64 up] 74)) := CBox.kp q (Kp.alloc _ _) (by simp)
          have q4 : CBox w2.heap.size #[.int .i64 uk, .string us, .int .i64 un, .int .i64 up] 74 (w2.alloc (.cells #[.int .i64 uk, .string us, .int .i64 un, .int .i64 up] 74)) := CBox.new w2 _ _
          have HBF : Hid (Below w.heap.size w (w2.alloc (.cells #[.int .i64 uk, .string us, .int .i64 un, .int .i64 up] 74))) := hide (hB.alloc hB.size _)
          have Q3 := hide q3
          have Q4 := hide q4
          clear q q3 q4 hb2 hB
          go_wp2_with fail
          generalize w2.alloc (.cells #[.int .i64 uk, .string us, .int .i64 un, .int .i64 up] 74) = W at *
          have a0 := CBox.cell (i := 0) (v := .int .i64 2) (unhide Q3) rfl
          have a1 := CBox.cell (i := 1) (v := .string ⟨#[]⟩) (unhide Q3) rfl
          have a2 := CBox.cell (i := 2) (v := .int .i64 (N : Int)) (unhide Q3) rfl
          have b0 := CBox.cell (i := 0) (v := .int .i64 uk) (unhide Q4) rfl
          have b1 := CBox.cell (i := 1) (v := .string us) (unhide Q4) rfl
          have b2 := CBox.cell (i := 2) (v := .int .i64 un) (unhide Q4) rfl
          clear Q3 Q4 HON HNO
          rcases hone with ⟨rfl, hnone⟩ | ⟨rfl, u, m, hsome, hTe, rfl⟩
          · have hok : OK = false := by
              have : wrOk ⟨2, ⟨#[]⟩, (N : Int), p⟩ = false := wrOk_none _ (by rw [unhide HX]; exact hnone)
              rw [← unhide HOKX]; exact this
            subst hok
            clear hnone HAS
            go_quiet (fail)
            go_wp2
            go_ret2
            exact ⟨_, rfl, fun h => absurd h (by simp), bel_drewN (unhide HBF) _⟩
          · have hok := unhide HAS u m hsome
            unfold Tk.out at hTe
            simp only [Tk.mk.injEq] at hTe
            obtain ⟨e0, e1, e2, _⟩ := hTe
            rw [← e0, ← e1, ← e2] at hok
            rw [show ((0 + m : Nat) : Int) = (m : Int) by omega]
            rw [emp_eq] at hok
            have HOK2 := hide hok
            clear hok e0 e1 e2 hsome HAS
            have LV : ∀ A B C D : Bool, ((m : Int) == ((txt sp).size : Int)) = A → (uk == 2) = B → us.toList.isEmpty = C → (un == (N : Int)) = D → OK = (A && (B && (C && D))) := fun A B C D h1 h2 h3 h4 => by rw [unhide HOK2, h1, h2, h3, h4]
            have HLV := hide LV
            clear LV HOK2
            generalize hA : ((m : Int) == ((txt sp).size : Int)) = A at *
            generalize hB : (uk == 2) = B at *
            generalize hC : us.toList.isEmpty = C at *
            generalize hD : (un == (N : Int)) = D at *
            have hok := unhide HLV A B C D rfl rfl rfl rfl
            clear HLV
            cases A with
            | false =>
              rw [Bool.false_and] at hok
              subst hok
              go_quiet (fail)
              go_wp2
              go_ret2
              exact ⟨_, rfl, fun h => absurd h (by simp), bel_drewN (unhide HBF) _⟩
            | true =>
              rw [Bool.true_and] at hok
              cases B with
              | false =>
                rw [Bool.false_and] at hok
                subst hok
                go_quiet (fail)
                go_wp2
                go_ret2
                exact ⟨_, rfl, fun h => absurd h (by simp), bel_drewN (unhide HBF) _⟩
              | true =>
                rw [Bool.true_and] at hok
                cases C with
                | false =>
                  rw [Bool.false_and] at hok
                  subst hok
                  go_quiet (fail)
                  go_wp2
                  go_ret2
                  exact ⟨_, rfl, fun h => absurd h (by simp), bel_drewN (unhide HBF) _⟩
                | true =>
                  rw [Bool.true_and] at hok
                  subst hok
                  go_quiet (fail)
                  go_wp2
                  go_ret2
                  exact ⟨_, by first | rfl | rw [hD], fun _ => rfl, bel_drewN (unhide HBF) _⟩
  · have g2 : (k == 2) = false := by simpa using hk2
    have g2' : (k != 2) = true := by simpa using hk2
    by_cases hk3 : k = 3
    · subst hk3
      have hsp := unhide HSP
      rw [if_neg (by omega), if_pos rfl] at hsp
      have hX2 : (⟨#[39]⟩ ++ s ++ ⟨#[39]⟩ : ByteArray) = txt sp := by rw [hsp]; exact quo_size s
      have HX2 := hide hX2
      clear hX2 hsp HSP g2 g2'
      have b1 : (9223372036854775807 < (⟨#[39]⟩ : ByteArray).size + s.size) = False := eq_false (by rw [show (⟨#[39]⟩ : ByteArray).size = 1 from rfl]; omega)
      have b2 : (9223372036854775807 < (⟨#[39]⟩ ++ s : ByteArray).size + (⟨#[39]⟩ : ByteArray).size) = False := eq_false (by rw [ByteArray.size_append, show (⟨#[39]⟩ : ByteArray).size = 1 from rfl]; omega)
      by_cases hem : sp = []
      · have hok := unhide HNO (Or.inr (Or.inl hem))
        subst hok
        have ge : (txt sp).toList.isEmpty = true := by rw [unhide HE, hem]; rfl
        clear hem HNO HAS HON
        go_enter Tryz.func44, Tryz.ntmps44
        go_upto_region 8 with fail
        rw [unhide HX2]
        go_wp2
        go_ret2
        first | exact ⟨⟨_, rfl⟩, (Below.refl _ _).alloc (Nat.le_refl _) _⟩ | exact ⟨_, rfl, fun h => absurd h (by simp), (Below.refl _ _).alloc (Nat.le_refl _) _⟩ | exact ⟨rfl, fun h => absurd h (by simp), (Below.refl _ _).alloc (Nat.le_refl _) _⟩
      · have ge : (txt sp).toList.isEmpty = false := by rw [unhide HE]; simpa using hem
        by_cases hbig : 258 < (txt sp).size
        · have hok := unhide HNO (Or.inr (Or.inr (Or.inl (by rw [unhide HSZ] at hbig; exact hbig))))
          subst hok
          clear hem HNO HAS HON
          go_enter Tryz.func44, Tryz.ntmps44
          go_upto_region 8 with fail
          rw [unhide HX2]
          go_wp2
          go_ret2
          first | exact ⟨⟨_, rfl⟩, (Below.refl _ _).alloc (Nat.le_refl _) _⟩ | exact ⟨_, rfl, fun h => absurd h (by simp), (Below.refl _ _).alloc (Nat.le_refl _) _⟩ | exact ⟨rfl, fun h => absurd h (by simp), (Below.refl _ _).alloc (Nat.le_refl _) _⟩
        · by_cases hnz : n = 0
          rotate_left 1
          · have hok := unhide HNO (Or.inr (Or.inr (Or.inr ⟨hk2, hnz⟩)))
            subst hok
            have gn : (n != 0) = true := by simpa using hnz
            clear hem HNO HAS HON hnz
            go_enter Tryz.func44, Tryz.ntmps44
            go_upto_region 8 with fail
            rw [unhide HX2]
            go_wp2
            go_ret2
            first | exact ⟨⟨_, rfl⟩, (Below.refl _ _).alloc (Nat.le_refl _) _⟩ | exact ⟨_, rfl, fun h => absurd h (by simp), (Below.refl _ _).alloc (Nat.le_refl _) _⟩ | exact ⟨rfl, fun h => absurd h (by simp), (Below.refl _ _).alloc (Nat.le_refl _) _⟩
          have gn : (n != 0) = false := by simp [hnz]
          clear hnz
          have hp : 0 < (txt sp).size := by rw [unhide HSZ]; exact List.length_pos_iff.2 hem
          clear hem
          go_enter Tryz.func44, Tryz.ntmps44
          go_upto_region 8 with fail
          rw [unhide HX2]
          go_wp2_with fail
          refine (unhide HON _ hp (by omega)).mono ?_
          rintro e w2 ⟨uk, us, un, up, E, ok, rfl, hone, hb2⟩
          have q : CBox w.heap.size #[.int .i64 3, .string s, .int .i64 n, .int .i64 p] 74 w2 := CBox.kp (CBox.new w _ _) (Kp.ofBelow hb2) (by simp)
          have hB : Below w.heap.size w w2 := ((Below.refl _ _).alloc (Nat.le_refl _) _).trans (hb2.mono (by simp))
          have q3 : CBox w.heap.size #[.int .i64 3, .string s, .int .i64 n, .int .i64 p] 74 (w2.alloc (.cells #[.int .i64 uk, .string us, .int .i64 un, .int .i64 up] 74)) := CBox.kp q (Kp.alloc _ _) (by simp)
          have q4 : CBox w2.heap.size #[.int .i64 uk, .string us, .int .i64 un, .int .i64 up] 74 (w2.alloc (.cells #[.int .i64 uk, .string us, .int .i64 un, .int .i64 up] 74)) := CBox.new w2 _ _
          have HBF : Hid (Below w.heap.size w (w2.alloc (.cells #[.int .i64 uk, .string us, .int .i64 un, .int .i64 up] 74))) := hide (hB.alloc hB.size _)
          have Q3 := hide q3
          have Q4 := hide q4
          clear q q3 q4 hb2 hB
          go_wp2_with fail
          generalize w2.alloc (.cells #[.int .i64 uk, .string us, .int .i64 un, .int .i64 up] 74) = W at *
          have a0 := CBox.cell (i := 0) (v := .int .i64 3) (unhide Q3) rfl
          have a1 := CBox.cell (i := 1) (v := .string s) (unhide Q3) rfl
          have a2 := CBox.cell (i := 2) (v := .int .i64 n) (unhide Q3) rfl
          have b0 := CBox.cell (i := 0) (v := .int .i64 uk) (unhide Q4) rfl
          have b1 := CBox.cell (i := 1) (v := .string us) (unhide Q4) rfl
          have b2 := CBox.cell (i := 2) (v := .int .i64 un) (unhide Q4) rfl
          clear Q3 Q4 HON HNO
          rcases hone with ⟨rfl, hnone⟩ | ⟨rfl, u, m, hsome, hTe, rfl⟩
          · have hok : OK = false := by
              have : wrOk ⟨3, s, n, p⟩ = false := wrOk_none _ (by rw [unhide HX]; exact hnone)
              rw [← unhide HOKX]; exact this
            subst hok
            clear hnone HAS
            go_quiet (fail)
            go_wp2
            go_ret2
            exact ⟨_, rfl, fun h => absurd h (by simp), bel_drewN (unhide HBF) _⟩
          · have hok := unhide HAS u m hsome
            unfold Tk.out at hTe
            simp only [Tk.mk.injEq] at hTe
            obtain ⟨e0, e1, e2, _⟩ := hTe
            rw [← e0, ← e1, ← e2] at hok
            rw [show ((0 + m : Nat) : Int) = (m : Int) by omega]
            have HOK2 := hide hok
            clear hok e0 e1 e2 hsome HAS
            have LV : ∀ A B C D : Bool, ((m : Int) == ((txt sp).size : Int)) = A → (uk == 3) = B → (us.toList == s.toList) = C → (un == n) = D → OK = (A && (B && (C && D))) := fun A B C D h1 h2 h3 h4 => by rw [unhide HOK2, h1, h2, h3, h4]
            have HLV := hide LV
            clear LV HOK2
            generalize hA : ((m : Int) == ((txt sp).size : Int)) = A at *
            generalize hB : (uk == 3) = B at *
            generalize hC : (us.toList == s.toList) = C at *
            generalize hD : (un == n) = D at *
            have hok := unhide HLV A B C D rfl rfl rfl rfl
            clear HLV
            cases A with
            | false =>
              rw [Bool.false_and] at hok
              subst hok
              go_quiet (fail)
              go_wp2
              go_ret2
              exact ⟨_, rfl, fun h => absurd h (by simp), bel_drewN (unhide HBF) _⟩
            | true =>
              rw [Bool.true_and] at hok
              cases B with
              | false =>
                rw [Bool.false_and] at hok
                subst hok
                go_quiet (fail)
                go_wp2
                go_ret2
                exact ⟨_, rfl, fun h => absurd h (by simp), bel_drewN (unhide HBF) _⟩
              | true =>
                rw [Bool.true_and] at hok
                cases C with
                | false =>
                  rw [Bool.false_and] at hok
                  subst hok
                  go_quiet (fail)
                  go_wp2
                  go_ret2
                  exact ⟨_, rfl, fun h => absurd h (by simp), bel_drewN (unhide HBF) _⟩
                | true =>
                  rw [Bool.true_and] at hok
                  subst hok
                  go_quiet (fail)
                  go_wp2
                  go_ret2
                  exact ⟨_, by first | rfl | rw [hD], fun _ => rfl, bel_drewN (unhide HBF) _⟩
    · have g3 : (k == 3) = false := by simpa using hk3
      have hsp := unhide HSP
      rw [if_neg hk2, if_neg hk3] at hsp
      have hX2 : s = txt sp := by rw [hsp, txt_self]
      subst hX2
      clear hsp HSP hk3
      by_cases hem : sp = []
      · have hok := unhide HNO (Or.inr (Or.inl hem))
        subst hok
        have ge : (txt sp).toList.isEmpty = true := by rw [unhide HE, hem]; rfl
        clear hem HNO HAS HON
        go_enter Tryz.func44, Tryz.ntmps44
        go_upto_region 8 with fail
        go_wp2
        go_ret2
        first | exact ⟨⟨_, rfl⟩, (Below.refl _ _).alloc (Nat.le_refl _) _⟩ | exact ⟨_, rfl, fun h => absurd h (by simp), (Below.refl _ _).alloc (Nat.le_refl _) _⟩ | exact ⟨rfl, fun h => absurd h (by simp), (Below.refl _ _).alloc (Nat.le_refl _) _⟩
      · have ge : (txt sp).toList.isEmpty = false := by rw [unhide HE]; simpa using hem
        by_cases hbig : 258 < (txt sp).size
        · have hok := unhide HNO (Or.inr (Or.inr (Or.inl (by rw [unhide HSZ] at hbig; exact hbig))))
          subst hok
          clear hem HNO HAS HON
          go_enter Tryz.func44, Tryz.ntmps44
          go_upto_region 8 with fail
          go_wp2
          go_ret2
          first | exact ⟨⟨_, rfl⟩, (Below.refl _ _).alloc (Nat.le_refl _) _⟩ | exact ⟨_, rfl, fun h => absurd h (by simp), (Below.refl _ _).alloc (Nat.le_refl _) _⟩ | exact ⟨rfl, fun h => absurd h (by simp), (Below.refl _ _).alloc (Nat.le_refl _) _⟩
        · by_cases hnz : n = 0
          rotate_left 1
          · have hok := unhide HNO (Or.inr (Or.inr (Or.inr ⟨hk2, hnz⟩)))
            subst hok
            have gn : (n != 0) = true := by simpa using hnz
            clear hem HNO HAS HON hnz
            go_enter Tryz.func44, Tryz.ntmps44
            go_upto_region 8 with fail
            go_wp2
            go_ret2
            first | exact ⟨⟨_, rfl⟩, (Below.refl _ _).alloc (Nat.le_refl _) _⟩ | exact ⟨_, rfl, fun h => absurd h (by simp), (Below.refl _ _).alloc (Nat.le_refl _) _⟩ | exact ⟨rfl, fun h => absurd h (by simp), (Below.refl _ _).alloc (Nat.le_refl _) _⟩
          have gn : (n != 0) = false := by simp [hnz]
          clear hnz
          have hp : 0 < (txt sp).size := by rw [unhide HSZ]; exact List.length_pos_iff.2 hem
          clear hem
          go_enter Tryz.func44, Tryz.ntmps44
          go_upto_region 8 with fail
          go_wp2_with fail
          refine (unhide HON _ hp (by omega)).mono ?_
          rintro e w2 ⟨uk, us, un, up, E, ok, rfl, hone, hb2⟩
          have q : CBox w.heap.size #[.int .i64 k, .string (txt sp), .int .i64 n, .int .i64 p] 74 w2 := CBox.kp (CBox.new w _ _) (Kp.ofBelow hb2) (by simp)
          have hB : Below w.heap.size w w2 := ((Below.refl _ _).alloc (Nat.le_refl _) _).trans (hb2.mono (by simp))
          have q3 : CBox w.heap.size #[.int .i64 k, .string (txt sp), .int .i64 n, .int .i64 p] 74 (w2.alloc (.cells #[.int .i64 uk, .string us, .int .i64 un, .int .i64 up] 74)) := CBox.kp q (Kp.alloc _ _) (by simp)
          have q4 : CBox w2.heap.size #[.int .i64 uk, .string us, .int .i64 un, .int .i64 up] 74 (w2.alloc (.cells #[.int .i64 uk, .string us, .int .i64 un, .int .i64 up] 74)) := CBox.new w2 _ _
          have HBF : Hid (Below w.heap.size w (w2.alloc (.cells #[.int .i64 uk, .string us, .int .i64 un, .int .i64 up] 74))) := hide (hB.alloc hB.size _)
          have Q3 := hide q3
          have Q4 := hide q4
          clear q q3 q4 hb2 hB
          go_wp2_with fail
          generalize w2.alloc (.cells #[.int .i64 uk, .string us, .int .i64 un, .int .i64 up] 74) = W at *
          have a0 := CBox.cell (i := 0) (v := .int .i64 k) (unhide Q3) rfl
          have a1 := CBox.cell (i := 1) (v := .string (txt sp)) (unhide Q3) rfl
          have a2 := CBox.cell (i := 2) (v := .int .i64 n) (unhide Q3) rfl
          have b0 := CBox.cell (i := 0) (v := .int .i64 uk) (unhide Q4) rfl
          have b1 := CBox.cell (i := 1) (v := .string us) (unhide Q4) rfl
          have b2 := CBox.cell (i := 2) (v := .int .i64 un) (unhide Q4) rfl
          clear Q3 Q4 HON HNO
          rcases hone with ⟨rfl, hnone⟩ | ⟨rfl, u, m, hsome, hTe, rfl⟩
          · have hok : OK = false := by
              have : wrOk ⟨k, txt sp, n, p⟩ = false := wrOk_none _ (by rw [unhide HX]; exact hnone)
              rw [← unhide HOKX]; exact this
            subst hok
            clear hnone HAS
            go_quiet (fail)
            go_wp2
            go_ret2
            exact ⟨_, rfl, fun h => absurd h (by simp), bel_drewN (unhide HBF) _⟩
          · have hok := unhide HAS u m hsome
            unfold Tk.out at hTe
            simp only [Tk.mk.injEq] at hTe
            obtain ⟨e0, e1, e2, _⟩ := hTe
            rw [← e0, ← e1, ← e2] at hok
            rw [show ((0 + m : Nat) : Int) = (m : Int) by omega]
            have HOK2 := hide hok
            clear hok e0 e1 e2 hsome HAS
            have LV : ∀ A B C D : Bool, ((m : Int) == ((txt sp).size : Int)) = A → (uk == k) = B → (us.toList == (txt sp).toList) = C → (un == n) = D → OK = (A && (B && (C && D))) := fun A B C D h1 h2 h3 h4 => by rw [unhide HOK2, h1, h2, h3, h4]
            have HLV := hide LV
            clear LV HOK2
            generalize hA : ((m : Int) == ((txt sp).size : Int)) = A at *
            generalize hB : (uk == k) = B at *
            generalize hC : (us.toList == (txt sp).toList) = C at *
            generalize hD : (un == n) = D at *
            have hok := unhide HLV A B C D rfl rfl rfl rfl
            clear HLV
            cases A with
            | false =>
              rw [Bool.false_and] at hok
              subst hok
              go_quiet (fail)
              go_wp2
              go_ret2
              exact ⟨_, rfl, fun h => absurd h (by simp), bel_drewN (unhide HBF) _⟩
            | true =>
              rw [Bool.true_and] at hok
              cases B with
              | false =>
                rw [Bool.false_and] at hok
                subst hok
                go_quiet (fail)
                go_wp2
                go_ret2
                exact ⟨_, rfl, fun h => absurd h (by simp), bel_drewN (unhide HBF) _⟩
              | true =>
                rw [Bool.true_and] at hok
                cases C with
                | false =>
                  rw [Bool.false_and] at hok
                  subst hok
                  go_quiet (fail)
                  go_wp2
                  go_ret2
                  exact ⟨_, rfl, fun h => absurd h (by simp), bel_drewN (unhide HBF) _⟩
                | true =>
                  rw [Bool.true_and] at hok
                  subst hok
                  go_quiet (fail)
                  go_wp2
                  go_ret2
                  exact ⟨_, by first | rfl | rw [hD], fun _ => rfl, bel_drewN (unhide HBF) _⟩
end Go.Proofs.YtjijhefmbmdbeaaGreatDoor
