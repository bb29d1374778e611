/-
  readNumber, readText, readSign and read, whole: what bytes begin with, as the plain function has it.
  The cell of a Fault.
-/
import Derived.Test.YtogklmljllocbabGreatDoorF12
import Derived.Test.YtogklmljllocbabGreatDoorF07
namespace Go.Proofs.YtogklmljllocbabGreatDoor
open Go.RowKit

theorem isIn_not {b : UInt8} (h : ¬ isIn b = true) : b.toNat = 39 ∨ b.toNat = 10 := by
  unfold isIn at h
  simp at h
  omega
theorem head_zero (s : ByteArray) (h0 : 0 < s.size) : s.data.toList = s[0] :: s.data.toList.drop 1 := by have := drop_get s 0 h0; simpa using this
theorem readNumber_any (s : ByteArray) (w : World) (hT : TbW w) (h0 : 0 < s.size) (hs : s.size ≤ 140737488351232) (hd : isDig s[0] = true) :
    Calls Tryz.prog 116 #[.string s] w fun e w' => e = .returned (rdV (tkN s.data.toList)) ∧ Below w.heap.size w w' := by
  have h1 : 1 ≤ spn isDig s.data.toList := by rw [head_zero s h0, spn, if_pos hd]; omega
  have hh : s.data.toList.head? = some 48 ↔ s[0].toNat = 48 := by
    rw [head_zero s h0, List.head?_cons, Option.some.injEq]
    exact ⟨fun e => by rw [e]; rfl, fun e => UInt8.toNat_inj.1 e⟩
  unfold tkN
  by_cases hz : s[0].toNat = 48 ∧ 1 < spn isDig s.data.toList
  · rw [if_pos ⟨hh.2 hz.1, hz.2⟩]
    exact readNumber_none s w hT h0 (by omega) hz.1 hz.2
  · rw [if_neg (fun h => hz ⟨hh.1 h.1, h.2⟩)]
    exact readNumber_some s w hT h0 hs hz h1
set_option maxHeartbeats 2000000 in
theorem readText_any (s : ByteArray) (w : World) (hT : TbW w) (h0 : 0 < s.size) (hs : s.size ≤ 140737488351232) :
    Calls Tryz.prog 117 #[.string s] w fun e w' => e = .returned (rdV (tkT (s.data.toList.drop 1))) ∧ Below w.heap.size w w' := by
  have hI : (s.extract 1 s.size).data.toList = s.data.toList.drop 1 := by rw [ext_from]; rfl
  have hIs : (s.extract 1 s.size).size ≤ 140737488351232 := by rw [ByteArray.size_extract]; omega
  rw [← hI]
  clear hI
  generalize hIe : s.extract 1 s.size = I at *
  have HI := hide hIe
  clear hIe
  have UT := fun W hW => upTo_any I 18 isIn cls_in W hW (by omega)
  have hle := spn_le isIn I.data.toList
  rw [size_list] at hle
  have hstop : ∀ h : spn isIn I.data.toList < I.size, I[spn isIn I.data.toList].toNat = 39 ∨ I[spn isIn I.data.toList].toNat = 10 := fun h => by
    have e := spn_drop (p := isIn) (l := I.data.toList)
    rw [drop_get _ _ h, spn] at e
    split at e
    · omega
    · rename_i hh
      exact isIn_not hh
  unfold tkT
  rw [← ext_to]
  have hhd : ∀ h : spn isIn I.data.toList < I.size, (I.data.toList.drop (spn isIn I.data.toList)).head? = some I[spn isIn I.data.toList] := fun h => by rw [drop_get _ _ h]; rfl
  have hhn : spn isIn I.data.toList = I.size → (I.data.toList.drop (spn isIn I.data.toList)).head? = none := fun h => by rw [h, List.drop_eq_nil_of_le (by rw [size_list]; exact Nat.le_refl _)]; rfl
  generalize hL : I.data.toList = L at *
  generalize spn isIn L = n at *
  clear hL
  have HUT := hide UT
  have HHD := hide hhd
  have HHN := hide hhn
  have HST := hide hstop
  clear UT hhd hhn hstop
  by_cases h256 : 256 < n
  · rw [if_pos h256]
    go_enter Tryz.func117, Tryz.ntmps117
    go_wp2_with fail
    rw [unhide HI]
    refine (unhide HUT _ (hT.alloc _)).mono ?_
    rintro e w1 ⟨rfl, rfl⟩
    go_wp2
    exact bodyPost_ret (v := rdV none) (by simp [results, Tryz.results117, go_sem, rdV]) rfl ⟨rfl, (Below.refl _ _).alloc (Nat.le_refl _) _⟩
  · rw [if_neg h256]
    by_cases hn : n = I.size
    · rw [unhide HHN hn, if_neg (by simp)]
      have g : ((n : Int) == (I.size : Int)) = true := by simp [hn]
      have g2 : ((n : Int) = (I.size : Int)) := by omega
      have HN := hide hn
      clear hn
      go_enter Tryz.func117, Tryz.ntmps117
      go_wp2_with fail
      rw [unhide HI]
      refine (unhide HUT _ (hT.alloc _)).mono ?_
      rintro e w1 ⟨rfl, rfl⟩
      go_wp2
      exact bodyPost_ret (v := rdV none) (by simp [results, Tryz.results117, go_sem, rdV]) rfl ⟨rfl, (Below.refl _ _).alloc (Nat.le_refl _) _⟩
    · have hlt : n < I.size := by omega
      rw [unhide HHD hlt]
      have g : ((n : Int) == (I.size : Int)) = false := by simp; omega
      have hst := unhide HST hlt
      have hlt2 := I[n].toNat_lt
      have SO := fun W hW => setOf_any I[n].toNat hlt2 W hW
      by_cases hq : I[n].toNat = 39
      · rw [if_pos (by rw [Option.some.injEq]; exact UInt8.toNat_inj.1 hq)]
        have hc : cls I[n].toNat = 16 := by rw [hq]; rfl
        rw [hc] at SO
        have HSO := hide SO
        clear SO hst hq hc
        go_enter Tryz.func117, Tryz.ntmps117
        go_wp2_with fail
        rw [unhide HI]
        refine (unhide HUT _ (hT.alloc _)).mono ?_
        rintro e w1 ⟨rfl, rfl⟩
        go_wp2_with (go_at_call 114; refine (unhide HSO _ (hT.alloc _)).mono ?_; rintro e w1 ⟨rfl, rfl⟩)
        exact bodyPost_ret (v := rdV (some (⟨3, I.extract 0 n, 0, 0⟩, n + 2))) (by simp [results, Tryz.results117, go_sem, rdV, Tk.v]) rfl ⟨rfl, (Below.refl _ _).alloc (Nat.le_refl _) _⟩
      · rw [if_neg (fun e => hq (by rw [Option.some.injEq] at e; rw [e]; rfl))]
        have hc : cls I[n].toNat = 3 := by rw [show I[n].toNat = 10 by omega]; rfl
        rw [hc] at SO
        have HSO := hide SO
        clear SO hst hq hc
        go_enter Tryz.func117, Tryz.ntmps117
        go_wp2_with fail
        rw [unhide HI]
        refine (unhide HUT _ (hT.alloc _)).mono ?_
        rintro e w1 ⟨rfl, rfl⟩
        go_wp2_with (go_at_call 114; refine (unhide HSO _ (hT.alloc _)).mono ?_; rintro e w1 ⟨rfl, rfl⟩)
        exact bodyPost_ret (v := rdV none) (by simp [results, Tryz.results117, go_sem, rdV]) rfl ⟨rfl, (Below.refl _ _).alloc (Nat.le_refl _) _⟩
theorem cls_sign : ∀ b : Fin 256, (bits .and .u8 (cls b.val : Int) 192 != 0) = isTwo (UInt8.ofNat b.val) ∧ (bits .and .u8 (cls b.val : Int) 96 != 0) = isOne (UInt8.ofNat b.val) ∧ (((cls b.val : Int) == 4) = isLet (UInt8.ofNat b.val)) ∧ (((cls b.val : Int) == 8) = isDig (UInt8.ofNat b.val)) ∧ (((cls b.val : Int) == 16) = decide (b.val = 39)) := by decide +kernel
theorem cls_s (b : UInt8) : (bits .and .u8 (cls b.toNat : Int) 192 != 0) = isTwo b ∧ (bits .and .u8 (cls b.toNat : Int) 96 != 0) = isOne b ∧ (((cls b.toNat : Int) == 4) = isLet b) ∧ (((cls b.toNat : Int) == 8) = isDig b) ∧ (((cls b.toNat : Int) == 16) = decide (b.toNat = 39)) := by have := cls_sign ⟨b.toNat, b.toNat_lt⟩; simpa using this
set_option maxHeartbeats 2000000 in
theorem readSign_any (s : ByteArray) (w : World) (hT : TbW w) (h0 : 0 < s.size) (hs : s.size ≤ 140737488351232) :
    Calls Tryz.prog 118 #[.string s] w fun e w' => e = .returned (rdV (tkS s[0] (s.data.toList.drop 1))) ∧ Below w.heap.size w w' := by
  have SO := fun W hW => setOf_any s[0].toNat s[0].toNat_lt W hW
  obtain ⟨e2, e1, _⟩ := cls_s s[0]
  generalize hC : cls s[0].toNat = C at *
  clear hC
  have HSO := hide SO
  clear SO
  have x1 : s.extract 0 1 = txt [s[0]] := by rw [ext_to, head_zero s h0]; rfl
  by_cases h2 : isTwo s[0] = true ∧ (s.data.toList.drop 1).head? = some 61
  · have hl : 1 < s.size := by
      rcases Nat.lt_or_ge 1 s.size with h | h
      · exact h
      · rw [List.drop_eq_nil_of_le (by rw [size_list]; exact h)] at h2; exact absurd h2.2 (by simp)
    have hd := drop_get s 1 hl
    have h61 : s[1] = 61 := by have := h2.2; rw [hd] at this; simpa using this
    have x2 : s.extract 0 2 = txt [s[0], 61] := by rw [ext_to, head_zero s h0, hd, h61]; rfl
    have g61 : ((s[1].toNat : Int) == 61) = true := by rw [h61]; rfl
    rw [h2.1] at e2
    have HR : Hid (tkS s[0] (s.data.toList.drop 1) = some (⟨4, s.extract 0 2, 0, 0⟩, 2)) := by
      refine hide ?_
      unfold tkS
      rw [if_pos h2, x2]
    generalize tkS s[0] (s.data.toList.drop 1) = Q at *
    have hQ := unhide HR
    subst hQ
    clear HR x1 x2 h2 h61 hd e1
    go_enter Tryz.func118, Tryz.ntmps118
    go_wp2_with fail
    refine (unhide HSO _ (hT.alloc _)).mono ?_
    rintro e w1 ⟨rfl, rfl⟩
    go_wp2
    exact bodyPost_ret (v := rdV (some (⟨4, s.extract 0 2, 0, 0⟩, 2))) (by simp [results, Tryz.results118, go_sem, rdV, Tk.v]) rfl ⟨rfl, (Below.refl _ _).alloc (Nat.le_refl _) _⟩
  · have HG : Hid (isTwo s[0] = false ∨ (isTwo s[0] = true ∧ ¬ 1 < s.size) ∨ (isTwo s[0] = true ∧ ∃ h : 1 < s.size, ((s[1].toNat : Int) == 61) = false)) := by
      refine hide ?_
      by_cases ht : isTwo s[0] = true
      · refine Or.inr ?_
        by_cases hl : 1 < s.size
        · refine Or.inr ⟨ht, hl, ?_⟩
          have hn : ¬ s[1] = 61 := fun e => h2 ⟨ht, by rw [drop_get s 1 hl, e]; rfl⟩
          have : s[1].toNat ≠ 61 := fun e => hn (UInt8.toNat_inj.1 e)
          simp
          omega
        · exact Or.inl ⟨ht, hl⟩
      · exact Or.inl (Bool.eq_false_iff.2 ht)
    by_cases h1 : isOne s[0] = true
    · have HR : Hid (tkS s[0] (s.data.toList.drop 1) = some (⟨4, s.extract 0 1, 0, 0⟩, 1)) := by
        refine hide ?_
        unfold tkS
        rw [if_neg h2, if_pos h1, x1]
      generalize tkS s[0] (s.data.toList.drop 1) = Q at *
      have hQ := unhide HR
      subst hQ
      rw [h1] at e1
      clear HR x1 h2 h1
      rcases unhide HG with ht | ⟨ht, hl⟩ | ⟨ht, hl, g61⟩
      · rw [ht] at e2
        clear HG ht
        go_enter Tryz.func118, Tryz.ntmps118
        go_wp2_with fail
        refine (unhide HSO _ (hT.alloc _)).mono ?_
        rintro e w1 ⟨rfl, rfl⟩
        go_wp2
        exact bodyPost_ret (v := rdV (some (⟨4, s.extract 0 1, 0, 0⟩, 1))) (by simp [results, Tryz.results118, go_sem, rdV, Tk.v]) rfl ⟨rfl, (Below.refl _ _).alloc (Nat.le_refl _) _⟩
      · rw [ht] at e2
        clear HG ht
        go_enter Tryz.func118, Tryz.ntmps118
        go_wp2_with fail
        refine (unhide HSO _ (hT.alloc _)).mono ?_
        rintro e w1 ⟨rfl, rfl⟩
        go_wp2
        exact bodyPost_ret (v := rdV (some (⟨4, s.extract 0 1, 0, 0⟩, 1))) (by simp [results, Tryz.results118, go_sem, rdV, Tk.v]) rfl ⟨rfl, (Below.refl _ _).alloc (Nat.le_refl _) _⟩
      · rw [ht] at e2
        clear HG ht
        go_enter Tryz.func118, Tryz.ntmps118
        go_wp2_with fail
        refine (unhide HSO _ (hT.alloc _)).mono ?_
        rintro e w1 ⟨rfl, rfl⟩
        go_wp2
        exact bodyPost_ret (v := rdV (some (⟨4, s.extract 0 1, 0, 0⟩, 1))) (by simp [results, Tryz.results118, go_sem, rdV, Tk.v]) rfl ⟨rfl, (Below.refl _ _).alloc (Nat.le_refl _) _⟩
    · have HR : Hid (tkS s[0] (s.data.toList.drop 1) = none) := by
        refine hide ?_
        unfold tkS
        rw [if_neg h2, if_neg h1]
      generalize tkS s[0] (s.data.toList.drop 1) = Q at *
      have hQ := unhide HR
      subst hQ
      rw [Bool.eq_false_iff.2 h1] at e1
      clear HR x1 h2 h1
      rcases unhide HG with ht | ⟨ht, hl⟩ | ⟨ht, hl, g61⟩
      · rw [ht] at e2
        clear HG ht
        go_enter Tryz.func118, Tryz.ntmps118
        go_wp2_with fail
        refine (unhide HSO _ (hT.alloc _)).mono ?_
        rintro e w1 ⟨rfl, rfl⟩
        go_wp2
        exact bodyPost_ret (v := rdV none) (by simp [results, Tryz.results118, go_sem, rdV]) rfl ⟨rfl, (Below.refl _ _).alloc (Nat.le_refl _) _⟩
      · rw [ht] at e2
        clear HG ht
        go_enter Tryz.func118, Tryz.ntmps118
        go_wp2_with fail
        refine (unhide HSO _ (hT.alloc _)).mono ?_
        rintro e w1 ⟨rfl, rfl⟩
        go_wp2
        exact bodyPost_ret (v := rdV none) (by simp [results, Tryz.results118, go_sem, rdV]) rfl ⟨rfl, (Below.refl _ _).alloc (Nat.le_refl _) _⟩
      · rw [ht] at e2
        clear HG ht
        go_enter Tryz.func118, Tryz.ntmps118
        go_wp2_with fail
        refine (unhide HSO _ (hT.alloc _)).mono ?_
        rintro e w1 ⟨rfl, rfl⟩
        go_wp2
        exact bodyPost_ret (v := rdV none) (by simp [results, Tryz.results118, go_sem, rdV]) rfl ⟨rfl, (Below.refl _ _).alloc (Nat.le_refl _) _⟩
theorem rdV_form (q : Option (Tk × Nat)) : ∃ k s n p m, rdV q = .tuple #[.agg #[.int .i64 k, .string s, .int .i64 n, .int .i64 p], .int .i64 m] := by
  cases q with
  | none => exact ⟨_, _, _, _, _, rfl⟩
  | some x => exact ⟨_, _, _, _, _, rfl⟩
/-- What is left when one of the readers has told its token. -/
theorem rd_left {w w1 : World} (hb : Below (w.alloc (.cells #[.int .i64 0, .string ⟨#[]⟩, .int .i64 0, .int .i64 0] 82)).heap.size (w.alloc (.cells #[.int .i64 0, .string ⟨#[]⟩, .int .i64 0, .int .i64 0] 82)) w1) :
    Below w.heap.size w w1 ∧ CBox w.heap.size #[.int .i64 0, .string ⟨#[]⟩, .int .i64 0, .int .i64 0] 82 w1 :=
  ⟨((Below.refl _ _).alloc (Nat.le_refl _) _).trans (hb.mono (by simp)), by unfold CBox; rw [hb.block _ (by simp)]; exact heap_alloc_new w _⟩
set_option maxHeartbeats 4000000 in
theorem read_any (s : ByteArray) (w : World) (hT : TbW w) (hs : s.size ≤ 140737488351232) :
    Calls Tryz.prog 65 #[.string s] w fun e w' => e = .returned (rdV (tkR s.data.toList)) ∧ Below w.heap.size w w' := by
  rcases Nat.eq_zero_or_pos s.size with h0 | h0
  · obtain rfl : s = ⟨#[]⟩ := by
      have := List.eq_nil_of_length_eq_zero (l := s.data.toList) (by rw [size_list]; exact h0)
      rw [← txt_self s, this]; rfl
    clear hT hs
    go_enter Tryz.func65, Tryz.ntmps65
    go_wp2
    exact bodyPost_ret (v := rdV none) (by simp [results, Tryz.results65, go_sem, rdV]) rfl ⟨rfl, (Below.refl _ _).alloc (Nat.le_refl _) _⟩
  · have SO := fun W hW => setOf_any s[0].toNat s[0].toNat_lt W hW
    obtain ⟨_, _, eL, eD, eQ⟩ := cls_s s[0]
    have hne : ¬ s.data.toList = [] := fun e => by have := size_list s; rw [e] at this; simp at this; omega
    have HR : Hid (tkR s.data.toList = if isLet s[0] then tkW s.data.toList else if isDig s[0] then tkN s.data.toList else if s[0].toNat = 39 then tkT (s.data.toList.drop 1) else tkS s[0] (s.data.toList.drop 1)) := by
      have e := head_zero s h0
      generalize s.data.toList.drop 1 = r at e ⊢
      exact hide (by rw [e, tkR])
    generalize hC : cls s[0].toNat = C at *
    clear hC
    have HSO := hide SO
    clear SO
    have gne : s.toList.isEmpty = false := by rw [ByteArray.toList_eq]; simpa using hne
    clear hne
    generalize hQe : tkR s.data.toList = Q at *
    clear hQe
    have hq := unhide HR
    clear HR
    by_cases hL : isLet s[0] = true
    · rw [if_pos hL] at hq
      have RW := fun W hW => readWord_any s W hW (by omega)
      rw [← hq] at RW
      have HRW := hide RW
      rw [hL] at eL
      clear RW hq hL eD eQ
      obtain ⟨k, t, n, p, m, hv⟩ := rdV_form Q
      rw [hv] at HRW ⊢
      clear hv
      go_enter Tryz.func65, Tryz.ntmps65
      go_wp2_with fail
      refine (unhide HSO _ (hT.alloc _)).mono ?_
      rintro e w1 ⟨rfl, rfl⟩
      go_wp2_with fail
      refine (unhide HRW _ (hT.alloc _)).mono ?_
      rintro e w1 ⟨rfl, hb⟩
      obtain ⟨hb0, q⟩ := rd_left hb
      have q0 := CBox.cell (i := 0) (v := .int .i64 0) q rfl
      have q1 := CBox.cell (i := 1) (v := .string ⟨#[]⟩) q rfl
      have q2 := CBox.cell (i := 2) (v := .int .i64 0) q rfl
      have q3 := CBox.cell (i := 3) (v := .int .i64 0) q rfl
      have f0 := CBox.froz q 0
      have f1 := CBox.froz q 1
      have f2 := CBox.froz q 2
      have f3 := CBox.froz q 3
      have HB0 := hide hb0
      clear hb hb0 q
      go_wp2
      exact bodyPost_ret (v := .tuple #[.agg #[.int .i64 k, .string t, .int .i64 n, .int .i64 p], .int .i64 m]) (by simp [results, Tryz.results65, go_sem, q0, q1, q2, q3]) rfl ⟨rfl, ((((unhide HB0).setCell (Nat.le_refl _) _).setCell (Nat.le_refl _) _).setCell (Nat.le_refl _) _).setCell (Nat.le_refl _) _⟩
    · rw [if_neg hL] at hq
      rw [Bool.eq_false_iff.2 hL] at eL
      by_cases hD : isDig s[0] = true
      · rw [if_pos hD] at hq
        have RW := fun W hW => readNumber_any s W hW h0 hs hD
        rw [← hq] at RW
        have HRW := hide RW
        rw [hD] at eD
        clear RW hq hL hD eQ
        obtain ⟨k, t, n, p, m, hv⟩ := rdV_form Q
        rw [hv] at HRW ⊢
        clear hv
        go_enter Tryz.func65, Tryz.ntmps65
        go_wp2_with fail
        refine (unhide HSO _ (hT.alloc _)).mono ?_
        rintro e w1 ⟨rfl, rfl⟩
        go_wp2_with fail
        refine (unhide HRW _ (hT.alloc _)).mono ?_
        rintro e w1 ⟨rfl, hb⟩
        obtain ⟨hb0, q⟩ := rd_left hb
        have q0 := CBox.cell (i := 0) (v := .int .i64 0) q rfl
        have q1 := CBox.cell (i := 1) (v := .string ⟨#[]⟩) q rfl
        have q2 := CBox.cell (i := 2) (v := .int .i64 0) q rfl
        have q3 := CBox.cell (i := 3) (v := .int .i64 0) q rfl
        have f0 := CBox.froz q 0
        have f1 := CBox.froz q 1
        have f2 := CBox.froz q 2
        have f3 := CBox.froz q 3
        have HB0 := hide hb0
        clear hb hb0 q
        go_wp2
        exact bodyPost_ret (v := .tuple #[.agg #[.int .i64 k, .string t, .int .i64 n, .int .i64 p], .int .i64 m]) (by simp [results, Tryz.results65, go_sem, q0, q1, q2, q3]) rfl ⟨rfl, ((((unhide HB0).setCell (Nat.le_refl _) _).setCell (Nat.le_refl _) _).setCell (Nat.le_refl _) _).setCell (Nat.le_refl _) _⟩
      · rw [if_neg hD] at hq
        rw [Bool.eq_false_iff.2 hD] at eD
        by_cases hT39 : s[0].toNat = 39
        · rw [if_pos hT39] at hq
          have RW := fun W hW => readText_any s W hW h0 hs
          rw [← hq] at RW
          have HRW := hide RW
          rw [decide_eq_true hT39] at eQ
          clear RW hq hL hD hT39
          obtain ⟨k, t, n, p, m, hv⟩ := rdV_form Q
          rw [hv] at HRW ⊢
          clear hv
          go_enter Tryz.func65, Tryz.ntmps65
          go_wp2_with fail
          refine (unhide HSO _ (hT.alloc _)).mono ?_
          rintro e w1 ⟨rfl, rfl⟩
          go_wp2_with fail
          refine (unhide HRW _ (hT.alloc _)).mono ?_
          rintro e w1 ⟨rfl, hb⟩
          obtain ⟨hb0, q⟩ := rd_left hb
          have q0 := CBox.cell (i := 0) (v := .int .i64 0) q rfl
          have q1 := CBox.cell (i := 1) (v := .string ⟨#[]⟩) q rfl
          have q2 := CBox.cell (i := 2) (v := .int .i64 0) q rfl
          have q3 := CBox.cell (i := 3) (v := .int .i64 0) q rfl
          have f0 := CBox.froz q 0
          have f1 := CBox.froz q 1
          have f2 := CBox.froz q 2
          have f3 := CBox.froz q 3
          have HB0 := hide hb0
          clear hb hb0 q
          go_wp2
          exact bodyPost_ret (v := .tuple #[.agg #[.int .i64 k, .string t, .int .i64 n, .int .i64 p], .int .i64 m]) (by simp [results, Tryz.results65, go_sem, q0, q1, q2, q3]) rfl ⟨rfl, ((((unhide HB0).setCell (Nat.le_refl _) _).setCell (Nat.le_refl _) _).setCell (Nat.le_refl _) _).setCell (Nat.le_refl _) _⟩
        · rw [if_neg hT39] at hq
          have RW := fun W hW => readSign_any s W hW h0 hs
          rw [← hq] at RW
          have HRW := hide RW
          rw [decide_eq_false hT39] at eQ
          clear RW hq hL hD hT39
          obtain ⟨k, t, n, p, m, hv⟩ := rdV_form Q
          rw [hv] at HRW ⊢
          clear hv
          go_enter Tryz.func65, Tryz.ntmps65
          go_wp2_with fail
          refine (unhide HSO _ (hT.alloc _)).mono ?_
          rintro e w1 ⟨rfl, rfl⟩
          go_wp2_with fail
          refine (unhide HRW _ (hT.alloc _)).mono ?_
          rintro e w1 ⟨rfl, hb⟩
          obtain ⟨hb0, q⟩ := rd_left hb
          have q0 := CBox.cell (i := 0) (v := .int .i64 0) q rfl
          have q1 := CBox.cell (i := 1) (v := .string ⟨#[]⟩) q rfl
          have q2 := CBox.cell (i := 2) (v := .int .i64 0) q rfl
          have q3 := CBox.cell (i := 3) (v := .int .i64 0) q rfl
          have f0 := CBox.froz q 0
          have f1 := CBox.froz q 1
          have f2 := CBox.froz q 2
          have f3 := CBox.froz q 3
          have HB0 := hide hb0
          clear hb hb0 q
          go_wp2
          exact bodyPost_ret (v := .tuple #[.agg #[.int .i64 k, .string t, .int .i64 n, .int .i64 p], .int .i64 m]) (by simp [results, Tryz.results65, go_sem, q0, q1, q2, q3]) rfl ⟨rfl, ((((unhide HB0).setCell (Nat.le_refl _) _).setCell (Nat.le_refl _) _).setCell (Nat.le_refl _) _).setCell (Nat.le_refl _) _⟩
end Go.Proofs.YtogklmljllocbabGreatDoor
namespace Go.Proofs.YtogklmljllocbabGreatDoor
open Go.RowKit

/-- The answer's fault lies there. -/
def FBox (k : Nat) (w : World) : Prop := w.heap[k]? = some (.cells #[.int .i64 0, .int .i64 0] 47 (0, 0))
theorem FBox.cells {k : Nat} {w : World} (h : FBox k w) : w.cell? ⟨k, 0, none⟩ = some (.int .i64 0) ∧ w.cell? ⟨k, 1, none⟩ = some (.int .i64 0) ∧ w.frozen? ⟨k, 0, none⟩ = false ∧ w.frozen? ⟨k, 1, none⟩ = false := by
  unfold FBox at h
  simp [World.cell?, World.frozen?, h]
theorem FBox.lt {k : Nat} {w : World} (h : FBox k w) : k < w.heap.size := by
  unfold FBox at h
  rcases Nat.lt_or_ge k w.heap.size with h1 | h1
  · exact h1
  · rw [Array.getElem?_eq_none h1] at h; cases h
theorem FBox.below {k B : Nat} {w w' : World} (h : FBox k w) (hb : Below B w w') (hB : k < B) : FBox k w' := by unfold FBox; rw [hb.block k hB]; exact h
end Go.Proofs.YtogklmljllocbabGreatDoor
