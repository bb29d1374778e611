/-
  PackTorn: whatever the bytes, the place and the byte, the law returns true; nothing that was there has changed.
-/
import Derived.Test.YtbbmacpjgflndaaDoorTorn
import Derived.Test.YtbbmacpjgflndaaDoorByt
namespace Go.Proofs.YtbbmacpjgflndaaDoor
open Go.RowKit

theorem unf_code (l : List UInt8) (c : Int) (hc : c ≠ 0) (h : bodyS l = ([], c)) : unfS l 0 = ([], 0, 0, c) := by
  unfold unfS
  rw [if_neg (by omega)]
  simp only [Int.toNat_zero, List.drop_zero, h]
  rw [if_pos hc]
set_option maxHeartbeats 2000000 in
theorem packTorn_walk (b : ByteArray) (p : Int) (y : Nat) (w : World) (hb : b.size ≤ 9223372036854775807) (hy : y < 256) (hT : TabW w) :
    Calls Tryd.prog 8 #[.string b, .int .i64 p, .int .u8 (y : Int)] w fun e w' => e = .returned (.bool true) ∧ Below w.heap.size w w' := by
  have hw := works_any w hT
  have HW := hide hw
  have HT := hide hT
  have h0 := hT.1
  clear hw hT
  obtain ⟨R, hR, eR⟩ := wrapU p
  by_cases hbig : 65536 < b.size
  · have e1 : frE b = 2 := if_pos hbig
    have e2 : frS b = ⟨#[]⟩ := if_pos hbig
    have E1 := hide e1
    have E2 := hide e2
    clear e1 e2
    go_enter Tryd.func8, Tryd.ntmps8
    go_wp2_with fail
    refine (unhide HW).mono ?_
    rintro e w1 ⟨rfl, hb1⟩
    go_wp2_with fail
    have hfr := frame_any b w1 hb ((unhide HT).below hb1 h0)
    rw [unhide E1, unhide E2] at hfr
    refine hfr.mono ?_
    rintro e w2 ⟨rfl, hb2⟩
    go_wp2
    go_ret
    exact ⟨rfl, hb1.trans (hb2.mono hb1.size)⟩
  · have e1 : frE b = 0 := if_neg hbig
    have e2 : frS b = ⟨(frameL b.data.toList).toArray⟩ := if_neg hbig
    have E1 := hide e1
    have E2 := hide e2
    have hlb : b.data.toList.length = b.size := Array.length_toList
    have t1 := fun k hk => torn_early b.data.toList k (by omega) hk
    have t2 := fun k c h6 hk hc => torn_byte b.data.toList k c (by omega) h6 hk hc
    have hfl := frameL_len b.data.toList
    rw [hlb] at t1 t2 hfl
    generalize hS : ({ data := (frameL b.data.toList).toArray } : ByteArray) = S at *
    have hSl : S.data.toList = frameL b.data.toList := by rw [← hS]
    have hSs : S.size = b.size + 10 := by rw [← hfl, ← hSl, Array.length_toList]; rfl
    rw [← hSl] at t1 t2
    have T1 := hide t1
    have T2 := hide t2
    have HSs := hide hSs
    have hs1 : 10 ≤ S.size ∧ S.size ≤ 65546 := by omega
    clear e1 e2 t1 t2 hS hSl hfl hlb hSs
    obtain ⟨K, hK, eK⟩ : ∃ K : Nat, K < S.size ∧ (R : Int) % (S.size : Int) = (K : Int) := ⟨R % S.size, Nat.mod_lt _ (by omega), by simp⟩
    obtain ⟨J, hJ, eJ⟩ : ∃ J : Nat, J < S.size - 6 ∧ (R : Int) % ((S.size : Int) - 6) = (J : Int) := ⟨R % (S.size - 6), Nat.mod_lt _ (by omega), by rw [show (S.size : Int) - 6 = ((S.size - 6 : Nat) : Int) by omega]; simp⟩
    have u1 := unf_code (S.data.toList.take K) 11 (by decide) (unhide T1 K (by have := unhide HSs; omega))
    have c1 := fun w hw => unframe_any (S.extract 0 K) 0 w (by rw [ByteArray.size_extract]; omega) hw
    rw [ext_pre, u1] at c1
    have C1 := hide c1
    clear u1 c1
    go_enter Tryd.func8, Tryd.ntmps8
    go_wp2_with fail
    refine (unhide HW).mono ?_
    rintro e w1 ⟨rfl, hb1⟩
    go_wp2_with fail
    have hfr := frame_any b w1 hb ((unhide HT).below hb1 h0)
    rw [unhide E1, unhide E2] at hfr
    refine hfr.mono ?_
    rintro e w2 ⟨rfl, hb2⟩
    have hb3 := hb1.trans (hb2.mono hb1.size)
    clear hfr hb1 hb2
    go_wp2_with fail
    refine (unhide C1 _ ((unhide HT).below hb3 h0)).mono ?_
    rintro e w3 ⟨rfl, hb4⟩
    have hb5 := hb3.trans (hb4.mono hb3.size)
    have hz5 := hb5.size
    clear hb3 hb4
    have hF : ∀ W, Below w.heap.size w W → TabW W := fun W hW => (unhide HT).below hW h0
    have HF := hide hF
    clear hF
    obtain ⟨W4, cap, hcv, hcap, hb6, hg6, hcell, hfrz⟩ := bytes_of S (w3.alloc (.cells #[.int .i64 0, .int .i64 11] 28))
    have hsz : (w3.alloc (.cells #[.int .i64 0, .int .i64 11] 28)).heap.size = w3.heap.size + 1 := by simp
    rw [hsz] at hcv hcell hfrz hb6 hg6
    have hb7 : Below w.heap.size w W4 := (hb5.alloc hz5 _).trans (hb6.mono (by omega))
    have hJ6 : 6 + J < S.size := by omega
    have cJ := hcell (6 + J) hJ6
    have fJ := hfrz (6 + J) hJ6
    have HC := hide hcell
    have hxl : (S[6 + J]).toNat < 256 := (S[6 + J]).toNat_lt
    clear hcell hfrz hsz hb5 hb6
    by_cases hy0 : y = 0
    · have g0 : ((y : Int) == 0) = true := beq_iff_eq.2 (by omega)
      obtain ⟨C, hC, hCne, eC⟩ := xor_byte (S[6 + J]).toNat 1 hxl (by decide) (by decide)
      rw [show ((1 : Nat) : Int) = 1 from rfl] at eC
      clear hy0
      have u2 := unf_code (S.data.toList.set (6 + J) (UInt8.ofNat C)) 10 (by decide) (unhide T2 (6 + J) (UInt8.ofNat C) (by omega) (by have := unhide HSs; omega) (fun h => hCne (by
        have hl : 6 + J < S.data.toList.length := by rw [Array.length_toList]; exact hJ6
        rw [List.getElem?_eq_getElem hl] at h
        have h2 : S[6 + J] = UInt8.ofNat C := Option.some.inj h
        rw [h2, u8_val C hC])))
      have hsz9 := setB_size S (6 + J) (UInt8.ofNat C)
      have c2 := fun w hw => unframe_any (setB S (6 + J) (UInt8.ofNat C)) 0 w (by rw [hsz9]; omega) hw
      rw [show (setB S (6 + J) (UInt8.ofNat C)).data.toList = S.data.toList.set (6 + J) (UInt8.ofNat C) from rfl, u2] at c2
      have hs3 := setB_string S (6 + J) (w3.heap.size + 1) cap (UInt8.ofNat C) (W4.setCell ⟨w3.heap.size + 1, 6 + J, none⟩ (.int .u8 (C : Int))) (fun i hi => by
        rw [u8_val C hC]
        by_cases e : i = 6 + J
        · subst e; rw [if_pos rfl]; simp [go_sem, cJ]
        · rw [if_neg e]
          have := unhide HC i hi
          simp [go_sem, this])
      have hb8 : Below w.heap.size w (W4.setCell ⟨w3.heap.size + 1, 6 + J, none⟩ (.int .u8 (C : Int))) := hb7.setCell (by show w.heap.size ≤ w3.heap.size + 1; omega) _
      have HB8 := hide hb8
      have C2 := hide c2
      clear u2 c2 hsz9 hb8 hb7
      generalize setB S (6 + J) (UInt8.ofNat C) = S2 at *
      go_wp2_with fail
      refine (unhide C2 _ (unhide HF _ (unhide HB8))).mono ?_
      rintro e w9 ⟨rfl, hb9⟩
      have hb10 := (unhide HB8).trans (hb9.mono (unhide HB8).size)
      have hz10 := hb10.size
      clear hb9 hs3 hcv cJ fJ
      go_wp2
      go_ret
      exact ⟨rfl, hb10.alloc hz10 _⟩
    · have g0 : ((y : Int) == 0) = false := beq_eq_false_iff_ne.2 (by omega)
      obtain ⟨C, hC, hCne, eC⟩ := xor_byte (S[6 + J]).toNat y hxl hy hy0
      clear hy0
      have u2 := unf_code (S.data.toList.set (6 + J) (UInt8.ofNat C)) 10 (by decide) (unhide T2 (6 + J) (UInt8.ofNat C) (by omega) (by have := unhide HSs; omega) (fun h => hCne (by
        have hl : 6 + J < S.data.toList.length := by rw [Array.length_toList]; exact hJ6
        rw [List.getElem?_eq_getElem hl] at h
        have h2 : S[6 + J] = UInt8.ofNat C := Option.some.inj h
        rw [h2, u8_val C hC])))
      have hsz9 := setB_size S (6 + J) (UInt8.ofNat C)
      have c2 := fun w hw => unframe_any (setB S (6 + J) (UInt8.ofNat C)) 0 w (by rw [hsz9]; omega) hw
      rw [show (setB S (6 + J) (UInt8.ofNat C)).data.toList = S.data.toList.set (6 + J) (UInt8.ofNat C) from rfl, u2] at c2
      have hs3 := setB_string S (6 + J) (w3.heap.size + 1) cap (UInt8.ofNat C) (W4.setCell ⟨w3.heap.size + 1, 6 + J, none⟩ (.int .u8 (C : Int))) (fun i hi => by
        rw [u8_val C hC]
        by_cases e : i = 6 + J
        · subst e; rw [if_pos rfl]; simp [go_sem, cJ]
        · rw [if_neg e]
          have := unhide HC i hi
          simp [go_sem, this])
      have hb8 : Below w.heap.size w (W4.setCell ⟨w3.heap.size + 1, 6 + J, none⟩ (.int .u8 (C : Int))) := hb7.setCell (by show w.heap.size ≤ w3.heap.size + 1; omega) _
      have HB8 := hide hb8
      have C2 := hide c2
      clear u2 c2 hsz9 hb8 hb7
      generalize setB S (6 + J) (UInt8.ofNat C) = S2 at *
      go_wp2_with fail
      refine (unhide C2 _ (unhide HF _ (unhide HB8))).mono ?_
      rintro e w9 ⟨rfl, hb9⟩
      have hb10 := (unhide HB8).trans (hb9.mono (unhide HB8).size)
      have hz10 := hb10.size
      clear hb9 hs3 hcv cJ fJ
      go_wp2
      go_ret
      exact ⟨rfl, hb10.alloc hz10 _⟩
end Go.Proofs.YtbbmacpjgflndaaDoor
