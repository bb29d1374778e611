/-
  TokenPlaces: its walk.
-/
import Derived.Test.YtglfjgnbfligoaaDoorTPlc
import Derived.Deep.DeepCutAuto
namespace Go.Proofs.YtglfjgnbfligoaaDoor
open Go.RowKit

theorem blk_at (b : UInt8) (h : isBlk b = true) : ((b.toNat : Int) != 32) = false ∨ (((b.toNat : Int) != 32) = true ∧ ((b.toNat : Int) != 10) = false) := by
  rcases (blk_iff b).1 h with h | h
  · left; simp [h]
  · right; simp [h]
set_option maxHeartbeats 4000000 in
set_option maxRecDepth 100000 in
theorem places_walk (s : ByteArray) (w : World) (hs : s.size ≤ 9223372036854775807) (hT : TbW w) :
    Calls Tryd.prog 7 #[.string s] w fun e w' => e = .returned (.bool true) ∧ Kp [] w w' := by
  have hlow := hT.low
  have TK := fun W hW => tokens_at s W hW hs
  rcases tsR_code s with ⟨ts, hr, htk, hsz⟩ | ⟨hl, hc⟩
  · have hfit := tsL_ok s
    have hlen := tsL_len s
    rw [hr] at TK hfit hlen
    have hL : tsL s.size (.good ts) = ts ++ [endK s.size] := rfl
    rw [hL] at TK hfit hlen
    have hpl := toks_pls _ 0 0 ts htk
    have HTK : Hid (∀ W, TbW W → Calls Tryd.prog 9 #[.string s] W fun e w' => ∃ ad cp, e = .returned (.tuple #[.slice ad (ts.length + 1) cp, .agg #[.int .i64 0, .int .i64 0]]) ∧ TksAt w' ad (ts ++ [endK s.size]) ∧ Below W.heap.size W w') := hide (fun W hW => (TK W hW).mono fun e w' ⟨ad, cp, h1, h2, _, _, h3⟩ => ⟨ad, cp, by rw [List.length_append] at h1; exact h1, h2, h3⟩)
    have HF := hide hfit
    have HP := hide hpl
    rw [List.length_append, List.length_singleton] at hlen
    clear TK hr htk hL hfit hpl
    go_enter Tryd.func7, Tryd.ntmps7
    go_wp2_with fail
    refine (tworks_any w hT).mono ?_
    rintro e w1 ⟨rfl, hb1⟩
    have hT1 := hT.below hb1 hlow
    have hl1 := hb1.size
    go_wp2_with fail
    refine (unhide HTK _ hT1).mono ?_
    rintro e w2 ⟨ad, cp, rfl, hA2, hb2⟩
    have hb12 : Below w.heap.size w (w2.alloc (.cells #[.int .i64 0, .int .i64 0] 25)) := (hb1.trans (hb2.mono hl1)).alloc (by have := hb2.size; omega) _
    have hA3 := hA2.kp (Kp.alloc w2 (.cells #[.int .i64 0, .int .i64 0] 25))
    have hT3 := hT.below hb12 hlow
    clear hb1 hb2 hT1 hA2 HTK
    go_wp2_with fail
    generalize w2.alloc (.cells #[.int .i64 0, .int .i64 0] 25) = W0 at *
    have HB := hide hb12
    have hl0 := hb12.size
    clear hb12
    go_loopw [5, 26] (fun p i wr => ∃ k E : Nat, k ≤ ts.length ∧ E ≤ s.size ∧ i = .int .i64 (k : Int) ∧ p = .int .i64 (E : Int) ∧ Below W0.heap.size W0 wr ∧ Hid (Pls (ts.drop k) (s.data.toList.drop E) E)) (fun _ i _ => ts.length + 1 - (intOf i).toNat)
    case atStart => exact ⟨0, 0, Nat.zero_le _, Nat.zero_le _, rfl, rfl, Below.refl _ _, HP⟩
    case round =>
      obtain ⟨k, E, hk, hE, rfl, rfl, hbe, HPl⟩ := hrel
      have hTr : TbW wr := hT3.below hbe hT3.low
      have hlr := hbe.size
      obtain ⟨T, P, hTe, hTP, hEP, hPs, hbk, hcase⟩ := pls_round s ts k E hk hE (unhide HPl)
      obtain ⟨hkl, hTe2⟩ := List.getElem?_eq_some_iff.1 hTe
      obtain ⟨b, off, rfl, hbl, c0, c1, c2, c3⟩ := (hA3.below hbe (Nat.le_refl _)).at k hkl
      have hokT := unhide HF _ (List.getElem_mem hkl)
      rw [hTe2] at c0 c1 c2 c3 hokT
      clear hTe hTe2 hkl
      obtain ⟨tk, tt, tn, tp⟩ := T
      dsimp only at *
      subst hTP
      have HCS := hide hcase
      have HBK := hide hbk
      have HOT := hide hokT
      clear hcase hbk HPl hokT
      have d3 := (CBox.new wr #[.int .i64 tk, .string tt, .int .i64 tn, .int .i64 (P : Int)] 35).cell (i := 3) (v := .int .i64 (P : Int)) rfl
      go_wp2_with fail
      go_loop [8] (fun i => ∃ m : Nat, E ≤ m ∧ m ≤ P ∧ i = .int .i64 (m : Int)) (fun i => P - (intOf i).toNat)
      case atStart => exact ⟨E, Nat.le_refl _, hEP, rfl⟩
      case round =>
        obtain ⟨m, hEm, hmP, rfl⟩ := hrel
        by_cases hlt : m < P
        · have hms : m < s.size := by omega
          have hb := blk_at _ (unhide HBK m hms hEm hlt)
          have HBB := hide hb
          clear hb
          rcases unhide HBB with g1 | ⟨g1, g2⟩
          · go_wp2
            go_round
            case rel => exact ⟨m + 1, by omega, by omega, by go_num⟩
            case measure => simp [intOf]; omega
          · go_wp2
            go_round
            case rel => exact ⟨m + 1, by omega, by omega, by go_num⟩
            case measure => simp [intOf]; omega
        · obtain rfl : m = P := by omega
          rcases unhide HCS with ⟨hkl, hwr, hex, hPn, hpn⟩ | ⟨hkl, hPs2, hkd⟩
          · have g : ((k : Int) == (ts.length : Int)) = false := by simp; omega
            have hn0 : (txt (spell ⟨tk, tt, tn, (m : Int)⟩)).size = (spell ⟨tk, tt, tn, (m : Int)⟩).length := txt_size _
            have JO := fun W hW hb => join_one ⟨tk, tt, tn, (m : Int)⟩ (wr.heap.size + 1) W hW hwr (unhide HOT) hb
            rw [← hn0] at hex hPn hpn
            generalize txt (spell ⟨tk, tt, tn, (m : Int)⟩) = O at *
            have HJO := hide JO
            have HEX := hide hex
            have HPN := hide hpn
            clear JO hex hpn hn0 hwr
            go_wp2_with fail
            refine (unhide HJO _ ((hTr.alloc _).alloc _) ?hbx).mono ?_
            case hbx =>
              have := CBox.new (wr.alloc (.cells #[.int .i64 tk, .string tt, .int .i64 tn, .int .i64 (m : Int)] 35)) #[.int .i64 tk, .string tt, .int .i64 tn, .int .i64 (m : Int)] 35
              rw [show (wr.alloc (.cells #[.int .i64 tk, .string tt, .int .i64 tn, .int .i64 (m : Int)] 35)).heap.size = wr.heap.size + 1 by simp] at this
              exact this
            rintro e w3 ⟨rfl, hb3⟩
            have q3 : CBox wr.heap.size #[.int .i64 tk, .string tt, .int .i64 tn, .int .i64 (m : Int)] 35 w3 := CBox.kp (CBox.kp (CBox.new wr _ _) (Kp.alloc _ _) (by simp)) (Kp.ofBelow hb3) (by simp)
            have z3 := CBox.cell (i := 3) (v := .int .i64 (m : Int)) q3 rfl
            have hbe3 : Below W0.heap.size W0 w3 := ((hbe.alloc hlr _).alloc (by simp; omega) _).trans (hb3.mono (by simp; omega))
            have gx : ((s.extract m (m + O.size)).toList == O.toList) = true := by rw [unhide HEX]; simp
            have HB3 := hide hbe3
            clear hb3 q3 hbe3 HJO hbe
            go_wp2
            go_roundw
            case rel => exact ⟨k + 1, m + O.size, by omega, hPn, by go_num, by go_num, unhide HB3, HPN⟩
            case measure => simp [intOf]; omega
          · subst hPs2
            subst hkd
            have g : ((k : Int) == (ts.length : Int)) = true := by simp; omega
            have HK : Hid (Kp [] w (wr.alloc (.cells #[.int .i64 0, .string tt, .int .i64 tn, .int .i64 (s.size : Int)] 35))) := hide (Kp.ofBelow (((unhide HB).trans (hbe.mono hl0)).alloc (by omega) _))
            clear hkl
            go_wp2
            go_ret
            exact ⟨rfl, unhide HK⟩
  · rw [hl] at TK
    have HTK : Hid (∀ W, TbW W → Calls Tryd.prog 9 #[.string s] W fun e w' => ∃ ad cp, e = .returned (.tuple #[.slice ad 0 cp, .agg #[.int .i64 (tsA (tsR s)), .int .i64 (tsC (tsR s))]]) ∧ Below W.heap.size W w') := hide (fun W hW => (TK W hW).mono fun e w' ⟨ad, cp, h1, _, _, _, h2⟩ => ⟨ad, cp, h1, h2⟩)
    have g : (tsC (tsR s) == 0) = false := by simpa using hc
    generalize tsA (tsR s) = A at *
    generalize tsC (tsR s) = C at *
    clear TK hl hc
    go_enter Tryd.func7, Tryd.ntmps7
    go_wp2_with fail
    refine (tworks_any w hT).mono ?_
    rintro e w1 ⟨rfl, hb1⟩
    have hT1 := hT.below hb1 hlow
    have hl1 := hb1.size
    go_wp2_with fail
    refine (unhide HTK _ hT1).mono ?_
    rintro e w2 ⟨a2, c2, rfl, hb2⟩
    have hb12 : Below w.heap.size w w2 := hb1.trans (hb2.mono hl1)
    have HB2 : Hid (Kp [] w (w2.alloc (.cells #[.int .i64 A, .int .i64 C] 25))) := hide (Kp.ofBelow (hb12.alloc hb12.size _))
    clear hb1 hb2 hb12 hT1
    by_cases hA : A = 0
    · have gA : (A == 0) = true := by simpa using hA
      clear hA
      go_wp2
      go_ret
      exact ⟨rfl, unhide HB2⟩
    · have gA : (A == 0) = false := by simpa using hA
      clear hA
      go_wp2
      go_ret
      exact ⟨rfl, unhide HB2⟩
end Go.Proofs.YtglfjgnbfligoaaDoor
