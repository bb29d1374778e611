/-
  The document's Tokens.
  The document's answer for patterns: Write.
-/
import Derived.Test.YtjijhefmbmdbeaaGreatDoorP34
import Derived.Test.YtjijhefmbmdbeaaGreatDoorP47
import Derived.Test.YtjijhefmbmdbeaaGreatDoorP12
import Derived.Test.YtjijhefmbmdbeaaGreatDoorP45
import Derived.Test.YtjijhefmbmdbeaaGreatDoorP46
namespace Go.Proofs.YtjijhefmbmdbeaaGreatDoor
open Go.RowKit

theorem rFault_any (p c : Int) (w : World) : Calls Tryz.prog 71 #[.int .i64 p, .int .i64 c] w fun e w' => e = .returned (.agg #[.int .i64 p, .int .i64 c]) ∧ Below w.heap.size w w' := by
  go_enter Tryz.func71, Tryz.ntmps71
  go_wp2
  exact bodyPost_ret (v := .agg #[.int .i64 p, .int .i64 c]) (by simp [results, Tryz.results71, go_sem]) rfl ⟨rfl, (Below.refl _ _).alloc (Nat.le_refl _) _⟩
theorem FBox.put2 {b : Nat} {w : World} (h : FBox b w) (x y : Value) : ((w.setCell ⟨b, 0, none⟩ x).setCell ⟨b, 1, none⟩ y).cell? ⟨b, 0, none⟩ = some x ∧ ((w.setCell ⟨b, 0, none⟩ x).setCell ⟨b, 1, none⟩ y).cell? ⟨b, 1, none⟩ = some y := by
  have hc := h.cells
  constructor
  · simp [go_sem, hc]
  · simp [go_sem, hc]
set_option maxHeartbeats 1000000 in
set_option maxRecDepth 100000 in
theorem rTokens_any (s : ByteArray) (w : World) (hs : s.size ≤ 9223372036854775807) :
    Calls Tryz.prog 45 #[.string s] w fun e w' => ∃ v, e = .returned (.tuple #[v, .agg #[.int .i64 (tsA (tsR s)), .int .i64 (tsC (tsR s))]]) ∧ OwnsK w.heap.size w' v (tsL s.size (tsR s)) ∧ Below w.heap.size w w' := by
  generalize hR : tsR s = R
  unfold tsR at hR
  by_cases hbig : 262144 < s.size
  · rw [if_pos hbig] at hR
    subst hR
    go_enter Tryz.func45, Tryz.ntmps45
    go_wp2_with fail
    refine (rFault_any 0 2 _).mono ?_
    rintro e w1 ⟨rfl, hb1⟩
    have hfb : FBox w.heap.size w1 := by unfold FBox; rw [hb1.block _ (by simp)]; exact heap_alloc_new w _
    have hfc := hfb.cells
    have HB : Hid (Below w.heap.size w w1) := hide (((Below.refl _ _).alloc (Nat.le_refl _) _).trans (hb1.mono (by simp)))
    clear hb1
    go_wp2
    obtain ⟨z0, z1⟩ := hfb.put2 (.int .i64 0) (.int .i64 2)
    exact bodyPost_ret (v := .tuple #[.slice none 0 0, .agg #[.int .i64 0, .int .i64 2]]) (by simp [results, Tryz.results45, go_sem, z0, z1]) rfl ⟨_, rfl, OwnsK.nil _ _, ((unhide HB).setCell (p := ⟨w.heap.size, 0, none⟩) (Nat.le_refl _) _).setCell (p := ⟨w.heap.size, 1, none⟩) (Nat.le_refl _) _⟩
  · rw [if_neg hbig] at hR
    have HR := hide hR
    clear hR
    obtain ⟨i0, hi, hz0, hz1, hz2⟩ := info_parts info_Tk
    go_enter Tryz.func45, Tryz.ntmps45
    go_wp2_with fail
    go_loopw [4, 5] (fun v p wr => ∃ (k : Nat) (acc : List Tk), k ≤ s.size ∧ p = .int .i64 (k : Int) ∧ OwnsK w.heap.size wr v acc ∧ Below w.heap.size w wr ∧ FBox w.heap.size wr ∧ acc.length ≤ 4096 ∧ Hid ((toks (s.data.toList.drop k) k acc.length).pre acc = R)) (fun _ p _ => s.size - (intOf p).toNat)
    case atStart => exact ⟨0, [], Nat.zero_le _, rfl, OwnsK.nil _ _, (Below.refl _ _).alloc (Nat.le_refl _) _, heap_alloc_new _ _, by simp, hide (by rw [TR.pre_nil, ← unhide HR]; rfl)⟩
    case round =>
      obtain ⟨k, acc, hk, rfl, hown, hbel, hfb, hacc, HD⟩ := hrel
      obtain ⟨av, cv, rfl⟩ := hown.form
      have hfl := hfb.lt
      clear HR
      by_cases hlt : k < s.size
      · have hd0 := drop_get s k hlt
        have B1 := rBlank_any s[k] wr
        by_cases hB : isBlk s[k] = true
        · have HD2 : Hid ((toks (s.data.toList.drop (k + 1)) (k + 1) acc.length).pre acc = R) := hide (by have := unhide HD; rw [hd0, toks_blk hB] at this; exact this)
          rw [hB] at B1
          have HB1 := hide B1
          clear B1 hB hd0 HD
          go_wp2_with fail
          refine (unhide HB1).mono ?_
          rintro e w1 ⟨rfl, rfl⟩
          go_wp2
          go_roundw
          case rel => exact ⟨k + 1, acc, by omega, by go_num, hown, hbel, hfb, hacc, HD2⟩
          case measure => simp [intOf]; omega
        · have hsp : spn isBlk (s.data.toList.drop k) = 0 := by rw [hd0, spn, if_neg hB]
          have hne : s.data.toList.drop k ≠ [] := by rw [hd0]; simp
          rw [Bool.eq_false_iff.2 hB] at B1
          have HB1 := hide B1
          have ON := rOne_any s k wr hlt (by omega)
          have HON := hide ON
          have HSP := hide hsp
          have HNE := hide hne
          clear B1 hB hd0 ON hsp hne
          go_wp2_with fail
          refine (unhide HB1).mono ?_
          rintro e w1 ⟨rfl, rfl⟩
          go_wp2_with fail
          refine (unhide HON).mono ?_
          rintro e w1 ⟨tk, tt, tn, tp, E, ok, rfl, hone, hb1⟩
          have hfb1 := hfb.below hb1 hfl
          have hfl1 := hfb1.lt
          have hbel1 : Below w.heap.size w w1 := hbel.trans (hb1.mono (Nat.le_of_lt hfl))
          have hown1 := hown.below hb1 (Nat.le_refl _)
          clear hfb hown hbel hb1 HON HB1
          rcases hone with ⟨rfl, hnone⟩ | ⟨rfl, t, n, hsome, hTe, rfl⟩
          · have hd := unhide HD
            rw [toks_none hnone (unhide HNE) (unhide HSP)] at hd
            subst hd
            have FA := rFault_any (k : Int) 100 (w1.alloc (.cells #[.int .i64 tk, .string tt, .int .i64 tn, .int .i64 tp] 74))
            have HFA := hide FA
            have hfb2 : FBox w.heap.size (w1.alloc (.cells #[.int .i64 tk, .string tt, .int .i64 tn, .int .i64 tp] 74)) := CBox.kp hfb1 (Kp.alloc _ _) (by simp)
            have hbel2 : Below w.heap.size w (w1.alloc (.cells #[.int .i64 tk, .string tt, .int .i64 tn, .int .i64 tp] 74)) := hbel1.alloc (Nat.le_of_lt hfl1) _
            clear FA hnone hfb1 hbel1 hown1 HD
            go_wp2_with fail
            refine (unhide HFA).mono ?_
            rintro e w2 ⟨rfl, hb2⟩
            have hfb3 : FBox w.heap.size w2 := CBox.kp hfb2 (Kp.ofBelow hb2) (by simp)
            have hfc3 := hfb3.cells
            have HB3 : Hid (Below w.heap.size w w2) := hide (hbel2.trans (hb2.mono (by simp; omega)))
            clear hb2 hbel2 hfb2 HFA
            go_wp2
            obtain ⟨z0, z1⟩ := hfb3.put2 (.int .i64 (k : Int)) (.int .i64 100)
            exact bodyPost_ret (v := .tuple #[.slice none 0 0, .agg #[.int .i64 (k : Int), .int .i64 100]]) (by simp [results, Tryz.results45, go_sem, z0, z1]) rfl ⟨_, rfl, OwnsK.nil _ _, ((unhide HB3).setCell (p := ⟨w.heap.size, 0, none⟩) (Nat.le_refl _) _).setCell (p := ⟨w.heap.size, 1, none⟩) (Nat.le_refl _) _⟩
          · have hX := tkR_some hsome
            have hn0 := hX.1
            have hnl := hX.2.1
            rw [List.length_drop, size_list] at hnl
            clear hX
            by_cases hful : acc.length = 4096
            · have hd := unhide HD
              rw [hful, toks_many hsome] at hd
              subst hd
              have g1 : ((acc.length : Int) == 4096) = true := by simp; omega
              have FA := rFault_any (k : Int) 2 (w1.alloc (.cells #[.int .i64 tk, .string tt, .int .i64 tn, .int .i64 tp] 74))
              have HFA := hide FA
              have hfb2 : FBox w.heap.size (w1.alloc (.cells #[.int .i64 tk, .string tt, .int .i64 tn, .int .i64 tp] 74)) := CBox.kp hfb1 (Kp.alloc _ _) (by simp)
              have hbel2 : Below w.heap.size w (w1.alloc (.cells #[.int .i64 tk, .string tt, .int .i64 tn, .int .i64 tp] 74)) := hbel1.alloc (Nat.le_of_lt hfl1) _
              clear FA hsome hfb1 hbel1 hown1 HD hful hTe
              go_wp2_with fail
              refine (unhide HFA).mono ?_
              rintro e w2 ⟨rfl, hb2⟩
              have hfb3 : FBox w.heap.size w2 := CBox.kp hfb2 (Kp.ofBelow hb2) (by simp)
              have hfc3 := hfb3.cells
              have HB3 : Hid (Below w.heap.size w w2) := hide (hbel2.trans (hb2.mono (by simp; omega)))
              clear hb2 hbel2 hfb2 HFA
              go_wp2
              obtain ⟨z0, z1⟩ := hfb3.put2 (.int .i64 (k : Int)) (.int .i64 2)
              exact bodyPost_ret (v := .tuple #[.slice none 0 0, .agg #[.int .i64 (k : Int), .int .i64 2]]) (by simp [results, Tryz.results45, go_sem, z0, z1]) rfl ⟨_, rfl, OwnsK.nil _ _, ((unhide HB3).setCell (p := ⟨w.heap.size, 0, none⟩) (Nat.le_refl _) _).setCell (p := ⟨w.heap.size, 1, none⟩) (Nat.le_refl _) _⟩
            · have hd := unhide HD
              rw [toks_some hsome hful, TR.pre_pre, List.drop_drop, ← hTe] at hd
              have g1 : ((acc.length : Int) == 4096) = false := by simp; omega
              have hacc2 : acc.length < 4096 := by omega
              have HD2 : Hid ((toks (s.data.toList.drop (k + n)) (k + n) (acc.length + 1)).pre (acc ++ [⟨tk, tt, tn, tp⟩]) = R) := hide hd
              have HFB := hide hfb1
              clear hd hful HD hsome hTe hfb1
              go_wp2_with (at_builtin; refine wpList_append_own _ rfl _ _ 71 rfl w.heap.size 74 i0 (.agg #[.int .i64 0, .string ⟨#[]⟩, .int .i64 0, .int .i64 0]) 4 40 Tryz.underlying71 hi hz0 hz1 hz2 rfl (by decide) _ _ _ rfl ((hown1.alloc _).alloc _) ⟨w1.heap.size + 1, 0, none⟩ 1 1 [.int .i64 tk, .string tt, .int .i64 tn, .int .i64 tp] rfl rfl ?c1 ?c2 ?c3 ?c4 ?c5 ?_)
              case c1 =>
                intro q u hq
                match q, hq with
                | 0, hq => simp at hq; subst hq; simp [Addr.add]
                | 1, hq => simp at hq; subst hq; simp [Addr.add]
                | 2, hq => simp at hq; subst hq; simp [Addr.add]
                | 3, hq => simp at hq; subst hq; simp [Addr.add]
              case c2 => intro u hu; simp at hu; rcases hu with rfl | rfl | rfl | rfl <;> rfl
              case c3 => unfold maxLen; omega
              case c4 => omega
              case c5 => simp; omega
              intro v' w2 hown2 hgrow _
              have hfr : Fr w.heap.size 74 w1 w2 := (((Fr.refl _ _ w1).alloc (Nat.le_of_lt hfl1) _).alloc (by simp; omega) _).grown ((hown1.alloc _).alloc _) hgrow (by simp; omega)
              have hfb2 : FBox w.heap.size w2 := hfr.keep (unhide HFB) (by decide)
              have hown3 : OwnsK w.heap.size w2 v' (acc ++ [⟨tk, tt, tn, tp⟩]) := by
                unfold OwnsK
                rw [tkC_append, List.length_append]
                exact hown2
              have hbel2 := hbel1.trans hfr.below
              clear hown2 hgrow hown1 hfr hbel1 HFB
              go_wp2
              go_roundw
              case rel => exact ⟨k + n, acc ++ [⟨tk, tt, tn, tp⟩], by omega, rfl, hown3, hbel2, hfb2, by simp; omega, by rw [List.length_append]; exact HD2⟩
              case measure => simp [intOf]; omega
      · have hd := unhide HD
        rw [List.drop_of_length_le (by rw [size_list]; omega), toks_nil] at hd
        subst hd
        clear HD
        have HFB := hide hfb
        have hfc := hfb.cells
        clear hfb
        go_wp2_with (at_builtin; refine wpList_append_own _ rfl _ _ 71 rfl w.heap.size 74 i0 (.agg #[.int .i64 0, .string ⟨#[]⟩, .int .i64 0, .int .i64 0]) 4 40 Tryz.underlying71 hi hz0 hz1 hz2 rfl (by decide) _ _ _ rfl (hown.alloc _) ⟨wr.heap.size, 0, none⟩ 1 1 [.int .i64 0, .string ⟨#[]⟩, .int .i64 0, .int .i64 (s.size : Int)] rfl rfl (cells_four _ ⟨0, ⟨#[]⟩, 0, (s.size : Int)⟩ _ (CBox.new wr _ _)) ?c2 ?c3 ?c4 ?c5 ?_)
        case c2 => intro u hu; simp at hu; rcases hu with rfl | rfl | rfl | rfl <;> rfl
        case c3 => unfold maxLen; omega
        case c4 => omega
        case c5 => simp; omega
        intro v' w2 hown2 hgrow _
        have hfr : Fr w.heap.size 74 wr w2 := ((Fr.refl _ _ wr).alloc (Nat.le_of_lt hfl) _).grown (hown.alloc _) hgrow (by simp; omega)
        have hfb2 : FBox w.heap.size w2 := hfr.keep (unhide HFB) (by decide)
        have hfc2 := hfb2.cells
        have hown3 : OwnsK w.heap.size w2 v' (acc ++ [⟨0, ⟨#[]⟩, 0, (s.size : Int)⟩]) := by
          unfold OwnsK
          rw [tkC_append, List.length_append]
          exact hown2
        have HB2 : Hid (OwnsK w.heap.size w2 v' (acc ++ [⟨0, ⟨#[]⟩, 0, (s.size : Int)⟩]) ∧ FBox w.heap.size w2 ∧ Below w.heap.size w w2) := hide ⟨hown3, hfb2, hbel.trans hfr.below⟩
        obtain ⟨a3, c3, rfl⟩ := hown3.form
        clear hown2 hgrow hown hfr hbel HFB hfb2 hown3 hfc
        go_wp2
        obtain ⟨o1, o2, o3⟩ := unhide HB2
        exact bodyPost_ret (v := .tuple #[.slice a3 (acc ++ [(⟨0, ⟨#[]⟩, 0, (s.size : Int)⟩ : Tk)]).length c3, .agg #[.int .i64 0, .int .i64 0]]) (by simp [results, Tryz.results45, go_sem, hfc2]) rfl ⟨_, rfl, by simpa [tsL, TR.pre] using o1.fault o2 _ _, (o3.setCell (Nat.le_refl _) _).setCell (Nat.le_refl _) _⟩
end Go.Proofs.YtjijhefmbmdbeaaGreatDoor
namespace Go.Proofs.YtjijhefmbmdbeaaGreatDoor
open Go.RowKit Go.Shelf

theorem how_any (w : World) : Calls Tryz.prog 42 #[] w fun e w' => ∃ g, e = .returned (.slice (some ⟨g, 0, none⟩) 4 4) ∧ CBox g #[.string (txt (hwW 0)), .string (txt (hwW 1)), .string (txt (hwW 2)), .string (txt (hwW 3))] 9 w' ∧ Kp [] w w' := by
  have b := CBox.new w #[.string (txt (hwW 0)), .string (txt (hwW 1)), .string (txt (hwW 2)), .string (txt (hwW 3))] 9
  have HF : Hid (CBox w.heap.size #[.string (txt (hwW 0)), .string (txt (hwW 1)), .string (txt (hwW 2)), .string (txt (hwW 3))] 9 (w.alloc (.cells #[.string (txt (hwW 0)), .string (txt (hwW 1)), .string (txt (hwW 2)), .string (txt (hwW 3))] 9)) ∧ Kp [] w (w.alloc (.cells #[.string (txt (hwW 0)), .string (txt (hwW 1)), .string (txt (hwW 2)), .string (txt (hwW 3))] 9))) := hide ⟨b, Kp.alloc _ _⟩
  clear b
  go_enter Tryz.func42, Tryz.ntmps42
  go_wp2
  go_ret
  exact ⟨_, rfl, unhide HF⟩
theorem ba_txt (a b : List UInt8) : txt a ++ txt b = txt (a ++ b) := by
  apply ByteArray.ext
  simp [txt]
theorem ba_self (a : ByteArray) : a = txt a.data.toList := by
  apply ByteArray.ext
  simp [txt]
theorem stage_text (P : List UInt8) (s : Stg) (h : s.mn = false) : (txt P ++ ((txt (hwW s.hw) ++ ⟨#[32]⟩) ++ s.nm)) ++ ((⟨#[32, 58, 32]⟩ ++ txt (joinB (cdT s.cd))) ++ ⟨#[32, 59, 32]⟩) = txt (P ++ stB s) := by
  rw [ba_self s.nm, show (⟨#[32]⟩ : ByteArray) = txt [32] from rfl, show (⟨#[32, 58, 32]⟩ : ByteArray) = txt [32, 58, 32] from rfl, show (⟨#[32, 59, 32]⟩ : ByteArray) = txt [32, 59, 32] from rfl]
  simp only [ba_txt]
  congr 1
  unfold stB
  rw [h]
  simp
theorem stage_text2 (P : List UInt8) (s : Stg) (h : s.mn = true) : ((txt P ++ ((txt (hwW s.hw) ++ ⟨#[32]⟩) ++ s.nm)) ++ ⟨#[32, 43]⟩) ++ ((⟨#[32, 58, 32]⟩ ++ txt (joinB (cdT s.cd))) ++ ⟨#[32, 59, 32]⟩) = txt (P ++ stB s) := by
  rw [ba_self s.nm, show (⟨#[32]⟩ : ByteArray) = txt [32] from rfl, show (⟨#[32, 43]⟩ : ByteArray) = txt [32, 43] from rfl, show (⟨#[32, 58, 32]⟩ : ByteArray) = txt [32, 58, 32] from rfl, show (⟨#[32, 59, 32]⟩ : ByteArray) = txt [32, 59, 32] from rfl]
  simp only [ba_txt]
  congr 1
  unfold stB
  rw [h]
  simp
theorem how_at {g : Nat} {w : World} (h : CBox g #[.string (txt (hwW 0)), .string (txt (hwW 1)), .string (txt (hwW 2)), .string (txt (hwW 3))] 9 w) (H : Nat) (hH : H ≤ 3) : w.cell? ⟨g, H, none⟩ = some (.string (txt (hwW (H : Int)))) := by
  match H, hH with
  | 0, _ => exact h.cell rfl
  | 1, _ => exact h.cell rfl
  | 2, _ => exact h.cell rfl
  | 3, _ => exact h.cell rfl
end Go.Proofs.YtjijhefmbmdbeaaGreatDoor
