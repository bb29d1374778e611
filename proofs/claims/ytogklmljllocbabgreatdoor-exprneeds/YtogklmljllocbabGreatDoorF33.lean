/-
  Read: any text is read as the plain function has it.
  works: the chapter's examples.
  Stages: which stages an expression asks for, as the plain function has it.
-/
import Derived.Test.YtogklmljllocbabGreatDoorF32
import Derived.Test.YtogklmljllocbabGreatDoorF22
import Derived.Test.YtogklmljllocbabGreatDoorF08
import Derived.Test.YtogklmljllocbabGreatDoorF25
import Derived.Test.YtogklmljllocbabGreatDoorF20
import Derived.Deep.QuietTactic
namespace Go.Proofs.YtogklmljllocbabGreatDoor
open Go.RowKit Go.Shelf

set_option maxHeartbeats 4000000 in
set_option maxRecDepth 100000 in
theorem eread_any (s : ByteArray) (w : World) (hT : TbE w) (hs : s.size ≤ 9223372036854775807) :
    Calls Tryz.prog 43 #[.string s] w fun e w' => RdT w.heap.size (rdO s) e w' ∧ Below w.heap.size w w' := by
  have TK := tokens_any s (w.alloc (.cells #[.int .i64 0, .int .i64 0] 47)) (hT.alloc _).tok hs
  have hf0 : FBox w.heap.size (w.alloc (.cells #[.int .i64 0, .int .i64 0] 47)) := CBox.new w _ _
  have hl0 := hf0.lt
  have hb0 : Below w.heap.size w (w.alloc (.cells #[.int .i64 0, .int .i64 0] 47)) := (Below.refl _ _).alloc (Nat.le_refl _) _
  cases hR : tsR s with
  | bad k c =>
    have hc : (c == 0) = false := by
      rcases tsR_code s with ⟨ts, h1, _, _⟩ | ⟨_, h2⟩
      · rw [hR] at h1; cases h1
      · rw [hR] at h2; simpa [tsC] using h2
    have HPB : Hid (∀ W, RdT w.heap.size (rdO s) (.returned (.tuple #[.slice none 0 0, .agg #[.int .i64 (k : Int), .int .i64 c]])) W) := hide (fun W => RdT.nil (by unfold rdO; rw [hR]))
    rw [hR] at TK
    have HTK : Hid (Calls Tryz.prog 31 #[.string s] (w.alloc (.cells #[.int .i64 0, .int .i64 0] 47)) fun e w' => ∃ ad n cp, e = .returned (.tuple #[.slice ad n cp, .agg #[.int .i64 (k : Int), .int .i64 c]]) ∧ FBox w.heap.size w' ∧ Below w.heap.size w w') := hide (TK.mono fun e w' ⟨v, h1, h2, h3⟩ => by
      obtain ⟨ad, cp, rfl, _⟩ := h2.at
      exact ⟨ad, _, cp, h1, hf0.below h3 hl0, hb0.trans (h3.mono (by simp))⟩)
    clear TK hR hf0 hb0 hT hl0
    go_enter Tryz.func43, Tryz.ntmps43
    go_wp2_with fail
    refine (unhide HTK).mono ?_
    rintro e w1 ⟨ad, n, cp, rfl, fb1, hb1⟩
    have q1 : CBox w1.heap.size #[.int .i64 (k : Int), .int .i64 c] 47 (w1.alloc (.cells #[.int .i64 (k : Int), .int .i64 c] 47)) := CBox.new w1 _ _
    have fb2 : FBox w.heap.size (w1.alloc (.cells #[.int .i64 (k : Int), .int .i64 c] 47)) := CBox.kp fb1 (Kp.alloc _ _) (by simp)
    have hl1 := fb1.lt
    obtain ⟨c0, c1⟩ := two_cells q1
    obtain ⟨f0, f1, fz0, fz1⟩ := fb2.cells
    have HF := hide fb2
    have HB := hide (hb1.alloc (by omega) (.cells #[.int .i64 (k : Int), .int .i64 c] 47))
    clear fb1 fb2 hb1 q1 HTK
    go_wp2_with fail
    generalize w1.alloc (.cells #[.int .i64 (k : Int), .int .i64 c] 47) = W at *
    generalize w1.heap.size = G at *
    go_region
    go_wp2
    have q2 : CBox w.heap.size #[.int .i64 (k : Int), .int .i64 c] 47 (((W.setCell ⟨w.heap.size, 0, none⟩ (.int .i64 (k : Int))).setCell ⟨w.heap.size, 1, none⟩ (.int .i64 c)).drew) := (unhide HF).two _ _
    obtain ⟨z0, z1⟩ := two_cells q2
    exact bodyPost_ret (v := .tuple #[.slice none 0 0, .agg #[.int .i64 (k : Int), .int .i64 c]]) (by simp [results, Tryz.results43, go_sem, z0, z1]) rfl ⟨unhide HPB _, (two_below (unhide HB) (Nat.le_refl _) _ _).drew⟩
  | good ts =>
    have hne : ts ++ [endZ s.size] ≠ [] := by simp
    have hsz := tk_sz s ts hR
    have hok := tsL_ok s
    have hlen := tsL_len s
    have hRO : rdO s = rdG s.size ts := by unfold rdO; rw [hR]
    rw [hR] at TK hok hlen
    have e1 : tsL s.size (.good ts) = ts ++ [endZ s.size] := rfl
    have e2 : tsA (.good ts) = 0 := rfl
    have e3 : tsC (.good ts) = 0 := rfl
    rw [e1, e2, e3] at TK
    rw [e1] at hok hlen
    clear e1 e2 e3
    have hE := endd_snoc ts s.size
    have hRG : rdG s.size ts = match psR (ts ++ [endZ s.size]) with
      | .bad q => ⟨[], hdPl q, 110⟩
      | .good x q => if ckK x = 0 then ⟨[], 0, 110⟩ else if hdKd q = 0 then ⟨x, 0, 0⟩ else ⟨[], hdPl q, 110⟩ := rfl
    have HRO := hide (hRO.trans hRG)
    clear hRO hRG hR
    generalize ts ++ [endZ s.size] = L at *
    have HTK : Hid (Calls Tryz.prog 31 #[.string s] (w.alloc (.cells #[.int .i64 0, .int .i64 0] 47)) fun e w' => ∃ b off cp, e = .returned (.tuple #[.slice (some ⟨b, off, none⟩) L.length cp, .agg #[.int .i64 0, .int .i64 0]]) ∧ FBox w.heap.size w' ∧ Below w.heap.size w w' ∧ TksLow w'.heap.size w' (.slice (some ⟨b, off, none⟩) L.length cp) L) := hide (TK.mono fun e w' ⟨v, h1, h2, h3⟩ => by
      obtain ⟨b, off, cp, rfl, hlt, hc⟩ := h2.low hne
      exact ⟨b, off, cp, h1, hf0.below h3 hl0, hb0.trans (h3.mono (by simp)), ⟨b, off, cp, rfl, hlt, hc⟩⟩)
    have HTb := hide hT
    have HSZ := hide hsz
    have HOK := hide hok
    have HE := hide hE
    clear TK hf0 hb0 hT hl0 hsz hok hE hne
    go_enter Tryz.func43, Tryz.ntmps43
    go_wp2_with fail
    refine (unhide HTK).mono ?_
    rintro e w1 ⟨b, off, cp, rfl, fb1, hb1, ht1⟩
    have q1 : CBox w1.heap.size #[.int .i64 0, .int .i64 0] 47 (w1.alloc (.cells #[.int .i64 0, .int .i64 0] 47)) := CBox.new w1 _ _
    have fb2 : FBox w.heap.size (w1.alloc (.cells #[.int .i64 0, .int .i64 0] 47)) := CBox.kp fb1 (Kp.alloc _ _) (by simp)
    have hl1 := fb1.lt
    have hb2 := hb1.alloc (by omega) (.cells #[.int .i64 0, .int .i64 0] 47)
    have ht2 : TksLow (w1.alloc (.cells #[.int .i64 0, .int .i64 0] 47)).heap.size (w1.alloc (.cells #[.int .i64 0, .int .i64 0] 47)) (.slice (some ⟨b, off, none⟩) L.length cp) L := (ht1.below ((Below.refl _ _).alloc (Nat.le_refl _) _)).mono (by simp)
    have hT2 := (unhide HTb).below hb2 (unhide HTb).low
    have PA := parse_any (.slice (some ⟨b, off, none⟩) L.length cp) L _ ht2 hT2 (by omega) (unhide HSZ) (unhide HE) (unhide HOK)
    have hl2 : w1.heap.size < (w1.alloc (.cells #[.int .i64 0, .int .i64 0] 47)).heap.size := by simp
    obtain ⟨c0, c1⟩ := two_cells q1
    have hlW := hb2.size
    have HL : Hid (∀ w3, Below (w1.alloc (.cells #[.int .i64 0, .int .i64 0] 47)).heap.size (w1.alloc (.cells #[.int .i64 0, .int .i64 0] 47)) w3 → FBox w.heap.size w3 ∧ FBox w1.heap.size w3 ∧ Hid (Below w.heap.size w w3) ∧ Hid (TksLow w1.heap.size w3 (.slice (some ⟨b, off, none⟩) L.length cp) L)) := hide (fun w3 hb3 => ⟨fb2.below hb3 fb2.lt, FBox.below q1 hb3 hl2, hide (hb2.trans (hb3.mono hlW)), hide (ht1.below (((Below.refl _ _).alloc (Nat.le_refl _) _).trans (hb3.mono (by simp))))⟩)
    have HPA := hide PA
    have hend := (pRd_ok (mRd 0 L) 0 0 [] L (unhide HE)).1
    have hP0 : psR L = pRd (mRd 0 L) 0 0 [] L := rfl
    rw [← hP0] at hend
    clear fb1 hb1 ht1 HTK HTb HSZ HOK fb2 hb2 ht2 hT2 PA q1 hP0 HE
    go_wp2_with fail
    refine (unhide HPA).mono ?_
    rintro e w3 ⟨hPs, hb3⟩
    obtain ⟨fb3, fd3, HB, HT3⟩ := unhide HL w3 hb3
    have hl3 : w1.heap.size < w3.heap.size := fd3.lt
    clear HPA HL hb3 c0 c1
    cases hP : psR L with
    | bad q =>
      cases q with
      | nil => rw [hP] at hend; exact absurd rfl hend.1.ne
      | cons t r =>
        rw [hP] at hPs
        obtain rfl := hPs
        have HPB : Hid (∀ W, RdT w.heap.size (rdO s) (.returned (.tuple #[.slice none 0 0, .agg #[.int .i64 t.pl, .int .i64 110]])) W) := hide (fun W => RdT.nil (by rw [unhide HRO, hP]; rfl))
        obtain ⟨f0, f1, fz0, fz1⟩ := fd3.cells
        obtain ⟨A, hA⟩ : ∃ A, t.pl = A := ⟨_, rfl⟩
        rw [hA] at HPB
        have hret : Ending.returned (.tuple #[.slice none 0 0, .int .i64 0, .agg #[.int .i64 (hdPl (t :: r)), .int .i64 110]]) = .returned (.tuple #[.slice none 0 0, .int .i64 0, .agg #[.int .i64 A, .int .i64 110]]) := by rw [← hA]; rfl
        rw [hret]
        have HF := hide (rd_flt fb3 fd3 (by omega) (.int .i64 A) (.int .i64 110))
        have HB5 := hide (two_below (unhide HB) (show w.heap.size ≤ w1.heap.size by omega) (.int .i64 A) (.int .i64 110))
        clear hret hA hP hend HT3 fb3 fd3 HB
        go_wp2_with fail
        generalize (w3.setCell ⟨w1.heap.size, 0, none⟩ (.int .i64 A)).setCell ⟨w1.heap.size, 1, none⟩ (.int .i64 110) = W at *
        obtain ⟨⟨c0, c1⟩, fbW⟩ := unhide HF
        obtain ⟨g0, g1, gz0, gz1⟩ := fbW.cells
        have hlt := fbW.lt
        have HFW := hide fbW
        clear fbW HF f0 f1 fz0 fz1
        generalize w1.heap.size = G at *
        go_region
        go_wp2
        have q2 : CBox w.heap.size #[.int .i64 A, .int .i64 110] 47 (((W.setCell ⟨w.heap.size, 0, none⟩ (.int .i64 A)).setCell ⟨w.heap.size, 1, none⟩ (.int .i64 110)).drew) := (unhide HFW).two _ _
        obtain ⟨z0, z1⟩ := two_cells q2
        exact bodyPost_ret (v := .tuple #[.slice none 0 0, .agg #[.int .i64 A, .int .i64 110]]) (by simp [results, Tryz.results43, go_sem, z0, z1]) rfl ⟨unhide HPB _, (two_below (unhide HB5) (Nat.le_refl _) _ _).drew⟩
    | good x q =>
      rw [hP] at hPs hend
      unfold PsT at hPs
      dsimp only at hPs
      by_cases h0 : ckK x = 0
      · rw [if_pos h0] at hPs
        obtain rfl := hPs
        have HPB : Hid (∀ W, RdT w.heap.size (rdO s) (.returned (.tuple #[.slice none 0 0, .agg #[.int .i64 0, .int .i64 110]])) W) := hide (fun W => RdT.nil (by rw [unhide HRO, hP]; dsimp only; rw [if_pos h0]))
        obtain ⟨f0, f1, fz0, fz1⟩ := fd3.cells
        have HF := hide (rd_flt fb3 fd3 (by omega) (.int .i64 0) (.int .i64 110))
        have HB5 := hide (two_below (unhide HB) (show w.heap.size ≤ w1.heap.size by omega) (.int .i64 0) (.int .i64 110))
        clear hP hend HT3 fb3 fd3 HB h0
        go_wp2_with fail
        generalize (w3.setCell ⟨w1.heap.size, 0, none⟩ (.int .i64 0)).setCell ⟨w1.heap.size, 1, none⟩ (.int .i64 110) = W at *
        obtain ⟨⟨c0, c1⟩, fbW⟩ := unhide HF
        obtain ⟨g0, g1, gz0, gz1⟩ := fbW.cells
        have hlt := fbW.lt
        have HFW := hide fbW
        clear fbW HF f0 f1 fz0 fz1
        generalize w1.heap.size = G at *
        go_region
        go_wp2
        have q2 : CBox w.heap.size #[.int .i64 0, .int .i64 110] 47 (((W.setCell ⟨w.heap.size, 0, none⟩ (.int .i64 0)).setCell ⟨w.heap.size, 1, none⟩ (.int .i64 110)).drew) := (unhide HFW).two _ _
        obtain ⟨z0, z1⟩ := two_cells q2
        exact bodyPost_ret (v := .tuple #[.slice none 0 0, .agg #[.int .i64 0, .int .i64 110]]) (by simp [results, Tryz.results43, go_sem, z0, z1]) rfl ⟨unhide HPB _, (two_below (unhide HB5) (Nat.le_refl _) _ _).drew⟩
      · rw [if_neg h0] at hPs
        obtain ⟨v, k, rfl, hkl, hq, ho⟩ := hPs
        obtain ⟨ad, cx, rfl, _, _⟩ := ho.at
        obtain ⟨f0, f1, fz0, fz1⟩ := fd3.cells
        have HF := hide (rd_flt fb3 fd3 (by omega) (.int .i64 0) (.int .i64 0))
        have HB5 := hide (two_below (unhide HB) (show w.heap.size ≤ w1.heap.size by omega) (.int .i64 0) (.int .i64 0))
        have HO5 : Hid (OwnsP w.heap.size ((w3.setCell ⟨w1.heap.size, 0, none⟩ (.int .i64 0)).setCell ⟨w1.heap.size, 1, none⟩ (.int .i64 0)) (.slice ad x.length cx) x) := hide ((ho.mono hlW).flt fd3 _ _)
        cases q with
        | nil => exact absurd rfl hend.1.ne
        | cons t r =>
          obtain ⟨hk, hlt, _⟩ := drop_at hq
          obtain ⟨b', off', cap', e1, hlt2, hc⟩ := (unhide HT3).below (two_below (Below.refl _ _) (Nat.le_refl w1.heap.size) (.int .i64 0) (.int .i64 0))
          cases e1
          obtain ⟨d0, _, _, d3⟩ := hc k hk
          rw [hlt] at d0 d3
          have HPB : Hid (∀ W, OwnsP w.heap.size W (.slice ad x.length cx) x → t.kd = 0 → RdT w.heap.size (rdO s) (.returned (.tuple #[.slice ad x.length cx, .agg #[.int .i64 0, .int .i64 0]])) W) := hide (fun W hoW hk => RdT.parts (by rw [unhide HRO, hP]; dsimp only; rw [if_neg h0, if_pos (show hdKd (t :: r) = 0 from hk)]) hoW)
          have HPN : Hid (∀ W, t.kd ≠ 0 → RdT w.heap.size (rdO s) (.returned (.tuple #[.slice none 0 0, .agg #[.int .i64 t.pl, .int .i64 110]])) W) := hide (fun W hk => RdT.nil (by rw [unhide HRO, hP]; dsimp only; rw [if_neg h0, if_neg (show ¬ hdKd (t :: r) = 0 from hk)]; rfl))
          obtain ⟨tkd, ts, tn, tpl⟩ := t
          dsimp only at d0 d3 HPB HPN
          have hkL : (k : Int) < (L.length : Int) := by omega
          have HD := hide (And.intro d0 d3)
          clear hc hlt hq hP hend HT3 fb3 fd3 HB h0 ho d0 d3
          by_cases hz : tkd = 0
          · subst hz
            have HPB2 : Hid (∀ W, OwnsP w.heap.size W (.slice ad x.length cx) x → RdT w.heap.size (rdO s) (.returned (.tuple #[.slice ad x.length cx, .agg #[.int .i64 0, .int .i64 0]])) W) := hide (fun W h => unhide HPB W h rfl)
            clear HPB HPN
            obtain ⟨d0, d3⟩ := unhide HD
            obtain ⟨⟨c0, c1⟩, fbW⟩ := unhide HF
            obtain ⟨g0, g1, gz0, gz1⟩ := fbW.cells
            have hltW := fbW.lt
            have HFW := hide fbW
            clear fbW HF HD
            go_wp2
            have q2 : CBox w.heap.size #[.int .i64 0, .int .i64 0] 47 ((((w3.setCell ⟨w1.heap.size, 0, none⟩ (.int .i64 0)).setCell ⟨w1.heap.size, 1, none⟩ (.int .i64 0)).setCell ⟨w.heap.size, 0, none⟩ (.int .i64 0)).setCell ⟨w.heap.size, 1, none⟩ (.int .i64 0)) := (unhide HFW).two _ _
            obtain ⟨z0, z1⟩ := two_cells q2
            exact bodyPost_ret (v := .tuple #[.slice ad x.length cx, .agg #[.int .i64 0, .int .i64 0]]) (by simp [results, Tryz.results43, go_sem, z0, z1]) rfl ⟨unhide HPB2 _ ((unhide HO5).flt (unhide HFW) _ _), two_below (unhide HB5) (Nat.le_refl _) _ _⟩
          · have hz2 : (tkd == 0) = false := beq_eq_false_iff_ne.2 hz
            have HPN2 : Hid (∀ W, RdT w.heap.size (rdO s) (.returned (.tuple #[.slice none 0 0, .agg #[.int .i64 tpl, .int .i64 110]])) W) := hide (fun W => unhide HPN W hz)
            clear HPB HPN
            obtain ⟨d0, d3⟩ := unhide HD
            obtain ⟨⟨c0, c1⟩, fbW⟩ := unhide HF
            obtain ⟨g0, g1, gz0, gz1⟩ := fbW.cells
            have hltW := fbW.lt
            have HFW := hide fbW
            clear fbW HF HD
            go_wp2_with fail
            generalize (w3.setCell ⟨w1.heap.size, 0, none⟩ (.int .i64 0)).setCell ⟨w1.heap.size, 1, none⟩ (.int .i64 0) = W at *
            clear f0 f1 fz0 fz1
            generalize w1.heap.size = G at *
            go_region
            go_wp2
            have q2 : CBox w.heap.size #[.int .i64 tpl, .int .i64 110] 47 (((W.setCell ⟨w.heap.size, 0, none⟩ (.int .i64 tpl)).setCell ⟨w.heap.size, 1, none⟩ (.int .i64 110)).drew) := (unhide HFW).two _ _
            obtain ⟨z0, z1⟩ := two_cells q2
            exact bodyPost_ret (v := .tuple #[.slice none 0 0, .agg #[.int .i64 tpl, .int .i64 110]]) (by simp [results, Tryz.results43, go_sem, z0, z1]) rfl ⟨unhide HPN2 _, (two_below (unhide HB5) (Nat.le_refl _) _ _).drew⟩
end Go.Proofs.YtogklmljllocbabGreatDoor
namespace Go.Proofs.YtogklmljllocbabGreatDoor
open Go.RowKit Go.Shelf

def exX : List Pt := [⟨11, 0, ⟨#[]⟩, ⟨#[]⟩, 0⟩, ⟨7, 0, ⟨#[]⟩, ⟨#[]⟩, 0⟩, ⟨4, 0, ⟨#[]⟩, ⟨#[]⟩, 0⟩, ⟨3, 0, ⟨#[]⟩, ⟨#[]⟩, 0⟩, ⟨1, 1, ⟨#[]⟩, ⟨#[]⟩, 0⟩, ⟨3, 0, ⟨#[]⟩, ⟨#[97]⟩, 0⟩, ⟨9, 0, ⟨#[]⟩, ⟨#[]⟩, 0⟩, ⟨3, 0, ⟨#[]⟩, ⟨#[]⟩, 4⟩, ⟨2, 0, ⟨#[120]⟩, ⟨#[]⟩, 0⟩]
theorem ex_read : rdO ⟨#[110, 48, 32, 43, 32, 49, 32, 60, 32, 97, 46, 110, 48, 32, 97, 110, 100, 32, 116, 121, 112, 101, 32, 61, 61, 32, 39, 120, 39]⟩ = ⟨exX, 0, 0⟩ := by kernel_rfl
theorem ex_two : rdO ⟨#[110, 48, 32, 60, 32, 49, 32, 60, 32, 50]⟩ = ⟨[], 7, 110⟩ := by kernel_rfl
theorem ex_three : rdO ⟨#[110, 48, 32, 97, 110, 100, 32, 49]⟩ = ⟨[], 0, 110⟩ := by kernel_rfl
theorem ex_ck : ckK exX = 3 := by kernel_rfl
theorem ex_write : wrS exX = ⟨#[40, 32, 40, 32, 110, 48, 32, 43, 32, 49, 32, 41, 32, 60, 32, 97, 32, 46, 32, 110, 48, 32, 41, 32, 97, 110, 100, 32, 40, 32, 116, 121, 112, 101, 32, 61, 61, 32, 39, 120, 39, 32, 41]⟩ := by kernel_rfl
set_option maxHeartbeats 2000000 in
set_option maxRecDepth 100000 in
theorem eworks_any (w : World) (hT : TbE w) : Calls Tryz.prog 17 #[] w fun e w' => e = .returned (.bool true) ∧ Below w.heap.size w w' := by
  have R1 := eread_any ⟨#[110, 48, 32, 43, 32, 49, 32, 60, 32, 97, 46, 110, 48, 32, 97, 110, 100, 32, 116, 121, 112, 101, 32, 61, 61, 32, 39, 120, 39]⟩ w hT (by decide)
  have R2 := fun W hW => eread_any ⟨#[110, 48, 32, 60, 32, 49, 32, 60, 32, 50]⟩ W hW (by decide)
  have R3 := fun W hW => eread_any ⟨#[110, 48, 32, 97, 110, 100, 32, 49]⟩ W hW (by decide)
  have WR := fun ad cp W hA hW => write_any ad cp exX W hA hW (by rw [show exX = (rdO ⟨#[110, 48, 32, 43, 32, 49, 32, 60, 32, 97, 46, 110, 48, 32, 97, 110, 100, 32, 116, 121, 112, 101, 32, 61, 61, 32, 39, 120, 39]⟩).x by rw [ex_read]]; exact read_ok _)
  rw [ex_read] at R1
  rw [ex_two] at R2
  rw [ex_three] at R3
  rw [ex_write, ex_ck, if_neg (by decide)] at WR
  have HR1 : Hid (Calls Tryz.prog 43 #[.string ⟨#[110, 48, 32, 43, 32, 49, 32, 60, 32, 97, 46, 110, 48, 32, 97, 110, 100, 32, 116, 121, 112, 101, 32, 61, 61, 32, 39, 120, 39]⟩] w fun e w' => ∃ ad cp, e = .returned (.tuple #[.slice ad 9 cp, .agg #[.int .i64 0, .int .i64 0]]) ∧ PtsAt w' ad exX ∧ Below w.heap.size w w') := hide (R1.mono fun e w' ⟨⟨v, h1, h2⟩, h3⟩ => by
    obtain ⟨ad, cp, rfl, h4, _⟩ := h2.at
    exact ⟨ad, cp, h1, h4, h3⟩)
  have HR2 : Hid (∀ W, TbE W → Calls Tryz.prog 43 #[.string ⟨#[110, 48, 32, 60, 32, 49, 32, 60, 32, 50]⟩] W fun e w' => ∃ ad cp, e = .returned (.tuple #[.slice ad 0 cp, .agg #[.int .i64 7, .int .i64 110]]) ∧ Below W.heap.size W w') := hide (fun W hW => (R2 W hW).mono fun e w' ⟨⟨v, h1, h2⟩, h3⟩ => by
    obtain ⟨ad, cp, rfl, _, _⟩ := h2.at
    exact ⟨ad, cp, h1, h3⟩)
  have HR3 : Hid (∀ W, TbE W → Calls Tryz.prog 43 #[.string ⟨#[110, 48, 32, 97, 110, 100, 32, 49]⟩] W fun e w' => ∃ ad cp, e = .returned (.tuple #[.slice ad 0 cp, .agg #[.int .i64 0, .int .i64 110]]) ∧ Below W.heap.size W w') := hide (fun W hW => (R3 W hW).mono fun e w' ⟨⟨v, h1, h2⟩, h3⟩ => by
    obtain ⟨ad, cp, rfl, _, _⟩ := h2.at
    exact ⟨ad, cp, h1, h3⟩)
  have HWR : Hid (∀ ad cp W, PtsAt W ad exX → TbE W → Calls Tryz.prog 44 #[.slice ad 9 cp] W fun e w' => e = .returned (.tuple #[.string ⟨#[40, 32, 40, 32, 110, 48, 32, 43, 32, 49, 32, 41, 32, 60, 32, 97, 32, 46, 32, 110, 48, 32, 41, 32, 97, 110, 100, 32, 40, 32, 116, 121, 112, 101, 32, 61, 61, 32, 39, 120, 39, 32, 41]⟩, .int .i64 0]) ∧ Below W.heap.size W w') := hide WR
  have HT := hide hT
  clear R1 R2 R3 WR hT
  go_enter Tryz.func17, Tryz.ntmps17
  go_wp2_with fail
  refine (unhide HR1).mono ?_
  rintro e w1 ⟨ad, cp, rfl, hA, hb1⟩
  have k1 : Kp [] w1 (w1.alloc (.cells #[.int .i64 0, .int .i64 0] 47)) := Kp.alloc _ _
  have hb2 : Below w.heap.size w (w1.alloc (.cells #[.int .i64 0, .int .i64 0] 47)) := hb1.alloc hb1.size _
  have WR2 := hide (unhide HWR ad cp _ (hA.kp k1) ((unhide HT).below hb2 (unhide HT).low))
  have fb2 : FBox w1.heap.size (w1.alloc (.cells #[.int .i64 0, .int .i64 0] 47)) := CBox.new w1 _ _
  have HB := hide hb2
  clear HR1 HWR hA k1 hb1 hb2
  go_wp2_with fail
  refine (unhide WR2).mono ?_
  rintro e w3 ⟨rfl, hb3⟩
  have HB3 := hide ((unhide HB).trans (hb3.mono (unhide HB).size))
  have fb3 := fb2.below hb3 fb2.lt
  have R4 := hide (unhide HR2 w3 ((unhide HT).below (unhide HB3) (unhide HT).low))
  clear hb3 HB fb2 WR2 HR2
  go_wp2_with fail
  refine (unhide R4).mono ?_
  rintro e w4 ⟨a4, c4, rfl, hb4⟩
  have HB4 := hide (((unhide HB3).trans (hb4.mono (unhide HB3).size)).alloc (by have := (unhide HB3).size; have := hb4.size; omega) (.cells #[.int .i64 7, .int .i64 110] 47))
  have fb4 : FBox w1.heap.size (w4.alloc (.cells #[.int .i64 7, .int .i64 110] 47)) := CBox.kp (fb3.below hb4 fb3.lt) (Kp.alloc _ _) (by simp)
  have fc4 : CBox w4.heap.size #[.int .i64 7, .int .i64 110] 47 (w4.alloc (.cells #[.int .i64 7, .int .i64 110] 47)) := CBox.new w4 _ _
  have R5 := hide (unhide HR3 _ ((unhide HT).below (unhide HB4) (unhide HT).low))
  clear hb4 HB3 fb3 R4 HR3
  go_wp2_with fail
  refine (unhide R5).mono ?_
  rintro e w5 ⟨a5, c5, rfl, hb5⟩
  have HB5 := hide (((unhide HB4).trans (hb5.mono (unhide HB4).size)).alloc (by have := (unhide HB4).size; have := hb5.size; omega) (.cells #[.int .i64 0, .int .i64 110] 47))
  have fb5 : FBox w1.heap.size (w5.alloc (.cells #[.int .i64 0, .int .i64 110] 47)) := CBox.kp (fb4.below hb5 fb4.lt) (Kp.alloc _ _) (by simp)
  have fc5 : CBox w4.heap.size #[.int .i64 7, .int .i64 110] 47 (w5.alloc (.cells #[.int .i64 0, .int .i64 110] 47)) := CBox.kp (CBox.kp fc4 (Kp.ofBelow hb5) (by simp)) (Kp.alloc _ _) (by simp)
  have fd5 : CBox w5.heap.size #[.int .i64 0, .int .i64 110] 47 (w5.alloc (.cells #[.int .i64 0, .int .i64 110] 47)) := CBox.new w5 _ _
  obtain ⟨x0, x1, _, _⟩ := fb5.cells
  obtain ⟨y0, y1⟩ := two_cells fc5
  obtain ⟨z0, z1⟩ := two_cells fd5
  clear hb5 fb4 fc4 R5 HB4 fb5 fc5 fd5
  go_wp2
  go_ret
  exact ⟨rfl, unhide HB5⟩
end Go.Proofs.YtogklmljllocbabGreatDoor
namespace Go.Proofs.YtogklmljllocbabGreatDoor
open Go.RowKit Go.Shelf

set_option maxHeartbeats 2000000 in
set_option maxRecDepth 100000 in
theorem stages_any (ad : Option Addr) (cap : Nat) (xs : List Pt) (w : World) (hc : PtsAt w ad xs) (hT : TbE w) (hfit : ∀ p ∈ xs, p.fit) :
    Calls Tryz.prog 19 #[.slice ad xs.length cap] w fun e w' => ∃ v, e = .returned (.tuple #[v, .int .i64 (if ckK xs = 0 then 110 else 0)]) ∧ OwnsW w.heap.size w' v (stgS xs) ∧ Below w.heap.size w w' := by
  have CK := hide (check_any ad cap xs w hc hT hfit)
  by_cases h0 : ckK xs = 0
  · have hs : stgS xs = [] := by unfold stgS; rw [if_pos h0]
    rw [hs]
    rw [h0, if_pos rfl] at CK
    rw [if_pos h0]
    clear hc hT hfit h0 hs
    go_enter Tryz.func19, Tryz.ntmps19
    go_wp2_with fail
    refine (unhide CK).mono ?_
    rintro e w1 ⟨rfl, hb⟩
    clear CK
    go_wp2
    exact bodyPost_ret (results_tmp2 rfl _ _ _) rfl ⟨_, rfl, OwnsW.nil _ _, hb⟩
  · have hs : stgS xs = stgL xs := by unfold stgS; rw [if_neg h0]
    rw [hs]
    rw [if_neg h0] at CK
    rw [if_neg h0]
    have HST := hide (ck_st h0)
    obtain ⟨_, _, _, _, _, hx, _⟩ := ckK_leaves h0
    have HC := hide hc
    have HTK := hide (fun k (hk : k < xs.length) => stgL_take xs k hk)
    have HLN := hide (fun k => Nat.le_trans (stgL_len (xs.take k)) (by rw [List.length_take]; omega : (xs.take k).length ≤ 200))
    have HEN : Hid (stgL (xs.take xs.length) = stgL xs) := hide (by rw [List.take_length])
    clear hc hT hfit h0 hs
    generalize ckK xs = ck at *
    obtain ⟨n, hn⟩ : ∃ n, xs.length = n := ⟨_, rfl⟩
    have HN := hide hn
    rw [hn] at hx CK HEN ⊢
    clear hn
    go_enter Tryz.func19, Tryz.ntmps19
    go_wp2_with fail
    refine (unhide CK).mono ?_
    rintro e w1 ⟨rfl, hb1⟩
    have HB1 := hide hb1
    clear CK hb1
    go_wp2_with fail
    go_loopw [6, 19] (fun v i wr => ∃ (k : Nat) (a : Option Addr) (c NL : Nat), k ≤ n ∧ i = .int .i64 (k : Int) ∧ v = .slice a NL c ∧ NL = (stgL (xs.take k)).length ∧ Hid (OwnsW w.heap.size wr (.slice a NL c) (stgL (xs.take k))) ∧ Below w.heap.size w wr) (fun _ i _ => n - (intOf i).toNat)
    case atStart => exact ⟨0, none, 0, 0, Nat.zero_le _, rfl, rfl, rfl, hide (OwnsW.nil _ _), unhide HB1⟩
    case round =>
      obtain ⟨k, a, c, NL, hk, rfl, rfl, hNL, HO, hb⟩ := hrel
      by_cases hlt : k < n
      · have hkx : k < xs.length := by rw [unhide HN]; exact hlt
        have hli : (k : Int) < (n : Int) := by omega
        obtain ⟨b, off, rfl, hbl, x0, x1, x2, x3, x4⟩ := ((unhide HC).kp (Kp.ofBelow hb)).at k hkx
        have HSG := hide (unhide HST _ (List.getElem_mem hkx))
        have HNX := hide (unhide HTK k hkx)
        have hl2 := unhide HLN k
        unfold stgA at HNX
        clear HTK HLN HST HEN HC HB1
        generalize xs[k] = p at *
        obtain ⟨pk, pn, ps, pt, pf⟩ := p
        dsimp only at x0 x1 x2 x3 x4 HSG HNX
        have hb2 : Below w.heap.size w (wr.alloc (.cells #[.int .i64 pk, .int .i64 pn, .string ps, .string pt, .int .i64 pf] 89)) := hb.alloc hb.size _
        have ho2 := (unhide HO).kp (Kp.alloc wr (.cells #[.int .i64 pk, .int .i64 pn, .string ps, .string pt, .int .i64 pf] 89))
        have c3 : (wr.alloc (.cells #[.int .i64 pk, .int .i64 pn, .string ps, .string pt, .int .i64 pf] 89)).cell? ⟨wr.heap.size, 3, none⟩ = some (.string pt) := (CBox.new wr _ _).cell rfl
        generalize stgL (xs.take k) = L at *
        obtain ⟨a', c', hv, hnm, _⟩ := ho2.at
        injection hv with e1 e2 e3
        subst e1 e3
        have CT := hide (contains_any a c L pt _ (by omega) hnm)
        rw [← hNL] at CT
        have HB2 := hide hb2
        have HO2 := hide ho2
        have HNL := hide hNL
        have hwl : wr.heap.size < (wr.alloc (.cells #[.int .i64 pk, .int .i64 pn, .string ps, .string pt, .int .i64 pf] 89)).heap.size := by simp
        clear hb hb2 ho2 HO hnm hNL e2
        have g1 := emp_toList pt
        have g2 := emp_str pt
        cases hE : emptyB pt with
        | true =>
          rw [hE] at g1 g2
          rw [hE, Bool.true_or, if_pos rfl] at HNX
          clear hE CT
          go_wp2_with fail
          go_roundw
          case rel => exact ⟨k + 1, a, c, NL, by omega, by go_num, rfl, by rw [unhide HNX]; exact unhide HNL, by rw [unhide HNX]; exact HO2, unhide HB2⟩
          case measure => simp [intOf]; omega
        | false =>
          rw [hE] at g1 g2
          rw [hE, Bool.false_or] at HNX
          clear hE
          cases hH : hasN L pt with
          | true =>
            rw [hH] at CT HNX
            rw [if_pos rfl] at HNX
            clear hH
            go_wp2_with fail
            refine (unhide CT).mono ?_
            rintro e w4 ⟨rfl, rfl⟩
            clear CT
            go_wp2
            go_roundw
            case rel => exact ⟨k + 1, a, c, NL, by omega, by go_num, rfl, by rw [unhide HNX]; exact unhide HNL, by rw [unhide HNX]; exact HO2, unhide HB2⟩
            case measure => simp [intOf]; omega
          | false =>
            rw [hH] at CT HNX
            rw [if_neg (by simp)] at HNX
            clear hH
            have hpz : pt.size ≤ 32 := (unhide HSG).2
            have CL := hide (fun W => clone_any pt W (by omega))
            go_wp2_with fail
            refine (unhide CT).mono ?_
            rintro e w4 ⟨rfl, rfl⟩
            clear CT
            generalize wr.alloc (.cells #[.int .i64 pk, .int .i64 pn, .string ps, .string pt, .int .i64 pf] 89) = W2 at *
            go_wp2_with fail
            refine (unhide CL _).mono ?_
            rintro e w5 ⟨rfl, hb5⟩
            have k5 := (Kp.ofBelow hb5).trans (Kp.alloc w5 (.cells #[.string pt] 9)) (by simp)
            have hb6 := (unhide HB2).trans (k5.below (unhide HB2).size (by simp))
            have ho6 := (unhide HO2).kp k5
            obtain ⟨g', cap', w', hrun, hO', hbw, _⟩ := OwnsW.app (c := 1) ho6 hb6.size pt (g := w5.heap.size) ((CBox.new w5 _ _).cell rfl) (by omega) 54
            rw [← unhide HNL] at hrun hO'
            have HRUN := hide hrun
            have HO' := hide hO'
            have HBW := hide (hb6.trans hbw)
            clear hrun hO' hbw hb6 ho6 k5 hb5 CL
            dsimp only
            go_wp2_with (at_builtin; refine wpList_app_run rfl _ _ _ rfl rfl rfl (unhide HRUN) ?_)
            go_roundw
            case rel => exact ⟨k + 1, _, cap', NL + 1, by omega, by go_num, rfl, by rw [unhide HNX, List.length_append, ← unhide HNL]; rfl, by rw [unhide HNX]; exact HO', unhide HBW⟩
            case measure => simp [intOf]; omega
      · obtain rfl : k = n := by omega
        have HE := unhide HEN
        rw [HE] at HO
        clear HE HEN HTK HLN HST HC HB1 hNL
        go_wp2
        exact bodyPost_ret (results_tmp2 rfl _ _ _) rfl ⟨_, rfl, unhide HO, hb⟩
end Go.Proofs.YtogklmljllocbabGreatDoor
