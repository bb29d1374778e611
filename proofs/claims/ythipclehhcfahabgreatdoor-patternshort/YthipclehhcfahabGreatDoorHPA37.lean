/-
  Read: any text is read as the plain function has it.
  couldBeTold: a tail of what Tokens told could be told; Parse of such a tail.
  works: the chapter's examples.
  Read, with what it gives lying somewhere; how long a written text is.
-/
import Derived.Test.YthipclehhcfahabGreatDoorHPA32
import Derived.Test.YthipclehhcfahabGreatDoorHPA34
import Derived.Test.YthipclehhcfahabGreatDoorHPA36
import Derived.Test.YthipclehhcfahabGreatDoorHPA16
namespace Go.Proofs.YthipclehhcfahabGreatDoor
open Go.RowKit Go.Shelf

theorem OwnsK.low {B : Nat} {w : World} {v : Value} {l : List Tk} (h : OwnsK B w v l) (hl : l ≠ []) : TksLow w.heap.size w v l := by
  obtain ⟨ad, cp, rfl, ha, _⟩ := h.at
  obtain ⟨b, off, rfl, hlt, hc⟩ := ha hl
  exact ⟨b, off, cp, rfl, hlt, hc⟩
/-- What Read tells. -/
def RdT (B : Nat) (o : RO) (e : Ending) (w' : World) : Prop := ∃ v, e = .returned (.tuple #[v, .agg #[.int .i64 o.at_, .int .i64 o.c]]) ∧ OwnsP B w' v o.x
theorem RdT.nil {B : Nat} {o : RO} {a c : Int} {w' : World} (h : o = ⟨[], a, c⟩) : RdT B o (.returned (.tuple #[.slice none 0 0, .agg #[.int .i64 a, .int .i64 c]])) w' := by
  subst h
  exact ⟨_, rfl, OwnsP.nil _ _⟩
theorem RdT.parts {B : Nat} {o : RO} {x : List Pt} {v : Value} {w' : World} (h : o = ⟨x, 0, 0⟩) (ho : OwnsP B w' v x) : RdT B o (.returned (.tuple #[v, .agg #[.int .i64 0, .int .i64 0]])) w' := by
  subst h
  exact ⟨v, rfl, ho⟩
theorem tk_sz (s : ByteArray) (ts : List Tk) (h : tsR s = .good ts) : ∀ t ∈ ts ++ [endZ s.size], t.s.size ≤ 140737488351232 := by
  rcases tsR_code s with ⟨ts', h1, h2, _⟩ | ⟨_, hc⟩
  · rw [h] at h1
    cases h1
    intro t ht
    rcases List.mem_append.1 ht with h1 | h1
    · have := ((wrOk_iff t).1 ((toks_ok _ 0 0 ts h2 (by omega)).2 t h1)).1
      omega
    · simp only [List.mem_singleton] at h1
      subst h1
      have : (endZ s.size).s.size = 0 := rfl
      omega
  · rw [h] at hc
    exact absurd rfl hc
/-- Two faults beside one another: one is written. -/
theorem rd_flt {a b : Nat} {w : World} (ha : FBox a w) (hb : FBox b w) (hne : a ≠ b) (x y : Value) : (((w.setCell ⟨b, 0, none⟩ x).setCell ⟨b, 1, none⟩ y).cell? ⟨b, 0, none⟩ = some x ∧ ((w.setCell ⟨b, 0, none⟩ x).setCell ⟨b, 1, none⟩ y).cell? ⟨b, 1, none⟩ = some y) ∧ FBox a ((w.setCell ⟨b, 0, none⟩ x).setCell ⟨b, 1, none⟩ y) :=
  ⟨two_cells (hb.two x y), CBox.kp (CBox.kp ha (Kp.set _ _ _ _) (by simpa using hne)) (Kp.set _ _ _ _) (by simpa using hne)⟩
/-- Writing a fault touches no row of parts. -/
theorem OwnsP.flt {B b : Nat} {w : World} {v : Value} {l : List Pt} (h : OwnsP B w v l) (hb : FBox b w) (x y : Value) : OwnsP B ((w.setCell ⟨b, 0, none⟩ x).setCell ⟨b, 1, none⟩ y) v l := by
  refine row_kp (F := [b]) h ((Kp.set w b 0 x).trans (Kp.set (w.setCell ⟨b, 0, none⟩ x) b 1 y) (by simp)) (fun g hg => ?_)
  have := row_ne h hb (by decide)
  rw [hg] at this
  simpa using this
set_option maxHeartbeats 4000000 in
set_option maxRecDepth 100000 in
theorem eread_any (s : ByteArray) (w : World) (hT : TbE w) (hs : s.size ≤ 9223372036854775807) :
    Calls Tryz.prog 10 #[.string s] w fun e w' => RdT w.heap.size (rdO s) e w' ∧ Below w.heap.size w w' := by
  have TK := tokens_any s (w.alloc (.cells #[.int .i64 0, .int .i64 0] 28)) (hT.alloc _).tok hs
  have hf0 : FBox w.heap.size (w.alloc (.cells #[.int .i64 0, .int .i64 0] 28)) := CBox.new w _ _
  have hl0 := hf0.lt
  have hb0 : Below w.heap.size w (w.alloc (.cells #[.int .i64 0, .int .i64 0] 28)) := (Below.refl _ _).alloc (Nat.le_refl _) _
  cases hR : tsR s with
  | bad k c =>
    have hc : (c == 0) = false := by
      rcases tsR_code s with ⟨ts, h1, _, _⟩ | ⟨_, h2⟩
      · rw [hR] at h1; cases h1
      · rw [hR] at h2; simpa [tsC] using h2
    have HPB : Hid (∀ W, RdT w.heap.size (rdO s) (.returned (.tuple #[.slice none 0 0, .agg #[.int .i64 (k : Int), .int .i64 c]])) W) := hide (fun W => RdT.nil (by unfold rdO; rw [hR]))
    rw [hR] at TK
    have HTK : Hid (Calls Tryz.prog 25 #[.string s] (w.alloc (.cells #[.int .i64 0, .int .i64 0] 28)) fun e w' => ∃ ad n cp, e = .returned (.tuple #[.slice ad n cp, .agg #[.int .i64 (k : Int), .int .i64 c]]) ∧ FBox w.heap.size w' ∧ Below w.heap.size w w') := hide (TK.mono fun e w' ⟨v, h1, h2, h3⟩ => by
      obtain ⟨ad, cp, rfl, _⟩ := h2.at
      exact ⟨ad, _, cp, h1, hf0.below h3 hl0, hb0.trans (h3.mono (by simp))⟩)
    clear TK hR hf0 hb0 hT hl0
    go_enter Tryz.func10, Tryz.ntmps10
    go_wp2_with fail
    refine (unhide HTK).mono ?_
    rintro e w1 ⟨ad, n, cp, rfl, fb1, hb1⟩
    have q1 : CBox w1.heap.size #[.int .i64 (k : Int), .int .i64 c] 28 (w1.alloc (.cells #[.int .i64 (k : Int), .int .i64 c] 28)) := CBox.new w1 _ _
    have fb2 : FBox w.heap.size (w1.alloc (.cells #[.int .i64 (k : Int), .int .i64 c] 28)) := CBox.kp fb1 (Kp.alloc _ _) (by simp)
    have hl1 := fb1.lt
    obtain ⟨c0, c1⟩ := two_cells q1
    obtain ⟨f0, f1, fz0, fz1⟩ := fb2.cells
    have HF := hide fb2
    have HB := hide (hb1.alloc (by omega) (.cells #[.int .i64 (k : Int), .int .i64 c] 28))
    clear fb1 fb2 hb1 q1 HTK
    go_wp2_with fail
    generalize w1.alloc (.cells #[.int .i64 (k : Int), .int .i64 c] 28) = W at *
    generalize w1.heap.size = G at *
    go_region
    go_wp2
    have q2 : CBox w.heap.size #[.int .i64 (k : Int), .int .i64 c] 28 (((W.setCell ⟨w.heap.size, 0, none⟩ (.int .i64 (k : Int))).setCell ⟨w.heap.size, 1, none⟩ (.int .i64 c)).drew) := (unhide HF).two _ _
    obtain ⟨z0, z1⟩ := two_cells q2
    exact bodyPost_ret (v := .tuple #[.slice none 0 0, .agg #[.int .i64 (k : Int), .int .i64 c]]) (by simp [results, Tryz.results10, go_sem, z0, z1]) rfl ⟨unhide HPB _, (two_below (unhide HB) (Nat.le_refl _) _ _).drew⟩
  | good ts =>
    have hne : ts ++ [endZ s.size] ≠ [] := by simp
    have hsz := tk_sz s ts hR
    have hok := tsL_ok s
    have hlen := tsL_len s
    have hRO : rdO s = rdG s.size ts := by unfold rdO; rw [hR]
    rw [hR] at TK hok hlen
    have e1 : tsL s.size (.good ts) = ts ++ [endZ s.size] := rfl
    have e2 : tsA (.good ts) = 0 := rfl
    have e3 : tsC (.good ts) = 0 := rfl
    rw [e1, e2, e3] at TK
    rw [e1] at hok hlen
    clear e1 e2 e3
    have hE := endd_snoc ts s.size
    have hRG : rdG s.size ts = match psR (ts ++ [endZ s.size]) with
      | .bad q => ⟨[], hdPl q, 110⟩
      | .good x q => if ckK x = 0 then ⟨[], 0, 110⟩ else if hdKd q = 0 then ⟨x, 0, 0⟩ else ⟨[], hdPl q, 110⟩ := rfl
    have HRO := hide (hRO.trans hRG)
    clear hRO hRG hR
    generalize ts ++ [endZ s.size] = L at *
    have HTK : Hid (Calls Tryz.prog 25 #[.string s] (w.alloc (.cells #[.int .i64 0, .int .i64 0] 28)) fun e w' => ∃ b off cp, e = .returned (.tuple #[.slice (some ⟨b, off, none⟩) L.length cp, .agg #[.int .i64 0, .int .i64 0]]) ∧ FBox w.heap.size w' ∧ Below w.heap.size w w' ∧ TksLow w'.heap.size w' (.slice (some ⟨b, off, none⟩) L.length cp) L) := hide (TK.mono fun e w' ⟨v, h1, h2, h3⟩ => by
      obtain ⟨b, off, cp, rfl, hlt, hc⟩ := h2.low hne
      exact ⟨b, off, cp, h1, hf0.below h3 hl0, hb0.trans (h3.mono (by simp)), ⟨b, off, cp, rfl, hlt, hc⟩⟩)
    have HTb := hide hT
    have HSZ := hide hsz
    have HOK := hide hok
    have HE := hide hE
    clear TK hf0 hb0 hT hl0 hsz hok hE hne
    go_enter Tryz.func10, Tryz.ntmps10
    go_wp2_with fail
    refine (unhide HTK).mono ?_
    rintro e w1 ⟨b, off, cp, rfl, fb1, hb1, ht1⟩
    have q1 : CBox w1.heap.size #[.int .i64 0, .int .i64 0] 28 (w1.alloc (.cells #[.int .i64 0, .int .i64 0] 28)) := CBox.new w1 _ _
    have fb2 : FBox w.heap.size (w1.alloc (.cells #[.int .i64 0, .int .i64 0] 28)) := CBox.kp fb1 (Kp.alloc _ _) (by simp)
    have hl1 := fb1.lt
    have hb2 := hb1.alloc (by omega) (.cells #[.int .i64 0, .int .i64 0] 28)
    have ht2 : TksLow (w1.alloc (.cells #[.int .i64 0, .int .i64 0] 28)).heap.size (w1.alloc (.cells #[.int .i64 0, .int .i64 0] 28)) (.slice (some ⟨b, off, none⟩) L.length cp) L := (ht1.below ((Below.refl _ _).alloc (Nat.le_refl _) _)).mono (by simp)
    have hT2 := (unhide HTb).below hb2 (unhide HTb).low
    have PA := parse_any (.slice (some ⟨b, off, none⟩) L.length cp) L _ ht2 hT2 (by omega) (unhide HSZ) (unhide HE) (unhide HOK)
    have hl2 : w1.heap.size < (w1.alloc (.cells #[.int .i64 0, .int .i64 0] 28)).heap.size := by simp
    obtain ⟨c0, c1⟩ := two_cells q1
    have hlW := hb2.size
    have HL : Hid (∀ w3, Below (w1.alloc (.cells #[.int .i64 0, .int .i64 0] 28)).heap.size (w1.alloc (.cells #[.int .i64 0, .int .i64 0] 28)) w3 → FBox w.heap.size w3 ∧ FBox w1.heap.size w3 ∧ Hid (Below w.heap.size w w3) ∧ Hid (TksLow w1.heap.size w3 (.slice (some ⟨b, off, none⟩) L.length cp) L)) := hide (fun w3 hb3 => ⟨fb2.below hb3 fb2.lt, FBox.below q1 hb3 hl2, hide (hb2.trans (hb3.mono hlW)), hide (ht1.below (((Below.refl _ _).alloc (Nat.le_refl _) _).trans (hb3.mono (by simp))))⟩)
    have HPA := hide PA
    have hend := (pRd_ok (mRd 0 L) 0 0 [] L (unhide HE)).1
    have hP0 : psR L = pRd (mRd 0 L) 0 0 [] L := rfl
    rw [← hP0] at hend
    clear fb1 hb1 ht1 HTK HTb HSZ HOK fb2 hb2 ht2 hT2 PA q1 hP0 HE
    go_wp2_with fail
    refine (unhide HPA).mono ?_
    rintro e w3 ⟨hPs, hb3⟩
    obtain ⟨fb3, fd3, HB, HT3⟩ := unhide HL w3 hb3
    have hl3 : w1.heap.size < w3.heap.size := fd3.lt
    clear HPA HL hb3 c0 c1
    cases hP : psR L with
    | bad q =>
      cases q with
      | nil => rw [hP] at hend; exact absurd rfl hend.1.ne
      | cons t r =>
        rw [hP] at hPs
        obtain rfl := hPs
        have HPB : Hid (∀ W, RdT w.heap.size (rdO s) (.returned (.tuple #[.slice none 0 0, .agg #[.int .i64 t.pl, .int .i64 110]])) W) := hide (fun W => RdT.nil (by rw [unhide HRO, hP]; rfl))
        obtain ⟨f0, f1, fz0, fz1⟩ := fd3.cells
        obtain ⟨A, hA⟩ : ∃ A, t.pl = A := ⟨_, rfl⟩
        rw [hA] at HPB
        have hret : Ending.returned (.tuple #[.slice none 0 0, .int .i64 0, .agg #[.int .i64 (hdPl (t :: r)), .int .i64 110]]) = .returned (.tuple #[.slice none 0 0, .int .i64 0, .agg #[.int .i64 A, .int .i64 110]]) := by rw [← hA]; rfl
        rw [hret]
        have HF := hide (rd_flt fb3 fd3 (by omega) (.int .i64 A) (.int .i64 110))
        have HB5 := hide (two_below (unhide HB) (show w.heap.size ≤ w1.heap.size by omega) (.int .i64 A) (.int .i64 110))
        clear hret hA hP hend HT3 fb3 fd3 HB
        go_wp2_with fail
        generalize (w3.setCell ⟨w1.heap.size, 0, none⟩ (.int .i64 A)).setCell ⟨w1.heap.size, 1, none⟩ (.int .i64 110) = W at *
        obtain ⟨⟨c0, c1⟩, fbW⟩ := unhide HF
        obtain ⟨g0, g1, gz0, gz1⟩ := fbW.cells
        have hlt := fbW.lt
        have HFW := hide fbW
        clear fbW HF f0 f1 fz0 fz1
        generalize w1.heap.size = G at *
        go_region
        go_wp2
        have q2 : CBox w.heap.size #[.int .i64 A, .int .i64 110] 28 (((W.setCell ⟨w.heap.size, 0, none⟩ (.int .i64 A)).setCell ⟨w.heap.size, 1, none⟩ (.int .i64 110)).drew) := (unhide HFW).two _ _
        obtain ⟨z0, z1⟩ := two_cells q2
        exact bodyPost_ret (v := .tuple #[.slice none 0 0, .agg #[.int .i64 A, .int .i64 110]]) (by simp [results, Tryz.results10, go_sem, z0, z1]) rfl ⟨unhide HPB _, (two_below (unhide HB5) (Nat.le_refl _) _ _).drew⟩
    | good x q =>
      rw [hP] at hPs hend
      unfold PsT at hPs
      dsimp only at hPs
      by_cases h0 : ckK x = 0
      · rw [if_pos h0] at hPs
        obtain rfl := hPs
        have HPB : Hid (∀ W, RdT w.heap.size (rdO s) (.returned (.tuple #[.slice none 0 0, .agg #[.int .i64 0, .int .i64 110]])) W) := hide (fun W => RdT.nil (by rw [unhide HRO, hP]; dsimp only; rw [if_pos h0]))
        obtain ⟨f0, f1, fz0, fz1⟩ := fd3.cells
        have HF := hide (rd_flt fb3 fd3 (by omega) (.int .i64 0) (.int .i64 110))
        have HB5 := hide (two_below (unhide HB) (show w.heap.size ≤ w1.heap.size by omega) (.int .i64 0) (.int .i64 110))
        clear hP hend HT3 fb3 fd3 HB h0
        go_wp2_with fail
        generalize (w3.setCell ⟨w1.heap.size, 0, none⟩ (.int .i64 0)).setCell ⟨w1.heap.size, 1, none⟩ (.int .i64 110) = W at *
        obtain ⟨⟨c0, c1⟩, fbW⟩ := unhide HF
        obtain ⟨g0, g1, gz0, gz1⟩ := fbW.cells
        have hlt := fbW.lt
        have HFW := hide fbW
        clear fbW HF f0 f1 fz0 fz1
        generalize w1.heap.size = G at *
        go_region
        go_wp2
        have q2 : CBox w.heap.size #[.int .i64 0, .int .i64 110] 28 (((W.setCell ⟨w.heap.size, 0, none⟩ (.int .i64 0)).setCell ⟨w.heap.size, 1, none⟩ (.int .i64 110)).drew) := (unhide HFW).two _ _
        obtain ⟨z0, z1⟩ := two_cells q2
        exact bodyPost_ret (v := .tuple #[.slice none 0 0, .agg #[.int .i64 0, .int .i64 110]]) (by simp [results, Tryz.results10, go_sem, z0, z1]) rfl ⟨unhide HPB _, (two_below (unhide HB5) (Nat.le_refl _) _ _).drew⟩
      · rw [if_neg h0] at hPs
        obtain ⟨v, k, rfl, hkl, hq, ho⟩ := hPs
        obtain ⟨ad, cx, rfl, _, _⟩ := ho.at
        obtain ⟨f0, f1, fz0, fz1⟩ := fd3.cells
        have HF := hide (rd_flt fb3 fd3 (by omega) (.int .i64 0) (.int .i64 0))
        have HB5 := hide (two_below (unhide HB) (show w.heap.size ≤ w1.heap.size by omega) (.int .i64 0) (.int .i64 0))
        have HO5 : Hid (OwnsP w.heap.size ((w3.setCell ⟨w1.heap.size, 0, none⟩ (.int .i64 0)).setCell ⟨w1.heap.size, 1, none⟩ (.int .i64 0)) (.slice ad x.length cx) x) := hide ((ho.mono hlW).flt fd3 _ _)
        cases q with
        | nil => exact absurd rfl hend.1.ne
        | cons t r =>
          obtain ⟨hk, hlt, _⟩ := drop_at hq
          obtain ⟨b', off', cap', e1, hlt2, hc⟩ := (unhide HT3).below (two_below (Below.refl _ _) (Nat.le_refl w1.heap.size) (.int .i64 0) (.int .i64 0))
          cases e1
          obtain ⟨d0, _, _, d3⟩ := hc k hk
          rw [hlt] at d0 d3
          have HPB : Hid (∀ W, OwnsP w.heap.size W (.slice ad x.length cx) x → t.kd = 0 → RdT w.heap.size (rdO s) (.returned (.tuple #[.slice ad x.length cx, .agg #[.int .i64 0, .int .i64 0]])) W) := hide (fun W hoW hk => RdT.parts (by rw [unhide HRO, hP]; dsimp only; rw [if_neg h0, if_pos (show hdKd (t :: r) = 0 from hk)]) hoW)
          have HPN : Hid (∀ W, t.kd ≠ 0 → RdT w.heap.size (rdO s) (.returned (.tuple #[.slice none 0 0, .agg #[.int .i64 t.pl, .int .i64 110]])) W) := hide (fun W hk => RdT.nil (by rw [unhide HRO, hP]; dsimp only; rw [if_neg h0, if_neg (show ¬ hdKd (t :: r) = 0 from hk)]; rfl))
          obtain ⟨tkd, ts, tn, tpl⟩ := t
          dsimp only at d0 d3 HPB HPN
          have hkL : (k : Int) < (L.length : Int) := by omega
          have HD := hide (And.intro d0 d3)
          clear hc hlt hq hP hend HT3 fb3 fd3 HB h0 ho d0 d3
          by_cases hz : tkd = 0
          · subst hz
            have HPB2 : Hid (∀ W, OwnsP w.heap.size W (.slice ad x.length cx) x → RdT w.heap.size (rdO s) (.returned (.tuple #[.slice ad x.length cx, .agg #[.int .i64 0, .int .i64 0]])) W) := hide (fun W h => unhide HPB W h rfl)
            clear HPB HPN
            obtain ⟨d0, d3⟩ := unhide HD
            obtain ⟨⟨c0, c1⟩, fbW⟩ := unhide HF
            obtain ⟨g0, g1, gz0, gz1⟩ := fbW.cells
            have hltW := fbW.lt
            have HFW := hide fbW
            clear fbW HF HD
            go_wp2
            have q2 : CBox w.heap.size #[.int .i64 0, .int .i64 0] 28 ((((w3.setCell ⟨w1.heap.size, 0, none⟩ (.int .i64 0)).setCell ⟨w1.heap.size, 1, none⟩ (.int .i64 0)).setCell ⟨w.heap.size, 0, none⟩ (.int .i64 0)).setCell ⟨w.heap.size, 1, none⟩ (.int .i64 0)) := (unhide HFW).two _ _
            obtain ⟨z0, z1⟩ := two_cells q2
            exact bodyPost_ret (v := .tuple #[.slice ad x.length cx, .agg #[.int .i64 0, .int .i64 0]]) (by simp [results, Tryz.results10, go_sem, z0, z1]) rfl ⟨unhide HPB2 _ ((unhide HO5).flt (unhide HFW) _ _), two_below (unhide HB5) (Nat.le_refl _) _ _⟩
          · have hz2 : (tkd == 0) = false := beq_eq_false_iff_ne.2 hz
            have HPN2 : Hid (∀ W, RdT w.heap.size (rdO s) (.returned (.tuple #[.slice none 0 0, .agg #[.int .i64 tpl, .int .i64 110]])) W) := hide (fun W => unhide HPN W hz)
            clear HPB HPN
            obtain ⟨d0, d3⟩ := unhide HD
            obtain ⟨⟨c0, c1⟩, fbW⟩ := unhide HF
            obtain ⟨g0, g1, gz0, gz1⟩ := fbW.cells
            have hltW := fbW.lt
            have HFW := hide fbW
            clear fbW HF HD
            go_wp2_with fail
            generalize (w3.setCell ⟨w1.heap.size, 0, none⟩ (.int .i64 0)).setCell ⟨w1.heap.size, 1, none⟩ (.int .i64 0) = W at *
            clear f0 f1 fz0 fz1
            generalize w1.heap.size = G at *
            go_region
            go_wp2
            have q2 : CBox w.heap.size #[.int .i64 tpl, .int .i64 110] 28 (((W.setCell ⟨w.heap.size, 0, none⟩ (.int .i64 tpl)).setCell ⟨w.heap.size, 1, none⟩ (.int .i64 110)).drew) := (unhide HFW).two _ _
            obtain ⟨z0, z1⟩ := two_cells q2
            exact bodyPost_ret (v := .tuple #[.slice none 0 0, .agg #[.int .i64 tpl, .int .i64 110]]) (by simp [results, Tryz.results10, go_sem, z0, z1]) rfl ⟨unhide HPN2 _, (two_below (unhide HB5) (Nat.le_refl _) _ _).drew⟩
end Go.Proofs.YthipclehhcfahabGreatDoor
namespace Go.Proofs.YthipclehhcfahabGreatDoor
open Go.RowKit Go.Shelf

theorem tkEq_self (t : Tk) : tkEq t t = true := (tkEq_iff t t).2 rfl
set_option maxHeartbeats 1000000 in
set_option maxRecDepth 100000 in
theorem equalTks_any (a1 a2 : Option Addr) (c1 c2 : Nat) (l : List Tk) (w : World) (h1 : TksAt w a1 l) (h2 : TksAt w a2 l) (hl : l.length ≤ 9223372036854775807) :
    Calls Tryz.prog 173 #[.slice a1 l.length c1, .slice a2 l.length c2] w fun e w' => e = .returned (.bool true) ∧ Kp [] w w' := by
  have H1 := hide h1
  have H2 := hide h2
  clear h1 h2
  go_enter Tryz.func173, Tryz.ntmps173
  go_wp2_with fail
  go_loopw [13] (fun i wr => ∃ k : Nat, k ≤ l.length ∧ i = .int .i64 (k : Int) ∧ Kp [] w wr) (fun i _ => l.length - (intOf i).toNat)
  case atStart => exact ⟨0, Nat.zero_le _, rfl, Kp.refl _ _⟩
  case round =>
    obtain ⟨k, hk, rfl, kp⟩ := hrel
    by_cases hlt : k < l.length
    · have kp2 := kp.trans (Kp.drew wr) (by simp)
      obtain ⟨b1, o1, rfl, _, x0, x1, x2, x3⟩ := ((unhide H1).kp kp2).at k hlt
      obtain ⟨b2, o2, rfl, _, y0, y1, y2, y3⟩ := ((unhide H2).kp kp2).at k hlt
      obtain ⟨_, _, e1, _, u0, u1, u2, u3⟩ := ((unhide H1).kp kp).at k hlt
      obtain ⟨_, _, e2, _, v0, v1, v2, v3⟩ := ((unhide H2).kp kp).at k hlt
      cases e1
      cases e2
      have hli : (k : Int) < (l.length : Int) := by omega
      have KP := hide kp
      have KP2 := hide kp2
      have HEQ := fun d W => eqT d l[k] l[k] W
      clear H1 H2 kp kp2
      generalize l[k] = e at *
      rw [tkEq_self] at HEQ
      obtain ⟨ek, es, en, ep⟩ := e
      unfold Tk.v at HEQ
      dsimp only at x0 x1 x2 x3 y0 y1 y2 y3 u0 u1 u2 u3 v0 v1 v2 v3 HEQ
      go_wp2_with fail
      first
        | (go_roundw
           case rel => exact ⟨k + 1, by omega, by go_num, unhide KP⟩
           case measure => simp [intOf]; omega)
        | (have cS := And.intro x0 (And.intro x1 (And.intro x2 (And.intro x3 (And.intro y0 (And.intro y1 (And.intro y2 y3))))))
           go_region_held3 (fun W => W.cell? ⟨b1, o1 + k * 4, none⟩ = some (.int .i64 ek) ∧ W.cell? ⟨b1, o1 + k * 4 + 1, none⟩ = some (.string es) ∧ W.cell? ⟨b1, o1 + k * 4 + 2, none⟩ = some (.int .i64 en) ∧ W.cell? ⟨b1, o1 + k * 4 + 3, none⟩ = some (.int .i64 ep) ∧ W.cell? ⟨b2, o2 + k * 4, none⟩ = some (.int .i64 ek) ∧ W.cell? ⟨b2, o2 + k * 4 + 1, none⟩ = some (.string es) ∧ W.cell? ⟨b2, o2 + k * 4 + 2, none⟩ = some (.int .i64 en) ∧ W.cell? ⟨b2, o2 + k * 4 + 3, none⟩ = some (.int .i64 ep))
             (first | with_reducible exact cS)
             (first | fail)
           go_wp2
           go_roundw
           case rel => exact ⟨k + 1, by omega, by go_num, unhide KP2⟩
           case measure => simp [intOf]; omega)
    · go_wp2
      go_ret
      exact ⟨rfl, kp⟩
theorem rep32 (n : Nat) : Lib.repeatL [32] n = List.replicate n 32 := by
  induction n with
  | zero => rfl
  | succ n ih => rw [Lib.repeatL, ih, List.replicate_succ]; rfl
theorem repeat32_any (n : Nat) (w : World) (hn : n ≤ 262144) : Calls Tryz.prog 172 #[.string ⟨#[32]⟩, .int .i64 (n : Int)] w fun e w' => e = .returned (.string (txt (List.replicate n 32))) ∧ Below w.heap.size w w' := by
  have := Tryz.strings_Repeat ⟨#[32]⟩ n w (by omega) (by show 1 * n ≤ _; omega)
  have e : (⟨#[32]⟩ : ByteArray).data.toList = [32] := rfl
  rw [e, rep32] at this
  exact this
theorem joR_tok {t : Tk} (h : wrOk t = true ∨ ∃ n, t = endZ n) : joR [t] = (spell t, 0) := by
  rcases h with h | ⟨n, rfl⟩
  · obtain ⟨h0, _, _, _, h4⟩ := wr_facts h
    have e : isEnd [t] = false := by unfold isEnd; simpa using h0
    have e1 : cutL [t] = [t] := by unfold cutL; rw [e]; rfl
    have e2 : endT [t] = ⟨0, ⟨#[]⟩, 0, 0⟩ := by unfold endT; rw [e]; rfl
    have e3 : joinB [t] = spell t := by unfold joinB tailB; simp
    unfold joR
    rw [e1, e2, e3, if_neg (by simp), if_neg (not_not_intro (by simpa using h)), if_neg (not_not_intro ⟨rfl, rfl⟩), if_neg (by omega)]
  · have e : isEnd [endZ n] = true := rfl
    have e1 : cutL [endZ n] = [] := by unfold cutL; rw [e]; rfl
    have e2 : endT [endZ n] = endZ n := by unfold endT; rw [e]; rfl
    unfold joR
    rw [e1, e2, if_neg (by simp), if_neg (not_not_intro (by simp)), if_neg (not_not_intro ⟨rfl, rfl⟩), if_neg (by simp [joinB]), spell_end]
    rfl
end Go.Proofs.YthipclehhcfahabGreatDoor
namespace Go.Proofs.YthipclehhcfahabGreatDoor
open Go.RowKit Go.Shelf

def exX : List Pt := [⟨11, 0, ⟨#[]⟩, ⟨#[]⟩, 0⟩, ⟨7, 0, ⟨#[]⟩, ⟨#[]⟩, 0⟩, ⟨4, 0, ⟨#[]⟩, ⟨#[]⟩, 0⟩, ⟨3, 0, ⟨#[]⟩, ⟨#[]⟩, 0⟩, ⟨1, 1, ⟨#[]⟩, ⟨#[]⟩, 0⟩, ⟨3, 0, ⟨#[]⟩, ⟨#[97]⟩, 0⟩, ⟨9, 0, ⟨#[]⟩, ⟨#[]⟩, 0⟩, ⟨3, 0, ⟨#[]⟩, ⟨#[]⟩, 4⟩, ⟨2, 0, ⟨#[120]⟩, ⟨#[]⟩, 0⟩]
theorem ex_read : rdO ⟨#[110, 48, 32, 43, 32, 49, 32, 60, 32, 97, 46, 110, 48, 32, 97, 110, 100, 32, 116, 121, 112, 101, 32, 61, 61, 32, 39, 120, 39]⟩ = ⟨exX, 0, 0⟩ := by kernel_rfl
theorem ex_two : rdO ⟨#[110, 48, 32, 60, 32, 49, 32, 60, 32, 50]⟩ = ⟨[], 7, 110⟩ := by kernel_rfl
theorem ex_three : rdO ⟨#[110, 48, 32, 97, 110, 100, 32, 49]⟩ = ⟨[], 0, 110⟩ := by kernel_rfl
theorem ex_ck : ckK exX = 3 := by kernel_rfl
theorem ex_write : wrS exX = ⟨#[40, 32, 40, 32, 110, 48, 32, 43, 32, 49, 32, 41, 32, 60, 32, 97, 32, 46, 32, 110, 48, 32, 41, 32, 97, 110, 100, 32, 40, 32, 116, 121, 112, 101, 32, 61, 61, 32, 39, 120, 39, 32, 41]⟩ := by kernel_rfl
set_option maxHeartbeats 2000000 in
set_option maxRecDepth 100000 in
theorem eworks_any (w : World) (hT : TbE w) : Calls Tryz.prog 9 #[] w fun e w' => e = .returned (.bool true) ∧ Below w.heap.size w w' := by
  have R1 := eread_any ⟨#[110, 48, 32, 43, 32, 49, 32, 60, 32, 97, 46, 110, 48, 32, 97, 110, 100, 32, 116, 121, 112, 101, 32, 61, 61, 32, 39, 120, 39]⟩ w hT (by decide)
  have R2 := fun W hW => eread_any ⟨#[110, 48, 32, 60, 32, 49, 32, 60, 32, 50]⟩ W hW (by decide)
  have R3 := fun W hW => eread_any ⟨#[110, 48, 32, 97, 110, 100, 32, 49]⟩ W hW (by decide)
  have WR := fun ad cp W hA hW => write_any ad cp exX W hA hW (by rw [show exX = (rdO ⟨#[110, 48, 32, 43, 32, 49, 32, 60, 32, 97, 46, 110, 48, 32, 97, 110, 100, 32, 116, 121, 112, 101, 32, 61, 61, 32, 39, 120, 39]⟩).x by rw [ex_read]]; exact read_ok _)
  rw [ex_read] at R1
  rw [ex_two] at R2
  rw [ex_three] at R3
  rw [ex_write, ex_ck, if_neg (by decide)] at WR
  have HR1 : Hid (Calls Tryz.prog 10 #[.string ⟨#[110, 48, 32, 43, 32, 49, 32, 60, 32, 97, 46, 110, 48, 32, 97, 110, 100, 32, 116, 121, 112, 101, 32, 61, 61, 32, 39, 120, 39]⟩] w fun e w' => ∃ ad cp, e = .returned (.tuple #[.slice ad 9 cp, .agg #[.int .i64 0, .int .i64 0]]) ∧ PtsAt w' ad exX ∧ Below w.heap.size w w') := hide (R1.mono fun e w' ⟨⟨v, h1, h2⟩, h3⟩ => by
    obtain ⟨ad, cp, rfl, h4, _⟩ := h2.at
    exact ⟨ad, cp, h1, h4, h3⟩)
  have HR2 : Hid (∀ W, TbE W → Calls Tryz.prog 10 #[.string ⟨#[110, 48, 32, 60, 32, 49, 32, 60, 32, 50]⟩] W fun e w' => ∃ ad cp, e = .returned (.tuple #[.slice ad 0 cp, .agg #[.int .i64 7, .int .i64 110]]) ∧ Below W.heap.size W w') := hide (fun W hW => (R2 W hW).mono fun e w' ⟨⟨v, h1, h2⟩, h3⟩ => by
    obtain ⟨ad, cp, rfl, _, _⟩ := h2.at
    exact ⟨ad, cp, h1, h3⟩)
  have HR3 : Hid (∀ W, TbE W → Calls Tryz.prog 10 #[.string ⟨#[110, 48, 32, 97, 110, 100, 32, 49]⟩] W fun e w' => ∃ ad cp, e = .returned (.tuple #[.slice ad 0 cp, .agg #[.int .i64 0, .int .i64 110]]) ∧ Below W.heap.size W w') := hide (fun W hW => (R3 W hW).mono fun e w' ⟨⟨v, h1, h2⟩, h3⟩ => by
    obtain ⟨ad, cp, rfl, _, _⟩ := h2.at
    exact ⟨ad, cp, h1, h3⟩)
  have HWR : Hid (∀ ad cp W, PtsAt W ad exX → TbE W → Calls Tryz.prog 24 #[.slice ad 9 cp] W fun e w' => e = .returned (.tuple #[.string ⟨#[40, 32, 40, 32, 110, 48, 32, 43, 32, 49, 32, 41, 32, 60, 32, 97, 32, 46, 32, 110, 48, 32, 41, 32, 97, 110, 100, 32, 40, 32, 116, 121, 112, 101, 32, 61, 61, 32, 39, 120, 39, 32, 41]⟩, .int .i64 0]) ∧ Below W.heap.size W w') := hide WR
  have HT := hide hT
  clear R1 R2 R3 WR hT
  go_enter Tryz.func9, Tryz.ntmps9
  go_wp2_with fail
  refine (unhide HR1).mono ?_
  rintro e w1 ⟨ad, cp, rfl, hA, hb1⟩
  have k1 : Kp [] w1 (w1.alloc (.cells #[.int .i64 0, .int .i64 0] 28)) := Kp.alloc _ _
  have hb2 : Below w.heap.size w (w1.alloc (.cells #[.int .i64 0, .int .i64 0] 28)) := hb1.alloc hb1.size _
  have WR2 := hide (unhide HWR ad cp _ (hA.kp k1) ((unhide HT).below hb2 (unhide HT).low))
  have fb2 : FBox w1.heap.size (w1.alloc (.cells #[.int .i64 0, .int .i64 0] 28)) := CBox.new w1 _ _
  have HB := hide hb2
  clear HR1 HWR hA k1 hb1 hb2
  go_wp2_with fail
  refine (unhide WR2).mono ?_
  rintro e w3 ⟨rfl, hb3⟩
  have HB3 := hide ((unhide HB).trans (hb3.mono (unhide HB).size))
  have fb3 := fb2.below hb3 fb2.lt
  have R4 := hide (unhide HR2 w3 ((unhide HT).below (unhide HB3) (unhide HT).low))
  clear hb3 HB fb2 WR2 HR2
  go_wp2_with fail
  refine (unhide R4).mono ?_
  rintro e w4 ⟨a4, c4, rfl, hb4⟩
  have HB4 := hide (((unhide HB3).trans (hb4.mono (unhide HB3).size)).alloc (by have := (unhide HB3).size; have := hb4.size; omega) (.cells #[.int .i64 7, .int .i64 110] 28))
  have fb4 : FBox w1.heap.size (w4.alloc (.cells #[.int .i64 7, .int .i64 110] 28)) := CBox.kp (fb3.below hb4 fb3.lt) (Kp.alloc _ _) (by simp)
  have fc4 : CBox w4.heap.size #[.int .i64 7, .int .i64 110] 28 (w4.alloc (.cells #[.int .i64 7, .int .i64 110] 28)) := CBox.new w4 _ _
  have R5 := hide (unhide HR3 _ ((unhide HT).below (unhide HB4) (unhide HT).low))
  clear hb4 HB3 fb3 R4 HR3
  go_wp2_with fail
  refine (unhide R5).mono ?_
  rintro e w5 ⟨a5, c5, rfl, hb5⟩
  have HB5 := hide (((unhide HB4).trans (hb5.mono (unhide HB4).size)).alloc (by have := (unhide HB4).size; have := hb5.size; omega) (.cells #[.int .i64 0, .int .i64 110] 28))
  have fb5 : FBox w1.heap.size (w5.alloc (.cells #[.int .i64 0, .int .i64 110] 28)) := CBox.kp (fb4.below hb5 fb4.lt) (Kp.alloc _ _) (by simp)
  have fc5 : CBox w4.heap.size #[.int .i64 7, .int .i64 110] 28 (w5.alloc (.cells #[.int .i64 0, .int .i64 110] 28)) := CBox.kp (CBox.kp fc4 (Kp.ofBelow hb5) (by simp)) (Kp.alloc _ _) (by simp)
  have fd5 : CBox w5.heap.size #[.int .i64 0, .int .i64 110] 28 (w5.alloc (.cells #[.int .i64 0, .int .i64 110] 28)) := CBox.new w5 _ _
  obtain ⟨x0, x1, _, _⟩ := fb5.cells
  obtain ⟨y0, y1⟩ := two_cells fc5
  obtain ⟨z0, z1⟩ := two_cells fd5
  clear hb5 fb4 fc4 R5 HB4 fb5 fc5 fd5
  go_wp2
  go_ret
  exact ⟨rfl, unhide HB5⟩
end Go.Proofs.YthipclehhcfahabGreatDoor
namespace Go.Proofs.YthipclehhcfahabGreatDoor
open Go.RowKit Go.Shelf

/-- Read, with what it gives lying somewhere. -/
theorem eread_at (s : ByteArray) (hs : s.size ≤ 9223372036854775807) (W : World) (hW : TbE W) : Calls Tryz.prog 10 #[.string s] W fun e w' => ∃ ad cp, e = .returned (.tuple #[.slice ad (rdO s).x.length cp, .agg #[.int .i64 (rdO s).at_, .int .i64 (rdO s).c]]) ∧ PtsAt w' ad (rdO s).x ∧ Below W.heap.size W w' :=
  (eread_any s W hW hs).mono fun e w' ⟨⟨v, h1, h2⟩, h3⟩ => by
    obtain ⟨ad, cp, rfl, h4, _⟩ := h2.at
    exact ⟨ad, cp, h1, h4, h3⟩
theorem wrS_size (x : List Pt) (hok : ∀ p ∈ x, p.ok) : (wrS x).size ≤ 60000 := by
  unfold wrS
  split
  · show 0 ≤ _; omega
  · rename_i h
    obtain ⟨t, h1, h2, h3, h4, h5, h6⟩ := ckK_leaves h
    have hfd : fdX wrv x = some (t.val wrv) := by rw [h3]; exact fdX_flat wrv t h1
    rw [hfd]
    have := t.wr_len h1 (t.fine_leaves h2) (fun q hq => (hok q (by rw [h3]; exact hq)).2.1.2)
    rw [← h3] at this
    show (txt (t.val wrv).1).size ≤ _
    rw [txt_size]
    omega
theorem flt_eq (a c : Int) : (a == 0 && c == 0) = true → c = 0 := by intro h; simp at h; exact h.2
theorem pair_cells {g : Nat} {a b : Value} {t : TypeId} {w : World} (h : CBox g #[a, b] t w) : w.cell? ⟨g, 0, none⟩ = some a ∧ w.cell? ⟨g, 1, none⟩ = some b := ⟨h.cell rfl, h.cell rfl⟩
end Go.Proofs.YthipclehhcfahabGreatDoor
