/-
  The document's answer: how an expression is written.
  The document's answer: how an operation is written; Write.
  The document's tokens: blank.
-/
import Derived.Test.YtjijhefmbmdbeaaGreatDoorP37
import Derived.Test.YtjijhefmbmdbeaaGreatDoorP20
import Derived.Test.YtjijhefmbmdbeaaGreatDoorP35
import Derived.Test.YtjijhefmbmdbeaaGreatDoorP38
import Derived.Deep.RegionWith
import Derived.Test.YtjijhefmbmdbeaaGreatDoorP10
namespace Go.Proofs.YtjijhefmbmdbeaaGreatDoor
open Go.RowKit Go.Shelf

def WnT (w : World) (S : List UInt8) (E : Nat) (e : Ending) (w' : World) : Prop := e = .returned (.tuple #[.string (txt S), .int .i64 (E : Int)]) ∧ Below w.heap.size w w'
/-- A tree's text, within another one or not. -/
def outB (o : Bool) (a : List UInt8 × Bool) : List UInt8 := if o then a.1 else sdB a
theorem part_keep {w W : World} {a b c d e : Value} {t : TypeId} (hk : Kp [] (w.alloc (.cells #[a, b, c, d, e] t)) W) : W.cell? ⟨w.heap.size, 0, none⟩ = some a ∧ W.cell? ⟨w.heap.size, 2, none⟩ = some c ∧ W.cell? ⟨w.heap.size, 3, none⟩ = some d ∧ W.cell? ⟨w.heap.size, 4, none⟩ = some e ∧ w.heap.size < W.heap.size := by
  have h := (CBox.new w #[a, b, c, d, e] t).kp hk (by simp)
  exact ⟨h.cell rfl, h.cell rfl, h.cell rfl, h.cell rfl, by have := hk.size; simp at this; omega⟩
set_option maxHeartbeats 4000000 in
set_option maxRecDepth 100000 in
theorem written_leaf {ad : Option Addr} (cap : Nat) (xs : List Pt) (at_ : Nat) (o : Bool) (hx : xs.length ≤ 200) (hat : at_ < xs.length) (hl : lfK xs[at_] ≠ 0) (hn : xs[at_].nk) (w : World) (h : PtsAt w ad xs) :
    Calls Tryz.prog 68 #[.slice ad xs.length cap, .int .i64 (at_ : Int), .bool o] w (WnT w (lfB xs[at_]) (at_ + 1)) := by
  obtain ⟨b, off, rfl, hbl, x0, x1, x2, x3, x4⟩ := h.at at_ hat
  have hli : (at_ : Int) < (xs.length : Int) := by omega
  clear h
  generalize xs[at_] = p at *
  have hlf := lfK_ne hl
  unfold WnT
  have ha1 : ((at_ + 1 : Nat) : Int) = (at_ : Int) + 1 := by omega
  rw [ha1]
  rcases hlf with ⟨hk, hn0, hp⟩ | ⟨hk, htx, hp⟩ | ⟨hk, hf0, hf5, hst, hp⟩
  · -- a number
    rw [hp] at x0 x1 x2 x3 x4 ⊢
    unfold Pt.nk at hn
    generalize p.n = n at *
    clear hl hp hk p
    dsimp only at x0 x1 x2 x3 x4
    have RW := rWritten_any ⟨2, txt [], n, 0⟩ (w.alloc (.cells #[.int .i64 1, .int .i64 n, .string (txt []), .string (txt []), .int .i64 0] 86)) (show (0 : Nat) ≤ 140737488351232 by omega) (by dsimp only; omega) (by dsimp only; omega)
    rw [wr_num n hn0 hn] at RW
    have hsp : lfB ⟨1, n, txt [], txt [], 0⟩ = spell ⟨2, txt [], n, 0⟩ := by rw [spell_n]; rfl
    rw [hsp]
    have HRW := hide RW
    unfold Tk.v at HRW
    dsimp only at HRW
    clear RW hsp
    generalize txt (spell ⟨2, txt [], n, 0⟩) = S at *
    go_enter Tryz.func68, Tryz.ntmps68
    go_wp2_with fail
    refine (unhide HRW).mono ?_
    rintro e w1 ⟨b1, rfl, hb1, hbel⟩
    obtain rfl := (by first | exact hb1 trivial | exact hb1 rfl)
    have HB := hide (((Below.refl w.heap.size w).alloc (Nat.le_refl _) (.cells #[.int .i64 1, .int .i64 n, .string (txt []), .string (txt []), .int .i64 0] 86)).trans (hbel.mono (by simp)))
    clear HRW hb1 hbel
    go_wp2
    exact bodyPost_ret (results_tmp2 rfl _ _ _) rfl ⟨rfl, unhide HB⟩
  · -- a text
    rw [hp] at x0 x1 x2 x3 x4 ⊢
    have hsz : p.s.size ≤ 256 := by unfold isTx at htx; simp at htx; exact htx.1
    have hsp : lfB ⟨2, 0, p.s, txt [], 0⟩ = 39 :: (p.s.data.toList ++ [39]) := rfl
    rw [hsp, ← quo_size]
    generalize p.s = s at *
    clear hl hp hk hsp hn htx p
    dsimp only at x0 x1 x2 x3 x4
    have D1 : ∀ W, (Op.stringOp .add { data := #[39] } s).run Tryz.prog W = .ok (.string (⟨#[39]⟩ ++ s)) W := fun W => run_string_add_sum W _ _ (by show 1 + s.size ≤ _; omega)
    have D2 : ∀ W, (Op.stringOp .add (⟨#[39]⟩ ++ s) { data := #[39] }).run Tryz.prog W = .ok (.string (⟨#[39]⟩ ++ s ++ ⟨#[39]⟩)) W := fun W => run_string_add_sum W _ _ (by rw [ByteArray.size_append]; show 1 + s.size + 1 ≤ _; omega)
    generalize (⟨#[39]⟩ ++ s ++ ⟨#[39]⟩ : ByteArray) = Z at *
    generalize (⟨#[39]⟩ ++ s : ByteArray) = Y at *
    have HB := hide ((Below.refl w.heap.size w).alloc (Nat.le_refl _) (.cells #[.int .i64 2, .int .i64 0, .string s, .string (txt []), .int .i64 0] 86))
    go_enter Tryz.func68, Tryz.ntmps68
    go_wp2
    exact bodyPost_ret (results_tmp2 rfl _ _ _) rfl ⟨rfl, unhide HB⟩
  · -- a field
    rw [hp] at x0 x1 x2 x3 x4 ⊢
    dsimp only at x0 x1 x2 x3 x4
    obtain ⟨F, hF⟩ := Int.eq_ofNat_of_zero_le hf0
    have hF6 : F < 6 := by omega
    have hlB : lfB ⟨3, 0, txt [], p.st, p.fl⟩ = if emptyB p.st then fldW.getD F [] else p.st.data.toList ++ ([32, 46, 32] ++ fldW.getD F []) := by unfold lfB fldN; rw [hF]; rfl
    rw [hlB]
    rw [hF] at x4
    clear hlB
    have hcell := fldV_at F hF6
    have hfl : (fldW.getD F []).length ≤ 4 := by
      have := (by decide +kernel : ∀ f : Fin 6, (fldW.getD f.val []).length ≤ 4) ⟨F, hF6⟩
      exact this
    have hss : p.st.size ≤ 32 ∨ p.st.size = 0 := by
      rcases hst with h | h
      · right; rw [h]; rfl
      · left; unfold isSg at h; simp only [Bool.and_eq_true, decide_eq_true_eq] at h; exact h.1.1.1.2
    generalize p.st = st at *
    generalize fldW.getD F [] = W6 at *
    clear hl hp hk hn hst hf0 hf5 hF p
    have RF := hide (rFields_any (w.alloc (.cells #[.int .i64 3, .int .i64 0, .string (txt []), .string st, .int .i64 (F : Int)] 86)).drew)
    have hFi : (F : Int) < 6 := by omega
    have k0 : Kp [] w (w.alloc (.cells #[.int .i64 3, .int .i64 0, .string (txt []), .string st, .int .i64 (F : Int)] 86)).drew := (Kp.alloc _ _).trans (Kp.drew _) (by simp)
    have HK0 := hide k0
    have c4 : (w.alloc (.cells #[.int .i64 3, .int .i64 0, .string (txt []), .string st, .int .i64 (F : Int)] 86)).drew.cell? ⟨w.heap.size, 4, none⟩ = some (.int .i64 (F : Int)) := (CBox.new w _ _).cell rfl
    have HPK := hide (fun W (hk : Kp [] (w.alloc (.cells #[.int .i64 3, .int .i64 0, .string (txt []), .string st, .int .i64 (F : Int)] 86)).drew W) => part_keep ((Kp.drew (w.alloc (.cells #[.int .i64 3, .int .i64 0, .string (txt []), .string st, .int .i64 (F : Int)] 86))).trans hk (by simp)))
    clear k0
    have hsz0 : (w.alloc (.cells #[.int .i64 3, .int .i64 0, .string (txt []), .string st, .int .i64 (F : Int)] 86)).drew.heap.size = w.heap.size + 1 := by simp [World.drew]
    rw [hsz0] at RF
    have hw0 : w.heap.size < (w.alloc (.cells #[.int .i64 3, .int .i64 0, .string (txt []), .string st, .int .i64 (F : Int)] 86)).heap.size := by simp
    clear hsz0
    have g1 := emp_toList st
    have g2 := emp_str st
    cases hE : emptyB st with
    | true =>
      rw [hE] at g1 g2
      clear hE hss
      rw [if_pos rfl]
      go_enter Tryz.func68, Tryz.ntmps68
      go_wp2_with fail
      generalize w.alloc (.cells #[.int .i64 3, .int .i64 0, .string (txt []), .string st, .int .i64 (F : Int)] 86) = W0 at *
      go_region_with (go_at_call 89; refine (unhide RF).mono ?_; rintro e w1 ⟨rfl, hbx, hkp⟩; obtain ⟨_, _, c3, d4, hlt⟩ := unhide HPK w1 hkp; have hc6 := hbx.cell hcell; have HB := hide (((unhide HK0).trans hkp (by simp)).below (Nat.le_refl _) (by simp)); clear hbx hkp)
      all_goals (go_wp2; exact bodyPost_ret (results_tmp2 rfl _ _ _) rfl ⟨rfl, unhide HB⟩)
    | false =>
      rw [hE] at g1 g2
      have hz : st.size ≤ 32 := by rcases hss with h | h <;> omega
      have D1 : ∀ W, (Op.stringOp .add st { data := #[32, 46, 32] }).run Tryz.prog W = .ok (.string (txt (st.data.toList ++ [32, 46, 32]))) W := fun W => by
        have := run_string_add_sum (P := Tryz.prog) W st ⟨#[32, 46, 32]⟩ (by show st.size + 3 ≤ _; omega)
        rw [this, ← txt_app, txt_self]
        rfl
      have D2 : ∀ W, (Op.stringOp .add (txt (st.data.toList ++ [32, 46, 32])) (txt W6)).run Tryz.prog W = .ok (.string (txt (st.data.toList ++ ([32, 46, 32] ++ W6)))) W := fun W => by
        have := str_add (st.data.toList ++ [32, 46, 32]) W6 (by rw [List.length_append, show st.data.toList.length = st.size from rfl]; simp; omega) W
        rw [List.append_assoc] at this
        exact this
      clear hE hss
      rw [if_neg (by simp)]
      generalize txt (st.data.toList ++ ([32, 46, 32] ++ W6)) = Z at *
      generalize txt (st.data.toList ++ [32, 46, 32]) = Y at *
      generalize txt W6 = V6 at *
      go_enter Tryz.func68, Tryz.ntmps68
      go_wp2_with fail
      generalize w.alloc (.cells #[.int .i64 3, .int .i64 0, .string (txt []), .string st, .int .i64 (F : Int)] 86) = W0 at *
      go_region_with (go_at_call 89; refine (unhide RF).mono ?_; rintro e w1 ⟨rfl, hbx, hkp⟩; obtain ⟨_, _, c3, d4, hlt⟩ := unhide HPK w1 hkp; have hc6 := hbx.cell hcell; have HB := hide (((unhide HK0).trans hkp (by simp)).below (Nat.le_refl _) (by simp)); clear hbx hkp)
      all_goals (go_wp2; exact bodyPost_ret (results_tmp2 rfl _ _ _) rfl ⟨rfl, unhide HB⟩)
end Go.Proofs.YtjijhefmbmdbeaaGreatDoor
namespace Go.Proofs.YtjijhefmbmdbeaaGreatDoor
open Go.RowKit Go.Shelf

theorem sdB_bound (a : List UInt8 × Bool) : (sdB a).length ≤ a.1.length + 4 := by
  unfold sdB
  split
  · simp
  · omega
theorem not_add (A : List UInt8) (h : A.length ≤ 70000) (W : World) : (Op.stringOp .add { data := #[110, 111, 116, 32] } (txt A)).run Tryz.prog W = .ok (.string (txt ([110, 111, 116] ++ ([32] ++ A)))) W := str_add [110, 111, 116, 32] A (by simp; omega) W
theorem br_add (A : List UInt8) (h : A.length ≤ 200000) (W : World) : (Op.stringOp .add { data := #[40, 32] } (txt A)).run Tryz.prog W = .ok (.string (txt ([40, 32] ++ A))) W := str_add [40, 32] A (by simp; omega) W
theorem rb_add (A : List UInt8) (h : A.length ≤ 200000) (W : World) : (Op.stringOp .add (txt ([40, 32] ++ A)) { data := #[32, 41] }).run Tryz.prog W = .ok (.string (txt ([40, 32] ++ (A ++ [32, 41])))) W := by
  have := str_add ([40, 32] ++ A) [32, 41] (by simp; omega) W
  rw [List.append_assoc] at this
  exact this
theorem sp_add (A : List UInt8) (h : A.length ≤ 200000) (W : World) : (Op.stringOp .add (txt A) { data := #[32] }).run Tryz.prog W = .ok (.string (txt (A ++ [32]))) W := str_add A [32] (by simp; omega) W
set_option maxHeartbeats 4000000 in
set_option maxRecDepth 100000 in
theorem written_un {ad : Option Addr} (cap : Nat) (xs : List Pt) (at_ E1 : Nat) (o : Bool) (A : List UInt8) (hA : A.length ≤ 70000) (hx : xs.length ≤ 200) (hat : at_ < xs.length) (hk : xs[at_].kd = 13) (C1 : ∀ W, PtsAt W ad xs → Calls Tryz.prog 68 #[.slice ad xs.length cap, .int .i64 ((at_ + 1 : Nat) : Int), .bool false] W (WnT W A E1)) (w : World) (h : PtsAt w ad xs) :
    Calls Tryz.prog 68 #[.slice ad xs.length cap, .int .i64 (at_ : Int), .bool o] w (WnT w (outB o ([110, 111, 116] ++ ([32] ++ A), true)) E1) := by
  obtain ⟨b, off, rfl, hbl, x0, x1, x2, x3, x4⟩ := h.at at_ hat
  have hli : (at_ : Int) < (xs.length : Int) := by omega
  have ha1 : ((at_ + 1 : Nat) : Int) = (at_ : Int) + 1 := by omega
  rw [ha1] at C1
  clear ha1
  generalize xs[at_] = p at *
  obtain ⟨pk, pn, ps, pt, pf⟩ := p
  dsimp only at *
  subst hk
  have C1W := hide (C1 _ (h.kp (Kp.alloc w (.cells #[.int .i64 13, .int .i64 pn, .string ps, .string pt, .int .i64 pf] 86))))
  have HB0 := hide ((Below.refl w.heap.size w).alloc (Nat.le_refl _) (.cells #[.int .i64 13, .int .i64 pn, .string ps, .string pt, .int .i64 pf] 86))
  have D1 := not_add A hA
  have D2 := br_add ([110, 111, 116] ++ ([32] ++ A)) (by simp; omega)
  have D3 := rb_add ([110, 111, 116] ++ ([32] ++ A)) (by simp; omega)
  unfold WnT at C1W ⊢
  unfold outB sdB
  dsimp only
  rw [if_pos rfl]
  clear h C1
  cases o with
  | true =>
    rw [if_pos rfl]
    clear D2 D3
    generalize txt ([110, 111, 116] ++ ([32] ++ A)) = Z1 at *
    generalize txt A = Z0 at *
    go_enter Tryz.func68, Tryz.ntmps68
    go_wp2_with fail
    refine (unhide C1W).mono ?_
    rintro e w1 ⟨rfl, hb1⟩
    obtain ⟨c0, _, _, _, hlt⟩ := part_keep (Kp.ofBelow hb1)
    have HB := hide ((unhide HB0).trans (hb1.mono (unhide HB0).size))
    clear C1W hb1 HB0
    go_wp2
    exact bodyPost_ret (results_tmp2 rfl _ _ _) rfl ⟨rfl, unhide HB⟩
  | false =>
    rw [if_neg (by simp)]
    generalize txt ([40, 32] ++ ([110, 111, 116] ++ ([32] ++ A) ++ [32, 41])) = Z3 at *
    generalize txt ([40, 32] ++ ([110, 111, 116] ++ ([32] ++ A))) = Z2 at *
    generalize txt ([110, 111, 116] ++ ([32] ++ A)) = Z1 at *
    generalize txt A = Z0 at *
    go_enter Tryz.func68, Tryz.ntmps68
    go_wp2_with fail
    refine (unhide C1W).mono ?_
    rintro e w1 ⟨rfl, hb1⟩
    obtain ⟨c0, _, _, _, hlt⟩ := part_keep (Kp.ofBelow hb1)
    have HB := hide ((unhide HB0).trans (hb1.mono (unhide HB0).size))
    clear C1W hb1 HB0
    go_wp2
    exact bodyPost_ret (results_tmp2 rfl _ _ _) rfl ⟨rfl, unhide HB⟩
set_option maxHeartbeats 4000000 in
set_option maxRecDepth 100000 in
theorem written_bi {ad : Option Addr} (cap : Nat) (xs : List Pt) (at_ E1 E2 : Nat) (o : Bool) (A B : List UInt8) (hA : A.length ≤ 70000) (hB : B.length ≤ 70000) (hx : xs.length ≤ 200) (hat : at_ < xs.length) (h4 : 4 ≤ xs[at_].kd) (h12 : xs[at_].kd ≤ 12) (C1 : ∀ W, PtsAt W ad xs → Calls Tryz.prog 68 #[.slice ad xs.length cap, .int .i64 ((at_ + 1 : Nat) : Int), .bool false] W (WnT W A E1)) (C2 : ∀ W, PtsAt W ad xs → Calls Tryz.prog 68 #[.slice ad xs.length cap, .int .i64 (E1 : Int), .bool false] W (WnT W B E2)) (w : World) (h : PtsAt w ad xs) :
    Calls Tryz.prog 68 #[.slice ad xs.length cap, .int .i64 (at_ : Int), .bool o] w (WnT w (outB o (A ++ ([32] ++ (sgO xs[at_].kd ++ ([32] ++ B))), true)) E2) := by
  obtain ⟨b, off, rfl, hbl, x0, x1, x2, x3, x4⟩ := h.at at_ hat
  have hli : (at_ : Int) < (xs.length : Int) := by omega
  have ha1 : ((at_ + 1 : Nat) : Int) = (at_ : Int) + 1 := by omega
  rw [ha1] at C1
  clear ha1
  generalize xs[at_] = p at *
  obtain ⟨pk, pn, ps, pt, pf⟩ := p
  dsimp only at *
  have C1W := hide (C1 _ (h.kp (Kp.alloc w (.cells #[.int .i64 pk, .int .i64 pn, .string ps, .string pt, .int .i64 pf] 86))))
  have HB0 := hide ((Below.refl w.heap.size w).alloc (Nat.le_refl _) (.cells #[.int .i64 pk, .int .i64 pn, .string ps, .string pt, .int .i64 pf] 86))
  have HC2 := hide (fun W (hk : Kp [] (w.alloc (.cells #[.int .i64 pk, .int .i64 pn, .string ps, .string pt, .int .i64 pf] 86)) W) => C2 W ((h.kp (Kp.alloc _ _)).kp hk))
  have SG := hide (fun W => rSignO_any pk h4 h12 W)
  have hsg := sgO_len pk
  have D1 := not_add A hA
  have D2 := sp_add A (by omega)
  have D3 : ∀ W, (Op.stringOp .add (txt (A ++ [32])) (txt (sgO pk))).run Tryz.prog W = .ok (.string (txt (A ++ [32] ++ sgO pk))) W := fun W => str_add _ _ (by simp; omega) W
  have D4 := sp_add (A ++ [32] ++ sgO pk) (by simp; omega)
  have D5 : ∀ W, (Op.stringOp .add (txt (A ++ [32] ++ sgO pk ++ [32])) (txt B)).run Tryz.prog W = .ok (.string (txt (A ++ ([32] ++ (sgO pk ++ ([32] ++ B)))))) W := fun W => by
    have := str_add (A ++ [32] ++ sgO pk ++ [32]) B (by simp; omega) W
    rw [this]
    simp
  have D6 := br_add (A ++ ([32] ++ (sgO pk ++ ([32] ++ B)))) (by simp; omega)
  have D7 := rb_add (A ++ ([32] ++ (sgO pk ++ ([32] ++ B)))) (by simp; omega)
  have k1 : (pk == 1) = false := beq_eq_false_iff_ne.2 (by omega)
  have k2 : (pk == 2) = false := beq_eq_false_iff_ne.2 (by omega)
  have k3 : (pk == 3) = false := beq_eq_false_iff_ne.2 (by omega)
  have k13 : (pk == 13) = false := beq_eq_false_iff_ne.2 (by omega)
  unfold WnT at C1W HC2 ⊢
  unfold outB sdB
  dsimp only
  rw [if_pos rfl]
  clear h C1 C2 h4 h12 hsg
  cases o with
  | true =>
    rw [if_pos rfl]
    clear D6 D7
    generalize txt (A ++ ([32] ++ (sgO pk ++ ([32] ++ B)))) = Z5 at *
    generalize txt (A ++ [32] ++ sgO pk ++ [32]) = Z4 at *
    generalize txt (A ++ [32] ++ sgO pk) = Z3 at *
    generalize txt (A ++ [32]) = Z2 at *
    generalize txt ([110, 111, 116] ++ ([32] ++ A)) = Z1 at *
    generalize txt A = Z0 at *
    generalize txt B = ZB at *
    generalize txt (sgO pk) = ZS at *
    go_enter Tryz.func68, Tryz.ntmps68
    go_wp2_with fail
    refine (unhide C1W).mono ?_
    rintro e w1 ⟨rfl, hb1⟩
    obtain ⟨c0, _, _, _, hlt⟩ := part_keep (Kp.ofBelow hb1)
    have C2W := hide (unhide HC2 w1 (Kp.ofBelow hb1))
    have HK1 := hide (Kp.ofBelow hb1)
    have HB := hide ((unhide HB0).trans (hb1.mono (unhide HB0).size))
    clear C1W hb1 HB0 HC2
    go_wp2_with fail
    refine (unhide C2W).mono ?_
    rintro e w2 ⟨rfl, hb2⟩
    obtain ⟨d0, _, _, _, hlt2⟩ := part_keep ((unhide HK1).trans (Kp.ofBelow hb2) (by simp))
    have HB2 := hide ((unhide HB).trans (hb2.mono (unhide HB).size))
    clear C2W hb2 HB HK1 c0
    go_wp2_with fail
    refine (unhide SG _).mono ?_
    rintro e w3 ⟨rfl, hk3⟩
    have d3 := hk3.cell d0 (by simp)
    have HB3 := hide ((unhide HB2).trans (hk3.below (unhide HB2).size (by simp)))
    clear hk3 SG HB2 d0
    go_wp2
    exact bodyPost_ret (results_tmp2 rfl _ _ _) rfl ⟨rfl, unhide HB3⟩
  | false =>
    rw [if_neg (by simp)]
    generalize txt ([40, 32] ++ (A ++ ([32] ++ (sgO pk ++ ([32] ++ B))) ++ [32, 41])) = Z7 at *
    generalize txt ([40, 32] ++ (A ++ ([32] ++ (sgO pk ++ ([32] ++ B))))) = Z6 at *
    generalize txt (A ++ ([32] ++ (sgO pk ++ ([32] ++ B)))) = Z5 at *
    generalize txt (A ++ [32] ++ sgO pk ++ [32]) = Z4 at *
    generalize txt (A ++ [32] ++ sgO pk) = Z3 at *
    generalize txt (A ++ [32]) = Z2 at *
    generalize txt ([110, 111, 116] ++ ([32] ++ A)) = Z1 at *
    generalize txt A = Z0 at *
    generalize txt B = ZB at *
    generalize txt (sgO pk) = ZS at *
    go_enter Tryz.func68, Tryz.ntmps68
    go_wp2_with fail
    refine (unhide C1W).mono ?_
    rintro e w1 ⟨rfl, hb1⟩
    obtain ⟨c0, _, _, _, hlt⟩ := part_keep (Kp.ofBelow hb1)
    have C2W := hide (unhide HC2 w1 (Kp.ofBelow hb1))
    have HK1 := hide (Kp.ofBelow hb1)
    have HB := hide ((unhide HB0).trans (hb1.mono (unhide HB0).size))
    clear C1W hb1 HB0 HC2
    go_wp2_with fail
    refine (unhide C2W).mono ?_
    rintro e w2 ⟨rfl, hb2⟩
    obtain ⟨d0, _, _, _, hlt2⟩ := part_keep ((unhide HK1).trans (Kp.ofBelow hb2) (by simp))
    have HB2 := hide ((unhide HB).trans (hb2.mono (unhide HB).size))
    clear C2W hb2 HB HK1 c0
    go_wp2_with fail
    refine (unhide SG _).mono ?_
    rintro e w3 ⟨rfl, hk3⟩
    have d3 := hk3.cell d0 (by simp)
    have HB3 := hide ((unhide HB2).trans (hk3.below (unhide HB2).size (by simp)))
    clear hk3 SG HB2 d0
    go_wp2
    exact bodyPost_ret (results_tmp2 rfl _ _ _) rfl ⟨rfl, unhide HB3⟩
theorem written_tree {ad : Option Addr} (cap : Nat) (xs : List Pt) (hx : xs.length ≤ 200) (t : Ex) : t.wf → t.fine → (∀ q ∈ t.flat, q.nk) → t.flat.length ≤ 200 → ∀ (o : Bool) (pre rest : List Pt), xs = pre ++ (t.flat ++ rest) → ∀ w, PtsAt w ad xs →
    Calls Tryz.prog 68 #[.slice ad xs.length cap, .int .i64 (pre.length : Int), .bool o] w (WnT w (outB o (t.val wrv)) (pre.length + t.flat.length)) := by
  induction t with
  | lf p =>
    intro hw hf hn hl o pre rest hxs w h
    rw [Ex.flat, List.singleton_append] at hxs
    obtain ⟨hat, hp⟩ := mid_get pre p _ xs hxs
    have := written_leaf cap xs pre.length o hx hat (by rw [hp]; exact hf) (by rw [hp]; exact hn p (by simp [Ex.flat])) w h
    rw [hp] at this
    have e : outB o ((Ex.lf p).val wrv) = lfB p := by unfold outB sdB; show (if o = true then lfB p else if false = true then _ else lfB p) = _; cases o <;> rfl
    rw [e]
    exact this
  | un p a ih =>
    intro hw hf hn hl o pre rest hxs w h
    rw [Ex.flat, List.cons_append] at hxs
    obtain ⟨hat, hp⟩ := mid_get pre p _ xs hxs
    have hn2 : ∀ q ∈ a.flat, q.nk := fun q hq => hn q (by simp [Ex.flat, hq])
    have hl2 : a.flat.length + 1 ≤ 200 := by rw [Ex.flat, List.length_cons] at hl; exact hl
    have C1 := ih hw.2 hf.2.2 hn2 (by omega) false (pre ++ [p]) rest (by rw [hxs]; simp)
    rw [List.length_append, List.length_singleton] at C1
    have hz := a.wr_len hw.2 (a.fine_leaves hf.2.2) hn2
    have hz2 := sdB_bound (a.val wrv)
    have e0 : outB false (a.val wrv) = sdB (a.val wrv) := rfl
    rw [e0] at C1
    have := written_un cap xs pre.length (pre.length + 1 + a.flat.length) o (sdB (a.val wrv)) (by omega) hx hat (by rw [hp]; exact hf.1) C1 w h
    have ev : (Ex.un p a).val wrv = ([110, 111, 116] ++ ([32] ++ sdB (a.val wrv)), true) := by
      show (sgO p.kd ++ ([32] ++ sdB (a.val wrv)), true) = _
      rw [hf.1]
      rfl
    rw [ev]
    have el : pre.length + (Ex.un p a).flat.length = pre.length + 1 + a.flat.length := by rw [Ex.flat, List.length_cons]; omega
    rw [el]
    exact this
  | bi p a b iha ihb =>
    intro hw hf hn hl o pre rest hxs w h
    rw [Ex.flat, List.cons_append, List.append_assoc] at hxs
    obtain ⟨hat, hp⟩ := mid_get pre p _ xs hxs
    have hna : ∀ q ∈ a.flat, q.nk := fun q hq => hn q (by simp [Ex.flat, hq])
    have hnb : ∀ q ∈ b.flat, q.nk := fun q hq => hn q (by simp [Ex.flat, hq])
    have hl2 : a.flat.length + b.flat.length + 1 ≤ 200 := by rw [Ex.flat, List.length_cons, List.length_append] at hl; omega
    have C1 := iha hw.2.1 hf.2.2.2.1 hna (by omega) false (pre ++ [p]) (b.flat ++ rest) (by rw [hxs]; simp)
    have C2 := ihb hw.2.2 hf.2.2.2.2 hnb (by omega) false (pre ++ p :: a.flat) rest (by rw [hxs]; simp)
    rw [List.length_append, List.length_singleton] at C1
    have el2 : (pre ++ p :: a.flat).length = pre.length + 1 + a.flat.length := by rw [List.length_append, List.length_cons]; omega
    rw [el2] at C2
    have za := a.wr_len hw.2.1 (a.fine_leaves hf.2.2.2.1) hna
    have za2 := sdB_bound (a.val wrv)
    have zb := b.wr_len hw.2.2 (b.fine_leaves hf.2.2.2.2) hnb
    have zb2 := sdB_bound (b.val wrv)
    have ea : outB false (a.val wrv) = sdB (a.val wrv) := rfl
    have eb : outB false (b.val wrv) = sdB (b.val wrv) := rfl
    rw [ea] at C1
    rw [eb] at C2
    have := written_bi cap xs pre.length (pre.length + 1 + a.flat.length) (pre.length + 1 + a.flat.length + b.flat.length) o (sdB (a.val wrv)) (sdB (b.val wrv)) (by omega) (by omega) hx hat (by rw [hp]; exact hf.1) (by rw [hp]; exact hf.2.1) C1 C2 w h
    rw [hp] at this
    have el : pre.length + (Ex.bi p a b).flat.length = pre.length + 1 + a.flat.length + b.flat.length := by rw [Ex.flat, List.length_cons, List.length_append]; omega
    rw [el]
    exact this
set_option maxHeartbeats 1000000 in
set_option maxRecDepth 100000 in
theorem rWrite_any (ad : Option Addr) (cap : Nat) (xs : List Pt) (w : World) (hc : PtsAt w ad xs) (hok : ∀ p ∈ xs, p.ok) (hs : ∀ p ∈ xs, p.s.size ≤ 140737488351232 ∧ p.st.size ≤ 9223372036854775807) :
    Calls Tryz.prog 43 #[.slice ad xs.length cap] w fun e w' => e = .returned (.tuple #[.string (wrS xs), .int .i64 (if ckK xs = 0 then 110 else 0)]) ∧ Below w.heap.size w w' := by
  have CK := hide (rCheck_any ad cap xs w hc hs)
  by_cases h0 : ckK xs = 0
  · have hw : wrS xs = ⟨#[]⟩ := by unfold wrS; rw [if_pos h0]
    rw [h0, if_pos rfl] at CK
    rw [hw, if_pos h0]
    clear hc hok h0 hw hs
    go_enter Tryz.func43, Tryz.ntmps43
    go_wp2_with fail
    refine (unhide CK).mono ?_
    rintro e w1 ⟨rfl, hb⟩
    clear CK
    go_wp2
    exact bodyPost_ret (results_tmp2 rfl _ _ _) rfl ⟨rfl, hb⟩
  · obtain ⟨t, h1, h2, h3, h4, h5, h6⟩ := ckK_leaves h0
    have hfd : fdX wrv xs = some (t.val wrv) := by rw [h3]; exact fdX_flat wrv t h1
    have hw : wrS xs = txt (t.val wrv).1 := by unfold wrS; rw [if_neg h0, hfd]
    have hnk : ∀ q ∈ xs, q.nk := fun q hq => (hok q hq).2.1.2
    have WR := hide (fun W (hb : Below w.heap.size w W) => written_tree (ad := ad) cap xs h5 t h1 h2 (by rw [← h3]; exact hnk) (by rw [← h3]; exact h5) true [] [] (by rw [← h3]; simp) W (hc.kp (Kp.ofBelow hb)))
    rw [hw, if_neg h0]
    rw [if_neg h0] at CK
    unfold WnT outB at WR
    simp only [List.length_nil, if_true] at WR
    generalize 0 + t.flat.length = EE at *
    generalize ckK xs = ck at *
    generalize txt (t.val wrv).1 = L at *
    clear hc hok hw hnk h1 h2 h3 h4 h6 hfd hs
    go_enter Tryz.func43, Tryz.ntmps43
    go_wp2_with fail
    refine (unhide CK).mono ?_
    rintro e w1 ⟨rfl, hb⟩
    have WR2 := hide (unhide WR w1 hb)
    have HB := hide hb
    clear CK WR hb
    go_wp2_with fail
    refine (unhide WR2).mono ?_
    rintro e w2 ⟨rfl, hb2⟩
    have HB2 := hide ((unhide HB).trans (hb2.mono (unhide HB).size))
    clear WR2 hb2 HB
    go_wp2
    exact bodyPost_ret (results_tmp2 rfl _ _ _) rfl ⟨rfl, unhide HB2⟩
end Go.Proofs.YtjijhefmbmdbeaaGreatDoor
namespace Go.Proofs.YtjijhefmbmdbeaaGreatDoor
open Go.RowKit

theorem rBlank_any (b : UInt8) (w : World) : Calls Tryz.prog 72 #[.int .u8 (b.toNat : Int)] w fun e w' => e = .returned (.bool (isBlk b)) ∧ w' = w := by
  have hb := b.toNat_lt
  have HI : Hid (isBlk b = (decide (b.toNat = 32) || decide (b.toNat = 10))) := hide rfl
  generalize isBlk b = I at *
  generalize b.toNat = n at *
  have hi := unhide HI
  clear HI
  by_cases h1 : n = 32
  · rw [decide_eq_true h1, Bool.true_or] at hi
    subst hi
    have g : ((n : Int) == 32) = true := by simp [h1]
    clear h1
    go_enter Tryz.func72, Tryz.ntmps72
    go_wp2
    go_ret
    exact ⟨rfl, rfl⟩
  · have g : ((n : Int) == 32) = false := by simp; omega
    rw [decide_eq_false h1, Bool.false_or] at hi
    by_cases h2 : n = 10
    · rw [decide_eq_true h2] at hi
      subst hi
      have g2 : ((n : Int) == 10) = true := by simp [h2]
      clear h1 h2
      go_enter Tryz.func72, Tryz.ntmps72
      go_wp2
      go_ret
      exact ⟨rfl, rfl⟩
    · rw [decide_eq_false h2] at hi
      subst hi
      have g2 : ((n : Int) == 10) = false := by simp; omega
      clear h1 h2
      go_enter Tryz.func72, Tryz.ntmps72
      go_wp2
      go_ret
      exact ⟨rfl, rfl⟩
end Go.Proofs.YtjijhefmbmdbeaaGreatDoor
