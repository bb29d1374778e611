/-
  The reader reads a chain of operations.
  The reader reads a chain of operations: the walk.
  The reader reads: whatever the level, as the plain reader does.
  The grammar: the levels' functions and operations, as they are laid.
  Tokens that lie somewhere; what Tokens tells: how many tokens, of which sizes.
-/
import Derived.Test.YtjijhefmbmdbeaaGreatDoorP24
import Derived.Test.YtjijhefmbmdbeaaGreatDoorP12
namespace Go.Proofs.YtjijhefmbmdbeaaGreatDoor
open Go.RowKit Go.Shelf
attribute [local irreducible] opsV

theorem pRd_cb {f m d : Nat} {t : Tk} {r q : List Tk} (hm : m = 0 ∨ m = 1 ∨ m = 4 ∨ m = 5) (h : pRd f (m + 1) d [] (t :: r) = .bad q) : pRd (f + 1) m d [] (t :: r) = .bad q := by rw [pRd, if_neg (by omega), if_neg (by omega), if_neg (by omega), if_pos (by omega), h]
theorem pRd_cg {f m d : Nat} {t : Tk} {r q : List Tk} {x : List Pt} (hm : m = 0 ∨ m = 1 ∨ m = 4 ∨ m = 5) (h : pRd f (m + 1) d [] (t :: r) = .good x q) : pRd (f + 1) m d [] (t :: r) = pRd f (m + 10) d x q := by rw [pRd, if_neg (by omega), if_neg (by omega), if_neg (by omega), if_pos (by omega), h]
theorem pRd_ln {f m d : Nat} {acc : List Pt} {t : Tk} {r : List Tk} (h : opA m (wdT t) = none) : pRd (f + 1) (m + 10) d acc (t :: r) = .good acc (t :: r) := by rw [pRd, if_neg (by omega), if_neg (by omega), if_neg (by omega), if_neg (by omega), Nat.add_sub_cancel, h]
theorem pRd_lb {f m d : Nat} {acc : List Pt} {t : Tk} {r q : List Tk} {kk : Int} (h : opA m (wdT t) = some kk) (h2 : pRd f (m + 1) d [] r = .bad q) : pRd (f + 1) (m + 10) d acc (t :: r) = .bad q := by
  rw [pRd, if_neg (by omega), if_neg (by omega), if_neg (by omega), if_neg (by omega), Nat.add_sub_cancel, h]
  dsimp only
  rw [h2]
theorem pRd_lg {f m d : Nat} {acc y : List Pt} {t : Tk} {r q : List Tk} {kk : Int} (h : opA m (wdT t) = some kk) (h2 : pRd f (m + 1) d [] r = .good y q) : pRd (f + 1) (m + 10) d acc (t :: r) = pRd f (m + 10) d (opP kk :: (acc ++ y)) q := by
  rw [pRd, if_neg (by omega), if_neg (by omega), if_neg (by omega), if_neg (by omega), Nat.add_sub_cancel, h]
  dsimp only
  rw [h2]
end Go.Proofs.YtjijhefmbmdbeaaGreatDoor
namespace Go.Proofs.YtjijhefmbmdbeaaGreatDoor
open Go.RowKit Go.Shelf
attribute [local irreducible] opsV

/-- What lies there between two rounds of a chain. -/
def ChI (gr : Nat) (lv tk : Value) (l : List Tk) (m d f N : Nat) (ps : List Pt) (W : World) (R : PR) (b : Bool) (wr : World) : Prop := if b = true
  then ∃ f' acc k', f' ≤ f ∧ Rd gr lv tk l k' d (ps ++ acc) wr ∧ Endd (l.drop k') ∧ mRd (m + 10) (l.drop k') ≤ f' ∧ acc.length + (l.drop k').length ≤ N ∧ pRd f' (m + 10) d acc (l.drop k') = R ∧ Below gr W wr
  else ∃ k' ps', R = .bad (l.drop k') ∧ k' ≤ l.length ∧ Rd gr lv tk l k' d ps' wr ∧ Below gr W wr
def nxW (gr : Nat) (w : World) : Nat := match w.cell? ⟨gr, 72, none⟩ with
  | some v => (intOf v).toNat
  | none => 0
def msC (gr n : Nat) (v : Value) (w : World) : Nat := match v with
  | .bool true => n + 1 - nxW gr w
  | _ => 0
theorem nxW_rd {gr : Nat} {lv tk : Value} {l : List Tk} {k d : Nat} {ps : List Pt} {W : World} (h : Rd gr lv tk l k d ps W) : nxW gr W = k := by
  unfold nxW
  rw [h.cells.1]
  simp [intOf]
set_option maxHeartbeats 4000000 in
set_option maxRecDepth 100000 in
theorem chain_any {f : Nat} (IH : ∀ f', f' ≤ f → RdOK f') {gr : Nat} {lv tk : Value} {l : List Tk} {k d : Nat} {ps : List Pt} {W : World} (h : Rd gr lv tk l k d ps W) {t : Tk} {r : List Tk} (ht : l.drop k = t :: r) (m : Nat) (hm4 : m = 0 ∨ m = 1 ∨ m = 4 ∨ m = 5) (hE : Endd (t :: r)) (hd : d ≤ 200) (hps : ps.length + (t :: r).length ≤ 500000) (hm : mRd m (t :: r) ≤ f + 1) :
    Calls Tryz.prog 175 #[.pointer (some ⟨gr, 0, none⟩), .int .i64 (m : Int)] W (RdR gr lv tk l d ps W (pRd (f + 1) m d [] (t :: r))) := by
  obtain ⟨ad, cap, c74⟩ := h.len
  have hlr : (t :: r).length = r.length + 1 := rfl
  have hmm : 8 * (r.length + 1) + 7 - m ≤ f + 1 := by rw [mRd_le (by omega)] at hm; exact hm
  have RD : Hid (Calls Tryz.prog 158 #[.pointer (some ⟨gr, 0, none⟩), .int .i64 ((m : Int) + 1)] W (RdR gr lv tk l d ps W (pRd f (m + 1) d [] (t :: r)))) := hide (by
    have := IH f (Nat.le_refl _) gr lv tk l k d ps W (m + 1) h (by omega) (by rw [ht]; exact hE) hd (by rw [ht]; exact hps) (by rw [ht, mRd_le (by omega), hlr]; omega)
    rw [ht] at this
    exact this)
  obtain ⟨ok1, ok2⟩ := pRd_ok f (m + 1) d [] (t :: r) hE
  rw [if_pos (by omega)] at ok1
  have ok2 := ok2 (by omega)
  obtain ⟨R, hR⟩ : ∃ R, pRd (f + 1) m d [] (t :: r) = R := ⟨_, rfl⟩
  rw [hR]
  have hw1 : IntKind.i64.wrap ((m : Int) + 1) = (m : Int) + 1 := by rw [IntKind.wrap_i64]; omega
  have HST : Hid (∀ e w1, RdR gr lv tk l d ps W (pRd f (m + 1) d [] (t :: r)) e w1 → ∃ b, e = .returned (.bool b) ∧ ChI gr lv tk l m d f (t :: r).length ps W R b w1) := hide (fun e w1 h1 => by
    cases hA : pRd f (m + 1) d [] (t :: r) with
    | bad q =>
      rw [hA] at h1
      obtain ⟨rfl, ⟨k1, ps1, a1, a2, a3⟩, a4⟩ := h1
      refine ⟨false, rfl, ?_⟩
      unfold ChI
      rw [if_neg (by simp)]
      exact ⟨k1, ps1, by rw [← hR, pRd_cb hm4 hA, a1], a2, a3, a4⟩
    | good x q =>
      have hlt := ok2 x q hA
      rw [hA] at h1 ok1
      obtain ⟨hEq, hl1, _⟩ := ok1
      obtain ⟨rfl, ⟨k1, a1, a2, a3⟩, a4⟩ := h1
      refine ⟨true, rfl, ?_⟩
      unfold ChI
      rw [if_pos rfl]
      refine ⟨f, x, k1, Nat.le_refl _, a3, by rw [a1]; exact hEq, ?_, by rw [a1]; omega, by rw [a1, ← hR, pRd_cg hm4 hA], a4⟩
      rw [a1]
      unfold mRd
      rw [if_neg (by omega)]
      omega)
  have HIH := hide IH
  clear IH h ht hE hm hmm ok1 ok2 hR
  go_enter Tryz.func175, Tryz.ntmps175
  go_wp2_with fail
  refine (unhide RD).mono ?_
  intro e w1 hR1
  obtain ⟨b, rfl, hI⟩ := unhide HST e w1 hR1
  have HI0 := hide hI
  clear hI hR1 RD HST c74
  go_wp2
  go_loopw [6] (fun v wr => ∃ b, v = .bool b ∧ Hid (ChI gr lv tk l m d f (t :: r).length ps W R b wr)) (fun v wr => msC gr l.length v wr)
  case atStart => exact ⟨b, rfl, HI0⟩
  case round =>
    obtain ⟨b1, rfl, HI⟩ := hrel
    cases b1 with
    | false =>
      have HF : Hid (RdR gr lv tk l d ps W R (.returned (.bool false)) wr) := hide (by
        have := unhide HI
        unfold ChI at this
        rw [if_neg (by simp)] at this
        obtain ⟨k1, ps1, rfl, a2, a3, a4⟩ := this
        exact ⟨rfl, ⟨k1, ps1, rfl, a2, a3⟩, a4⟩)
      clear HI
      go_wp2
      refine bodyPost_ret (results_tmp rfl _ _ _) rfl ?_
      exact unhide HF
    | true =>
      have hI := unhide HI
      unfold ChI at hI
      rw [if_pos rfl] at hI
      obtain ⟨f', acc, k1, hf1, hr1, hE1, hm1, hl1, hp1, hb1⟩ := hI
      obtain ⟨c, q, hc⟩ : ∃ c q, l.drop k1 = c :: q := by
        cases hx : l.drop k1 with
        | nil => exact absurd hx hE1.ne
        | cons c q => exact ⟨c, q, rfl⟩
      rw [hc] at hE1 hm1 hl1 hp1
      obtain ⟨hk1, _, hc1⟩ := drop_at hc
      have hlq : (c :: q).length = q.length + 1 := rfl
      have hm2 : 8 * (q.length + 1) + 8 ≤ f' := by unfold mRd at hm1; rw [if_neg (by omega)] at hm1; exact hm1
      obtain ⟨f2, rfl⟩ : ∃ f2, f' = f2 + 1 := ⟨f' - 1, by omega⟩
      have hms : msC gr l.length (.bool true) wr = l.length + 1 - k1 := by unfold msC; rw [nxW_rd hr1]
      have HMS := hide hms
      have TO := hide (takeOp_any hr1 hc m (by omega) ps.length (by simp) (by rw [List.length_append]; omega))
      cases ho : opA m (wdT c) with
      | none =>
        rw [ho] at TO
        rw [pRd_ln ho] at hp1
        have HK := hide (And.intro hp1 (And.intro hc hb1))
        clear hr1 hE1 hm1 hp1 hb1 hms ho hc hc1 HI HI0
        go_wp2_with fail
        refine (unhide TO).mono ?_
        rintro e w2 ⟨rfl, b1, b2⟩
        have HF : Hid (RdR gr lv tk l d ps W R (.returned (.bool true)) w2) := hide (by
          rw [← (unhide HK).1]
          exact ⟨rfl, ⟨k1, (unhide HK).2.1, by omega, b1⟩, (unhide HK).2.2.trans b2⟩)
        clear b1 b2 TO HK
        go_wp2
        refine bodyPost_ret (results_tmp rfl _ _ _) rfl ?_
        exact unhide HF
      | some kk =>
        rw [ho] at TO
        have hE2 := hE1.tail (opA_kd ho)
        have HRD : Hid (∀ w2, Rd gr lv tk l (k1 + 1) d (ps ++ opP kk :: acc) w2 → Calls Tryz.prog 158 #[.pointer (some ⟨gr, 0, none⟩), .int .i64 ((m : Int) + 1)] w2 (RdR gr lv tk l d (ps ++ opP kk :: acc) w2 (pRd f2 (m + 1) d [] q))) := hide (fun w2 hr2 => by
          have := unhide HIH f2 (by omega) gr lv tk l (k1 + 1) d (ps ++ opP kk :: acc) w2 (m + 1) hr2 (by omega) (by rw [hc1]; exact hE2) hd (by rw [hc1, List.length_append, List.length_cons]; omega) (by rw [hc1, mRd_le (by omega)]; omega)
          rw [hc1] at this
          exact this)
        obtain ⟨ok1, ok2⟩ := pRd_ok f2 (m + 1) d [] q hE2
        rw [if_pos (by omega)] at ok1
        have ok2 := ok2 (by omega)
        have HST : Hid (∀ e w2 w3, Below gr wr w2 → RdR gr lv tk l d (ps ++ opP kk :: acc) w2 (pRd f2 (m + 1) d [] q) e w3 → ∃ b, e = .returned (.bool b) ∧ ChI gr lv tk l m d f (t :: r).length ps W R b w3 ∧ msC gr l.length (.bool b) w3 < l.length + 1 - k1) := hide (fun e w2 w3 hb2 h1 => by
          cases hA : pRd f2 (m + 1) d [] q with
          | bad s =>
            rw [hA] at h1
            obtain ⟨rfl, ⟨k2, ps2, a1, a2, a3⟩, a4⟩ := h1
            refine ⟨false, rfl, ?_, by show 0 < _; omega⟩
            unfold ChI
            rw [if_neg (by simp)]
            exact ⟨k2, ps2, by rw [← hp1, pRd_lb ho hA, a1], a2, a3, (hb1.trans hb2).trans a4⟩
          | good y s =>
            have hlt := ok2 y s hA
            rw [hA] at h1 ok1
            obtain ⟨hEs, hl2, _⟩ := ok1
            obtain ⟨rfl, ⟨k2, a1, a2, a3⟩, a4⟩ := h1
            have hkk : k1 < k2 := by
              have e1 : (l.drop k2).length = l.length - k2 := List.length_drop
              have e2 : (l.drop (k1 + 1)).length = l.length - (k1 + 1) := List.length_drop
              rw [a1] at e1
              rw [hc1] at e2
              omega
            refine ⟨true, rfl, ?_, by show l.length + 1 - nxW gr w3 < _; rw [nxW_rd a3]; omega⟩
            unfold ChI
            rw [if_pos rfl]
            refine ⟨f2, opP kk :: (acc ++ y), k2, by omega, by rw [List.append_assoc, List.cons_append] at a3; exact a3, by rw [a1]; exact hEs, ?_, by rw [a1, List.length_cons, List.length_append]; omega, by rw [a1, ← hp1, pRd_lg ho hA], (hb1.trans hb2).trans a4⟩
            rw [a1]
            unfold mRd
            rw [if_neg (by omega)]
            omega)
        clear hr1 hE1 hm1 hp1 hb1 hms ho hc hc1 HI HI0 hE2 ok1 ok2
        go_wp2_with fail
        refine (unhide TO).mono ?_
        rintro e w2 ⟨rfl, b1, b2⟩
        rw [ins_at] at b1
        have RD2 := hide (unhide HRD w2 b1)
        have HB2 := hide b2
        clear b1 b2 TO HRD
        go_wp2_with fail
        refine (unhide RD2).mono ?_
        intro e w3 hR3
        obtain ⟨b3, rfl, hI3, hms3⟩ := unhide HST e w2 w3 (unhide HB2) hR3
        have HI3 := hide hI3
        have HM3 := hide hms3
        clear hR3 hI3 hms3 RD2 HST HB2
        go_wp2
        go_roundw
        case rel => exact ⟨b3, rfl, HI3⟩
        case measure => rw [unhide HMS]; exact unhide HM3
end Go.Proofs.YtjijhefmbmdbeaaGreatDoor
namespace Go.Proofs.YtjijhefmbmdbeaaGreatDoor
open Go.RowKit Go.Shelf
attribute [local irreducible] opsV

set_option maxHeartbeats 4000000 in
set_option maxRecDepth 100000 in
theorem read_step {gr : Nat} {lv tk : Value} {l : List Tk} {k d : Nat} {ps : List Pt} {W : World} (h : Rd gr lv tk l k d ps W) (m : Nat) (hm : m < 7) {P : PR}
    (hen : ∀ args w, (callFunc (lvF m) args).run Tryz.prog w = .ok (.enter (lvF m) args) w)
    (HC : Calls Tryz.prog (lvF m) #[.pointer (some ⟨gr, 0, none⟩), .int .i64 (m : Int)] W (RdR gr lv tk l d ps W P)) :
    Calls Tryz.prog 158 #[.pointer (some ⟨gr, 0, none⟩), .int .i64 (m : Int)] W (RdR gr lv tk l d ps W P) := by
  obtain ⟨pv, hb, _⟩ := h.box
  have c0 := hb.cell (rdC_0 lv tk k d pv)
  obtain ⟨gl, hlv, _, hc⟩ := h.env.lvs
  have c1 := (hc m hm).1
  rw [hlv] at c0
  have HCC := hide HC
  have HEN := hide hen
  clear h hb hc hlv HC hen
  generalize lvF m = FN at *
  go_enter Tryz.func158, Tryz.ntmps158
  go_wp2_with fail
  rw [unhide HEN, Oper.upon_enter]
  refine (unhide HCC).mono ?_
  intro e w1 hR
  obtain rfl := hR.ret
  have HF := hide hR
  clear hR HCC HEN c0 c1
  generalize P.ok = b at *
  dsimp only
  go_wp2
  refine bodyPost_ret (results_tmp rfl _ _ _) rfl ?_
  exact unhide HF
theorem rd_any : ∀ f, RdOK f := by
  intro f
  induction f using Nat.strongRecOn with
  | ind f ih =>
    intro gr lv tk l k d ps W m h hm hE hd hps hf
    cases hts : l.drop k with
    | nil => exact absurd hts hE.ne
    | cons t r =>
      rw [hts] at hE hps hf
      cases f with
      | zero =>
        exfalso
        rw [mRd_le hm, List.length_cons] at hf
        omega
      | succ f =>
        have IH : ∀ f', f' ≤ f → RdOK f' := fun f' hf' => ih f' (by omega)
        rcases (show m = 0 ∨ m = 1 ∨ m = 2 ∨ m = 3 ∨ m = 4 ∨ m = 5 ∨ m = 6 by omega) with rfl | rfl | rfl | rfl | rfl | rfl | rfl
        · exact read_step h 0 (by omega) (enters_of Tryz.func175 (by kernel_rfl) rfl) (chain_any IH h hts 0 (by omega) hE hd hps hf)
        · exact read_step h 1 (by omega) (enters_of Tryz.func175 (by kernel_rfl) rfl) (chain_any IH h hts 1 (by omega) hE hd hps hf)
        · exact read_step h 2 (by omega) (enters_of Tryz.func176 (by kernel_rfl) rfl) (denial_any (IH f (Nat.le_refl _)) h hts hE hd hps hf)
        · exact read_step h 3 (by omega) (enters_of Tryz.func177 (by kernel_rfl) rfl) (pair_any (IH f (Nat.le_refl _)) h hts hE hd hps hf)
        · exact read_step h 4 (by omega) (enters_of Tryz.func175 (by kernel_rfl) rfl) (chain_any IH h hts 4 (by omega) hE hd hps hf)
        · exact read_step h 5 (by omega) (enters_of Tryz.func175 (by kernel_rfl) rfl) (chain_any IH h hts 5 (by omega) hE hd hps hf)
        · exact read_step h 6 (by omega) (enters_of Tryz.func178 (by kernel_rfl) rfl) (leaf_any (IH f (Nat.le_refl _)) h hts hE hd hps hf)
end Go.Proofs.YtjijhefmbmdbeaaGreatDoor
namespace Go.Proofs.YtjijhefmbmdbeaaGreatDoor
open Go.RowKit Go.Shelf

theorem ops_of {B b : Nat} {W : World} {os : List Int} (h : CBox b (os.map (Value.int .i64)).toArray 3 W) (hlt : b < B) : OpsLow B W (.slice (some ⟨b, 0, none⟩) os.length os.length) os := Or.inr ⟨b, rfl, hlt, fun i hi => h.cell (by simp [hi])⟩
theorem gram_lvs (w : World) : LvsLow (((((((w.alloc (.cells #[.int .i64 12] 3)).alloc (.cells #[.int .i64 11] 3)).alloc (.cells #[.int .i64 13] 3)).alloc (.cells #[.int .i64 7, .int .i64 8, .int .i64 9, .int .i64 10] 3)).alloc (.cells #[.int .i64 4, .int .i64 5] 3)).alloc (.cells #[.int .i64 6] 3)).alloc (.cells #[.func (.func 175) #[] #[], .slice (some ⟨w.heap.size, 0, none⟩) 1 1, .func (.func 175) #[] #[], .slice (some ⟨w.heap.size + 1, 0, none⟩) 1 1, .func (.func 176) #[] #[], .slice (some ⟨w.heap.size + 1 + 1, 0, none⟩) 1 1, .func (.func 177) #[] #[], .slice (some ⟨w.heap.size + 1 + 1 + 1, 0, none⟩) 4 4, .func (.func 175) #[] #[], .slice (some ⟨w.heap.size + 1 + 1 + 1 + 1, 0, none⟩) 2 2, .func (.func 175) #[] #[], .slice (some ⟨w.heap.size + 1 + 1 + 1 + 1 + 1, 0, none⟩) 1 1, .func (.func 178) #[] #[], .slice none 0 0] 221)).heap.size (((((((w.alloc (.cells #[.int .i64 12] 3)).alloc (.cells #[.int .i64 11] 3)).alloc (.cells #[.int .i64 13] 3)).alloc (.cells #[.int .i64 7, .int .i64 8, .int .i64 9, .int .i64 10] 3)).alloc (.cells #[.int .i64 4, .int .i64 5] 3)).alloc (.cells #[.int .i64 6] 3)).alloc (.cells #[.func (.func 175) #[] #[], .slice (some ⟨w.heap.size, 0, none⟩) 1 1, .func (.func 175) #[] #[], .slice (some ⟨w.heap.size + 1, 0, none⟩) 1 1, .func (.func 176) #[] #[], .slice (some ⟨w.heap.size + 1 + 1, 0, none⟩) 1 1, .func (.func 177) #[] #[], .slice (some ⟨w.heap.size + 1 + 1 + 1, 0, none⟩) 4 4, .func (.func 175) #[] #[], .slice (some ⟨w.heap.size + 1 + 1 + 1 + 1, 0, none⟩) 2 2, .func (.func 175) #[] #[], .slice (some ⟨w.heap.size + 1 + 1 + 1 + 1 + 1, 0, none⟩) 1 1, .func (.func 178) #[] #[], .slice none 0 0] 221)) (.slice (some ⟨w.heap.size + 1 + 1 + 1 + 1 + 1 + 1, 0, none⟩) 7 7) ∧ Kp [] w (((((((w.alloc (.cells #[.int .i64 12] 3)).alloc (.cells #[.int .i64 11] 3)).alloc (.cells #[.int .i64 13] 3)).alloc (.cells #[.int .i64 7, .int .i64 8, .int .i64 9, .int .i64 10] 3)).alloc (.cells #[.int .i64 4, .int .i64 5] 3)).alloc (.cells #[.int .i64 6] 3)).alloc (.cells #[.func (.func 175) #[] #[], .slice (some ⟨w.heap.size, 0, none⟩) 1 1, .func (.func 175) #[] #[], .slice (some ⟨w.heap.size + 1, 0, none⟩) 1 1, .func (.func 176) #[] #[], .slice (some ⟨w.heap.size + 1 + 1, 0, none⟩) 1 1, .func (.func 177) #[] #[], .slice (some ⟨w.heap.size + 1 + 1 + 1, 0, none⟩) 4 4, .func (.func 175) #[] #[], .slice (some ⟨w.heap.size + 1 + 1 + 1 + 1, 0, none⟩) 2 2, .func (.func 175) #[] #[], .slice (some ⟨w.heap.size + 1 + 1 + 1 + 1 + 1, 0, none⟩) 1 1, .func (.func 178) #[] #[], .slice none 0 0] 221)) := by
  obtain ⟨w1, e1⟩ : ∃ w1, w1 = w.alloc (.cells #[.int .i64 12] 3) := ⟨_, rfl⟩
  rw [← e1]
  obtain ⟨w2, e2⟩ : ∃ w2, w2 = w1.alloc (.cells #[.int .i64 11] 3) := ⟨_, rfl⟩
  rw [← e2]
  obtain ⟨w3, e3⟩ : ∃ w3, w3 = w2.alloc (.cells #[.int .i64 13] 3) := ⟨_, rfl⟩
  rw [← e3]
  obtain ⟨w4, e4⟩ : ∃ w4, w4 = w3.alloc (.cells #[.int .i64 7, .int .i64 8, .int .i64 9, .int .i64 10] 3) := ⟨_, rfl⟩
  rw [← e4]
  obtain ⟨w5, e5⟩ : ∃ w5, w5 = w4.alloc (.cells #[.int .i64 4, .int .i64 5] 3) := ⟨_, rfl⟩
  rw [← e5]
  obtain ⟨w6, e6⟩ : ∃ w6, w6 = w5.alloc (.cells #[.int .i64 6] 3) := ⟨_, rfl⟩
  rw [← e6]
  obtain ⟨w7, e7⟩ : ∃ w7, w7 = w6.alloc (.cells #[.func (.func 175) #[] #[], .slice (some ⟨w.heap.size, 0, none⟩) 1 1, .func (.func 175) #[] #[], .slice (some ⟨w.heap.size + 1, 0, none⟩) 1 1, .func (.func 176) #[] #[], .slice (some ⟨w.heap.size + 1 + 1, 0, none⟩) 1 1, .func (.func 177) #[] #[], .slice (some ⟨w.heap.size + 1 + 1 + 1, 0, none⟩) 4 4, .func (.func 175) #[] #[], .slice (some ⟨w.heap.size + 1 + 1 + 1 + 1, 0, none⟩) 2 2, .func (.func 175) #[] #[], .slice (some ⟨w.heap.size + 1 + 1 + 1 + 1 + 1, 0, none⟩) 1 1, .func (.func 178) #[] #[], .slice none 0 0] 221) := ⟨_, rfl⟩
  rw [← e7]
  have k1 : Kp [] w w1 := by rw [e1]; exact Kp.alloc _ _
  have s1 : w1.heap.size = w.heap.size + 1 := by rw [e1]; simp
  have b0 : CBox (w.heap.size) #[.int .i64 12] 3 w1 := by have := CBox.new w #[.int .i64 12] 3; rw [← e1] at this; exact this
  have k2 : Kp [] w1 w2 := by rw [e2]; exact Kp.alloc _ _
  have s2 : w2.heap.size = w.heap.size + 1 + 1 := by rw [e2]; simp [s1]
  have b1 : CBox (w.heap.size + 1) #[.int .i64 11] 3 w2 := by have := CBox.new w1 #[.int .i64 11] 3; rw [← e2, s1] at this; exact this
  have k3 : Kp [] w2 w3 := by rw [e3]; exact Kp.alloc _ _
  have s3 : w3.heap.size = w.heap.size + 1 + 1 + 1 := by rw [e3]; simp [s2]
  have b2 : CBox (w.heap.size + 1 + 1) #[.int .i64 13] 3 w3 := by have := CBox.new w2 #[.int .i64 13] 3; rw [← e3, s2] at this; exact this
  have k4 : Kp [] w3 w4 := by rw [e4]; exact Kp.alloc _ _
  have s4 : w4.heap.size = w.heap.size + 1 + 1 + 1 + 1 := by rw [e4]; simp [s3]
  have b3 : CBox (w.heap.size + 1 + 1 + 1) #[.int .i64 7, .int .i64 8, .int .i64 9, .int .i64 10] 3 w4 := by have := CBox.new w3 #[.int .i64 7, .int .i64 8, .int .i64 9, .int .i64 10] 3; rw [← e4, s3] at this; exact this
  have k5 : Kp [] w4 w5 := by rw [e5]; exact Kp.alloc _ _
  have s5 : w5.heap.size = w.heap.size + 1 + 1 + 1 + 1 + 1 := by rw [e5]; simp [s4]
  have b4 : CBox (w.heap.size + 1 + 1 + 1 + 1) #[.int .i64 4, .int .i64 5] 3 w5 := by have := CBox.new w4 #[.int .i64 4, .int .i64 5] 3; rw [← e5, s4] at this; exact this
  have k6 : Kp [] w5 w6 := by rw [e6]; exact Kp.alloc _ _
  have s6 : w6.heap.size = w.heap.size + 1 + 1 + 1 + 1 + 1 + 1 := by rw [e6]; simp [s5]
  have b5 : CBox (w.heap.size + 1 + 1 + 1 + 1 + 1) #[.int .i64 6] 3 w6 := by have := CBox.new w5 #[.int .i64 6] 3; rw [← e6, s5] at this; exact this
  have k7 : Kp [] w6 w7 := by rw [e7]; exact Kp.alloc _ _
  have s7 : w7.heap.size = w.heap.size + 1 + 1 + 1 + 1 + 1 + 1 + 1 := by rw [e7]; simp [s6]
  have b6 : CBox (w.heap.size + 1 + 1 + 1 + 1 + 1 + 1) #[.func (.func 175) #[] #[], .slice (some ⟨w.heap.size, 0, none⟩) 1 1, .func (.func 175) #[] #[], .slice (some ⟨w.heap.size + 1, 0, none⟩) 1 1, .func (.func 176) #[] #[], .slice (some ⟨w.heap.size + 1 + 1, 0, none⟩) 1 1, .func (.func 177) #[] #[], .slice (some ⟨w.heap.size + 1 + 1 + 1, 0, none⟩) 4 4, .func (.func 175) #[] #[], .slice (some ⟨w.heap.size + 1 + 1 + 1 + 1, 0, none⟩) 2 2, .func (.func 175) #[] #[], .slice (some ⟨w.heap.size + 1 + 1 + 1 + 1 + 1, 0, none⟩) 1 1, .func (.func 178) #[] #[], .slice none 0 0] 221 w7 := by have := CBox.new w6 #[.func (.func 175) #[] #[], .slice (some ⟨w.heap.size, 0, none⟩) 1 1, .func (.func 175) #[] #[], .slice (some ⟨w.heap.size + 1, 0, none⟩) 1 1, .func (.func 176) #[] #[], .slice (some ⟨w.heap.size + 1 + 1, 0, none⟩) 1 1, .func (.func 177) #[] #[], .slice (some ⟨w.heap.size + 1 + 1 + 1, 0, none⟩) 4 4, .func (.func 175) #[] #[], .slice (some ⟨w.heap.size + 1 + 1 + 1 + 1, 0, none⟩) 2 2, .func (.func 175) #[] #[], .slice (some ⟨w.heap.size + 1 + 1 + 1 + 1 + 1, 0, none⟩) 1 1, .func (.func 178) #[] #[], .slice none 0 0] 221; rw [← e7, s6] at this; exact this
  have c0 := ((((((b0.kp k2 (by simp)).kp k3 (by simp)).kp k4 (by simp)).kp k5 (by simp)).kp k6 (by simp)).kp k7 (by simp))
  have c1 := (((((b1.kp k3 (by simp)).kp k4 (by simp)).kp k5 (by simp)).kp k6 (by simp)).kp k7 (by simp))
  have c2 := ((((b2.kp k4 (by simp)).kp k5 (by simp)).kp k6 (by simp)).kp k7 (by simp))
  have c3 := (((b3.kp k5 (by simp)).kp k6 (by simp)).kp k7 (by simp))
  have c4 := ((b4.kp k6 (by simp)).kp k7 (by simp))
  have c5 := (b5.kp k7 (by simp))
  refine ⟨⟨w.heap.size + 1 + 1 + 1 + 1 + 1 + 1, rfl, by rw [s7]; omega, fun n hn => ?_⟩, ?_⟩
  · rcases (show n = 0 ∨ n = 1 ∨ n = 2 ∨ n = 3 ∨ n = 4 ∨ n = 5 ∨ n = 6 by omega) with rfl | rfl | rfl | rfl | rfl | rfl | rfl
    · exact ⟨b6.cell rfl, _, b6.cell rfl, ops_of (os := [12]) c0 (by rw [s7]; omega)⟩
    · exact ⟨b6.cell rfl, _, b6.cell rfl, ops_of (os := [11]) c1 (by rw [s7]; omega)⟩
    · exact ⟨b6.cell rfl, _, b6.cell rfl, ops_of (os := [13]) c2 (by rw [s7]; omega)⟩
    · exact ⟨b6.cell rfl, _, b6.cell rfl, ops_of (os := [7, 8, 9, 10]) c3 (by rw [s7]; omega)⟩
    · exact ⟨b6.cell rfl, _, b6.cell rfl, ops_of (os := [4, 5]) c4 (by rw [s7]; omega)⟩
    · exact ⟨b6.cell rfl, _, b6.cell rfl, ops_of (os := [6]) c5 (by rw [s7]; omega)⟩
    · exact ⟨b6.cell rfl, _, b6.cell rfl, Or.inl ⟨rfl, rfl⟩⟩
  · exact ((((((k1.trans k2 (by simp)).trans k3 (by simp)).trans k4 (by simp)).trans k5 (by simp)).trans k6 (by simp)).trans k7 (by simp))
set_option maxHeartbeats 2000000 in
set_option maxRecDepth 100000 in
theorem grammar_any (w : World) : Calls Tryz.prog 157 #[] w fun e w' => ∃ lv, e = .returned lv ∧ LvsLow w'.heap.size w' lv ∧ Kp [] w w' := by
  go_enter Tryz.func157, Tryz.ntmps157
  go_wp2
  refine bodyPost_ret (results_tmp rfl _ _ _) rfl ⟨_, rfl, ?_⟩
  exact gram_lvs w
end Go.Proofs.YtjijhefmbmdbeaaGreatDoor
namespace Go.Proofs.YtjijhefmbmdbeaaGreatDoor
open Go.RowKit

def Tk.ok (a : Tk) : Prop := (-9223372036854775808 ≤ a.kd ∧ a.kd ≤ 9223372036854775807) ∧ a.s.size ≤ 9223372036854775807 ∧ (-9223372036854775808 ≤ a.n ∧ a.n ≤ 9223372036854775807) ∧ (-9223372036854775808 ≤ a.pl ∧ a.pl ≤ 9223372036854775807)
def TksAt (w : World) (ad : Option Addr) (l : List Tk) : Prop :=
  l ≠ [] → ∃ b off, ad = some ⟨b, off, none⟩ ∧ b < w.heap.size ∧ ∀ i (h : i < l.length), w.cell? ⟨b, off + i * 4, none⟩ = some (.int .i64 l[i].kd) ∧ w.cell? ⟨b, off + i * 4 + 1, none⟩ = some (.string l[i].s) ∧ w.cell? ⟨b, off + i * 4 + 2, none⟩ = some (.int .i64 l[i].n) ∧ w.cell? ⟨b, off + i * 4 + 3, none⟩ = some (.int .i64 l[i].pl)
theorem TksAt.kp {w w' : World} {ad : Option Addr} {l : List Tk} (h : TksAt w ad l) (hk : Kp [] w w') : TksAt w' ad l := fun hl => by
  obtain ⟨b, off, e, hlt, hc⟩ := h hl
  refine ⟨b, off, e, Nat.lt_of_lt_of_le hlt hk.size, fun i hi => ?_⟩
  obtain ⟨c0, c1, c2, c3⟩ := hc i hi
  exact ⟨hk.cell c0 (by simp), hk.cell c1 (by simp), hk.cell c2 (by simp), hk.cell c3 (by simp)⟩
theorem TksAt.at {w : World} {ad : Option Addr} {l : List Tk} (h : TksAt w ad l) (i : Nat) (hi : i < l.length) : ∃ b off, ad = some ⟨b, off, none⟩ ∧ b < w.heap.size ∧ w.cell? ⟨b, off + i * 4, none⟩ = some (.int .i64 l[i].kd) ∧ w.cell? ⟨b, off + i * 4 + 1, none⟩ = some (.string l[i].s) ∧ w.cell? ⟨b, off + i * 4 + 2, none⟩ = some (.int .i64 l[i].n) ∧ w.cell? ⟨b, off + i * 4 + 3, none⟩ = some (.int .i64 l[i].pl) := by
  obtain ⟨b, off, e, hlt, hc⟩ := h (by intro e; subst e; simp at hi)
  exact ⟨b, off, e, hlt, hc i hi⟩
theorem tkC_get (l : List Tk) (i : Nat) (h : i < l.length) : (tkC l)[i * 4]? = some (.int .i64 l[i].kd) ∧ (tkC l)[i * 4 + 1]? = some (.string l[i].s) ∧ (tkC l)[i * 4 + 2]? = some (.int .i64 l[i].n) ∧ (tkC l)[i * 4 + 3]? = some (.int .i64 l[i].pl) := by
  induction l generalizing i with
  | nil => simp at h
  | cons x r ih =>
    have e : tkC (x :: r) = [.int .i64 x.kd, .string x.s, .int .i64 x.n, .int .i64 x.pl] ++ tkC r := by unfold tkC; rw [List.flatMap_cons]
    cases i with
    | zero => rw [e]; simp
    | succ i =>
      have hi : i < r.length := by simpa using h
      obtain ⟨a, b, c, d⟩ := ih i hi
      rw [e]
      simp only [List.getElem_cons_succ]
      refine ⟨?_, ?_, ?_, ?_⟩
      · rw [List.getElem?_append_right (by simp; omega)]; rw [← a]; congr 1; simp; omega
      · rw [List.getElem?_append_right (by simp; omega)]; rw [← b]; congr 1; simp; omega
      · rw [List.getElem?_append_right (by simp; omega)]; rw [← c]; congr 1; simp; omega
      · rw [List.getElem?_append_right (by simp; omega)]; rw [← d]; congr 1; simp; omega
theorem OwnsK.at {B : Nat} {w : World} {v : Value} {l : List Tk} (h : OwnsK B w v l) : ∃ ad cp, v = .slice ad l.length cp ∧ TksAt w ad l ∧ l.length ≤ cp := by
  obtain ⟨_, ⟨rfl, h0⟩ | ⟨g, cp, cur, rfl, _, _, hcap, _⟩⟩ := id h
  · refine ⟨none, 0, by rw [h0], fun hne => ?_, by omega⟩
    exact absurd (List.eq_nil_of_length_eq_zero h0) hne
  · have hl := World.ownsRow.lt h g rfl
    refine ⟨_, _, rfl, fun _ => ⟨g, 0, rfl, hl.2, fun i hi => ?_⟩, hcap⟩
    obtain ⟨a, b, c, d⟩ := tkC_get l i hi
    simp only [Nat.zero_add]
    refine ⟨?_, ?_, ?_, ?_⟩
    · rw [World.ownsRow.cellAt h (i * 4) (by omega)]; exact a
    · rw [World.ownsRow.cellAt h (i * 4 + 1) (by omega)]; exact b
    · rw [World.ownsRow.cellAt h (i * 4 + 2) (by omega)]; exact c
    · rw [World.ownsRow.cellAt h (i * 4 + 3) (by omega)]; exact d
theorem toks_fit (l : List UInt8) (k c : Nat) (ts : List Tk) (h : toks l k c = .good ts) (hk : k + l.length ≤ 9223372036854775807) : ∀ t ∈ ts, t.ok := by
  revert ts
  refine toks_ind (P := fun l k c => ∀ ts, toks l k c = .good ts → k + l.length ≤ 9223372036854775807 → ∀ t ∈ ts, t.ok) ?_ ?_ ?_ ?_ ?_ l k c |> fun g ts h => g ts h hk
  · intro k c ts h hk
    rw [toks_nil] at h
    cases h
    simp
  · intro b r k c hb ih ts h hk
    rw [toks_blk hb] at h
    exact ih ts h (by simp at hk; omega)
  · intro l k c h0 hb hn ts h
    rw [toks_none hn h0 hb] at h
    cases h
  · intro l k t n hn ts h
    rw [toks_many hn] at h
    cases h
  · intro l k c t n hn hc4 ih ts h hk
    rw [toks_some hn hc4] at h
    obtain ⟨r, hr, rfl⟩ := pre_good h
    obtain ⟨g1, g2, g3, g4, g5, g6, g7, g8, g9, _⟩ := tkR_some hn
    intro u hu
    simp at hu
    rcases hu with rfl | hu
    · unfold Tk.ok Tk.out
      dsimp only
      omega
    · exact ih r hr (by rw [List.length_drop]; omega) u hu
theorem tsL_ok (s : ByteArray) : ∀ t ∈ tsL s.size (tsR s), t.ok := by
  unfold tsR
  split
  · simp [tsL]
  · rename_i h
    cases hR : toks s.data.toList 0 0 with
    | bad k c => simp [tsL]
    | good ts =>
      intro t ht
      unfold tsL at ht
      rcases List.mem_append.1 ht with h1 | h1
      · exact toks_fit _ 0 0 ts hR (by rw [size_list]; omega) t h1
      · simp at h1
        subst h1
        unfold Tk.ok
        dsimp only
        have : (⟨#[]⟩ : ByteArray).size = 0 := rfl
        omega
theorem tsR_code (s : ByteArray) : (∃ ts, tsR s = .good ts ∧ toks s.data.toList 0 0 = .good ts ∧ s.size ≤ 262144) ∨ (tsL s.size (tsR s) = [] ∧ ¬ tsC (tsR s) = 0) := by
  unfold tsR
  split
  · exact Or.inr ⟨rfl, by simp [tsC]⟩
  · cases hR : toks s.data.toList 0 0 with
    | good ts => exact Or.inl ⟨ts, rfl, rfl, by omega⟩
    | bad k c =>
      refine Or.inr ⟨rfl, ?_⟩
      have key : ∀ l k c p q, toks l k c = .bad p q → q ≠ 0 := by
        intro l k c
        refine toks_ind (P := fun l k c => ∀ p q, toks l k c = .bad p q → q ≠ 0) ?_ ?_ ?_ ?_ ?_ l k c
        · intro k c p q h; cases h
        · intro b r k c hb ih p q h; rw [toks_blk hb] at h; exact ih p q h
        · intro l k c h0 hb hn p q h; rw [toks_none hn h0 hb] at h; cases h; omega
        · intro l k t n hn p q h; rw [toks_many hn] at h; cases h; omega
        · intro l k c t n hn hc ih p q h; rw [toks_some hn hc] at h; exact ih p q (pre_bad h)
      exact key _ _ _ _ _ hR
end Go.Proofs.YtjijhefmbmdbeaaGreatDoor
