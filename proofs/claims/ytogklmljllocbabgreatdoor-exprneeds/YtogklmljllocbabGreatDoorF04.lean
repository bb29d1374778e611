/-
  Expressions, plain: how they are written, as bytes and as tokens; what is written is read as the same expression. Of no program.
-/
import Derived.Test.YtogklmljllocbabGreatDoorF03
namespace Go.Proofs.YtogklmljllocbabGreatDoor

def fldN (f : Int) : List UInt8 := fldW.getD f.toNat []
/-- A leaf as it is written. -/
def lfB (p : Pt) : List UInt8 :=
  if p.kd = 1 then Lib.itoa p.n else if p.kd = 2 then 39 :: (p.s.data.toList ++ [39])
  else if emptyB p.st then fldN p.fl else p.st.data.toList ++ ([32, 46, 32] ++ fldN p.fl)
/-- A side, in brackets where it is an operation. -/
def sdB (a : List UInt8 × Bool) : List UInt8 := if a.2 then [40, 32] ++ (a.1 ++ [32, 41]) else a.1
def wrv (p : Pt) : List (List UInt8 × Bool) → List UInt8 × Bool
  | [] => (lfB p, false)
  | [a] => (sgO p.kd ++ ([32] ++ sdB a), true)
  | a :: b :: _ => (sdB a ++ ([32] ++ (sgO p.kd ++ ([32] ++ sdB b))), true)
/-- The text of a tree. -/
def Ex.wr (t : Ex) : List UInt8 := (t.val wrv).1
def Ex.op : Ex → Bool
  | .lf _ => false
  | _ => true
theorem Ex.wr_op (t : Ex) : t.val wrv = (t.wr, t.op) := by cases t <;> rfl
/-! As tokens. -/
def opT (k : Int) : Tk := ⟨if 11 ≤ k then 1 else 4, txt (sgO k), 0, 0⟩
def lbr : Tk := ⟨4, txt [40], 0, 0⟩
def rbr : Tk := ⟨4, txt [41], 0, 0⟩
def dot : Tk := ⟨4, txt [46], 0, 0⟩
def fdT (f : Int) : Tk := ⟨1, txt (fldN f), 0, 0⟩
def lfT (p : Pt) : List Tk :=
  if p.kd = 1 then [⟨2, txt [], p.n, 0⟩] else if p.kd = 2 then [⟨3, p.s, 0, 0⟩]
  else if emptyB p.st then [fdT p.fl] else [⟨1, p.st, 0, 0⟩, dot, fdT p.fl]
def brk (o : Bool) (l : List Tk) : List Tk := if o then lbr :: (l ++ [rbr]) else l
def Ex.bod : Ex → List Tk
  | .lf p => lfT p
  | .un p a => opT p.kd :: brk a.op a.bod
  | .bi p a b => brk a.op a.bod ++ opT p.kd :: brk b.op b.bod
def Ex.sid (t : Ex) : List Tk := brk t.op t.bod
theorem joinB_app (a b : List Tk) (ha : a ≠ []) (hb : b ≠ []) : joinB (a ++ b) = joinB a ++ ([32] ++ joinB b) := by
  cases a with
  | nil => exact absurd rfl ha
  | cons x r =>
    cases b with
    | nil => exact absurd rfl hb
    | cons y s => simp [joinB, tailB]
theorem joinB_one (t : Tk) : joinB [t] = spell t := by simp [joinB, tailB]
theorem lfT_ne (p : Pt) : lfT p ≠ [] := by unfold lfT; split; simp; split; simp; split <;> simp
theorem brk_ne {o : Bool} {l : List Tk} (h : l ≠ []) : brk o l ≠ [] := by unfold brk; split; simp; exact h
theorem Ex.bod_ne (t : Ex) : t.bod ≠ [] := by cases t <;> simp [Ex.bod, lfT_ne]
theorem spell_opT (k : Int) : spell (opT k) = sgO k := by
  unfold opT
  split
  · rw [spell_s (by omega) (by omega), txt_list]
  · rw [spell_s (by omega) (by omega), txt_list]
theorem spell_fdT (f : Int) : spell (fdT f) = fldN f := by unfold fdT; rw [spell_s (by omega) (by omega), txt_list]
theorem lfB_tok (p : Pt) : lfB p = joinB (lfT p) := by
  unfold lfB lfT
  split
  · rw [joinB_one, spell_n]
  · split
    · rw [joinB_one, spell_t]
    · split
      · rw [joinB_one, spell_fdT]
      · rw [show [(⟨1, p.st, 0, 0⟩ : Tk), dot, fdT p.fl] = [⟨1, p.st, 0, 0⟩] ++ ([dot] ++ [fdT p.fl]) from rfl, joinB_app _ _ (by simp) (by simp), joinB_app _ _ (by simp) (by simp), joinB_one, joinB_one, joinB_one, spell_fdT, spell_s (by omega) (by omega)]
        rfl
theorem sdB_tok {o : Bool} {b : List UInt8} {l : List Tk} (h : b = joinB l) (hl : l ≠ []) : sdB (b, o) = joinB (brk o l) := by
  unfold sdB brk
  cases o with
  | false => exact h
  | true =>
    dsimp only
    rw [if_pos rfl, if_pos rfl, show lbr :: (l ++ [rbr]) = [lbr] ++ (l ++ [rbr]) from rfl, joinB_app _ _ (by simp) (by simp), joinB_app _ _ hl (by simp), joinB_one, joinB_one, h]
    rfl
/-- The text of a tree is that of its tokens. -/
theorem Ex.wr_tok (t : Ex) : t.wr = joinB t.bod := by
  induction t with
  | lf p => exact lfB_tok p
  | un p a ih =>
    show (wrv p [a.val wrv]).1 = _
    rw [a.wr_op, Ex.bod, show opT p.kd :: brk a.op a.bod = [opT p.kd] ++ brk a.op a.bod from rfl, joinB_app _ _ (by simp) (brk_ne a.bod_ne), joinB_one, spell_opT, ← sdB_tok ih a.bod_ne]
    rfl
  | bi p a b iha ihb =>
    show (wrv p [a.val wrv, b.val wrv]).1 = _
    rw [a.wr_op, b.wr_op, Ex.bod, show opT p.kd :: brk b.op b.bod = [opT p.kd] ++ brk b.op b.bod from rfl, joinB_app _ _ (brk_ne a.bod_ne) (by simp), joinB_app _ _ (by simp) (brk_ne b.bod_ne), joinB_one, spell_opT, ← sdB_tok ihb b.bod_ne, ← sdB_tok iha a.bod_ne]
    rfl
/-! Which leaves and operations may be. -/
theorem empty_txt {s : ByteArray} (h : emptyB s = true) : s = txt [] := by
  unfold emptyB at h
  have : s.size = 0 := by simpa using h
  rw [← txt_self s]
  congr 1
  exact List.eq_nil_of_length_eq_zero this
theorem fldK_ne {f : Int} (h : fldK f ≠ 0) : 0 ≤ f ∧ f ≤ 5 := by unfold fldK at h; split at h; omega; split at h; omega; exact absurd rfl h
/-- A leaf that may be. -/
theorem lfK_ne {p : Pt} (h : lfK p ≠ 0) : (p.kd = 1 ∧ 0 ≤ p.n ∧ p = ⟨1, p.n, txt [], txt [], 0⟩) ∨ (p.kd = 2 ∧ isTx p.s = true ∧ p = ⟨2, 0, p.s, txt [], 0⟩) ∨ (p.kd = 3 ∧ 0 ≤ p.fl ∧ p.fl ≤ 5 ∧ (p.st = txt [] ∨ isSg p.st = true) ∧ p = ⟨3, 0, txt [], p.st, p.fl⟩) := by
  obtain ⟨kd, n, s, st, fl⟩ := p
  unfold lfK at h
  dsimp only at h ⊢
  split at h
  · rename_i h1
    obtain ⟨rfl, e1, e2, rfl, h5⟩ := h1
    rw [empty_txt e1, empty_txt e2]
    exact Or.inl ⟨rfl, h5, rfl⟩
  · split at h
    · rename_i h1
      obtain ⟨rfl, rfl, e2, rfl, h5⟩ := h1
      rw [empty_txt e2]
      exact Or.inr (Or.inl ⟨rfl, h5, rfl⟩)
    · split at h
      · rename_i h1
        obtain ⟨rfl, rfl, e2, h5⟩ := h1
        rw [empty_txt e2]
        obtain ⟨f1, f2⟩ := fldK_ne h
        exact Or.inr (Or.inr ⟨rfl, f1, f2, h5.imp empty_txt id, rfl⟩)
      · exact absurd rfl h
theorem bare_op {p : Pt} (h : bareP p = true) : p = opP p.kd := by
  obtain ⟨kd, n, s, st, fl⟩ := p
  unfold bareP at h
  simp only [Bool.and_eq_true, decide_eq_true_eq] at h
  obtain ⟨rfl, e1, e2, rfl⟩ := h
  rw [empty_txt e1, empty_txt e2]
  rfl
/-- A tree that may be: its leaves may, its operations are bare. -/
def Ex.fine : Ex → Prop
  | .lf p => lfK p ≠ 0
  | .un p a => p.kd = 13 ∧ p = opP 13 ∧ a.fine
  | .bi p a b => 4 ≤ p.kd ∧ p.kd ≤ 12 ∧ p = opP p.kd ∧ a.fine ∧ b.fine
theorem opK_zero (k b : Int) : opK k 0 b = 0 := by unfold opK; repeat' split <;> omega
theorem opK_zero2 (k a : Int) (h : k ≠ 13) : opK k a 0 = 0 := by unfold opK; repeat' split <;> omega
theorem sds_two {k : Int} (h : sds k = 2) : 4 ≤ k ∧ k ≤ 12 := by unfold sds at h; split at h; assumption; split at h <;> omega
theorem sds_one {k : Int} (h : sds k = 1) : k = 13 := by unfold sds at h; split at h; omega; split at h; assumption; omega
theorem Ex.fine_of (t : Ex) (hw : t.wf) (h : t.kd ≠ 0) : t.fine := by
  induction t with
  | lf p => exact h
  | un p a ih =>
    have hk := sds_one hw.1
    have h1 : (if bareP p then opK p.kd a.kd 0 else 0) ≠ 0 := h
    split at h1
    · rename_i hb
      refine ⟨hk, by rw [← hk]; exact bare_op hb, ih hw.2 fun e => ?_⟩
      rw [e, opK_zero] at h1
      exact h1 rfl
    · exact absurd rfl h1
  | bi p a b iha ihb =>
    obtain ⟨k1, k2⟩ := sds_two hw.1
    have h1 : (if bareP p then opK p.kd a.kd b.kd else 0) ≠ 0 := h
    split at h1
    · rename_i hb
      refine ⟨k1, k2, bare_op hb, iha hw.2.1 fun e => ?_, ihb hw.2.2 fun e => ?_⟩
      · rw [e, opK_zero] at h1
        exact h1 rfl
      · rw [e, opK_zero2 _ _ (by omega)] at h1
        exact h1 rfl
    · exact absurd rfl h1
/-! What is written is read. -/
theorem opA_table : opA 0 [111, 114] = some 12 ∧ opA 1 [97, 110, 100] = some 11 := by decide
/-- A token at which an expression ends. -/
def Stp (c : Tk) : Prop := opA 0 (wdT c) = none ∧ opA 1 (wdT c) = none ∧ opA 3 (wdT c) = none ∧ opA 4 (wdT c) = none ∧ opA 5 (wdT c) = none
theorem lv_chain {m d f : Nat} {x : List Pt} {t c : Tk} {r q : List Tk} (hm : m = 0 ∨ m = 1 ∨ m = 4 ∨ m = 5) (h : ∀ f, mRd (m + 1) (t :: r) ≤ f → pRd f (m + 1) d [] (t :: r) = .good x (c :: q)) (hc : opA m (wdT c) = none) (hf : mRd m (t :: r) ≤ f) : pRd f m d [] (t :: r) = .good x (c :: q) := by
  have h1 : mRd (m + 1) (t :: r) + 1 = mRd m (t :: r) := by unfold mRd; rw [if_pos (by omega), if_pos (by omega)]; omega
  have h2 : 1 ≤ mRd (m + 1) (t :: r) := by unfold mRd; rw [if_pos (by omega)]; simp; omega
  obtain ⟨f, rfl⟩ : ∃ g, f = g + 1 := ⟨f - 1, by omega⟩
  rw [pRd, if_neg (by omega), if_neg (by omega), if_neg (by omega), if_pos (by omega), h f (by omega)]
  obtain ⟨f, rfl⟩ : ∃ g, f = g + 1 := ⟨f - 1, by omega⟩
  dsimp only
  rw [pRd, if_neg (by omega), if_neg (by omega), if_neg (by omega), if_neg (by omega), show m + 10 - 10 = m by omega, hc]
theorem lv_pair {d f : Nat} {x : List Pt} {t c : Tk} {r q : List Tk} (h : ∀ f, mRd 4 (t :: r) ≤ f → pRd f 4 d [] (t :: r) = .good x (c :: q)) (hc : opA 3 (wdT c) = none) (hf : mRd 3 (t :: r) ≤ f) : pRd f 3 d [] (t :: r) = .good x (c :: q) := by
  have h1 : mRd 4 (t :: r) + 1 = mRd 3 (t :: r) := by unfold mRd; rw [if_pos (by omega), if_pos (by omega)]; omega
  obtain ⟨f, rfl⟩ : ∃ g, f = g + 1 := ⟨f - 1, by omega⟩
  rw [pRd, if_neg (by omega), if_neg (by omega), if_pos rfl, h f (by omega)]
  dsimp only
  rw [hc]
theorem lv_not {d f : Nat} {x : List Pt} {t : Tk} {r q : List Tk} (h : ∀ f, mRd 3 (t :: r) ≤ f → pRd f 3 d [] (t :: r) = .good x q) (hc : opA 2 (wdT t) = none) (hf : mRd 2 (t :: r) ≤ f) : pRd f 2 d [] (t :: r) = .good x q := by
  have h1 : mRd 3 (t :: r) + 1 = mRd 2 (t :: r) := by unfold mRd; rw [if_pos (by omega), if_pos (by omega)]; omega
  obtain ⟨f, rfl⟩ : ∃ g, f = g + 1 := ⟨f - 1, by omega⟩
  rw [pRd, if_neg (by omega), if_pos rfl, hc]
  exact h f (by omega)
/-- Up from level b to level a: none of the operations between comes. -/
def Free (a b : Nat) (s : List UInt8) : Prop := ∀ m, a ≤ m → m < b → m ≠ 2 → opA m s = none
theorem lv_up {d : Nat} {x : List Pt} {t c : Tk} {r q : List Tk} (hn : opA 2 (wdT t) = none) (a b : Nat) (hab : a ≤ b) (hb : b ≤ 6) (hF : Free a b (wdT c))
    (h : ∀ f, mRd b (t :: r) ≤ f → pRd f b d [] (t :: r) = .good x (c :: q)) : ∀ f, mRd a (t :: r) ≤ f → pRd f a d [] (t :: r) = .good x (c :: q) := by
  obtain ⟨k, rfl⟩ : ∃ k, b = a + k := ⟨b - a, by omega⟩
  clear hab
  induction k generalizing a with
  | zero => exact h
  | succ k ih =>
    have h1 := ih (a + 1) (by omega) (fun m h1 h2 h3 => hF m (by omega) (by omega) h3) (by rw [show a + 1 + k = a + (k + 1) by omega]; exact h)
    intro f hf
    by_cases h2 : a = 2
    · subst h2
      exact lv_not h1 hn hf
    · have hc := hF a (by omega) (by omega) h2
      by_cases h3 : a = 3
      · subst h3
        exact lv_pair h1 hc hf
      · exact lv_chain (by omega) h1 hc hf
theorem fld_table : ∀ f : Fin 6, fldOf (fldN (f.val : Int)) = (f.val : Int) ∧ freeW (fldN (f.val : Int)) = false ∧ opA 2 (fldN (f.val : Int)) = none ∧ wrOk (fdT (f.val : Int)) = true := by decide +kernel
theorem fld_facts {f : Int} (h0 : 0 ≤ f) (h5 : f ≤ 5) : fldOf (fldN f) = f ∧ freeW (fldN f) = false ∧ opA 2 (fldN f) = none ∧ wrOk (fdT f) = true := by
  obtain ⟨n, rfl⟩ : ∃ n : Nat, f = (n : Int) := ⟨f.toNat, by omega⟩
  exact fld_table ⟨n, by omega⟩
theorem wdT_w (s : ByteArray) (n p : Int) : wdT ⟨1, s, n, p⟩ = s.data.toList := by unfold wdT; rw [if_pos (by dsimp only; omega)]
theorem wdT_s (s : ByteArray) (n p : Int) : wdT ⟨4, s, n, p⟩ = s.data.toList := by unfold wdT; rw [if_pos (by dsimp only; omega)]
theorem wdT_opT (k : Int) : wdT (opT k) = sgO k := by unfold opT; split; rw [wdT_w, txt_list]; rw [wdT_s, txt_list]
theorem freeW_not {s : List UInt8} (h : freeW s = true) : opA 2 s = none := by
  unfold freeW at h
  simp only [Bool.and_eq_true, Bool.not_eq_true', Bool.or_eq_false_iff, decide_eq_false_iff_not] at h
  unfold opA lvO
  simp [sgO, h.1.2]
theorem isSg_free {s : ByteArray} (h : isSg s = true) : freeW s.data.toList = true := by unfold isSg at h; simp only [Bool.and_eq_true] at h; exact h.2
/-- A leaf that may be is read as itself. -/
theorem leaf_back {p : Pt} (h : lfK p ≠ 0) : ∃ t r, lfT p = t :: r ∧ opA 2 (wdT t) = none ∧ ∀ (d f : Nat) (acc : List Pt) (q : List Tk), 0 < f → pRd f 6 d acc (t :: (r ++ q)) = .good [p] q := by
  rcases lfK_ne h with ⟨h1, _, h3⟩ | ⟨h1, _, h3⟩ | ⟨h1, h2, h3, h4, h5⟩
  · refine ⟨⟨2, txt [], p.n, 0⟩, [], by unfold lfT; rw [if_pos h1], by unfold wdT; rw [if_neg (by dsimp only; omega)]; decide, fun d f acc q hf => ?_⟩
    obtain ⟨f, rfl⟩ : ∃ g, f = g + 1 := ⟨f - 1, by omega⟩
    rw [pRd, if_pos rfl, if_pos rfl, List.nil_append]
    rw [← h3]
  · refine ⟨⟨3, p.s, 0, 0⟩, [], by unfold lfT; rw [if_neg (by omega), if_pos h1], by unfold wdT; rw [if_neg (by dsimp only; omega)]; decide, fun d f acc q hf => ?_⟩
    obtain ⟨f, rfl⟩ : ∃ g, f = g + 1 := ⟨f - 1, by omega⟩
    rw [pRd, if_pos rfl, if_neg (by dsimp only; omega), if_pos rfl, List.nil_append]
    rw [← h3]
  · obtain ⟨f1, f2, f3, _⟩ := fld_facts h2 h3
    have hfd : wdT (fdT p.fl) = fldN p.fl := by unfold fdT; rw [wdT_w, txt_list]
    rcases h4 with h4 | h4
    · refine ⟨fdT p.fl, [], by unfold lfT; rw [if_neg (by omega), if_neg (by omega), if_pos (by rw [h4]; rfl)], by rw [hfd]; exact f3, fun d f acc q hf => ?_⟩
      obtain ⟨f, rfl⟩ : ∃ g, f = g + 1 := ⟨f - 1, by omega⟩
      rw [pRd, if_pos rfl, if_neg (by show ¬ (1 : Int) = 2; omega), if_neg (by show ¬ (1 : Int) = 3; omega), if_pos (show (fdT p.fl).kd = 1 from rfl), List.nil_append]
      unfold fdR
      rw [hfd, f2, if_neg (by simp), fdE, hfd, f1, if_pos h2]
      rw [h4] at h5
      rw [← h5]
    · have hne : emptyB p.st = false := by
        unfold isSg at h4
        simp only [Bool.and_eq_true, decide_eq_true_eq] at h4
        unfold emptyB
        rw [beq_eq_false_iff_ne]
        omega
      refine ⟨⟨1, p.st, 0, 0⟩, [dot, fdT p.fl], by unfold lfT; rw [if_neg (by omega), if_neg (by omega), if_neg (by rw [hne]; simp)], by rw [wdT_w]; exact freeW_not (isSg_free h4), fun d f acc q hf => ?_⟩
      obtain ⟨f, rfl⟩ : ∃ g, f = g + 1 := ⟨f - 1, by omega⟩
      rw [pRd, if_pos rfl, if_neg (by dsimp only; omega), if_neg (by dsimp only; omega), if_pos rfl]
      simp only [List.cons_append, List.nil_append]
      unfold fdR
      rw [wdT_w, isSg_free h4, if_pos rfl]
      dsimp only
      rw [if_pos (by decide), fdE, hfd, f1, if_pos h2, ← h5]
theorem lfT_head {p : Pt} (h : lfK p ≠ 0) : ∃ t r, lfT p = t :: r ∧ opA 2 (wdT t) = none := by
  obtain ⟨t, r, h1, h2, _⟩ := leaf_back h
  exact ⟨t, r, h1, h2⟩
/-- The level of an operation. -/
def lvl (k : Int) : Nat := if k = 12 then 0 else if k = 11 then 1 else if k ≤ 5 then 4 else if k = 6 then 5 else 3
theorem op_table : ∀ k : Fin 9, opA (lvl ((k.val : Int) + 4)) (sgO ((k.val : Int) + 4)) = some ((k.val : Int) + 4) ∧ ∀ m : Fin 6, m.val ≠ lvl ((k.val : Int) + 4) → m.val ≠ 2 → opA m.val (sgO ((k.val : Int) + 4)) = none := by decide +kernel
theorem op_facts {k : Int} (h4 : 4 ≤ k) (h12 : k ≤ 12) : opA (lvl k) (sgO k) = some k ∧ ∀ m, m < 6 → m ≠ lvl k → m ≠ 2 → opA m (sgO k) = none := by
  obtain ⟨n, rfl⟩ : ∃ n : Nat, k = (n : Int) + 4 := ⟨(k - 4).toNat, by omega⟩
  obtain ⟨h1, h2⟩ := op_table ⟨n, by omega⟩
  exact ⟨h1, fun m hm => h2 ⟨m, hm⟩⟩
theorem lvl_le (k : Int) : lvl k = 0 ∨ lvl k = 1 ∨ lvl k = 3 ∨ lvl k = 4 ∨ lvl k = 5 := by unfold lvl; split; simp; split; simp; split; simp; split <;> simp
theorem mRd_le {m : Nat} {ts : List Tk} (h : m ≤ 6) : mRd m ts = 8 * ts.length + 7 - m := by unfold mRd; rw [if_pos h]
theorem Stp.free {c : Tk} (h : Stp c) (a b : Nat) (hb : b ≤ 6) : Free a b (wdT c) := fun m _ h2 h3 => by
  obtain ⟨h0, h1, g3, g4, g5⟩ := h
  match m, h2, h3 with
  | 0, _, _ => exact h0
  | 1, _, _ => exact h1
  | 2, _, h => exact absurd rfl h
  | 3, _, _ => exact g3
  | 4, _, _ => exact g4
  | 5, _, _ => exact g5
  | m + 6, h2, _ => omega
theorem stp_rbr : Stp rbr := by unfold Stp; decide
/-- A side is read as its tree, if its inside is. -/
theorem side_back (t : Ex) (h : t.fine) (d : Nat) (hd : 2 * t.dn + d ≤ 200)
    (hb : ∀ (d : Nat) (c : Tk) (q : List Tk), 2 * t.dn + d ≤ 201 → Stp c → ∃ u r, t.bod = u :: r ∧ ∀ f, mRd 0 (u :: (r ++ c :: q)) ≤ f → pRd f 0 d [] (u :: (r ++ c :: q)) = .good t.flat (c :: q)) :
    ∃ u r, t.sid = u :: r ∧ opA 2 (wdT u) = none ∧ ∀ (f : Nat) (q : List Tk), mRd 6 (u :: (r ++ q)) ≤ f → pRd f 6 d [] (u :: (r ++ q)) = .good t.flat q := by
  cases ht : t.op with
  | false =>
    cases t with
    | lf p =>
      obtain ⟨u, r, h1, h2, h3⟩ := leaf_back (show lfK p ≠ 0 from h)
      refine ⟨u, r, h1, h2, fun f q hf => ?_⟩
      rw [mRd_le (by omega)] at hf
      rw [h3 d f [] q (by simp at hf; omega)]
      rfl
    | un _ _ => cases ht
    | bi _ _ _ => cases ht
  | true =>
    obtain ⟨u, r, h1, h2⟩ := hb (d + 1) rbr [] (by omega) stp_rbr
    refine ⟨lbr, t.bod ++ [rbr], by unfold Ex.sid brk; rw [ht]; rfl, by decide, fun f q hf => ?_⟩
    obtain ⟨u', r', h1', h2'⟩ := hb (d + 1) rbr q (by omega) stp_rbr
    rw [h1] at h1'
    simp only [List.cons.injEq] at h1'
    obtain ⟨rfl, rfl⟩ := h1'
    rw [mRd_le (by omega)] at hf
    obtain ⟨f, rfl⟩ : ∃ g, f = g + 1 := ⟨f - 1, by omega⟩
    have hpos : 1 ≤ t.dn := by cases t <;> simp [Ex.dn]
    rw [pRd, if_pos rfl, if_neg (by decide), if_neg (by decide), if_neg (by decide), if_pos (by decide), if_pos (by omega), h1]
    simp only [List.cons_append, List.append_assoc, List.nil_append]
    rw [h2' f (by rw [mRd_le (by omega)]; rw [h1] at hf; simp at hf ⊢; omega)]
    show shut t.flat (rbr :: q) = _
    rw [shut, if_pos (by decide)]
theorem body_back (t : Ex) (h : t.fine) : ∀ (d : Nat) (c : Tk) (q : List Tk), 2 * t.dn + d ≤ 201 → Stp c → ∃ u r, t.bod = u :: r ∧ ∀ f, mRd 0 (u :: (r ++ c :: q)) ≤ f → pRd f 0 d [] (u :: (r ++ c :: q)) = .good t.flat (c :: q) := by
  induction t with
  | lf p =>
    intro d c q hd hc
    obtain ⟨u, r, h1, h2, h3⟩ := leaf_back (show lfK p ≠ 0 from h)
    refine ⟨u, r, h1, lv_up h2 0 6 (by omega) (by omega) (hc.free _ _ (by omega)) fun f hf => ?_⟩
    rw [mRd_le (by omega)] at hf
    exact h3 d f [] (c :: q) (by simp at hf; omega)
  | un p a ih =>
    intro d c q hd hc
    obtain ⟨hk, hp, ha⟩ := h
    have hd' : 2 * (a.dn + 1) + d ≤ 201 := hd
    obtain ⟨u, r, h1, h2, h3⟩ := side_back a ha (d + 1) (by omega) (ih ha)
    refine ⟨opT p.kd, a.sid, rfl, ?_⟩
    have h13 : opA 2 (wdT (opT p.kd)) = some 13 := by rw [hk]; decide
    have hlev : ∀ f, mRd 2 (opT p.kd :: (a.sid ++ c :: q)) ≤ f → pRd f 2 d [] (opT p.kd :: (a.sid ++ c :: q)) = .good (Ex.un p a).flat (c :: q) := by
      intro f hf
      rw [mRd_le (by omega)] at hf
      obtain ⟨f, rfl⟩ : ∃ g, f = g + 1 := ⟨f - 1, by simp at hf; omega⟩
      have hpos : 1 ≤ a.dn := by cases a <;> simp [Ex.dn]
      rw [pRd, if_neg (by omega), if_pos rfl, h13]
      dsimp only
      rw [if_pos (by omega), h1, List.cons_append, lv_up (c := c) (q := q) h2 2 6 (by omega) (by omega) (hc.free _ _ (by omega)) (fun f hf => h3 f (c :: q) hf) f (by rw [mRd_le (by omega)]; rw [h1] at hf; simp at hf ⊢; omega)]
      show PR.good (opP 13 :: a.flat) (c :: q) = .good (p :: a.flat) (c :: q)
      rw [← hp]
    intro f hf
    refine lv_chain (Or.inl rfl) (fun f hf => lv_chain (Or.inr (Or.inl rfl)) hlev ?_ hf) ?_ hf
    · exact hc.2.1
    · exact hc.1
  | bi p a b iha ihb =>
    intro d c q hd hc
    obtain ⟨k1, k2, hp, ha, hb⟩ := h
    have hd' : 2 * (max a.dn b.dn + 1) + d ≤ 201 := hd
    obtain ⟨u, r, h1, h2, h3⟩ := side_back a ha d (by omega) (iha ha)
    obtain ⟨u', r', g1, g2, g3⟩ := side_back b hb d (by omega) (ihb hb)
    obtain ⟨o1, o2⟩ := op_facts k1 k2
    have hlv := lvl_le p.kd
    refine ⟨u, r ++ opT p.kd :: b.sid, by show a.sid ++ opT p.kd :: b.sid = _; rw [h1]; rfl, ?_⟩
    rw [List.append_assoc, List.cons_append]
    generalize hn : lvl p.kd = n at *
    have hbn : ∀ f, mRd (n + 1) (b.sid ++ c :: q) ≤ f → pRd f (n + 1) d [] (b.sid ++ c :: q) = .good b.flat (c :: q) := by
      rw [g1, List.cons_append]
      exact lv_up g2 (n + 1) 6 (by omega) (by omega) (hc.free _ _ (by omega)) (fun f hf => g3 f (c :: q) hf)
    have han : ∀ f, mRd (n + 1) (u :: (r ++ opT p.kd :: (b.sid ++ c :: q))) ≤ f → pRd f (n + 1) d [] (u :: (r ++ opT p.kd :: (b.sid ++ c :: q))) = .good a.flat (opT p.kd :: (b.sid ++ c :: q)) :=
      lv_up h2 (n + 1) 6 (by omega) (by omega) (fun m m1 m2 m3 => by rw [wdT_opT]; exact o2 m m2 (by omega) m3) (fun f hf => h3 f _ hf)
    have hflat : opP p.kd :: (a.flat ++ b.flat) = (Ex.bi p a b).flat := by rw [← hp]; rfl
    refine lv_up h2 0 n (by omega) (by omega) (hc.free _ _ (by omega)) fun f hf => ?_
    rw [mRd_le (by omega)] at hf
    have hlen : (u :: (r ++ opT p.kd :: (b.sid ++ c :: q))).length = r.length + (b.sid ++ c :: q).length + 2 := by simp; omega
    rw [hlen] at hf
    obtain ⟨f, rfl⟩ : ∃ g, f = g + 1 := ⟨f - 1, by omega⟩
    by_cases hn3 : n = 3
    · subst hn3
      rw [pRd, if_neg (by omega), if_neg (by omega), if_pos rfl, han f (by rw [mRd_le (by omega), hlen]; omega)]
      dsimp only
      rw [wdT_opT, o1]
      dsimp only
      rw [hbn f (by rw [mRd_le (by omega)]; omega)]
      dsimp only
      rw [hflat]
    · rw [pRd, if_neg (by omega), if_neg (by omega), if_neg hn3, if_pos (by omega), han f (by rw [mRd_le (by omega), hlen]; omega)]
      dsimp only
      obtain ⟨f, rfl⟩ : ∃ g, f = g + 1 := ⟨f - 1, by omega⟩
      rw [pRd, if_neg (by omega), if_neg (by omega), if_neg (by omega), if_neg (by omega), show n + 10 - 10 = n by omega, wdT_opT, o1]
      dsimp only
      rw [hbn f (by rw [mRd_le (by omega)]; omega)]
      dsimp only
      obtain ⟨f, rfl⟩ : ∃ g, f = g + 1 := ⟨f - 1, by simp at hf; omega⟩
      rw [pRd, if_neg (by omega), if_neg (by omega), if_neg (by omega), if_neg (by omega), show n + 10 - 10 = n by omega, hc.free n (n + 1) (by omega) n (Nat.le_refl _) (by omega) (by omega), hflat]
end Go.Proofs.YtogklmljllocbabGreatDoor
