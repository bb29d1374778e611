/-
  Tokens laid out at their places, plainly: what they are parted into. Of no program.
  spell: a token as it is written.
  What stays while answers are drawn. Of no program.
  Tokens that can come out: plain facts.
  write: a token as it is written, and whether it can come out.
  A slice of tokens that comes in as an argument: they lie where it says.
-/
import Derived.Test.YtjijhefmbmdbeaaGreatDoorD03
import Derived.Test.YtjijhefmbmdbeaaGreatDoorD12
import Derived.Test.YtjijhefmbmdbeaaGreatDoorD01
import Derived.Deep.QuietTactic
import Derived.BigQuiet
import Derived.Test.YtjijhefmbmdbeaaGreatDoorD20
import Derived.ProofKit
import Derived.OpenShut
import Derived.Deep.Slices
namespace Go.Proofs.YtjijhefmbmdbeaaGreatDoor

/-- The same byte first, or a blank (or nothing) in both. -/
def Hd (a b : List UInt8) : Prop := a.head? = b.head? ∨ (Gap a ∧ Gap b)
theorem Hd.spn {a b : List UInt8} (h : Hd a b) {p : UInt8 → Bool} (hp : ∀ c, isBlk c = true → p c = false) (h0 : spn p a = 0) : spn p b = 0 := by
  rcases h with h | ⟨_, h⟩
  · cases b with
    | nil => rfl
    | cons c r =>
      cases a with
      | nil => simp at h
      | cons d q =>
        simp at h
        subst h
        rw [Go.Proofs.YtjijhefmbmdbeaaGreatDoor.spn] at h0 ⊢
        split at h0
        · omega
        · rename_i hd
          rw [if_neg hd]
  · exact h.spn hp
theorem spn_zero {p : UInt8 → Bool} {w a : List UInt8} (h : spn p (w ++ a) = w.length) : spn p w = w.length ∧ spn p a = 0 := by
  have h1 : spn p w = w.length := by
    have := spn_take p (w ++ a) w.length
    rw [List.take_left' rfl, h, Nat.min_self] at this
    exact this
  have h2 := spn_full (b := a) h1
  rw [h] at h2
  exact ⟨h1, by omega⟩
/-- A token is the same when what stands behind it begins alike. -/
theorem tkR_alike {w a b : List UInt8} {t : Tk} (h : tkR (w ++ a) = some (t, w.length)) (hw : w ≠ []) (hg : Hd a b) : tkR (w ++ b) = some (t, w.length) := by
  cases w with
  | nil => exact absurd rfl hw
  | cons c r =>
    have pal : ∀ x, isBlk x = true → isAln x = false := fun c hc => by have := (blk_iff c).1 hc; unfold isAln isLet isDig; simp; omega
    have pdg : ∀ x, isBlk x = true → isDig x = false := fun c hc => by have := (blk_iff c).1 hc; unfold isDig; simp; omega
    rw [List.cons_append, tkR] at *
    split at h
    · rename_i hb
      rw [if_pos hb]
      unfold tkW at h ⊢
      split at h
      · cases h
      · rename_i h32
        simp only [Option.some.injEq, Prod.mk.injEq] at h
        obtain ⟨rfl, hn⟩ := h
        rw [← List.cons_append] at hn h32 ⊢
        obtain ⟨e1, e2⟩ := spn_zero hn
        have e3 := spn_full (b := b) e1
        rw [hg.spn pal e2, Nat.add_zero] at e3
        rw [hn] at h32
        rw [e3, if_neg h32, List.take_left' rfl, ← List.cons_append, hn, List.take_left' rfl]
    · rename_i hb
      rw [if_neg hb]
      split at h
      · rename_i hd
        rw [if_pos hd]
        unfold tkN at h ⊢
        split at h
        · cases h
        · rename_i hz
          split at h
          · cases h
          · rename_i hv
            simp only [Option.some.injEq, Prod.mk.injEq] at h
            obtain ⟨rfl, hn⟩ := h
            rw [← List.cons_append] at hn hz hv ⊢
            obtain ⟨e1, e2⟩ := spn_zero hn
            have e3 := spn_full (b := b) e1
            rw [hg.spn pdg e2, Nat.add_zero] at e3
            rw [hn, List.take_left' rfl] at hv
            rw [hn] at hz
            rw [e3, List.take_left' rfl, if_neg (by simpa using hz), if_neg hv, ← List.cons_append, hn, List.take_left' rfl]
      · rename_i hd
        rw [if_neg hd]
        split at h
        · rename_i hq
          rw [if_pos hq]
          unfold tkT at h ⊢
          split at h
          · cases h
          · rename_i h256
            split at h
            · rename_i hh
              simp only [Option.some.injEq, Prod.mk.injEq] at h
              obtain ⟨rfl, hn⟩ := h
              simp only [List.length_cons] at hn
              have hlt : spn isIn (r ++ a) < r.length := by omega
              have e1 : spn isIn r = spn isIn (r ++ a) := by
                have := spn_take isIn (r ++ a) r.length
                rw [List.take_left' rfl] at this
                omega
              have hlt2 : spn isIn r < r.length := by omega
              rw [← e1] at h256 hh hn ⊢
              rw [spn_lt hlt2, if_neg h256, List.take_append_of_le_length (by omega), List.head?_drop, List.getElem?_append_left hlt2]
              rw [List.head?_drop, List.getElem?_append_left hlt2] at hh
              rw [if_pos hh, List.take_append_of_le_length (by omega)]
              simp only [List.length_cons, Option.some.injEq, Prod.mk.injEq, true_and]
              omega
            · cases h
        · rename_i hq
          rw [if_neg hq]
          unfold tkS at h ⊢
          split at h
          · rename_i h2
            simp only [Option.some.injEq, Prod.mk.injEq] at h
            obtain ⟨rfl, hn⟩ := h
            rw [if_pos ⟨h2.1, by
              cases r with
              | nil => simp at hn
              | cons d r => exact h2.2⟩, hn]
          · rename_i h2
            split at h
            · rename_i h1
              simp only [Option.some.injEq, Prod.mk.injEq] at h
              obtain ⟨rfl, hn⟩ := h
              obtain rfl : r = [] := List.eq_nil_of_length_eq_zero (by simpa using hn.symm)
              rw [if_neg (fun h3 => by
                rcases hg with hg | ⟨_, hg⟩
                · exact h2 ⟨h3.1, by simpa [hg] using h3.2⟩
                · have := (blk_iff 61).1 (hg 61 (by simpa using h3.2))
                  simp at this), if_pos h1, hn]
            · cases h
/-- Tokens laid out from a place on, up to an end. -/
def layF : Nat → List Tk → Nat → List UInt8
  | E, [], n => List.replicate (n - E) 32
  | E, t :: r, n => List.replicate (t.pl.toNat - E) 32 ++ (spell t ++ layF (E + (t.pl.toNat - E) + (spell t).length) r n)
/-- They fit there. -/
def FitE : Nat → List Tk → Nat → Prop
  | E, [], n => E ≤ n
  | E, t :: r, n => 0 ≤ t.pl ∧ E ≤ t.pl.toNat ∧ 0 < (spell t).length ∧ FitE (t.pl.toNat + (spell t).length) r n
theorem FitE.mono {E E' : Nat} {ts : List Tk} {n : Nat} (h : FitE E ts n) (hE : E' ≤ E) : FitE E' ts n := by
  cases ts with
  | nil => exact Nat.le_trans hE h
  | cons t r => exact ⟨h.1, Nat.le_trans hE h.2.1, h.2.2⟩
theorem FitE.le {E : Nat} {ts : List Tk} {n : Nat} (h : FitE E ts n) : E ≤ n := by
  induction ts generalizing E with
  | nil => exact h
  | cons t r ih => have := ih h.2.2.2; have := h.2.1; omega
theorem layF_step {E : Nat} {ts : List Tk} {n : Nat} (h : FitE (E + 1) ts n) : layF E ts n = 32 :: layF (E + 1) ts n := by
  cases ts with
  | nil =>
    have h1 : E + 1 ≤ n := h
    rw [layF, layF, show n - E = (n - (E + 1)) + 1 by omega, List.replicate_succ]
  | cons t r =>
    have h1 : E + 1 ≤ t.pl.toNat := h.2.1
    rw [layF, layF, show t.pl.toNat - E = (t.pl.toNat - (E + 1)) + 1 by omega, List.replicate_succ, show E + (t.pl.toNat - (E + 1) + 1) = E + 1 + (t.pl.toNat - (E + 1)) by omega]
    rfl
theorem layF_gap {E : Nat} {ts : List Tk} {n : Nat} (k : Nat) (h : FitE (E + k) ts n) : layF E ts n = List.replicate k 32 ++ layF (E + k) ts n := by
  induction k generalizing E with
  | zero => rfl
  | succ k ih =>
    rw [layF_step (h.mono (by omega)), ih (E := E + 1) (by rw [show E + 1 + k = E + (k + 1) by omega]; exact h), List.replicate_succ, show E + 1 + k = E + (k + 1) by omega]
    rfl
theorem layF_len {E : Nat} {ts : List Tk} {n : Nat} (h : FitE E ts n) : (layF E ts n).length = n - E := by
  induction ts generalizing E with
  | nil => rw [layF, List.length_replicate]
  | cons t r ih =>
    obtain ⟨_, h1, _, h2⟩ := h
    have e : E + (t.pl.toNat - E) + (spell t).length = t.pl.toNat + (spell t).length := by omega
    have := h2.le
    rw [layF, e, List.length_append, List.length_append, List.length_replicate, ih h2]
    omega
theorem blk32 : isBlk 32 = true := by decide
theorem toks_lay (l : List UInt8) (k c : Nat) : ∀ ts, toks l k c = .good ts → FitE k ts (k + l.length) ∧ Hd (layF k ts (k + l.length)) l ∧ ∀ c', c' + ts.length ≤ 4096 → toks (layF k ts (k + l.length)) k c' = .good ts := by
  refine toks_ind (P := fun l k c => ∀ ts, toks l k c = .good ts → FitE k ts (k + l.length) ∧ Hd (layF k ts (k + l.length)) l ∧ ∀ c', c' + ts.length ≤ 4096 → toks (layF k ts (k + l.length)) k c' = .good ts) ?_ ?_ ?_ ?_ ?_ l k c
  · intro k c ts h
    rw [toks_nil] at h
    cases h
    refine ⟨Nat.le_refl _, Or.inl (by simp [layF]), fun c' _ => ?_⟩
    simp [layF, toks_nil]
  · intro b r k c hb ih ts h
    rw [toks_blk hb] at h
    obtain ⟨h1, h2, h3⟩ := ih ts h
    rw [List.length_cons, show k + (r.length + 1) = k + 1 + r.length by omega]
    refine ⟨h1.mono (by omega), Or.inr ⟨?_, ?_⟩, fun c' hc => ?_⟩
    · rw [layF_step h1]; intro x hx; simp at hx; subst hx; exact blk32
    · intro x hx; simp at hx; subst hx; exact hb
    · rw [layF_step h1, toks_blk blk32]; exact h3 c' hc
  · intro l k c h0 hb hn ts h
    rw [toks_none hn h0 hb] at h
    cases h
  · intro l k t n hn ts h
    rw [toks_many hn] at h
    cases h
  · intro l k c t n hn hc4 ih ts h
    rw [toks_some hn hc4] at h
    obtain ⟨r, hr, rfl⟩ := pre_good h
    obtain ⟨g1, g2, g3, _⟩ := tkR_some hn
    obtain ⟨h1, h2, h3⟩ := ih r hr
    rw [List.length_drop, show k + n + (l.length - n) = k + l.length by omega] at h1 h2 h3
    have hsp : (spell t).length = n := by rw [g3, List.length_take]; omega
    have ho : spell (t.out (k : Int)) = spell t := spell_out t _
    have hpl : (t.out (k : Int)).pl = (k : Int) := rfl
    have e : layF k ([t.out (k : Int)] ++ r) (k + l.length) = spell t ++ layF (k + n) r (k + l.length) := by
      rw [List.singleton_append, layF, ho, hpl, Int.toNat_natCast, Nat.sub_self, hsp]
      rfl
    have hne : spell t ≠ [] := fun e => by rw [e] at hsp; simp at hsp; omega
    have hl : l = spell t ++ l.drop n := by rw [g3, List.take_append_drop]
    have ht : tkR (spell t ++ layF (k + n) r (k + l.length)) = some (t, (spell t).length) := by
      refine tkR_alike (a := l.drop n) ?_ hne (by rcases h2 with h2 | ⟨h2, h2'⟩; exact Or.inl h2.symm; exact Or.inr ⟨h2', h2⟩)
      rw [← hl, hsp]
      exact hn
    refine ⟨⟨by rw [hpl]; omega, by rw [hpl, Int.toNat_natCast]; exact Nat.le_refl _, by rw [ho, hsp]; exact g1, by rw [hpl, Int.toNat_natCast, ho, hsp]; exact h1⟩, Or.inl ?_, fun c' hc => ?_⟩
    · rw [e, hl]
      cases hs : spell t with
      | nil => exact absurd hs hne
      | cons x y => simp
    · rw [List.singleton_append, List.length_cons] at hc
      rw [e, toks_some ht (by omega), hsp, show (spell t ++ layF (k + n) r (k + l.length)).drop n = layF (k + n) r (k + l.length) by rw [← hsp]; exact List.drop_left' rfl, h3 (c' + 1) (by omega)]
      rfl
/-- A tail of what was told is told of what is laid out. -/
theorem toks_tail_of (l : List UInt8) (k c : Nat) : ∀ ts, toks l k c = .good ts → ∀ a r, ts = a ++ r → ∃ l' k' c', toks l' k' c' = .good r ∧ k ≤ k' ∧ k' + l'.length = k + l.length := by
  refine toks_ind (P := fun l k c => ∀ ts, toks l k c = .good ts → ∀ a r, ts = a ++ r → ∃ l' k' c', toks l' k' c' = .good r ∧ k ≤ k' ∧ k' + l'.length = k + l.length) ?_ ?_ ?_ ?_ ?_ l k c
  · intro k c ts h a r e
    rw [toks_nil] at h
    cases h
    have : r = [] := by simp at e; exact e.2
    subst this
    exact ⟨[], k, c, rfl, Nat.le_refl _, rfl⟩
  · intro b q k c hb ih ts h a r e
    rw [toks_blk hb] at h
    obtain ⟨l', k', c', h1, h2, h3⟩ := ih ts h a r e
    exact ⟨l', k', c', h1, by omega, by rw [h3, List.length_cons]; omega⟩
  · intro l k c h0 hb hn ts h
    rw [toks_none hn h0 hb] at h
    cases h
  · intro l k t n hn ts h
    rw [toks_many hn] at h
    cases h
  · intro l k c t n hn hc4 ih ts h a r e
    cases a with
    | nil => exact ⟨l, k, c, by rw [h, e]; rfl, Nat.le_refl _, rfl⟩
    | cons x a =>
      rw [toks_some hn hc4] at h
      obtain ⟨q, hq, rfl⟩ := pre_good h
      obtain ⟨g1, g2, _⟩ := tkR_some hn
      simp only [List.cons_append, List.cons.injEq] at e
      obtain ⟨l', k', c', h1, h2, h3⟩ := ih q hq a r e.2
      exact ⟨l', k', c', h1, by omega, by rw [h3, List.length_drop]; omega⟩
theorem told_again {s : List UInt8} {a r : List Tk} (h : toks s 0 0 = .good (a ++ r)) : FitE 0 r s.length ∧ (layF 0 r s.length).length = s.length ∧ toks (layF 0 r s.length) 0 0 = .good r := by
  obtain ⟨l', k', c', h1, _, h3⟩ := toks_tail_of s 0 0 _ h a r rfl
  obtain ⟨f1, _, f3⟩ := toks_lay l' k' c' r h1
  have hlen := (toks_ok s 0 0 _ h (by omega)).1
  rw [List.length_append] at hlen
  rw [show k' + l'.length = s.length by omega] at f1 f3
  have f0 : FitE 0 r s.length := f1.mono (Nat.zero_le _)
  refine ⟨f0, by rw [layF_len f0]; rfl, ?_⟩
  rw [layF_gap (E := 0) k' (by rw [Nat.zero_add]; exact f1), toks_blanks _ _ _ _ (fun x hx => by rw [List.mem_replicate] at hx; rw [hx.2]; exact blk32), List.length_replicate, Nat.zero_add]
  exact f3 0 (by omega)
/-! As it is laid out one by one. -/
def layA (b : List UInt8) (t : Tk) : List UInt8 := b ++ (List.replicate (t.pl.toNat - b.length) 32 ++ spell t)
def lay (l : List Tk) : List UInt8 := l.foldl layA []
theorem lay_next {l : List Tk} {k : Nat} (h : k < l.length) : lay (l.take (k + 1)) = layA (lay (l.take k)) l[k] := by
  unfold lay
  rw [List.take_succ_eq_append_getElem h, List.foldl_append]
  rfl
theorem spell_end (n : Nat) : spell (endZ n) = [] := by unfold endZ; rw [spell_s (by omega) (by omega)]
theorem lay_from (r : List Tk) (n : Nat) : ∀ b : List UInt8, (r ++ [endZ n]).foldl layA b = b ++ layF b.length r n := by
  induction r with
  | nil =>
    intro b
    simp only [List.nil_append, List.foldl_cons, List.foldl_nil, layA, layF]
    rw [spell_end, List.append_nil]
    rfl
  | cons t r ih =>
    intro b
    rw [List.cons_append, List.foldl_cons, ih, layF]
    have e : (layA b t).length = b.length + (t.pl.toNat - b.length) + (spell t).length := by unfold layA; simp; omega
    rw [e]
    unfold layA
    simp
theorem lay_all (r : List Tk) (n : Nat) : lay (r ++ [endZ n]) = layF 0 r n := by
  have := lay_from r n []
  simpa [lay] using this
theorem fit_at {r : List Tk} {n : Nat} : ∀ {E : Nat} {b : List UInt8}, FitE E r n → b.length = E → ∀ k (h : k < (r ++ [endZ n]).length), 0 ≤ (r ++ [endZ n])[k].pl ∧ (((r ++ [endZ n]).take k).foldl layA b).length ≤ (r ++ [endZ n])[k].pl.toNat ∧ (r ++ [endZ n])[k].pl.toNat ≤ n := by
  induction r with
  | nil =>
    intro E b hf hb k h
    simp only [List.nil_append, List.length_singleton] at h
    obtain rfl : k = 0 := by omega
    have hf' : E ≤ n := hf
    refine ⟨by show 0 ≤ (n : Int); omega, ?_, by show ((n : Int)).toNat ≤ n; omega⟩
    show b.length ≤ ((n : Int)).toNat
    omega
  | cons t r ih =>
    intro E b hf hb k h
    obtain ⟨f1, f2, f3, f4⟩ := hf
    have hle := f4.le
    cases k with
    | zero => exact ⟨f1, by show b.length ≤ t.pl.toNat; omega, by show t.pl.toNat ≤ n; omega⟩
    | succ k =>
      have e : (layA b t).length = t.pl.toNat + (spell t).length := by unfold layA; simp; omega
      have := ih f4 e k (by simpa using h)
      simpa using this
end Go.Proofs.YtjijhefmbmdbeaaGreatDoor
namespace Go.Proofs.YtjijhefmbmdbeaaGreatDoor
open Go.RowKit

set_option maxHeartbeats 1000000 in
theorem spell_any (t : Tk) (w : World) (hT : TbW w) (hs : t.s.size ≤ 140737488351232) (h0 : -9223372036854775808 ≤ t.n) (h1 : t.n ≤ 9223372036854775807) :
    Calls Tryz.prog 87 #[t.v] w fun e w' => e = .returned (.string (txt (spell t))) ∧ Below w.heap.size w w' := by
  obtain ⟨k, s, n, p⟩ := t
  dsimp only at hs h0 h1
  unfold Tk.v
  dsimp only
  by_cases hk2 : k = 2
  · subst hk2
    rw [spell_n]
    go_enter Tryz.func87, Tryz.ntmps87
    go_wp2_with fail
    refine (format_any n h0 h1 _ (hT.alloc _)).mono ?_
    rintro e w1 ⟨rfl, hb⟩
    have HB : Hid (Below w.heap.size w w1) := hide (((Below.refl _ _).alloc (Nat.le_refl _) _).trans (hb.mono (by simp)))
    clear hb
    go_wp2
    go_ret
    exact ⟨rfl, unhide HB⟩
  · have g2 : (k == 2) = false := by simpa using hk2
    by_cases hk3 : k = 3
    · subst hk3
      rw [spell_t, ← quo_size]
      have b1 : (9223372036854775807 < (⟨#[39]⟩ : ByteArray).size + s.size) = False := eq_false (by rw [show (⟨#[39]⟩ : ByteArray).size = 1 from rfl]; omega)
      have b2 : (9223372036854775807 < (⟨#[39]⟩ ++ s : ByteArray).size + (⟨#[39]⟩ : ByteArray).size) = False := eq_false (by rw [ByteArray.size_append, show (⟨#[39]⟩ : ByteArray).size = 1 from rfl]; omega)
      go_enter Tryz.func87, Tryz.ntmps87
      go_wp2
      go_ret
      exact ⟨rfl, (Below.refl _ _).alloc (Nat.le_refl _) _⟩
    · have g3 : (k == 3) = false := by simpa using hk3
      rw [spell_s hk2 hk3, txt_self]
      go_enter Tryz.func87, Tryz.ntmps87
      go_wp2
      go_ret
      exact ⟨rfl, (Below.refl _ _).alloc (Nat.le_refl _) _⟩
end Go.Proofs.YtjijhefmbmdbeaaGreatDoor
namespace Go.Proofs.YtjijhefmbmdbeaaGreatDoor
open Go.RowKit

theorem bel_drewN {B : Nat} {w w' : World} (h : Below B w w') (n : Nat) : Below B w (w'.drewN n) := ⟨h.os, h.tape, h.output, h.size, h.block⟩
end Go.Proofs.YtjijhefmbmdbeaaGreatDoor
namespace Go.Proofs.YtjijhefmbmdbeaaGreatDoor
open Go.RowKit

theorem spell_len (t : Tk) (hs : t.s.size ≤ 256) (h0 : -9223372036854775808 ≤ t.n) (h1 : t.n ≤ 9223372036854775807) : (spell t).length ≤ 258 := by
  unfold spell
  split
  · have := Lib.itoa_length_le t.n h0 h1; omega
  · split
    · simp only [List.length_cons, List.length_append, size_list, List.length_nil]; omega
    · rw [size_list]; omega
theorem wrOk_none (t : Tk) (h : tkR (spell t) = none) : wrOk t = false := by unfold wrOk; rw [h]; simp
theorem wr_facts {t : Tk} (h : wrOk t = true) : ¬ t.kd = 0 ∧ t.s.size ≤ 256 ∧ 0 ≤ t.n ∧ t.n ≤ 9223372036854775807 ∧ (spell t).length ≤ 258 := by
  have h1 := (wrOk_iff t).1 h
  obtain ⟨_, _, _, _, k1, _, _, hn0, hn1, _⟩ := tkR_some h1.2
  have e1 : (t.out 0).kd = t.kd := rfl
  have e2 : (t.out 0).n = t.n := rfl
  rw [e1] at k1
  rw [e2] at hn0 hn1
  exact ⟨by omega, h1.1, hn0, hn1, spell_len t h1.1 (by omega) hn1⟩
theorem size_zero {s : ByteArray} (h : s.size = 0) : s = ⟨#[]⟩ := by
  have := List.eq_nil_of_length_eq_zero (l := s.data.toList) (by rw [size_list]; exact h)
  rw [← txt_self s, this]; rfl
end Go.Proofs.YtjijhefmbmdbeaaGreatDoor
namespace Go.Proofs.YtjijhefmbmdbeaaGreatDoor
open Go.RowKit

theorem wrOk_big (t : Tk) (h : 256 < t.s.size) : wrOk t = false := by unfold wrOk; rw [decide_eq_false (by omega)]; rfl
theorem wrOk_some (t u : Tk) (m : Nat) (hs : t.s.size ≤ 256) (h : tkR (spell t) = some (u, m)) : wrOk t = tkEq u (t.out 0) := by unfold wrOk; rw [h, decide_eq_true hs]; simp
set_option maxHeartbeats 2000000 in
set_option maxRecDepth 100000 in
theorem tkWrite_any (t : Tk) (w : World) (hT : TbW w) (hs : t.s.size ≤ 9223372036854775807) (h0 : -9223372036854775808 ≤ t.n) (h1 : t.n ≤ 9223372036854775807) :
    Calls Tryz.prog 63 #[t.v] w fun e w' => ∃ b, e = .returned (.tuple #[.string b, .bool (wrOk t)]) ∧ (wrOk t = true → b = txt (spell t)) ∧ Below w.heap.size w w' := by
  by_cases hbig : 256 < t.s.size
  · rw [wrOk_big t hbig]
    obtain ⟨k, s, n, p⟩ := t
    dsimp only at hs hbig
    unfold Tk.v
    dsimp only
    go_enter Tryz.func63, Tryz.ntmps63
    go_wp2
    go_ret2
    exact ⟨⟨_, rfl⟩, (Below.refl _ _).alloc (Nat.le_refl _) _⟩
  · have hsl := spell_len t (by omega) h0 h1
    have SP := fun W hW => spell_any t W hW (by omega) h0 h1
    have RD := fun W hW => read_any (txt (spell t)) W hW (by rw [txt_size]; omega)
    rw [txt_list] at RD
    have HW1 := hide (wrOk_none t)
    have HW2 := hide (fun u m => wrOk_some t u m (by omega))
    generalize wrOk t = OK at *
    generalize hS : txt (spell t) = S at *
    clear hS
    have HSP := hide SP
    clear SP hsl
    cases hQ : tkR (spell t) with
    | none =>
      have e := unhide HW1 hQ
      subst e
      rw [hQ] at RD
      have HRD : Hid (∀ W, TbW W → Calls Tryz.prog 75 #[.string S] W fun e w' => e = .returned (.tuple #[.agg #[.int .i64 0, .string ⟨#[]⟩, .int .i64 0, .int .i64 0], .int .i64 0]) ∧ Below W.heap.size W w') := hide RD
      clear RD HW1 HW2 hQ
      obtain ⟨k, s, n, p⟩ := t
      unfold Tk.v at *
      dsimp only at *
      go_enter Tryz.func63, Tryz.ntmps63
      go_wp2_with fail
      refine (unhide HSP _ (hT.alloc _)).mono ?_
      rintro e w1 ⟨rfl, hb1⟩
      have hT1 : TbW w1 := (hT.alloc _).below hb1 (by have := hT.low; simp; omega)
      have q1 : CBox w.heap.size #[.int .i64 k, .string s, .int .i64 n, .int .i64 p] 74 w1 := by unfold CBox; rw [hb1.block _ (by simp)]; exact heap_alloc_new w _
      have hB1 : Below w.heap.size w w1 := ((Below.refl _ _).alloc (Nat.le_refl _) _).trans (hb1.mono (by simp))
      have hl1 : w.heap.size < w1.heap.size := by have := hb1.size; simp at this; omega
      clear hb1
      go_wp2_with fail
      refine (unhide HRD _ hT1).mono ?_
      rintro e w2 ⟨rfl, hb2⟩
      have hB2 : Below w.heap.size w w2 := hB1.trans (hb2.mono (by omega))
      have q2 : CBox w.heap.size #[.int .i64 k, .string s, .int .i64 n, .int .i64 p] 74 w2 := by unfold CBox; rw [hb2.block _ hl1]; exact q1
      have hl2 : w.heap.size < w2.heap.size := by have := hb2.size; omega
      have c3 := CBox.cell (i := 3) (v := .int .i64 p) q2 rfl
      have f3 := CBox.froz q2 3
      have HB2 := hide hB2
      clear hB2 hB1 q1 hb2 q2
      go_wp2_with fail
      go_quiet (fail)
      go_wp2
      go_ret2
      exact ⟨_, rfl, fun h => absurd h (by simp), bel_drewN (((unhide HB2).setCell (p := ⟨w.heap.size, 3, none⟩) (Nat.le_refl _) _).alloc (by simp; omega) _) _⟩
    | some q =>
      obtain ⟨u, m⟩ := q
      have e := unhide HW2 u m hQ
      have hm := (tkR_some hQ).1
      rw [hQ] at RD
      have EQ : ∀ W, (Op.equalIn 10000 74 u.v (t.out 0).v).run Tryz.prog W = .ok OK W := fun W => by rw [e]; exact eqT 9998 u (t.out 0) W
      clear e HW1 HW2 hQ
      obtain ⟨k, s, n, p⟩ := t
      obtain ⟨uk, us, un, up⟩ := u
      have HRD : Hid (∀ W, TbW W → Calls Tryz.prog 75 #[.string S] W fun e w' => e = .returned (.tuple #[.agg #[.int .i64 uk, .string us, .int .i64 un, .int .i64 up], .int .i64 (m : Int)]) ∧ Below W.heap.size W w') := hide RD
      have EQ2 : ∀ W, (Op.equalIn 10000 74 (.agg #[.int .i64 uk, .string us, .int .i64 un, .int .i64 up]) (.agg #[.int .i64 k, .string s, .int .i64 n, .int .i64 0])).run Tryz.prog W = .ok OK W := EQ
      clear RD EQ
      unfold Tk.v at *
      dsimp only at *
      have HEQ := hide EQ2
      clear EQ2
      go_enter Tryz.func63, Tryz.ntmps63
      go_wp2_with fail
      refine (unhide HSP _ (hT.alloc _)).mono ?_
      rintro e w1 ⟨rfl, hb1⟩
      have hT1 : TbW w1 := (hT.alloc _).below hb1 (by have := hT.low; simp; omega)
      have q1 : CBox w.heap.size #[.int .i64 k, .string s, .int .i64 n, .int .i64 p] 74 w1 := by unfold CBox; rw [hb1.block _ (by simp)]; exact heap_alloc_new w _
      have hB1 : Below w.heap.size w w1 := ((Below.refl _ _).alloc (Nat.le_refl _) _).trans (hb1.mono (by simp))
      have hl1 : w.heap.size < w1.heap.size := by have := hb1.size; simp at this; omega
      clear hb1
      go_wp2_with fail
      refine (unhide HRD _ hT1).mono ?_
      rintro e w2 ⟨rfl, hb2⟩
      have hB2 : Below w.heap.size w w2 := hB1.trans (hb2.mono (by omega))
      have q2 : CBox w.heap.size #[.int .i64 k, .string s, .int .i64 n, .int .i64 p] 74 w2 := by unfold CBox; rw [hb2.block _ hl1]; exact q1
      have hl2 : w.heap.size < w2.heap.size := by have := hb2.size; omega
      have c3 := CBox.cell (i := 3) (v := .int .i64 p) q2 rfl
      have f3 := CBox.froz q2 3
      have HB2 := hide hB2
      have Q2 := hide q2
      clear hB2 hB1 q1 hb2 q2
      go_wp2_with fail
      have q3 : CBox w.heap.size #[.int .i64 k, .string s, .int .i64 n, .int .i64 0] 74 ((w2.setCell ⟨w.heap.size, 3, none⟩ (.int .i64 0)).alloc (.cells #[.int .i64 uk, .string us, .int .i64 un, .int .i64 up] 74)) := CBox.kp ((unhide Q2).set 3 (.int .i64 0)) (Kp.alloc _ _) (by simp)
      have q4 : CBox w2.heap.size #[.int .i64 uk, .string us, .int .i64 un, .int .i64 up] 74 ((w2.setCell ⟨w.heap.size, 3, none⟩ (.int .i64 0)).alloc (.cells #[.int .i64 uk, .string us, .int .i64 un, .int .i64 up] 74)) := by
        have := CBox.new (w2.setCell ⟨w.heap.size, 3, none⟩ (.int .i64 0)) #[.int .i64 uk, .string us, .int .i64 un, .int .i64 up] 74
        simpa using this
      have HBF : Hid (Below w.heap.size w ((w2.setCell ⟨w.heap.size, 3, none⟩ (.int .i64 0)).alloc (.cells #[.int .i64 uk, .string us, .int .i64 un, .int .i64 up] 74))) := hide (((unhide HB2).setCell (Nat.le_refl _) _).alloc (by simp; omega) _)
      generalize (w2.setCell ⟨w.heap.size, 3, none⟩ (.int .i64 0)).alloc (.cells #[.int .i64 uk, .string us, .int .i64 un, .int .i64 up] 74) = W at *
      have a0 := CBox.cell (i := 0) (v := .int .i64 k) q3 rfl
      have a1 := CBox.cell (i := 1) (v := .string s) q3 rfl
      have a2 := CBox.cell (i := 2) (v := .int .i64 n) q3 rfl
      have a3 := CBox.cell (i := 3) (v := .int .i64 0) q3 rfl
      have b0 := CBox.cell (i := 0) (v := .int .i64 uk) q4 rfl
      have b1 := CBox.cell (i := 1) (v := .string us) q4 rfl
      have b2 := CBox.cell (i := 2) (v := .int .i64 un) q4 rfl
      have b3 := CBox.cell (i := 3) (v := .int .i64 up) q4 rfl
      clear q3 q4 c3 f3 Q2 HB2
      have EQ := unhide HEQ
      go_quiet (fail)
      go_wp2
      go_ret2
      exact ⟨_, rfl, fun _ => rfl, bel_drewN (unhide HBF) _⟩
end Go.Proofs.YtjijhefmbmdbeaaGreatDoor
namespace Go.Proofs.YtjijhefmbmdbeaaGreatDoor
open Go.RowKit Go.Deep

end Go.Proofs.YtjijhefmbmdbeaaGreatDoor
