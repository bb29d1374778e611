/-
  Tokens, plain: what is read stays when more or less stands behind; a whole text's tokens; what is joined is parted into the same tokens; places. Of no program.
-/
import Derived.Test.YtogklmljllocbabGreatDoorF01
namespace Go.Proofs.YtogklmljllocbabGreatDoor

theorem take_in (l : List UInt8) {n k : Nat} (h : n ≤ k) : (l.take k).take n = l.take n := by rw [List.take_take, Nat.min_eq_left h]
/-- What is read stays when less stands behind it. -/
theorem tkR_take {l : List UInt8} {t : Tk} {n k : Nat} (h : tkR l = some (t, n)) (hk : n ≤ k) : tkR (l.take k) = some (t, n) := by
  have h0 := (tkR_some h).1
  cases l with
  | nil => cases h
  | cons b r =>
    obtain ⟨k, rfl⟩ : ∃ m, k = m + 1 := ⟨k - 1, by omega⟩
    have hs := fun p => spn_take p (b :: r) (k + 1)
    rw [List.take_succ_cons] at hs ⊢
    have htk : ∀ m, m ≤ k + 1 → (b :: r.take k).take m = (b :: r).take m := fun m hm => by rw [← List.take_succ_cons, take_in _ hm]
    rw [tkR] at h ⊢
    split at h
    · rename_i hb
      rw [if_pos hb]
      unfold tkW at h ⊢
      split at h
      · cases h
      · rename_i h32
        simp only [Option.some.injEq, Prod.mk.injEq] at h
        obtain ⟨rfl, rfl⟩ := h
        rw [hs, Nat.min_eq_left hk, if_neg h32, htk _ hk]
    · rename_i hb
      rw [if_neg hb]
      split at h
      · rename_i hd
        rw [if_pos hd]
        unfold tkN at h ⊢
        split at h
        · cases h
        · rename_i hz
          split at h
          · cases h
          · rename_i hv
            simp only [Option.some.injEq, Prod.mk.injEq] at h
            obtain ⟨rfl, rfl⟩ := h
            rw [hs, Nat.min_eq_left hk, htk _ hk, if_neg (by simpa using hz), if_neg hv]
      · rename_i hd
        rw [if_neg hd]
        split at h
        · rename_i hq
          rw [if_pos hq]
          unfold tkT at h ⊢
          split at h
          · cases h
          · rename_i h256
            split at h
            · rename_i hh
              simp only [Option.some.injEq, Prod.mk.injEq] at h
              obtain ⟨rfl, rfl⟩ := h
              rw [spn_take, Nat.min_eq_left (by omega : spn isIn r ≤ k), if_neg h256, take_in _ (by omega : spn isIn r ≤ k), List.head?_drop, List.getElem?_take_of_lt (by omega : spn isIn r < k), ← List.head?_drop, if_pos hh]
            · cases h
        · rename_i hq
          rw [if_neg hq]
          unfold tkS at h ⊢
          split at h
          · rename_i h2
            simp only [Option.some.injEq, Prod.mk.injEq] at h
            obtain ⟨rfl, rfl⟩ := h
            rw [if_pos ⟨h2.1, by
              obtain ⟨k, rfl⟩ : ∃ m, k = m + 1 := ⟨k - 1, by omega⟩
              cases r with
              | nil => exact h2.2
              | cons c r => exact h2.2⟩]
          · rename_i h2
            split at h
            · rename_i h1
              simp only [Option.some.injEq, Prod.mk.injEq] at h
              obtain ⟨rfl, rfl⟩ := h
              rw [if_neg (fun h3 => h2 ⟨h3.1, by
                cases k with
                | zero => simp at h3
                | succ k =>
                  cases r with
                  | nil => exact h3.2
                  | cons c r => exact h3.2⟩), if_pos h1]
            · cases h
/-- Nothing, or a blank, stands ahead. -/
def Gap (l : List UInt8) : Prop := ∀ b, l.head? = some b → isBlk b = true
theorem blk_iff (b : UInt8) : isBlk b = true ↔ b.toNat = 32 ∨ b.toNat = 10 := by unfold isBlk; simp
theorem Gap.spn {l : List UInt8} (h : Gap l) {p : UInt8 → Bool} (hp : ∀ b, isBlk b = true → p b = false) : spn p l = 0 := by
  cases l with
  | nil => rfl
  | cons b r => rw [Go.Proofs.YtogklmljllocbabGreatDoor.spn, if_neg (by simp [hp b (h b rfl)])]
/-- .. and when a blank stands behind it. -/
theorem tkR_app {w rest : List UInt8} {t : Tk} (h : tkR w = some (t, w.length)) (hg : Gap rest) : tkR (w ++ rest) = some (t, w.length) := by
  cases w with
  | nil => cases h
  | cons b r =>
    have hal : spn isAln rest = 0 := hg.spn fun c hc => by have := (blk_iff c).1 hc; unfold isAln isLet isDig; simp; omega
    have hdg : spn isDig rest = 0 := hg.spn fun c hc => by have := (blk_iff c).1 hc; unfold isDig; simp; omega
    rw [List.cons_append, tkR] at *
    split at h
    · rename_i hb
      rw [if_pos hb]
      unfold tkW at h ⊢
      split at h
      · cases h
      · rename_i h32
        simp only [Option.some.injEq, Prod.mk.injEq] at h
        obtain ⟨rfl, hn⟩ := h
        have e := spn_full (b := rest) hn
        rw [hal, Nat.add_zero] at e
        rw [← List.cons_append, e, hn, if_neg (by omega), List.take_left' rfl, List.take_length]
    · rename_i hb
      rw [if_neg hb]
      split at h
      · rename_i hd
        rw [if_pos hd]
        unfold tkN at h ⊢
        split at h
        · cases h
        · rename_i hz
          split at h
          · cases h
          · rename_i hv
            simp only [Option.some.injEq, Prod.mk.injEq] at h
            obtain ⟨rfl, hn⟩ := h
            have e := spn_full (b := rest) hn
            rw [hdg, Nat.add_zero] at e
            rw [hn, List.take_length] at hv
            rw [hn] at hz
            rw [← List.cons_append, e, hn, List.take_left' rfl, List.take_length, if_neg (by simpa using hz), if_neg hv]
      · rename_i hd
        rw [if_neg hd]
        split at h
        · rename_i hq
          rw [if_pos hq]
          unfold tkT at h ⊢
          split at h
          · cases h
          · rename_i h256
            split at h
            · rename_i hh
              simp only [Option.some.injEq, Prod.mk.injEq] at h
              obtain ⟨rfl, hn⟩ := h
              simp only [List.length_cons] at hn
              have hlt : spn isIn r < r.length := by omega
              rw [spn_lt hlt, if_neg h256, List.take_append_of_le_length (by omega), List.head?_drop, List.getElem?_append_left hlt, ← List.head?_drop, if_pos hh, hn]
              rfl
            · cases h
        · rename_i hq
          rw [if_neg hq]
          unfold tkS at h ⊢
          split at h
          · rename_i h2
            simp only [Option.some.injEq, Prod.mk.injEq] at h
            obtain ⟨rfl, hn⟩ := h
            rw [if_pos ⟨h2.1, by
              cases r with
              | nil => simp at hn
              | cons c r => exact h2.2⟩, hn]
          · rename_i h2
            split at h
            · rename_i h1
              simp only [Option.some.injEq, Prod.mk.injEq] at h
              obtain ⟨rfl, hn⟩ := h
              obtain rfl : r = [] := List.eq_nil_of_length_eq_zero (by simpa using hn.symm)
              rw [if_neg (fun h3 => by
                have := (blk_iff 61).1 (hg 61 (by simpa using h3.2))
                simp at this), if_pos h1, hn]
            · cases h
/-- A token without its place. -/
def Tk.out (t : Tk) (p : Int) : Tk := { t with pl := p }
theorem spell_out (t : Tk) (p : Int) : spell (t.out p) = spell t := rfl
/-- Can a token come out? -/
def wrOk (t : Tk) : Bool := decide (t.s.size ≤ 256) && (match tkR (spell t) with | some (u, _) => tkEq u (t.out 0) | none => false)
theorem wrOk_iff (t : Tk) : wrOk t = true ↔ t.s.size ≤ 256 ∧ tkR (spell t) = some (t.out 0, (spell t).length) := by
  unfold wrOk
  rw [Bool.and_eq_true, decide_eq_true_eq]
  constructor
  · rintro ⟨h1, h2⟩
    refine ⟨h1, ?_⟩
    split at h2
    · rename_i u n hu
      obtain rfl := (tkEq_iff _ _).1 h2
      obtain ⟨_, h3, h4, _⟩ := tkR_some hu
      rw [spell_out] at h4
      have := congrArg List.length h4
      rw [List.length_take] at this
      rw [hu, show n = (spell t).length by omega]
    · cases h2
  · rintro ⟨h1, h2⟩
    rw [h2]
    exact ⟨h1, (tkEq_iff _ _).2 rfl⟩
theorem wrOk_out (t : Tk) (p : Int) : wrOk (t.out p) = wrOk t := rfl
theorem tkR_wr {l : List UInt8} {t : Tk} {n : Nat} (h : tkR l = some (t, n)) : wrOk t = true := by
  obtain ⟨_, h3, h4, h5, _, _, h6, _⟩ := tkR_some h
  rw [wrOk_iff]
  refine ⟨h6, ?_⟩
  rw [h4, tkR_take h (Nat.le_refl n), List.length_take, Nat.min_eq_left h3, show t.out 0 = t from by unfold Tk.out; rw [← h5]]
/-- What a whole text is: refused at a place, or tokens. -/
inductive TR where
  | bad (k : Nat) (c : Int)
  | good (l : List Tk)
def TR.pre (a : List Tk) : TR → TR
  | .bad k c => .bad k c
  | .good l => .good (a ++ l)
theorem TR.pre_pre (a b : List Tk) (x : TR) : (x.pre b).pre a = x.pre (a ++ b) := by cases x <;> simp [TR.pre]
theorem TR.pre_nil (x : TR) : x.pre [] = x := by cases x <;> simp [TR.pre]
def tkG : Nat → List UInt8 → Nat → Nat → TR
  | 0, _, _, _ => .good []
  | _ + 1, [], _, _ => .good []
  | f + 1, b :: r, k, c =>
    if isBlk b then tkG f r (k + 1) c else
    match tkR (b :: r) with
    | none => .bad k 100
    | some (t, n) => if c = 4096 then .bad k 2 else (tkG f ((b :: r).drop n) (k + n) (c + 1)).pre [t.out (k : Int)]
theorem tkG_fuel (f g : Nat) (l : List UInt8) (k c : Nat) (hf : l.length ≤ f) (hg : l.length ≤ g) : tkG f l k c = tkG g l k c := by
  induction f generalizing g l k c with
  | zero =>
    obtain rfl := List.eq_nil_of_length_eq_zero (Nat.le_zero.1 hf)
    cases g <;> rfl
  | succ f ih =>
    cases l with
    | nil => cases g <;> rfl
    | cons b r =>
      cases g with
      | zero => simp at hg
      | succ g =>
        simp only [List.length_cons] at hf hg
        rw [tkG, tkG]
        split
        · exact ih g r (k + 1) c (by omega) (by omega)
        · split
          · rfl
          · rename_i t n h
            have h0 := (tkR_some h).1
            split
            · rfl
            · rw [ih g _ _ _ (by simp; omega) (by simp; omega)]
/-- The tokens of a text, from a place on, behind so many. -/
def toks (l : List UInt8) (k c : Nat) : TR := tkG l.length l k c
theorem toks_nil (k c : Nat) : toks [] k c = .good [] := rfl
theorem toks_blk {b : UInt8} {r : List UInt8} {k c : Nat} (h : isBlk b = true) : toks (b :: r) k c = toks r (k + 1) c := by
  unfold toks
  rw [List.length_cons, tkG, if_pos h]
theorem toks_none {l : List UInt8} {k c : Nat} (h : tkR l = none) (h0 : l ≠ []) (hb : spn isBlk l = 0) : toks l k c = .bad k 100 := by
  cases l with
  | nil => exact absurd rfl h0
  | cons b r =>
    have hb' : ¬ isBlk b = true := fun e => by rw [spn, if_pos e] at hb; omega
    unfold toks
    rw [List.length_cons, tkG, if_neg hb', h]
theorem toks_many {l : List UInt8} {k : Nat} {t : Tk} {n : Nat} (h : tkR l = some (t, n)) : toks l k 4096 = .bad k 2 := by
  obtain ⟨_, _, _, _, _, _, _, _, _, ⟨b, hb, hbk⟩, _⟩ := tkR_some h
  cases l with
  | nil => cases hb
  | cons b r =>
    simp at hb
    subst hb
    unfold toks
    rw [List.length_cons, tkG, if_neg (by simp [hbk]), h]
    rfl
theorem toks_some {l : List UInt8} {k c : Nat} {t : Tk} {n : Nat} (h : tkR l = some (t, n)) (hc : c ≠ 4096) : toks l k c = (toks (l.drop n) (k + n) (c + 1)).pre [t.out (k : Int)] := by
  obtain ⟨h0, hl, _, _, _, _, _, _, _, ⟨b, hb, hbk⟩, _⟩ := tkR_some h
  cases l with
  | nil => cases hb
  | cons b r =>
    simp at hb
    subst hb
    unfold toks
    rw [List.length_cons, tkG, if_neg (by simp [hbk]), h]
    dsimp only
    rw [if_neg hc, tkG_fuel r.length ((List.drop n (b :: r)).length) _ _ _ (by simp; omega) (Nat.le_refl _)]
theorem toks_gap (l : List UInt8) (k c : Nat) : toks l k c = toks (l.drop (spn isBlk l)) (k + spn isBlk l) c := by
  induction l generalizing k with
  | nil => rfl
  | cons b r ih =>
    by_cases h : isBlk b = true
    · rw [toks_blk h, ih, spn, if_pos h, List.drop_succ_cons, Nat.add_assoc, Nat.add_comm 1]
    · rw [spn, if_neg h]; rfl
theorem toks_blanks (g l : List UInt8) (k c : Nat) (hg : ∀ x ∈ g, isBlk x = true) : toks (g ++ l) k c = toks l (k + g.length) c := by
  induction g generalizing k with
  | nil => rfl
  | cons b r ih => rw [List.cons_append, toks_blk (hg b (by simp)), ih _ (fun x hx => hg x (by simp [hx])), List.length_cons, Nat.add_assoc, Nat.add_comm 1]
theorem spn_none {l : List UInt8} {p : UInt8 → Bool} (h : l ≠ []) (hp : spn p l = 0) : ∃ b r, l = b :: r ∧ p b = false := by
  cases l with
  | nil => exact absurd rfl h
  | cons b r => exact ⟨b, r, rfl, by by_cases e : p b = true; (rw [spn, if_pos e] at hp; omega); simpa using e⟩
/-- By the length of a text: nothing, a blank ahead, or none. -/
theorem toks_ind {P : List UInt8 → Nat → Nat → Prop} (h0 : ∀ k c, P [] k c) (h1 : ∀ b r k c, isBlk b = true → P r (k + 1) c → P (b :: r) k c)
    (h2 : ∀ l k c, l ≠ [] → spn isBlk l = 0 → tkR l = none → P l k c) (h3 : ∀ l k t n, tkR l = some (t, n) → P l k 4096)
    (h4 : ∀ l k c t n, tkR l = some (t, n) → c ≠ 4096 → P (l.drop n) (k + n) (c + 1) → P l k c) : ∀ l k c, P l k c := by
  intro l
  induction hl : l.length using Nat.strongRecOn generalizing l with
  | _ m ih =>
    intro k c
    cases l with
    | nil => exact h0 k c
    | cons b r =>
      by_cases hb : isBlk b = true
      · exact h1 b r k c hb (ih r.length (by rw [← hl]; simp) r rfl _ _)
      · cases h : tkR (b :: r) with
        | none => exact h2 _ k c (by simp) (by rw [spn, if_neg hb]) h
        | some x =>
          obtain ⟨t, n⟩ := x
          have hn := (tkR_some h).1
          by_cases hc : c = 4096
          · subst hc; exact h3 _ k t n h
          · exact h4 _ k c t n h hc (ih _ (by rw [← hl, List.length_drop]; simp; omega) _ rfl _ _)
theorem pre_good {a : List Tk} {x : TR} {ts : List Tk} (h : x.pre a = .good ts) : ∃ r, x = .good r ∧ ts = a ++ r := by
  cases x with
  | bad k c => cases h
  | good l => exact ⟨l, rfl, by simpa [TR.pre] using h.symm⟩
/-- Tokens that come out can be written, and are not too many. -/
theorem toks_ok (l : List UInt8) (k c : Nat) (ts : List Tk) (h : toks l k c = .good ts) (hc : c ≤ 4096) : c + ts.length ≤ 4096 ∧ ∀ t ∈ ts, wrOk t = true := by
  revert ts
  refine toks_ind (P := fun l k c => ∀ ts, toks l k c = .good ts → c ≤ 4096 → c + ts.length ≤ 4096 ∧ ∀ t ∈ ts, wrOk t = true) ?_ ?_ ?_ ?_ ?_ l k c |> fun g ts h => g ts h hc
  · intro k c ts h hc
    rw [toks_nil] at h
    cases h
    exact ⟨by simpa using hc, by simp⟩
  · intro b r k c hb ih ts h hc
    rw [toks_blk hb] at h
    exact ih ts h hc
  · intro l k c h0 hb hn ts h
    rw [toks_none hn h0 hb] at h
    cases h
  · intro l k t n hn ts h
    rw [toks_many hn] at h
    cases h
  · intro l k c t n hn hc4 ih ts h hc
    rw [toks_some hn hc4] at h
    obtain ⟨r, hr, rfl⟩ := pre_good h
    obtain ⟨i1, i2⟩ := ih r hr (by omega)
    refine ⟨by simp; omega, fun u hu => ?_⟩
    simp at hu
    rcases hu with rfl | hu
    · rw [wrOk_out]; exact tkR_wr hn
    · exact i2 u hu
/-- A token with a gap behind it. -/
theorem toks_word {t : Tk} {rest : List UInt8} {k c : Nat} (h : wrOk t = true) (hg : Gap rest) (hc : c ≠ 4096) : toks (spell t ++ rest) k c = (toks rest (k + (spell t).length) (c + 1)).pre [t.out (k : Int)] := by
  have e := tkR_app ((wrOk_iff t).1 h).2 hg
  rw [toks_some e hc, List.drop_left' rfl]
  rfl
/-- Joined with one blank between two. -/
def tailB (l : List Tk) : List UInt8 := l.flatMap fun t => 32 :: spell t
def joinB : List Tk → List UInt8
  | [] => []
  | t :: r => spell t ++ tailB r
theorem tailB_snoc (l : List Tk) (t : Tk) : tailB (l ++ [t]) = tailB l ++ 32 :: spell t := by unfold tailB; simp
theorem joinB_snoc (l : List Tk) (t : Tk) : joinB (l ++ [t]) = if l = [] then spell t else joinB l ++ 32 :: spell t := by
  cases l with
  | nil => rw [if_pos rfl]; unfold joinB tailB; simp
  | cons x r => rw [if_neg (by simp), List.cons_append]; show spell x ++ tailB (r ++ [t]) = (spell x ++ tailB r) ++ 32 :: spell t; rw [tailB_snoc, List.append_assoc]
theorem tail_gap (l : List Tk) : Gap (tailB l) := by
  intro b hb
  cases l with
  | nil => cases hb
  | cons t r =>
    unfold tailB at hb
    simp at hb
    subst hb
    rfl
theorem toks_tail (l : List Tk) (k c : Nat) (hl : ∀ t ∈ l, wrOk t = true) (hc : c + l.length ≤ 4096) : ∃ ts, toks (tailB l) k c = .good ts ∧ ts.map (Tk.out · 0) = l.map (Tk.out · 0) := by
  induction l generalizing k c with
  | nil => exact ⟨[], rfl, rfl⟩
  | cons t r ih =>
    simp only [List.length_cons] at hc
    obtain ⟨ts, h1, h2⟩ := ih (k + 1 + (spell t).length) (c + 1) (fun x hx => hl x (by simp [hx])) (by omega)
    refine ⟨t.out ((k + 1 : Nat) : Int) :: ts, ?_, ?_⟩
    · rw [show tailB (t :: r) = 32 :: (spell t ++ tailB r) by unfold tailB; simp, toks_blk rfl, toks_word (hl t (by simp)) (tail_gap r) (by omega), h1]
      rfl
    · rw [List.map_cons, List.map_cons, h2]
      rfl
theorem toks_join (l : List Tk) (k : Nat) (hl : ∀ t ∈ l, wrOk t = true) (hc : l.length ≤ 4096) : ∃ ts, toks (joinB l) k 0 = .good ts ∧ ts.map (Tk.out · 0) = l.map (Tk.out · 0) := by
  cases l with
  | nil => exact ⟨[], rfl, rfl⟩
  | cons t r =>
    simp only [List.length_cons] at hc
    obtain ⟨ts, h1, h2⟩ := toks_tail r (k + (spell t).length) 1 (fun x hx => hl x (by simp [hx])) (by omega)
    refine ⟨t.out (k : Int) :: ts, ?_, ?_⟩
    · rw [joinB, toks_word (hl t (by simp)) (tail_gap r) (by omega), h1]
      rfl
    · rw [List.map_cons, List.map_cons, h2]
      rfl
/-- With any gap behind each. -/
theorem toks_gaps (g : List UInt8) (hg : ∀ x ∈ g, isBlk x = true) (h0 : g ≠ []) (l : List Tk) (k c : Nat) (hl : ∀ t ∈ l, wrOk t = true) (hc : c + l.length ≤ 4096) : ∃ ts, toks (g ++ l.flatMap fun t => spell t ++ g) k c = .good ts ∧ ts.map (Tk.out · 0) = l.map (Tk.out · 0) := by
  induction l generalizing k c with
  | nil => exact ⟨[], by rw [List.flatMap_nil, toks_blanks _ _ _ _ hg]; rfl, rfl⟩
  | cons t r ih =>
    simp only [List.length_cons] at hc
    obtain ⟨ts, h1, h2⟩ := ih (k + g.length + (spell t).length) (c + 1) (fun x hx => hl x (by simp [hx])) (by omega)
    refine ⟨t.out ((k + g.length : Nat) : Int) :: ts, ?_, ?_⟩
    · rw [toks_blanks _ _ _ _ hg, List.flatMap_cons, List.append_assoc, toks_word (hl t (by simp)) ?_ (by omega), h1]
      · rfl
      · intro b hb
        cases g with
        | nil => exact absurd rfl h0
        | cons x y => simp at hb; exact hg b (by simp [hb])
    · rw [List.map_cons, List.map_cons, h2]
      rfl
/-- Each token stands where its place says, and blanks between. -/
def Pls : List Tk → List UInt8 → Nat → Prop
  | [], l, _ => ∀ x ∈ l, isBlk x = true
  | t :: r, l, k => ∃ j, (∀ x ∈ l.take j, isBlk x = true) ∧ t.pl = ((k + j : Nat) : Int) ∧ wrOk t = true ∧ spell t = (l.drop j).take (spell t).length ∧ 0 < (spell t).length ∧ j + (spell t).length ≤ l.length ∧ Pls r (l.drop (j + (spell t).length)) (k + j + (spell t).length)
theorem Pls.blk {ts : List Tk} {b : UInt8} {l : List UInt8} {k : Nat} (h : Pls ts l (k + 1)) (hb : isBlk b = true) : Pls ts (b :: l) k := by
  cases ts with
  | nil =>
    intro x hx
    rcases List.mem_cons.1 hx with rfl | hx
    · exact hb
    · exact h x hx
  | cons t r =>
    obtain ⟨j, h1, h2, h3, h4, h5, h6, h7⟩ := h
    refine ⟨j + 1, ?_, by rw [h2]; omega, h3, by rw [List.drop_succ_cons]; exact h4, h5, by simp; omega, ?_⟩
    · rw [List.take_succ_cons]
      intro x hx
      rcases List.mem_cons.1 hx with rfl | hx
      · exact hb
      · exact h1 x hx
    · rw [show j + 1 + (spell t).length = j + (spell t).length + 1 by omega, List.drop_succ_cons, show k + (j + 1) + (spell t).length = k + 1 + j + (spell t).length by omega]
      exact h7
theorem toks_pls (l : List UInt8) (k c : Nat) (ts : List Tk) (h : toks l k c = .good ts) : Pls ts l k := by
  revert ts
  refine toks_ind (P := fun l k c => ∀ ts, toks l k c = .good ts → Pls ts l k) ?_ ?_ ?_ ?_ ?_ l k c
  · intro k c ts h
    rw [toks_nil] at h
    cases h
    intro x hx
    cases hx
  · intro b r k c hb ih ts h
    rw [toks_blk hb] at h
    exact (ih ts h).blk hb
  · intro l k c h0 hb hn ts h
    rw [toks_none hn h0 hb] at h
    cases h
  · intro l k t n hn ts h
    rw [toks_many hn] at h
    cases h
  · intro l k c t n hn hc4 ih ts h
    rw [toks_some hn hc4] at h
    obtain ⟨r, hr, rfl⟩ := pre_good h
    obtain ⟨g1, g2, g3, _⟩ := tkR_some hn
    have e : (spell (t.out (k : Int))).length = n := by rw [spell_out, g3, List.length_take]; omega
    refine ⟨0, by simp, rfl, by rw [wrOk_out]; exact tkR_wr hn, ?_, by omega, by omega, ?_⟩
    · rw [e, spell_out, g3]; rfl
    · rw [e, Nat.zero_add]; exact ih r hr
theorem pre_bad {a : List Tk} {x : TR} {p : Nat} {q : Int} (h : x.pre a = .bad p q) : x = .bad p q := by
  cases x with
  | bad k c => exact h
  | good l => cases h
/-- What stands ahead of the place at which a text is refused is tokens. -/
theorem toks_stops (l : List UInt8) (k c p : Nat) (h : toks l k c = .bad p 100) : k ≤ p ∧ p < k + l.length ∧ ∃ ts, toks (l.take (p - k)) k c = .good ts := by
  refine toks_ind (P := fun l k c => toks l k c = .bad p 100 → k ≤ p ∧ p < k + l.length ∧ ∃ ts, toks (l.take (p - k)) k c = .good ts) ?_ ?_ ?_ ?_ ?_ l k c h
  · intro k c h
    cases h
  · intro b r k c hb ih h
    rw [toks_blk hb] at h
    obtain ⟨h1, h2, ts, h3⟩ := ih h
    refine ⟨by omega, by simp; omega, ts, ?_⟩
    rw [show p - k = p - (k + 1) + 1 by omega, List.take_succ_cons, toks_blk hb]
    exact h3
  · intro l k c h0 hb hn h
    rw [toks_none hn h0 hb] at h
    simp only [TR.bad.injEq, and_true] at h
    subst h
    refine ⟨Nat.le_refl _, ?_, [], ?_⟩
    · have : 0 < l.length := List.length_pos_iff.2 h0
      omega
    · rw [Nat.sub_self, List.take_zero]; rfl
  · intro l k t n hn h
    rw [toks_many hn] at h
    simp at h
  · intro l k c t n hn hc4 ih h
    rw [toks_some hn hc4] at h
    obtain ⟨h1, h2, ts, h3⟩ := ih (pre_bad h)
    obtain ⟨_, hl, _⟩ := tkR_some hn
    rw [List.length_drop] at h2
    refine ⟨by omega, by omega, t.out (k : Int) :: ts, ?_⟩
    rw [toks_some (tkR_take hn (by omega : n ≤ p - k)) hc4, List.drop_take, show p - k - n = p - (k + n) by omega, h3]
    rfl
end Go.Proofs.YtogklmljllocbabGreatDoor
