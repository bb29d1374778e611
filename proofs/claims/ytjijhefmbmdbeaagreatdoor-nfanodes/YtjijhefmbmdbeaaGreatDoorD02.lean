/-
  Tokens, plain: what is read stays when more or less stands behind; a whole text's tokens; what is joined is parted into the same tokens; places. Of no program.
  Expressions, plain: parts in prefix order, the stack that is folded from the back on, trees, kinds and depths. Of no program.
-/
import Derived.Test.YtjijhefmbmdbeaaGreatDoorD01
namespace Go.Proofs.YtjijhefmbmdbeaaGreatDoor

theorem take_in (l : List UInt8) {n k : Nat} (h : n ≤ k) : (l.take k).take n = l.take n := by rw [List.take_take, Nat.min_eq_left h]
/-- What is read stays when less stands behind it. -/
theorem tkR_take {l : List UInt8} {t : Tk} {n k : Nat} (h : tkR l = some (t, n)) (hk : n ≤ k) : tkR (l.take k) = some (t, n) := by
  have h0 := (tkR_some h).1
  cases l with
  | nil => cases h
  | cons b r =>
    obtain ⟨k, rfl⟩ : ∃ m, k = m + 1 := ⟨k - 1, by omega⟩
    have hs := fun p => spn_take p (b :: r) (k + 1)
    rw [List.take_succ_cons] at hs ⊢
    have htk : ∀ m, m ≤ k + 1 → (b :: r.take k).take m = (b :: r).take m := fun m hm => by rw [← List.take_succ_cons, take_in _ hm]
    rw [tkR] at h ⊢
    split at h
    · rename_i hb
      rw [if_pos hb]
      unfold tkW at h ⊢
      split at h
      · cases h
      · rename_i h32
        simp only [Option.some.injEq, Prod.mk.injEq] at h
        obtain ⟨rfl, rfl⟩ := h
        rw [hs, Nat.min_eq_left hk, if_neg h32, htk _ hk]
    · rename_i hb
      rw [if_neg hb]
      split at h
      · rename_i hd
        rw [if_pos hd]
        unfold tkN at h ⊢
        split at h
        · cases h
        · rename_i hz
          split at h
          · cases h
          · rename_i hv
            simp only [Option.some.injEq, Prod.mk.injEq] at h
            obtain ⟨rfl, rfl⟩ := h
            rw [hs, Nat.min_eq_left hk, htk _ hk, if_neg (by simpa using hz), if_neg hv]
      · rename_i hd
        rw [if_neg hd]
        split at h
        · rename_i hq
          rw [if_pos hq]
          unfold tkT at h ⊢
          split at h
          · cases h
          · rename_i h256
            split at h
            · rename_i hh
              simp only [Option.some.injEq, Prod.mk.injEq] at h
              obtain ⟨rfl, rfl⟩ := h
              rw [spn_take, Nat.min_eq_left (by omega : spn isIn r ≤ k), if_neg h256, take_in _ (by omega : spn isIn r ≤ k), List.head?_drop, List.getElem?_take_of_lt (by omega : spn isIn r < k), ← List.head?_drop, if_pos hh]
            · cases h
        · rename_i hq
          rw [if_neg hq]
          unfold tkS at h ⊢
          split at h
          · rename_i h2
            simp only [Option.some.injEq, Prod.mk.injEq] at h
            obtain ⟨rfl, rfl⟩ := h
            rw [if_pos ⟨h2.1, by
              obtain ⟨k, rfl⟩ : ∃ m, k = m + 1 := ⟨k - 1, by omega⟩
              cases r with
              | nil => exact h2.2
              | cons c r => exact h2.2⟩]
          · rename_i h2
            split at h
            · rename_i h1
              simp only [Option.some.injEq, Prod.mk.injEq] at h
              obtain ⟨rfl, rfl⟩ := h
              rw [if_neg (fun h3 => h2 ⟨h3.1, by
                cases k with
                | zero => simp at h3
                | succ k =>
                  cases r with
                  | nil => exact h3.2
                  | cons c r => exact h3.2⟩), if_pos h1]
            · cases h
/-- Nothing, or a blank, stands ahead. -/
def Gap (l : List UInt8) : Prop := ∀ b, l.head? = some b → isBlk b = true
theorem blk_iff (b : UInt8) : isBlk b = true ↔ b.toNat = 32 ∨ b.toNat = 10 := by unfold isBlk; simp
theorem Gap.spn {l : List UInt8} (h : Gap l) {p : UInt8 → Bool} (hp : ∀ b, isBlk b = true → p b = false) : spn p l = 0 := by
  cases l with
  | nil => rfl
  | cons b r => rw [Go.Proofs.YtjijhefmbmdbeaaGreatDoor.spn, if_neg (by simp [hp b (h b rfl)])]
/-- A token without its place. -/
def Tk.out (t : Tk) (p : Int) : Tk := { t with pl := p }
theorem spell_out (t : Tk) (p : Int) : spell (t.out p) = spell t := rfl
/-- Can a token come out? -/
def wrOk (t : Tk) : Bool := decide (t.s.size ≤ 256) && (match tkR (spell t) with | some (u, _) => tkEq u (t.out 0) | none => false)
theorem wrOk_iff (t : Tk) : wrOk t = true ↔ t.s.size ≤ 256 ∧ tkR (spell t) = some (t.out 0, (spell t).length) := by
  unfold wrOk
  rw [Bool.and_eq_true, decide_eq_true_eq]
  constructor
  · rintro ⟨h1, h2⟩
    refine ⟨h1, ?_⟩
    split at h2
    · rename_i u n hu
      obtain rfl := (tkEq_iff _ _).1 h2
      obtain ⟨_, h3, h4, _⟩ := tkR_some hu
      rw [spell_out] at h4
      have := congrArg List.length h4
      rw [List.length_take] at this
      rw [hu, show n = (spell t).length by omega]
    · cases h2
  · rintro ⟨h1, h2⟩
    rw [h2]
    exact ⟨h1, (tkEq_iff _ _).2 rfl⟩
theorem wrOk_out (t : Tk) (p : Int) : wrOk (t.out p) = wrOk t := rfl
theorem tkR_wr {l : List UInt8} {t : Tk} {n : Nat} (h : tkR l = some (t, n)) : wrOk t = true := by
  obtain ⟨_, h3, h4, h5, _, _, h6, _⟩ := tkR_some h
  rw [wrOk_iff]
  refine ⟨h6, ?_⟩
  rw [h4, tkR_take h (Nat.le_refl n), List.length_take, Nat.min_eq_left h3, show t.out 0 = t from by unfold Tk.out; rw [← h5]]
/-- What a whole text is: refused at a place, or tokens. -/
inductive TR where
  | bad (k : Nat) (c : Int)
  | good (l : List Tk)
def TR.pre (a : List Tk) : TR → TR
  | .bad k c => .bad k c
  | .good l => .good (a ++ l)
theorem TR.pre_pre (a b : List Tk) (x : TR) : (x.pre b).pre a = x.pre (a ++ b) := by cases x <;> simp [TR.pre]
theorem TR.pre_nil (x : TR) : x.pre [] = x := by cases x <;> simp [TR.pre]
def tkG : Nat → List UInt8 → Nat → Nat → TR
  | 0, _, _, _ => .good []
  | _ + 1, [], _, _ => .good []
  | f + 1, b :: r, k, c =>
    if isBlk b then tkG f r (k + 1) c else
    match tkR (b :: r) with
    | none => .bad k 100
    | some (t, n) => if c = 4096 then .bad k 2 else (tkG f ((b :: r).drop n) (k + n) (c + 1)).pre [t.out (k : Int)]
theorem tkG_fuel (f g : Nat) (l : List UInt8) (k c : Nat) (hf : l.length ≤ f) (hg : l.length ≤ g) : tkG f l k c = tkG g l k c := by
  induction f generalizing g l k c with
  | zero =>
    obtain rfl := List.eq_nil_of_length_eq_zero (Nat.le_zero.1 hf)
    cases g <;> rfl
  | succ f ih =>
    cases l with
    | nil => cases g <;> rfl
    | cons b r =>
      cases g with
      | zero => simp at hg
      | succ g =>
        simp only [List.length_cons] at hf hg
        rw [tkG, tkG]
        split
        · exact ih g r (k + 1) c (by omega) (by omega)
        · split
          · rfl
          · rename_i t n h
            have h0 := (tkR_some h).1
            split
            · rfl
            · rw [ih g _ _ _ (by simp; omega) (by simp; omega)]
/-- The tokens of a text, from a place on, behind so many. -/
def toks (l : List UInt8) (k c : Nat) : TR := tkG l.length l k c
theorem toks_nil (k c : Nat) : toks [] k c = .good [] := rfl
theorem toks_blk {b : UInt8} {r : List UInt8} {k c : Nat} (h : isBlk b = true) : toks (b :: r) k c = toks r (k + 1) c := by
  unfold toks
  rw [List.length_cons, tkG, if_pos h]
theorem toks_none {l : List UInt8} {k c : Nat} (h : tkR l = none) (h0 : l ≠ []) (hb : spn isBlk l = 0) : toks l k c = .bad k 100 := by
  cases l with
  | nil => exact absurd rfl h0
  | cons b r =>
    have hb' : ¬ isBlk b = true := fun e => by rw [spn, if_pos e] at hb; omega
    unfold toks
    rw [List.length_cons, tkG, if_neg hb', h]
theorem toks_many {l : List UInt8} {k : Nat} {t : Tk} {n : Nat} (h : tkR l = some (t, n)) : toks l k 4096 = .bad k 2 := by
  obtain ⟨_, _, _, _, _, _, _, _, _, ⟨b, hb, hbk⟩, _⟩ := tkR_some h
  cases l with
  | nil => cases hb
  | cons b r =>
    simp at hb
    subst hb
    unfold toks
    rw [List.length_cons, tkG, if_neg (by simp [hbk]), h]
    rfl
theorem toks_some {l : List UInt8} {k c : Nat} {t : Tk} {n : Nat} (h : tkR l = some (t, n)) (hc : c ≠ 4096) : toks l k c = (toks (l.drop n) (k + n) (c + 1)).pre [t.out (k : Int)] := by
  obtain ⟨h0, hl, _, _, _, _, _, _, _, ⟨b, hb, hbk⟩, _⟩ := tkR_some h
  cases l with
  | nil => cases hb
  | cons b r =>
    simp at hb
    subst hb
    unfold toks
    rw [List.length_cons, tkG, if_neg (by simp [hbk]), h]
    dsimp only
    rw [if_neg hc, tkG_fuel r.length ((List.drop n (b :: r)).length) _ _ _ (by simp; omega) (Nat.le_refl _)]
theorem toks_gap (l : List UInt8) (k c : Nat) : toks l k c = toks (l.drop (spn isBlk l)) (k + spn isBlk l) c := by
  induction l generalizing k with
  | nil => rfl
  | cons b r ih =>
    by_cases h : isBlk b = true
    · rw [toks_blk h, ih, spn, if_pos h, List.drop_succ_cons, Nat.add_assoc, Nat.add_comm 1]
    · rw [spn, if_neg h]; rfl
theorem toks_blanks (g l : List UInt8) (k c : Nat) (hg : ∀ x ∈ g, isBlk x = true) : toks (g ++ l) k c = toks l (k + g.length) c := by
  induction g generalizing k with
  | nil => rfl
  | cons b r ih => rw [List.cons_append, toks_blk (hg b (by simp)), ih _ (fun x hx => hg x (by simp [hx])), List.length_cons, Nat.add_assoc, Nat.add_comm 1]
/-- By the length of a text: nothing, a blank ahead, or none. -/
theorem toks_ind {P : List UInt8 → Nat → Nat → Prop} (h0 : ∀ k c, P [] k c) (h1 : ∀ b r k c, isBlk b = true → P r (k + 1) c → P (b :: r) k c)
    (h2 : ∀ l k c, l ≠ [] → spn isBlk l = 0 → tkR l = none → P l k c) (h3 : ∀ l k t n, tkR l = some (t, n) → P l k 4096)
    (h4 : ∀ l k c t n, tkR l = some (t, n) → c ≠ 4096 → P (l.drop n) (k + n) (c + 1) → P l k c) : ∀ l k c, P l k c := by
  intro l
  induction hl : l.length using Nat.strongRecOn generalizing l with
  | _ m ih =>
    intro k c
    cases l with
    | nil => exact h0 k c
    | cons b r =>
      by_cases hb : isBlk b = true
      · exact h1 b r k c hb (ih r.length (by rw [← hl]; simp) r rfl _ _)
      · cases h : tkR (b :: r) with
        | none => exact h2 _ k c (by simp) (by rw [spn, if_neg hb]) h
        | some x =>
          obtain ⟨t, n⟩ := x
          have hn := (tkR_some h).1
          by_cases hc : c = 4096
          · subst hc; exact h3 _ k t n h
          · exact h4 _ k c t n h hc (ih _ (by rw [← hl, List.length_drop]; simp; omega) _ rfl _ _)
theorem pre_good {a : List Tk} {x : TR} {ts : List Tk} (h : x.pre a = .good ts) : ∃ r, x = .good r ∧ ts = a ++ r := by
  cases x with
  | bad k c => cases h
  | good l => exact ⟨l, rfl, by simpa [TR.pre] using h.symm⟩
/-- Tokens that come out can be written, and are not too many. -/
theorem toks_ok (l : List UInt8) (k c : Nat) (ts : List Tk) (h : toks l k c = .good ts) (hc : c ≤ 4096) : c + ts.length ≤ 4096 ∧ ∀ t ∈ ts, wrOk t = true := by
  revert ts
  refine toks_ind (P := fun l k c => ∀ ts, toks l k c = .good ts → c ≤ 4096 → c + ts.length ≤ 4096 ∧ ∀ t ∈ ts, wrOk t = true) ?_ ?_ ?_ ?_ ?_ l k c |> fun g ts h => g ts h hc
  · intro k c ts h hc
    rw [toks_nil] at h
    cases h
    exact ⟨by simpa using hc, by simp⟩
  · intro b r k c hb ih ts h hc
    rw [toks_blk hb] at h
    exact ih ts h hc
  · intro l k c h0 hb hn ts h
    rw [toks_none hn h0 hb] at h
    cases h
  · intro l k t n hn ts h
    rw [toks_many hn] at h
    cases h
  · intro l k c t n hn hc4 ih ts h hc
    rw [toks_some hn hc4] at h
    obtain ⟨r, hr, rfl⟩ := pre_good h
    obtain ⟨i1, i2⟩ := ih r hr (by omega)
    refine ⟨by simp; omega, fun u hu => ?_⟩
    simp at hu
    rcases hu with rfl | hu
    · rw [wrOk_out]; exact tkR_wr hn
    · exact i2 u hu
/-- Joined with one blank between two. -/
def tailB (l : List Tk) : List UInt8 := l.flatMap fun t => 32 :: spell t
def joinB : List Tk → List UInt8
  | [] => []
  | t :: r => spell t ++ tailB r
theorem tailB_snoc (l : List Tk) (t : Tk) : tailB (l ++ [t]) = tailB l ++ 32 :: spell t := by unfold tailB; simp
theorem joinB_snoc (l : List Tk) (t : Tk) : joinB (l ++ [t]) = if l = [] then spell t else joinB l ++ 32 :: spell t := by
  cases l with
  | nil => rw [if_pos rfl]; unfold joinB tailB; simp
  | cons x r => rw [if_neg (by simp), List.cons_append]; show spell x ++ tailB (r ++ [t]) = (spell x ++ tailB r) ++ 32 :: spell t; rw [tailB_snoc, List.append_assoc]
theorem pre_bad {a : List Tk} {x : TR} {p : Nat} {q : Int} (h : x.pre a = .bad p q) : x = .bad p q := by
  cases x with
  | bad k c => exact h
  | good l => cases h
end Go.Proofs.YtjijhefmbmdbeaaGreatDoor
namespace Go.Proofs.YtjijhefmbmdbeaaGreatDoor

/-- A part of an expression. -/
structure Pt where
  kd : Int
  n : Int
  s : ByteArray
  st : ByteArray
  fl : Int
/-- How many sides an operation has. -/
def sds (k : Int) : Nat := if 4 ≤ k ∧ k ≤ 12 then 2 else if k = 13 then 1 else 0
theorem sds_le (k : Int) : sds k ≤ 2 := by unfold sds; split; omega; split <;> omega
/-- The stack, from the back on: what is no operation's side yet, the foremost first. -/
def stk {α : Type} (ev : Pt → List α → α) : List Pt → Option (List α)
  | [] => some []
  | p :: r => match stk ev r with
    | none => none
    | some l => if l.length < sds p.kd then none else some (ev p (l.take (sds p.kd)) :: l.drop (sds p.kd))
def fdX {α : Type} (ev : Pt → List α → α) (x : List Pt) : Option α := match stk ev x with
  | some [a] => some a
  | _ => none
inductive Ex where
  | lf (p : Pt)
  | un (p : Pt) (a : Ex)
  | bi (p : Pt) (a b : Ex)
def Ex.flat : Ex → List Pt
  | .lf p => [p]
  | .un p a => p :: a.flat
  | .bi p a b => p :: (a.flat ++ b.flat)
def Ex.wf : Ex → Prop
  | .lf p => sds p.kd = 0
  | .un p a => sds p.kd = 1 ∧ a.wf
  | .bi p a b => sds p.kd = 2 ∧ a.wf ∧ b.wf
def Ex.val {α : Type} (ev : Pt → List α → α) : Ex → α
  | .lf p => ev p []
  | .un p a => ev p [a.val ev]
  | .bi p a b => ev p [a.val ev, b.val ev]
theorem Ex.flat_pos (t : Ex) : 0 < t.flat.length := by cases t <;> simp [Ex.flat]
theorem stk_flat {α : Type} (ev : Pt → List α → α) (t : Ex) (h : t.wf) (r : List Pt) : stk ev (t.flat ++ r) = (stk ev r).map (t.val ev :: ·) := by
  induction t generalizing r with
  | lf p =>
    rw [Ex.wf] at h
    rw [Ex.flat, List.singleton_append, stk, Ex.val, h]
    cases stk ev r <;> simp
  | un p a ih =>
    rw [Ex.wf] at h
    rw [Ex.flat, List.cons_append, stk, ih h.2, Ex.val, h.1]
    cases stk ev r <;> simp
  | bi p a b iha ihb =>
    rw [Ex.wf] at h
    rw [Ex.flat, List.cons_append, List.append_assoc, stk, iha h.2.1, ihb h.2.2, Ex.val, h.1]
    cases stk ev r <;> simp
theorem stk_some {α : Type} (ev : Pt → List α → α) (x : List Pt) (l : List α) (h : stk ev x = some l) : ∃ ts : List Ex, (∀ t ∈ ts, t.wf) ∧ x = ts.flatMap Ex.flat ∧ l = ts.map (Ex.val ev) := by
  induction x generalizing l with
  | nil => simp [stk] at h; exact ⟨[], by simp, by simp, by simp [h]⟩
  | cons p r ih =>
    rw [stk] at h
    cases hr : stk ev r with
    | none => rw [hr] at h; cases h
    | some m =>
      rw [hr] at h
      dsimp only at h
      obtain ⟨ts, h1, h2, h3⟩ := ih m hr
      split at h
      · cases h
      · rename_i hn
        have hsd := sds_le p.kd
        simp only [Option.some.injEq] at h
        subst h
        subst h3
        rw [List.length_map] at hn
        match hk : sds p.kd, ts, hn with
        | 0, ts, _ =>
          exact ⟨.lf p :: ts, by intro t ht; rcases List.mem_cons.1 ht with rfl | ht; exact hk; exact h1 t ht, by rw [List.flatMap_cons, h2]; rfl, by simp [Ex.val]⟩
        | 1, a :: ts, _ =>
          exact ⟨.un p a :: ts, by intro t ht; rcases List.mem_cons.1 ht with rfl | ht; exact ⟨hk, h1 a (by simp)⟩; exact h1 t (by simp [ht]), by rw [List.flatMap_cons, h2, List.flatMap_cons]; rfl, by simp [Ex.val]⟩
        | 2, a :: b :: ts, _ =>
          exact ⟨.bi p a b :: ts, by intro t ht; rcases List.mem_cons.1 ht with rfl | ht; exact ⟨hk, h1 a (by simp), h1 b (by simp)⟩; exact h1 t (by simp [ht]), by rw [List.flatMap_cons, h2, List.flatMap_cons, List.flatMap_cons]; simp [Ex.flat], by simp [Ex.val]⟩
        | 1, [], hn => simp at hn
        | 2, [], hn => simp at hn
        | 2, [_], hn => simp at hn
        | n + 3, _, _ => omega
theorem fdX_flat {α : Type} (ev : Pt → List α → α) (t : Ex) (h : t.wf) : fdX ev t.flat = some (t.val ev) := by
  have := stk_flat ev t h []
  rw [List.append_nil] at this
  unfold fdX
  rw [this]
  rfl
theorem fdX_some {α : Type} {ev : Pt → List α → α} {x : List Pt} {a : α} (h : fdX ev x = some a) : ∃ t : Ex, t.wf ∧ x = t.flat ∧ a = t.val ev := by
  unfold fdX at h
  split at h
  · rename_i b hb
    obtain ⟨ts, h1, h2, h3⟩ := stk_some ev x [b] hb
    match ts, h3 with
    | [t], h3 =>
      simp at h3 h
      subst h
      exact ⟨t, h1 t (by simp), by rw [h2]; simp, h3⟩
  · cases h
def emptyB (s : ByteArray) : Bool := s.size == 0
/-- Has a part only its kind? -/
def bareP (p : Pt) : Bool := decide (p.n = 0) && (emptyB p.s && (emptyB p.st && decide (p.fl = 0)))
/-- A text of chapter 10. -/
def isTx (s : ByteArray) : Bool := decide (s.size ≤ 256) && decide (spn isIn s.data.toList = s.size)
/-- The words of fields. -/
def fldW : List (List UInt8) := [[110, 48], [110, 49], [110, 50], [110, 51], [116, 121, 112, 101], [116, 101, 120, 116]]
def fldOf (s : List UInt8) : Int := if s = [110, 48] then 0 else if s = [110, 49] then 1 else if s = [110, 50] then 2 else if s = [110, 51] then 3 else if s = [116, 121, 112, 101] then 4 else if s = [116, 101, 120, 116] then 5 else -1
/-- May a stage have it as its name? -/
def freeW (s : List UInt8) : Bool := !(decide (s = [111, 114]) || decide (s = [97, 110, 100]) || decide (s = [110, 111, 116])) && decide (fldOf s < 0)
def isSg (s : ByteArray) : Bool := decide (0 < s.size) && decide (s.size ≤ 32) && (match s.data.toList.head? with | some b => isLet b | none => false) && decide (spn isAln s.data.toList = s.size) && freeW s.data.toList
def fldK (f : Int) : Int := if f = 4 ∨ f = 5 then 2 else if 0 ≤ f ∧ f < 4 then 1 else 0
/-- The kind of a leaf; 0: it may not be. -/
def lfK (p : Pt) : Int :=
  if p.kd = 1 ∧ emptyB p.s = true ∧ emptyB p.st = true ∧ p.fl = 0 ∧ 0 ≤ p.n then 1
  else if p.kd = 2 ∧ p.n = 0 ∧ emptyB p.st = true ∧ p.fl = 0 ∧ isTx p.s = true then 2
  else if p.kd = 3 ∧ p.n = 0 ∧ emptyB p.s = true ∧ (emptyB p.st = true ∨ isSg p.st = true) then fldK p.fl
  else 0
/-- The kind of an operation; 0: it may not be. -/
def opK (k a b : Int) : Int :=
  if 4 ≤ k ∧ k ≤ 6 then (if a = 1 ∧ b = 1 then 1 else 0)
  else if 7 ≤ k ∧ k ≤ 8 then (if a = 1 ∧ b = 1 then 3 else 0)
  else if 9 ≤ k ∧ k ≤ 10 then (if a = b ∧ (a = 1 ∨ a = 2) then 3 else 0)
  else if 11 ≤ k ∧ k ≤ 12 then (if a = 3 ∧ b = 3 then 3 else 0)
  else if k = 13 then (if a = 3 then 3 else 0)
  else 0
structure Sh where
  kd : Int
  dp : Int
def shp (p : Pt) : List Sh → Sh
  | [] => ⟨lfK p, 1⟩
  | [a] => ⟨if bareP p then opK p.kd a.kd 0 else 0, 1 + max a.dp 0⟩
  | a :: b :: _ => ⟨if bareP p then opK p.kd a.kd b.kd else 0, 1 + max a.dp b.dp⟩
/-- What Check tells: 0 of what may not be. -/
def ckK (x : List Pt) : Int := if 200 < x.length then 0 else match fdX shp x with
  | some s => if s.dp > 32 then 0 else s.kd
  | none => 0
def Ex.kd (t : Ex) : Int := (t.val shp).kd
def Ex.dp (t : Ex) : Int := (t.val shp).dp
theorem ckK_flat (t : Ex) (h : t.wf) : ckK t.flat = if 200 < t.flat.length then 0 else if t.dp > 32 then 0 else t.kd := by
  unfold ckK
  rw [fdX_flat shp t h]
  rfl
theorem ckK_some {x : List Pt} (h : ckK x ≠ 0) : ∃ t : Ex, t.wf ∧ x = t.flat ∧ t.kd = ckK x ∧ t.dp ≤ 32 ∧ x.length ≤ 200 := by
  unfold ckK at h ⊢
  split at h
  · exact absurd rfl h
  · rename_i hl
    rw [if_neg hl]
    cases hf : fdX shp x with
    | none => rw [hf] at h; exact absurd rfl h
    | some s =>
      rw [hf] at h
      dsimp only at h ⊢
      split at h
      · exact absurd rfl h
      · rename_i hd
        obtain ⟨t, h1, h2, h3⟩ := fdX_some hf
        subst h3
        rw [if_neg hd]
        exact ⟨t, h1, h2, rfl, by unfold Ex.dp; omega, by omega⟩
theorem opK_range (k a b : Int) : opK k a b = 0 ∨ opK k a b = 1 ∨ opK k a b = 3 := by
  unfold opK
  repeat' split
  all_goals simp
theorem lfK_range (p : Pt) : lfK p = 0 ∨ lfK p = 1 ∨ lfK p = 2 := by
  unfold lfK fldK
  repeat' split
  all_goals simp
theorem shp_kd (p : Pt) (l : List Sh) : 0 ≤ (shp p l).kd ∧ (shp p l).kd ≤ 3 := by
  unfold shp
  split
  · have := lfK_range p; dsimp only; omega
  · dsimp only; split
    · have := opK_range p.kd (by assumption : Sh).kd 0; omega
    · omega
  · dsimp only; split
    · rename_i a b _ _; have := opK_range p.kd a.kd b.kd; omega
    · omega
theorem Ex.kd_range (t : Ex) : 0 ≤ t.kd ∧ t.kd ≤ 3 := by cases t <;> exact shp_kd _ _
theorem Ex.dp_pos (t : Ex) : 1 ≤ t.dp := by
  induction t with
  | lf p => exact Int.le_refl _
  | un p a ih => show 1 ≤ 1 + max a.dp 0; omega
  | bi p a b ih _ => show 1 ≤ 1 + max a.dp b.dp; omega
/-- The depth of a tree. -/
def Ex.dn : Ex → Nat
  | .lf _ => 1
  | .un _ a => a.dn + 1
  | .bi _ a b => max a.dn b.dn + 1
theorem Ex.dp_dn (t : Ex) : t.dp = (t.dn : Int) := by
  induction t with
  | lf p => rfl
  | un p a ih => show 1 + max a.dp 0 = ((a.dn + 1 : Nat) : Int); rw [ih]; omega
  | bi p a b iha ihb => show 1 + max a.dp b.dp = ((max a.dn b.dn + 1 : Nat) : Int); rw [iha, ihb]; omega
end Go.Proofs.YtjijhefmbmdbeaaGreatDoor
