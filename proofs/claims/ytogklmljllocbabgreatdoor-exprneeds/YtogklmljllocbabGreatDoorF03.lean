/-
  Expressions, plain: parts in prefix order, the stack that is folded from the back on, trees, kinds and depths. Of no program.
  Expressions, plain: how tokens are read. Of no program.
-/
import Derived.Test.YtogklmljllocbabGreatDoorF02
namespace Go.Proofs.YtogklmljllocbabGreatDoor

/-- A part of an expression. -/
structure Pt where
  kd : Int
  n : Int
  s : ByteArray
  st : ByteArray
  fl : Int
/-- How many sides an operation has. -/
def sds (k : Int) : Nat := if 4 ≤ k ∧ k ≤ 12 then 2 else if k = 13 then 1 else 0
theorem sds_le (k : Int) : sds k ≤ 2 := by unfold sds; split; omega; split <;> omega
/-- The stack, from the back on: what is no operation's side yet, the foremost first. -/
def stk {α : Type} (ev : Pt → List α → α) : List Pt → Option (List α)
  | [] => some []
  | p :: r => match stk ev r with
    | none => none
    | some l => if l.length < sds p.kd then none else some (ev p (l.take (sds p.kd)) :: l.drop (sds p.kd))
def fdX {α : Type} (ev : Pt → List α → α) (x : List Pt) : Option α := match stk ev x with
  | some [a] => some a
  | _ => none
inductive Ex where
  | lf (p : Pt)
  | un (p : Pt) (a : Ex)
  | bi (p : Pt) (a b : Ex)
def Ex.flat : Ex → List Pt
  | .lf p => [p]
  | .un p a => p :: a.flat
  | .bi p a b => p :: (a.flat ++ b.flat)
def Ex.wf : Ex → Prop
  | .lf p => sds p.kd = 0
  | .un p a => sds p.kd = 1 ∧ a.wf
  | .bi p a b => sds p.kd = 2 ∧ a.wf ∧ b.wf
def Ex.val {α : Type} (ev : Pt → List α → α) : Ex → α
  | .lf p => ev p []
  | .un p a => ev p [a.val ev]
  | .bi p a b => ev p [a.val ev, b.val ev]
theorem Ex.flat_pos (t : Ex) : 0 < t.flat.length := by cases t <;> simp [Ex.flat]
theorem stk_flat {α : Type} (ev : Pt → List α → α) (t : Ex) (h : t.wf) (r : List Pt) : stk ev (t.flat ++ r) = (stk ev r).map (t.val ev :: ·) := by
  induction t generalizing r with
  | lf p =>
    rw [Ex.wf] at h
    rw [Ex.flat, List.singleton_append, stk, Ex.val, h]
    cases stk ev r <;> simp
  | un p a ih =>
    rw [Ex.wf] at h
    rw [Ex.flat, List.cons_append, stk, ih h.2, Ex.val, h.1]
    cases stk ev r <;> simp
  | bi p a b iha ihb =>
    rw [Ex.wf] at h
    rw [Ex.flat, List.cons_append, List.append_assoc, stk, iha h.2.1, ihb h.2.2, Ex.val, h.1]
    cases stk ev r <;> simp
theorem stk_some {α : Type} (ev : Pt → List α → α) (x : List Pt) (l : List α) (h : stk ev x = some l) : ∃ ts : List Ex, (∀ t ∈ ts, t.wf) ∧ x = ts.flatMap Ex.flat ∧ l = ts.map (Ex.val ev) := by
  induction x generalizing l with
  | nil => simp [stk] at h; exact ⟨[], by simp, by simp, by simp [h]⟩
  | cons p r ih =>
    rw [stk] at h
    cases hr : stk ev r with
    | none => rw [hr] at h; cases h
    | some m =>
      rw [hr] at h
      dsimp only at h
      obtain ⟨ts, h1, h2, h3⟩ := ih m hr
      split at h
      · cases h
      · rename_i hn
        have hsd := sds_le p.kd
        simp only [Option.some.injEq] at h
        subst h
        subst h3
        rw [List.length_map] at hn
        match hk : sds p.kd, ts, hn with
        | 0, ts, _ =>
          exact ⟨.lf p :: ts, by intro t ht; rcases List.mem_cons.1 ht with rfl | ht; exact hk; exact h1 t ht, by rw [List.flatMap_cons, h2]; rfl, by simp [Ex.val]⟩
        | 1, a :: ts, _ =>
          exact ⟨.un p a :: ts, by intro t ht; rcases List.mem_cons.1 ht with rfl | ht; exact ⟨hk, h1 a (by simp)⟩; exact h1 t (by simp [ht]), by rw [List.flatMap_cons, h2, List.flatMap_cons]; rfl, by simp [Ex.val]⟩
        | 2, a :: b :: ts, _ =>
          exact ⟨.bi p a b :: ts, by intro t ht; rcases List.mem_cons.1 ht with rfl | ht; exact ⟨hk, h1 a (by simp), h1 b (by simp)⟩; exact h1 t (by simp [ht]), by rw [List.flatMap_cons, h2, List.flatMap_cons, List.flatMap_cons]; simp [Ex.flat], by simp [Ex.val]⟩
        | 1, [], hn => simp at hn
        | 2, [], hn => simp at hn
        | 2, [_], hn => simp at hn
        | n + 3, _, _ => omega
theorem fdX_flat {α : Type} (ev : Pt → List α → α) (t : Ex) (h : t.wf) : fdX ev t.flat = some (t.val ev) := by
  have := stk_flat ev t h []
  rw [List.append_nil] at this
  unfold fdX
  rw [this]
  rfl
theorem fdX_some {α : Type} {ev : Pt → List α → α} {x : List Pt} {a : α} (h : fdX ev x = some a) : ∃ t : Ex, t.wf ∧ x = t.flat ∧ a = t.val ev := by
  unfold fdX at h
  split at h
  · rename_i b hb
    obtain ⟨ts, h1, h2, h3⟩ := stk_some ev x [b] hb
    match ts, h3 with
    | [t], h3 =>
      simp at h3 h
      subst h
      exact ⟨t, h1 t (by simp), by rw [h2]; simp, h3⟩
  · cases h
/-- Where there is one tree, each fold is of it; where there is none, none is. -/
theorem fdX_none {α β : Type} {ev : Pt → List α → α} {ev' : Pt → List β → β} {x : List Pt} (h : fdX ev x = none) : fdX ev' x = none := by
  cases h' : fdX ev' x with
  | none => rfl
  | some b =>
    obtain ⟨t, h1, rfl, _⟩ := fdX_some h'
    rw [fdX_flat ev t h1] at h
    cases h

def emptyB (s : ByteArray) : Bool := s.size == 0
/-- Has a part only its kind? -/
def bareP (p : Pt) : Bool := decide (p.n = 0) && (emptyB p.s && (emptyB p.st && decide (p.fl = 0)))
/-- A text of chapter 10. -/
def isTx (s : ByteArray) : Bool := decide (s.size ≤ 256) && decide (spn isIn s.data.toList = s.size)
/-- The words of fields. -/
def fldW : List (List UInt8) := [[110, 48], [110, 49], [110, 50], [110, 51], [116, 121, 112, 101], [116, 101, 120, 116]]
def fldOf (s : List UInt8) : Int := if s = [110, 48] then 0 else if s = [110, 49] then 1 else if s = [110, 50] then 2 else if s = [110, 51] then 3 else if s = [116, 121, 112, 101] then 4 else if s = [116, 101, 120, 116] then 5 else -1
/-- May a stage have it as its name? -/
def freeW (s : List UInt8) : Bool := !(decide (s = [111, 114]) || decide (s = [97, 110, 100]) || decide (s = [110, 111, 116])) && decide (fldOf s < 0)
def isSg (s : ByteArray) : Bool := decide (0 < s.size) && decide (s.size ≤ 32) && (match s.data.toList.head? with | some b => isLet b | none => false) && decide (spn isAln s.data.toList = s.size) && freeW s.data.toList
def fldK (f : Int) : Int := if f = 4 ∨ f = 5 then 2 else if 0 ≤ f ∧ f < 4 then 1 else 0
/-- The kind of a leaf; 0: it may not be. -/
def lfK (p : Pt) : Int :=
  if p.kd = 1 ∧ emptyB p.s = true ∧ emptyB p.st = true ∧ p.fl = 0 ∧ 0 ≤ p.n then 1
  else if p.kd = 2 ∧ p.n = 0 ∧ emptyB p.st = true ∧ p.fl = 0 ∧ isTx p.s = true then 2
  else if p.kd = 3 ∧ p.n = 0 ∧ emptyB p.s = true ∧ (emptyB p.st = true ∨ isSg p.st = true) then fldK p.fl
  else 0
/-- The kind of an operation; 0: it may not be. -/
def opK (k a b : Int) : Int :=
  if 4 ≤ k ∧ k ≤ 6 then (if a = 1 ∧ b = 1 then 1 else 0)
  else if 7 ≤ k ∧ k ≤ 8 then (if a = 1 ∧ b = 1 then 3 else 0)
  else if 9 ≤ k ∧ k ≤ 10 then (if a = b ∧ (a = 1 ∨ a = 2) then 3 else 0)
  else if 11 ≤ k ∧ k ≤ 12 then (if a = 3 ∧ b = 3 then 3 else 0)
  else if k = 13 then (if a = 3 then 3 else 0)
  else 0
structure Sh where
  kd : Int
  dp : Int
def shp (p : Pt) : List Sh → Sh
  | [] => ⟨lfK p, 1⟩
  | [a] => ⟨if bareP p then opK p.kd a.kd 0 else 0, 1 + max a.dp 0⟩
  | a :: b :: _ => ⟨if bareP p then opK p.kd a.kd b.kd else 0, 1 + max a.dp b.dp⟩
/-- What Check tells: 0 of what may not be. -/
def ckK (x : List Pt) : Int := if 200 < x.length then 0 else match fdX shp x with
  | some s => if s.dp > 32 then 0 else s.kd
  | none => 0
def Ex.kd (t : Ex) : Int := (t.val shp).kd
def Ex.dp (t : Ex) : Int := (t.val shp).dp
theorem ckK_flat (t : Ex) (h : t.wf) : ckK t.flat = if 200 < t.flat.length then 0 else if t.dp > 32 then 0 else t.kd := by
  unfold ckK
  rw [fdX_flat shp t h]
  rfl
theorem ckK_some {x : List Pt} (h : ckK x ≠ 0) : ∃ t : Ex, t.wf ∧ x = t.flat ∧ t.kd = ckK x ∧ t.dp ≤ 32 ∧ x.length ≤ 200 := by
  unfold ckK at h ⊢
  split at h
  · exact absurd rfl h
  · rename_i hl
    rw [if_neg hl]
    cases hf : fdX shp x with
    | none => rw [hf] at h; exact absurd rfl h
    | some s =>
      rw [hf] at h
      dsimp only at h ⊢
      split at h
      · exact absurd rfl h
      · rename_i hd
        obtain ⟨t, h1, h2, h3⟩ := fdX_some hf
        subst h3
        rw [if_neg hd]
        exact ⟨t, h1, h2, rfl, by unfold Ex.dp; omega, by omega⟩
theorem opK_range (k a b : Int) : opK k a b = 0 ∨ opK k a b = 1 ∨ opK k a b = 3 := by
  unfold opK
  repeat' split
  all_goals simp
theorem lfK_range (p : Pt) : lfK p = 0 ∨ lfK p = 1 ∨ lfK p = 2 := by
  unfold lfK fldK
  repeat' split
  all_goals simp
theorem shp_kd (p : Pt) (l : List Sh) : 0 ≤ (shp p l).kd ∧ (shp p l).kd ≤ 3 := by
  unfold shp
  split
  · have := lfK_range p; dsimp only; omega
  · dsimp only; split
    · have := opK_range p.kd (by assumption : Sh).kd 0; omega
    · omega
  · dsimp only; split
    · rename_i a b _ _; have := opK_range p.kd a.kd b.kd; omega
    · omega
theorem Ex.kd_range (t : Ex) : 0 ≤ t.kd ∧ t.kd ≤ 3 := by cases t <;> exact shp_kd _ _
theorem Ex.dp_pos (t : Ex) : 1 ≤ t.dp := by
  induction t with
  | lf p => exact Int.le_refl _
  | un p a ih => show 1 ≤ 1 + max a.dp 0; omega
  | bi p a b ih _ => show 1 ≤ 1 + max a.dp b.dp; omega
/-- The depth of a tree. -/
def Ex.dn : Ex → Nat
  | .lf _ => 1
  | .un _ a => a.dn + 1
  | .bi _ a b => max a.dn b.dn + 1
theorem Ex.dp_dn (t : Ex) : t.dp = (t.dn : Int) := by
  induction t with
  | lf p => rfl
  | un p a ih => show 1 + max a.dp 0 = ((a.dn + 1 : Nat) : Int); rw [ih]; omega
  | bi p a b iha ihb => show 1 + max a.dp b.dp = ((max a.dn b.dn + 1 : Nat) : Int); rw [iha, ihb]; omega
end Go.Proofs.YtogklmljllocbabGreatDoor
namespace Go.Proofs.YtogklmljllocbabGreatDoor

/-- What a word or a sign says. -/
def wdT (t : Tk) : List UInt8 := if t.kd = 1 ∨ t.kd = 4 then t.s.data.toList else []
def sgO (k : Int) : List UInt8 := if k = 4 then [43] else if k = 5 then [45] else if k = 6 then [42] else if k = 7 then [60] else if k = 8 then [60, 61] else if k = 9 then [61, 61] else if k = 10 then [33, 61] else if k = 11 then [97, 110, 100] else if k = 12 then [111, 114] else if k = 13 then [110, 111, 116] else []
def lvO (n : Nat) : List Int := if n = 0 then [12] else if n = 1 then [11] else if n = 2 then [13] else if n = 3 then [7, 8, 9, 10] else if n = 4 then [4, 5] else if n = 5 then [6] else []
def opA (n : Nat) (s : List UInt8) : Option Int := (lvO n).find? fun k => decide (s = sgO k)
def opP (k : Int) : Pt := ⟨k, 0, txt [], txt [], 0⟩
inductive PR where
  | bad (r : List Tk)
  | good (x : List Pt) (r : List Tk)
def fdE (st : ByteArray) : List Tk → PR
  | [] => .bad []
  | c :: r => if 0 ≤ fldOf (wdT c) then .good [⟨3, 0, txt [], st, fldOf (wdT c)⟩] r else .bad (c :: r)
def fdR (t : Tk) (r : List Tk) : PR := if freeW (wdT t) then (match r with
    | [] => .bad []
    | c :: q => if wdT c = [46] then fdE t.s q else .bad (c :: q))
  else fdE (txt []) (t :: r)
def shut (x : List Pt) : List Tk → PR
  | [] => .bad []
  | c :: q => if wdT c = [41] then .good x q else .bad (c :: q)
/-- The reader: levels 0 to 6; 10 and on: behind the first side of a chain. -/
def pRd : Nat → Nat → Nat → List Pt → List Tk → PR
  | 0, _, _, _, ts => .bad ts
  | _ + 1, _, _, _, [] => .bad []
  | f + 1, m, d, acc, t :: r =>
    if m = 6 then
      (if t.kd = 2 then .good [⟨1, t.n, txt [], txt [], 0⟩] r
       else if t.kd = 3 then .good [⟨2, 0, t.s, txt [], 0⟩] r
       else if t.kd = 1 then fdR t r
       else if wdT t = [40] then (if d + 1 ≤ 200 then (match pRd f 0 (d + 1) [] r with
           | .bad q => .bad q
           | .good x q => shut x q) else .bad r)
       else .bad (t :: r))
    else if m = 2 then
      (match opA 2 (wdT t) with
       | some k => if d + 1 ≤ 200 then (match pRd f 2 (d + 1) [] r with
           | .bad q => .bad q
           | .good x q => .good (opP k :: x) q) else .bad r
       | none => pRd f 3 d [] (t :: r))
    else if m = 3 then
      (match pRd f 4 d [] (t :: r) with
       | .bad q => .bad q
       | .good x q => match q with
         | [] => .bad []
         | c :: q' => match opA 3 (wdT c) with
           | none => .good x (c :: q')
           | some k => match pRd f 4 d [] q' with
             | .bad s => .bad s
             | .good y s => .good (opP k :: (x ++ y)) s)
    else if m < 6 then
      (match pRd f (m + 1) d [] (t :: r) with
       | .bad q => .bad q
       | .good x q => pRd f (m + 10) d x q)
    else
      (match opA (m - 10) (wdT t) with
       | none => .good acc (t :: r)
       | some k => match pRd f (m - 10 + 1) d [] r with
         | .bad q => .bad q
         | .good y q => pRd f m d (opP k :: (acc ++ y)) q)
/-- How much is needed to read so far. -/
def mRd (m : Nat) (ts : List Tk) : Nat := if m ≤ 6 then 8 * ts.length + 7 - m else 8 * ts.length + 8
/-- Tokens that end with an end. -/
def Endd (ts : List Tk) : Prop := ∃ a e, ts = a ++ [e] ∧ e.kd = 0
theorem Endd.ne {ts : List Tk} (h : Endd ts) : ts ≠ [] := by obtain ⟨a, e, rfl, _⟩ := h; simp
theorem Endd.tail {t : Tk} {r : List Tk} (h : Endd (t :: r)) (ht : t.kd ≠ 0) : Endd r := by
  obtain ⟨a, e, h1, h2⟩ := h
  cases a with
  | nil => simp at h1; exact absurd (by rw [h1.1]; exact h2) ht
  | cons b a => simp at h1; exact ⟨a, e, h1.2, h2⟩
theorem wdT_kd {t : Tk} (h : wdT t ≠ []) : t.kd ≠ 0 := fun e => h (by unfold wdT; rw [if_neg (by omega)])
theorem sgO_ne {k : Int} {n : Nat} (h : k ∈ lvO n) : sgO k ≠ [] := by
  unfold lvO at h
  repeat' split at h
  all_goals simp at h
  all_goals (first | (rcases h with rfl | rfl | rfl | rfl <;> decide) | (rcases h with rfl | rfl <;> decide) | (subst h; decide))
theorem opA_some {n : Nat} {s : List UInt8} {k : Int} (h : opA n s = some k) : k ∈ lvO n ∧ s = sgO k := by
  unfold opA at h
  have h1 := List.find?_some h
  exact ⟨List.mem_of_find?_eq_some h, by simpa using h1⟩
theorem opA_kd {n : Nat} {t : Tk} {k : Int} (h : opA n (wdT t) = some k) : t.kd ≠ 0 := by
  obtain ⟨h1, h2⟩ := opA_some h
  exact wdT_kd (by rw [h2]; exact sgO_ne h1)
theorem fldOf_nil : fldOf [] = -1 := by decide
/-- What is read is a beginning, not longer than what it is read of; the end stays. -/
def PRok (b : Nat) (ts : List Tk) : PR → Prop
  | .bad r => Endd r ∧ r.length ≤ ts.length
  | .good x r => Endd r ∧ x.length + r.length ≤ ts.length + b ∧ r.length ≤ ts.length
theorem fdE_ok (st : ByteArray) (ts : List Tk) (h : Endd ts) : PRok 0 ts (fdE st ts) ∧ ∀ x r, fdE st ts = .good x r → r.length < ts.length := by
  cases ts with
  | nil => exact absurd rfl h.ne
  | cons c r =>
    rw [fdE]
    split
    · rename_i hf
      have hc : c.kd ≠ 0 := wdT_kd (fun e => by rw [e, fldOf_nil] at hf; omega)
      exact ⟨⟨h.tail hc, by simp; omega, by simp⟩, fun x q e => by cases e; simp⟩
    · exact ⟨⟨h, Nat.le_refl _⟩, fun x q e => by cases e⟩
theorem fdR_ok (t : Tk) (r : List Tk) (h : Endd (t :: r)) (ht : t.kd ≠ 0) : PRok 0 (t :: r) (fdR t r) ∧ ∀ x q, fdR t r = .good x q → q.length < (t :: r).length := by
  unfold fdR
  split
  · have hr := h.tail ht
    cases r with
    | nil => exact absurd rfl hr.ne
    | cons c q =>
      dsimp only
      split
      · rename_i hc
        have hq := hr.tail (wdT_kd (by rw [hc]; simp))
        obtain ⟨h1, h2⟩ := fdE_ok t.s q hq
        refine ⟨?_, fun x s e => by have := h2 x s e; simp; omega⟩
        cases hE : fdE t.s q with
        | bad s => rw [hE] at h1; exact ⟨h1.1, by have := h1.2; simp; omega⟩
        | good x s => rw [hE] at h1; exact ⟨h1.1, by have := h1.2.1; simp; omega, by have := h1.2.2; simp; omega⟩
      · exact ⟨⟨hr, by simp⟩, fun x s e => by cases e⟩
  · exact fdE_ok (txt []) (t :: r) h
theorem shut_ok (x : List Pt) (q : List Tk) (h : Endd q) : PRok x.length q (shut x q) ∧ ∀ y s, shut x q = .good y s → s.length < q.length ∧ y = x := by
  cases q with
  | nil => exact absurd rfl h.ne
  | cons c q =>
    rw [shut]
    split
    · rename_i hc
      exact ⟨⟨h.tail (wdT_kd (by rw [hc]; simp)), by simp; omega, by simp⟩, fun y s e => by cases e; simp⟩
    · exact ⟨⟨h, Nat.le_refl _⟩, fun y s e => by cases e⟩
theorem pRd_ok (f : Nat) : ∀ (m d : Nat) (acc : List Pt) (ts : List Tk), Endd ts → PRok (if m ≤ 6 then 0 else acc.length) ts (pRd f m d acc ts) ∧ (m ≤ 6 → ∀ x r, pRd f m d acc ts = .good x r → r.length < ts.length) := by
  induction f with
  | zero => intro m d acc ts h; rw [pRd]; exact ⟨⟨h, Nat.le_refl _⟩, fun _ x r e => by cases e⟩
  | succ f ih =>
    intro m d acc ts h
    cases ts with
    | nil => exact absurd rfl h.ne
    | cons t r =>
      rw [pRd]
      by_cases h6 : m = 6
      · subst h6
        rw [if_pos rfl, if_pos (by omega)]
        by_cases hk2 : t.kd = 2
        · rw [if_pos hk2]
          exact ⟨⟨h.tail (by omega), by simp; omega, by simp⟩, fun _ x q e => by cases e; simp⟩
        rw [if_neg hk2]
        by_cases hk3 : t.kd = 3
        · rw [if_pos hk3]
          exact ⟨⟨h.tail (by omega), by simp; omega, by simp⟩, fun _ x q e => by cases e; simp⟩
        rw [if_neg hk3]
        by_cases hk1 : t.kd = 1
        · rw [if_pos hk1]
          obtain ⟨h1, h2⟩ := fdR_ok t r h (by omega)
          exact ⟨h1, fun _ => h2⟩
        rw [if_neg hk1]
        by_cases hp : wdT t = [40]
        · rw [if_pos hp]
          have hr := h.tail (wdT_kd (by rw [hp]; simp))
          split
          · obtain ⟨h1, h2⟩ := ih 0 (d + 1) [] r hr
            cases hE : pRd f 0 (d + 1) [] r with
            | bad q => rw [hE] at h1; exact ⟨⟨h1.1, by have := h1.2; simp; omega⟩, fun _ x s e => by cases e⟩
            | good x q =>
              rw [hE] at h1
              rw [if_pos (by omega)] at h1
              obtain ⟨e1, e2, e3⟩ := h1
              obtain ⟨g1, g2⟩ := shut_ok x q e1
              dsimp only
              cases hS : shut x q with
              | bad s => rw [hS] at g1; exact ⟨⟨g1.1, by have := g1.2; simp; omega⟩, fun _ x s e => by cases e⟩
              | good y s =>
                rw [hS] at g1
                obtain ⟨k1, k2⟩ := g2 y s hS
                subst k2
                exact ⟨⟨g1.1, by simp; omega, by simp; omega⟩, fun _ x s' e => by cases e; simp; omega⟩
          · exact ⟨⟨hr, by simp⟩, fun _ x s e => by cases e⟩
        · rw [if_neg hp]
          exact ⟨⟨h, Nat.le_refl _⟩, fun _ x s e => by cases e⟩
      rw [if_neg h6]
      by_cases h2 : m = 2
      · subst h2
        rw [if_pos rfl, if_pos (by omega)]
        cases ho : opA 2 (wdT t) with
        | some k =>
          dsimp only
          have hr := h.tail (opA_kd ho)
          split
          · obtain ⟨h1, h3⟩ := ih 2 (d + 1) [] r hr
            rw [if_pos (by omega)] at h1
            cases hE : pRd f 2 (d + 1) [] r with
            | bad q => rw [hE] at h1; exact ⟨⟨h1.1, by have := h1.2; simp; omega⟩, fun _ x s e => by cases e⟩
            | good x q =>
              rw [hE] at h1
              obtain ⟨e1, e2, e3⟩ := h1
              exact ⟨⟨e1, by simp; omega, by simp; omega⟩, fun _ y s e => by cases e; simp; omega⟩
          · exact ⟨⟨hr, by simp⟩, fun _ x s e => by cases e⟩
        | none =>
          dsimp only
          have := ih 3 d [] (t :: r) h
          rw [if_pos (by omega)] at this
          exact ⟨this.1, fun _ => this.2 (by omega)⟩
      rw [if_neg h2]
      by_cases h3 : m = 3
      · subst h3
        rw [if_pos rfl, if_pos (by omega)]
        obtain ⟨h1, hl⟩ := ih 4 d [] (t :: r) h
        rw [if_pos (by omega)] at h1
        cases hE : pRd f 4 d [] (t :: r) with
        | bad q => rw [hE] at h1; exact ⟨h1, fun _ x s e => by cases e⟩
        | good x q =>
          have hl := hl (by omega) x q hE
          rw [hE] at h1
          obtain ⟨e1, e2, e3⟩ := h1
          cases q with
          | nil => exact absurd rfl e1.ne
          | cons c q =>
            dsimp only
            cases ho : opA 3 (wdT c) with
            | none => exact ⟨⟨e1, by omega, by omega⟩, fun _ y s e => by cases e; exact hl⟩
            | some k =>
              dsimp only
              have hq := e1.tail (opA_kd ho)
              obtain ⟨g1, gl⟩ := ih 4 d [] q hq
              rw [if_pos (by omega)] at g1
              cases hG : pRd f 4 d [] q with
              | bad s => rw [hG] at g1; exact ⟨⟨g1.1, by have := g1.2; simp at *; omega⟩, fun _ x s e => by cases e⟩
              | good y s =>
                rw [hG] at g1
                obtain ⟨k1, k2, k3⟩ := g1
                exact ⟨⟨k1, by simp at *; omega, by simp at *; omega⟩, fun _ z s' e => by cases e; simp at *; omega⟩
      rw [if_neg h3]
      by_cases hlt : m < 6
      · rw [if_pos hlt, if_pos (by omega)]
        obtain ⟨h1, hl⟩ := ih (m + 1) d [] (t :: r) h
        rw [if_pos (by omega)] at h1
        cases hE : pRd f (m + 1) d [] (t :: r) with
        | bad q => rw [hE] at h1; exact ⟨h1, fun _ x s e => by cases e⟩
        | good x q =>
          have hl := hl (by omega) x q hE
          rw [hE] at h1
          obtain ⟨e1, e2, e3⟩ := h1
          dsimp only
          obtain ⟨g1, _⟩ := ih (m + 10) d x q e1
          rw [if_neg (by omega)] at g1
          cases hG : pRd f (m + 10) d x q with
          | bad s => rw [hG] at g1; exact ⟨⟨g1.1, by have := g1.2; omega⟩, fun _ x s e => by cases e⟩
          | good y s =>
            rw [hG] at g1
            obtain ⟨k1, k2, k3⟩ := g1
            exact ⟨⟨k1, by omega, by omega⟩, fun _ z s' e => by cases e; omega⟩
      · rw [if_neg hlt, if_neg (by omega)]
        refine ⟨?_, fun hm => by omega⟩
        cases ho : opA (m - 10) (wdT t) with
        | none => exact ⟨h, by omega, by omega⟩
        | some k =>
          dsimp only
          have hr := h.tail (opA_kd ho)
          obtain ⟨h1, _⟩ := ih (m - 10 + 1) d [] r hr
          cases hE : pRd f (m - 10 + 1) d [] r with
          | bad q => rw [hE] at h1; exact ⟨h1.1, by have := h1.2; simp; omega⟩
          | good y q =>
            rw [hE] at h1
            obtain ⟨e1, e2, e3⟩ := h1
            have e2' : y.length + q.length ≤ r.length := by split at e2 <;> simpa using e2
            dsimp only
            obtain ⟨g1, _⟩ := ih m d (opP k :: (acc ++ y)) q e1
            rw [if_neg (by omega)] at g1
            cases hG : pRd f m d (opP k :: (acc ++ y)) q with
            | bad s => rw [hG] at g1; exact ⟨g1.1, by have := g1.2; simp at *; omega⟩
            | good z s =>
              rw [hG] at g1
              obtain ⟨k1, k2, k3⟩ := g1
              exact ⟨k1, by simp at *; omega, by simp at *; omega⟩
end Go.Proofs.YtogklmljllocbabGreatDoor
