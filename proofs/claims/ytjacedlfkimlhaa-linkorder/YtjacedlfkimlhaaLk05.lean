/-
  Links, plainly: packets, senders, receivers, what each call answers and what it leaves. Of no program.
  Plain facts on worlds: what stays but for some blocks, a block of cells, append to a row of the call's own and where the new row lies. Of no program.
-/
import Derived.Test.YtjacedlfkimlhaaLk04
import Derived.Test.YtjacedlfkimlhaaLk01
import Derived.WalkLawsBesides
import Derived.Deep.AppendLies
namespace Go.Proofs.Ytjacedlfkimlhaa.Lk
open Go.RowKit

/-- Items of packets. -/
def pkN (n : Int) : It := ⟨false, n, ⟨#[]⟩⟩
def pkT (b : ByteArray) : It := ⟨true, 0, b⟩
def dataL (ep n : Int) (b : ByteArray) : List It := [pkN 0, pkN ep, pkN n, pkT b]
def ackL (ep n : Int) : List It := [pkN 1, pkN ep, pkN n]
def dataB (ep n : Int) (b : ByteArray) : ByteArray := encS (dataL ep n b)
def ackB (ep n : Int) : ByteArray := encS (ackL ep n)
/-- A number from 0 to most. -/
def isNum (x : It) (most : Int) : Bool := !x.t && decide (0 ≤ x.n ∧ x.n ≤ most)
def isKind (x : It) (k : Int) : Bool := !x.t && (x.n == k && x.s.toList.isEmpty)
/-- The head of a packet. -/
def headB : List It → Int → Int → Bool
  | a :: b :: c :: _, k, m => isKind a k && (isNum b 1073741824 && isNum c m)
  | _, _, _ => false
/-- What any bytes are as an acknowledgement: its epoch and its number. -/
def ackOf : List It → Option (Int × Int)
  | [a, b, c] => if headB [a, b, c] 1 1073741825 then some (b.n, c.n) else none
  | _ => none
/-- What any bytes are as a data packet. -/
def dataOf : List It → Option (Int × Int × ByteArray)
  | [a, b, c, d] => if headB [a, b, c] 0 1073741824 && (d.t && decide (d.s.size ≤ 60000)) then some (b.n, c.n, d.s) else none
  | _ => none
def lrA (b : ByteArray) : Option (Int × Int) := if (decS b.data.toList).2.2 = 0 then ackOf (decS b.data.toList).1 else none
def lrD (b : ByteArray) : Option (Int × Int × ByteArray) := if (decS b.data.toList).2.2 = 0 then dataOf (decS b.data.toList).1 else none
/-- Where nothing is wrong the place is 0. -/
theorem decF_at (f : Nat) : ∀ (b : List UInt8) (a : Nat) (acc : List It), (decF f b a acc).2.2 = 0 → (decF f b a acc).2.1 = 0 := by
  induction f with
  | zero => intro b a acc _; rfl
  | succ f ih =>
    intro b a acc h
    rw [decF] at h ⊢
    split
    · rfl
    · rename_i h1
      rw [if_neg h1] at h
      split
      · rename_i h2
        rw [if_pos h2] at h
        cases h
      · rename_i h2
        rw [if_neg h2] at h
        split
        · rename_i h3
          rw [if_pos h3] at h
          exact absurd h h3
        · rename_i h3
          rw [if_neg h3] at h
          exact ih _ _ _ h
theorem decS_at (b : List UInt8) (h : (decS b).2.2 = 0) : (decS b).2.1 = 0 := by
  unfold decS at h ⊢
  split
  · rename_i h1; rw [if_pos h1] at h
  · rename_i h1; rw [if_neg h1] at h; exact decF_at _ _ _ _ h
theorem isNum_iff {x : It} {m : Int} : isNum x m = true ↔ x.t = false ∧ 0 ≤ x.n ∧ x.n ≤ m := by
  unfold isNum
  rw [Bool.and_eq_true, Bool.not_eq_true', decide_eq_true_iff]
theorem ackOf_some {l : List It} {e n : Int} (h : ackOf l = some (e, n)) : ∃ a b c, l = [a, b, c] ∧ headB l 1 1073741825 = true ∧ b.n = e ∧ c.n = n ∧ 0 ≤ e ∧ e ≤ 1073741824 ∧ 0 ≤ n ∧ n ≤ 1073741825 := by
  unfold ackOf at h
  split at h
  · rename_i a b c
    split at h
    · rename_i hh
      injection h with h
      injection h with h1 h2
      have := hh
      unfold headB at this
      rw [Bool.and_eq_true, Bool.and_eq_true] at this
      have hb := isNum_iff.1 this.2.1
      have hc := isNum_iff.1 this.2.2
      exact ⟨a, b, c, rfl, hh, h1, h2, by omega, by omega, by omega, by omega⟩
    · cases h
  · cases h
theorem dataOf_some {l : List It} {e n : Int} {s : ByteArray} (h : dataOf l = some (e, n, s)) : ∃ a b c d, l = [a, b, c, d] ∧ headB [a, b, c] 0 1073741824 = true ∧ b.n = e ∧ c.n = n ∧ d.s = s ∧ d.t = true ∧ s.size ≤ 60000 ∧ 0 ≤ e ∧ e ≤ 1073741824 ∧ 0 ≤ n ∧ n ≤ 1073741824 := by
  unfold dataOf at h
  split at h
  · rename_i a b c d
    split at h
    · rename_i hh
      injection h with h
      injection h with h1 h2
      injection h2 with h2 h3
      rw [Bool.and_eq_true, Bool.and_eq_true, decide_eq_true_iff] at hh
      have := hh.1
      unfold headB at this
      rw [Bool.and_eq_true, Bool.and_eq_true] at this
      have hb := isNum_iff.1 this.2.1
      have hc := isNum_iff.1 this.2.2
      exact ⟨a, b, c, d, rfl, hh.1, h1, h2, h3, hh.2.1, by rw [← h3]; exact hh.2.2, by omega, by omega, by omega, by omega⟩
    · cases h
  · cases h

/-- A text that is not acknowledged, and the tick at which it was last sent (-1: it was not). -/
structure Pu where
  b : ByteArray
  at_ : Int
structure Snd where
  ep : Int
  wd : Nat
  pt : Int
  first : Nat
  left : List Pu
  now : Int
/-- What holds of senders. -/
structure SOk (s : Snd) : Prop where
  e0 : 0 ≤ s.ep
  e1 : s.ep ≤ 1073741824
  w0 : 1 ≤ s.wd
  w1 : s.wd ≤ 256
  p0 : 1 ≤ s.pt
  p1 : s.pt ≤ 256
  len : s.left.length ≤ 4096
  top : s.first + s.left.length ≤ 1073741825
  sz : ∀ x ∈ s.left, x.b.size ≤ 60000 ∧ -1 ≤ x.at_ ∧ x.at_ ≤ s.now
  n0 : 0 ≤ s.now
  n1 : s.now ≤ 1073741824
def lepB (n : Int) : Bool := decide (0 ≤ n ∧ n ≤ 1073741824)
def lstB (n : Int) : Bool := decide (1 ≤ n ∧ n ≤ 256)
def luE (s : Snd) (b : ByteArray) : Int := if 60000 < b.size ∨ s.left.length = 4096 ∨ 1073741824 < s.first + s.left.length then 2 else 0
def luS (s : Snd) (b : ByteArray) : Snd := if luE s b = 0 then ⟨s.ep, s.wd, s.pt, s.first, s.left ++ [⟨b, -1⟩], s.now⟩ else s
def ldE (s : Snd) (t : Int) : Int := if t < s.now ∨ 1073741824 < t then 1 else 0
/-- Is a text sent now? -/
def lagn (pt t : Int) (x : Pu) : Bool := x.at_ == -1 || decide (pt ≤ t - x.at_)
def lmk (pt t : Int) (x : Pu) : Pu := if lagn pt t x then ⟨x.b, t⟩ else x
/-- The packets that are sent, of texts numbered on from n. -/
def lpk (ep pt t : Int) : Nat → List Pu → List ByteArray
  | _, [] => []
  | n, x :: r => if lagn pt t x then dataB ep (n : Int) x.b :: lpk ep pt t (n + 1) r else lpk ep pt t (n + 1) r
def lmks (pt t : Int) (k : Nat) (l : List Pu) : List Pu := (l.take k).map (lmk pt t) ++ l.drop k
def ldS (s : Snd) (t : Int) : Snd := if ldE s t = 0 then ⟨s.ep, s.wd, s.pt, s.first, lmks s.pt t s.wd s.left, t⟩ else s
def ldO (s : Snd) (t : Int) : List ByteArray := if ldE s t = 0 then lpk s.ep s.pt t s.first (s.left.take s.wd) else []
def lhE (s : Snd) (b : ByteArray) : Int := match lrA b with
  | none => 3
  | some (e, n) => if e ≠ s.ep then 190 else if ((s.first + s.left.length : Nat) : Int) < n then 1 else 0
def lhS (s : Snd) (b : ByteArray) : Snd := match lrA b with
  | none => s
  | some (_, n) => if lhE s b = 0 ∧ (s.first : Int) < n then ⟨s.ep, s.wd, s.pt, n.toNat, s.left.drop (n.toNat - s.first), s.now⟩ else s

theorem lpk_append (ep pt t : Int) : ∀ (n : Nat) (a b : List Pu), lpk ep pt t n (a ++ b) = lpk ep pt t n a ++ lpk ep pt t (n + a.length) b
  | n, [], b => by simp [lpk]
  | n, x :: a, b => by
    rw [List.cons_append, lpk, lpk, lpk_append ep pt t (n + 1) a b, List.length_cons, show n + 1 + a.length = n + (a.length + 1) by omega]
    split <;> simp
theorem lpk_len (ep pt t : Int) : ∀ (n : Nat) (a : List Pu), (lpk ep pt t n a).length ≤ a.length
  | n, [] => Nat.le_refl _
  | n, x :: a => by
    have := lpk_len ep pt t (n + 1) a
    rw [lpk, List.length_cons]
    split
    · rw [List.length_cons]; omega
    · omega
theorem lmks_len (pt t : Int) (k : Nat) (l : List Pu) : (lmks pt t k l).length = l.length := by
  unfold lmks
  rw [List.length_append, List.length_map, ← List.length_append, List.take_append_drop]
theorem lmks_zero (pt t : Int) (l : List Pu) : lmks pt t 0 l = l := by simp [lmks]
theorem lmks_at (pt t : Int) (k : Nat) (l : List Pu) (i : Nat) (h : i < l.length) : (lmks pt t k l)[i]'(by rw [lmks_len]; exact h) = if i < k then lmk pt t l[i] else l[i] := by
  unfold lmks
  by_cases hk : i < k
  · rw [if_pos hk, List.getElem_append_left (by rw [List.length_map, List.length_take]; omega)]
    simp
  · rw [if_neg hk, List.getElem_append_right (by rw [List.length_map, List.length_take]; omega)]
    simp only [List.length_map, List.length_take, List.getElem_drop]
    congr 1
    omega
theorem lmks_succ (pt t : Int) (k : Nat) (l : List Pu) (h : k < l.length) : lmks pt t (k + 1) l = (lmks pt t k l).set k (lmk pt t l[k]) := by
  refine List.ext_getElem (by rw [List.length_set, lmks_len, lmks_len]) fun i h1 h2 => ?_
  have hi : i < l.length := by rw [lmks_len] at h1; exact h1
  rw [lmks_at _ _ _ _ _ hi, List.getElem_set]
  by_cases hik : k = i
  · subst hik
    rw [if_pos (by omega), if_pos rfl]
  · rw [if_neg hik, lmks_at _ _ _ _ _ hi]
    by_cases h3 : i < k
    · rw [if_pos (by omega), if_pos h3]
    · rw [if_neg (by omega), if_neg h3]
theorem lmks_past (pt t : Int) (k : Nat) (l : List Pu) (h : l.length ≤ k) : lmks pt t k l = lmks pt t l.length l := by
  unfold lmks
  rw [List.take_of_length_le h, List.drop_of_length_le h, List.take_length, List.drop_length]
theorem lpk_take_succ (ep pt t : Int) (n k : Nat) (l : List Pu) (h : k < l.length) : lpk ep pt t n (l.take (k + 1)) = lpk ep pt t n (l.take k) ++ (if lagn pt t l[k] then [dataB ep ((n + k : Nat) : Int) l[k].b] else []) := by
  rw [List.take_succ_eq_append_getElem h, lpk_append, List.length_take, Nat.min_eq_left (by omega), lpk, lpk]
theorem lmk_b (pt t : Int) (x : Pu) : (lmk pt t x).b = x.b := by unfold lmk; split <;> rfl
theorem SOk.luS {s : Snd} (h : SOk s) (b : ByteArray) : SOk (luS s b) := by
  unfold Lk.luS
  split
  · rename_i he
    unfold luE at he
    split at he
    · cases he
    · rename_i hn
      have hl := h.len
      refine ⟨h.e0, h.e1, h.w0, h.w1, h.p0, h.p1, by rw [List.length_append]; simp; omega, by rw [List.length_append]; simp; omega, fun x hx => ?_, h.n0, h.n1⟩
      rcases List.mem_append.1 hx with hx | hx
      · exact h.sz x hx
      · rw [List.mem_singleton] at hx
        subst hx
        have := h.n0
        exact ⟨by simp; omega, by simp, by simp; omega⟩
  · exact h
theorem lmks_sz {pt t now : Int} {k : Nat} {l : List Pu} (h : ∀ x ∈ l, x.b.size ≤ 60000 ∧ -1 ≤ x.at_ ∧ x.at_ ≤ now) (ht : now ≤ t) (h0 : 0 ≤ t) : ∀ x ∈ lmks pt t k l, x.b.size ≤ 60000 ∧ -1 ≤ x.at_ ∧ x.at_ ≤ t := fun x hx => by
  unfold lmks at hx
  rcases List.mem_append.1 hx with hx | hx
  · obtain ⟨y, hy, rfl⟩ := List.mem_map.1 hx
    have := h y (List.mem_of_mem_take hy)
    rw [lmk_b]
    refine ⟨this.1, ?_⟩
    unfold lmk
    split
    · exact ⟨by simp; omega, by simp⟩
    · exact ⟨this.2.1, by omega⟩
  · have := h x (List.mem_of_mem_drop hx)
    exact ⟨this.1, this.2.1, by omega⟩
theorem SOk.ldS {s : Snd} (h : SOk s) (t : Int) : SOk (ldS s t) := by
  unfold Lk.ldS
  split
  · rename_i he
    unfold ldE at he
    split at he
    · cases he
    · rename_i hn
      have h0 := h.n0
      exact ⟨h.e0, h.e1, h.w0, h.w1, h.p0, h.p1, by rw [lmks_len]; exact h.len, by rw [lmks_len]; exact h.top, lmks_sz h.sz (by omega) (by omega), by simp; omega, by simp; omega⟩
  · exact h
theorem lrA_bd {b : ByteArray} {e n : Int} (h : lrA b = some (e, n)) : 0 ≤ e ∧ e ≤ 1073741824 ∧ 0 ≤ n ∧ n ≤ 1073741825 := by
  unfold lrA at h
  split at h
  · obtain ⟨_, _, _, _, _, _, _, h1, h2, h3, h4⟩ := ackOf_some h
    exact ⟨h1, h2, h3, h4⟩
  · cases h
theorem lrD_bd {b : ByteArray} {e n : Int} {s : ByteArray} (h : lrD b = some (e, n, s)) : s.size ≤ 60000 ∧ 0 ≤ e ∧ e ≤ 1073741824 ∧ 0 ≤ n ∧ n ≤ 1073741824 := by
  unfold lrD at h
  split at h
  · obtain ⟨_, _, _, _, _, _, _, _, _, _, h1, h2, h3, h4, h5⟩ := dataOf_some h
    exact ⟨h1, h2, h3, h4, h5⟩
  · cases h
theorem SOk.lhS {s : Snd} (h : SOk s) (b : ByteArray) : SOk (lhS s b) := by
  unfold Lk.lhS
  cases hr : lrA b with
  | none => exact h
  | some p =>
    obtain ⟨e, n⟩ := p
    dsimp only
    split
    · rename_i hh
      obtain ⟨h1, h2⟩ := hh
      unfold lhE at h1
      rw [hr] at h1
      dsimp only at h1
      split at h1
      · cases h1
      · split at h1
        · cases h1
        · have ht := h.top
          have hl := h.len
          refine ⟨h.e0, h.e1, h.w0, h.w1, h.p0, h.p1, by rw [List.length_drop]; omega, by rw [List.length_drop]; dsimp only; omega, fun x hx => h.sz x (List.mem_of_mem_drop hx), h.n0, h.n1⟩
    · exact h

/-- Texts that came early. -/
def erl (l : List (Nat × ByteArray)) (n : Nat) : Option ByteArray := (l.find? fun x => x.1 == n).map Prod.snd
def erd (l : List (Nat × ByteArray)) (n : Nat) : List (Nat × ByteArray) := l.filter fun x => x.1 != n
structure Rcv where
  ep : Int
  wd : Nat
  next : Nat
  early : List (Nat × ByteArray)
structure ROk (r : Rcv) : Prop where
  e0 : 0 ≤ r.ep
  e1 : r.ep ≤ 1073741824
  w0 : 1 ≤ r.wd
  w1 : r.wd ≤ 256
  n1 : r.next ≤ 1073741825
  nd : (r.early.map Prod.fst).Nodup
  lo : ∀ x ∈ r.early, r.next ≤ x.1 ∧ x.1 < r.next + r.wd ∧ x.1 ≤ 1073741824 ∧ x.2.size ≤ 60000
def lkR (r : Rcv) (n : Nat) (b : ByteArray) : Rcv := if r.next ≤ n ∧ n < r.next + r.wd ∧ erl r.early n = none then ⟨r.ep, r.wd, r.next, r.early ++ [(n, b)]⟩ else r
/-- All that is told from a number on, without a gap. -/
def lgF : Nat → Nat → List (Nat × ByteArray) → List ByteArray × Nat × List (Nat × ByteArray)
  | 0, n, l => ([], n, l)
  | f + 1, n, l => match erl l n with
    | none => ([], n, l)
    | some b => (b :: (lgF f (n + 1) (erd l n)).1, (lgF f (n + 1) (erd l n)).2)
theorem lgF_succ (f n : Nat) (l : List (Nat × ByteArray)) : lgF (f + 1) n l = match erl l n with
    | none => ([], n, l)
    | some b => (b :: (lgF f (n + 1) (erd l n)).1, (lgF f (n + 1) (erd l n)).2) := rfl
def lgO (r : Rcv) : List ByteArray := (lgF r.early.length r.next r.early).1
def lgR (r : Rcv) : Rcv := ⟨r.ep, r.wd, (lgF r.early.length r.next r.early).2.1, (lgF r.early.length r.next r.early).2.2⟩
def ltE (r : Rcv) (b : ByteArray) : Int := match lrD b with
  | none => 3
  | some (e, _, _) => if e ≠ r.ep then 190 else 0
def ltK (r : Rcv) (b : ByteArray) : Rcv := match lrD b with
  | none => r
  | some (_, n, s) => if ltE r b = 0 then lkR r n.toNat s else r
def ltR (r : Rcv) (b : ByteArray) : Rcv := if ltE r b = 0 then lgR (ltK r b) else r
def ltO (r : Rcv) (b : ByteArray) : List ByteArray := if ltE r b = 0 then lgO (ltK r b) else []
def ltA (r : Rcv) (b : ByteArray) : ByteArray := if ltE r b = 0 then ackB r.ep ((ltR r b).next : Int) else ⟨#[]⟩
theorem erl_none {l : List (Nat × ByteArray)} {n : Nat} (h : erl l n = none) : ∀ x ∈ l, x.1 ≠ n := fun x hx e => by
  unfold erl at h
  rw [Option.map_eq_none_iff, List.find?_eq_none] at h
  exact h x hx (by simpa using e)
theorem erl_some {l : List (Nat × ByteArray)} {n : Nat} {b : ByteArray} (h : erl l n = some b) : (n, b) ∈ l := by
  unfold erl at h
  rw [Option.map_eq_some_iff] at h
  obtain ⟨⟨m, c⟩, h1, rfl⟩ := h
  have h2 := List.find?_some h1
  have h3 := List.mem_of_find?_eq_some h1
  simp at h2
  subst h2
  exact h3
theorem erd_len {l : List (Nat × ByteArray)} {n : Nat} {b : ByteArray} (h : erl l n = some b) : (erd l n).length < l.length := by
  unfold erd
  exact List.length_filter_lt_length_iff_exists.2 ⟨_, erl_some h, by simp⟩
theorem lgF_more : ∀ (f g n : Nat) (l : List (Nat × ByteArray)), l.length ≤ f → l.length ≤ g → lgF f n l = lgF g n l
  | 0, 0, _, _, _, _ => rfl
  | 0, g + 1, n, l, hf, _ => by
    obtain rfl : l = [] := List.eq_nil_of_length_eq_zero (by omega)
    rfl
  | f + 1, 0, n, l, _, hg => by
    obtain rfl : l = [] := List.eq_nil_of_length_eq_zero (by omega)
    rfl
  | f + 1, g + 1, n, l, hf, hg => by
    unfold lgF
    cases h : erl l n with
    | none => rfl
    | some b =>
      have := erd_len h
      dsimp only
      rw [lgF_more f g (n + 1) (erd l n) (by omega) (by omega)]
theorem lgF_stop {l : List (Nat × ByteArray)} {n : Nat} (f : Nat) (h : erl l n = none) : lgF f n l = ([], n, l) := by
  cases f with
  | zero => rfl
  | succ f => unfold lgF; rw [h]
theorem lgF_go {l : List (Nat × ByteArray)} {n : Nat} {b : ByteArray} (h : erl l n = some b) : lgF l.length n l = (b :: (lgF (erd l n).length (n + 1) (erd l n)).1, (lgF (erd l n).length (n + 1) (erd l n)).2) := by
  have hd := erd_len h
  obtain ⟨f, hf⟩ : ∃ f, l.length = f + 1 := ⟨l.length - 1, by omega⟩
  rw [hf, lgF_succ, h]
  dsimp only
  rw [lgF_more f (erd l n).length (n + 1) (erd l n) (by omega) (Nat.le_refl _)]
theorem lgR_stop {r : Rcv} (h : erl r.early r.next = none) : lgR r = r ∧ lgO r = [] := by
  unfold lgR lgO
  rw [lgF_stop _ h]
  exact ⟨rfl, rfl⟩
theorem lgR_go {r : Rcv} {b : ByteArray} (h : erl r.early r.next = some b) : lgR r = lgR ⟨r.ep, r.wd, r.next + 1, erd r.early r.next⟩ ∧ lgO r = b :: lgO ⟨r.ep, r.wd, r.next + 1, erd r.early r.next⟩ := by
  unfold lgR lgO
  rw [lgF_go h]
  exact ⟨rfl, rfl⟩
theorem erd_mem {l : List (Nat × ByteArray)} {n : Nat} {x : Nat × ByteArray} (h : x ∈ erd l n) : x ∈ l ∧ x.1 ≠ n := by
  unfold erd at h
  rw [List.mem_filter] at h
  exact ⟨h.1, by simpa using h.2⟩
theorem ROk.step {r : Rcv} (h : ROk r) {b : ByteArray} (hf : erl r.early r.next = some b) : ROk ⟨r.ep, r.wd, r.next + 1, erd r.early r.next⟩ ∧ b.size ≤ 60000 := by
  have hm := h.lo _ (erl_some hf)
  dsimp only at hm
  refine ⟨⟨h.e0, h.e1, h.w0, h.w1, by dsimp only; omega, ?_, fun x hx => ?_⟩, hm.2.2.2⟩
  · exact (List.filter_sublist.map _).nodup h.nd
  · obtain ⟨h1, h2⟩ := erd_mem hx
    have := h.lo x h1
    dsimp only
    exact ⟨by omega, by omega, this.2.2.1, this.2.2.2⟩
theorem ROk.lgR {r : Rcv} (h : ROk r) : ROk (lgR r) := by
  obtain ⟨k, hk⟩ : ∃ k, r.early.length = k := ⟨_, rfl⟩
  induction k using Nat.strongRecOn generalizing r with
  | ind k ih =>
    cases hf : erl r.early r.next with
    | none => rw [(lgR_stop hf).1]; exact h
    | some b =>
      rw [(lgR_go hf).1]
      exact ih _ (by have := erd_len hf; dsimp only; omega) (h.step hf).1 rfl
theorem ROk.lkR {r : Rcv} (h : ROk r) (n : Nat) (b : ByteArray) (hn : n ≤ 1073741824) (hb : b.size ≤ 60000) : ROk (lkR r n b) := by
  unfold Lk.lkR
  split
  · rename_i hh
    refine ⟨h.e0, h.e1, h.w0, h.w1, h.n1, ?_, fun x hx => ?_⟩
    · rw [List.map_append, List.nodup_append]
      refine ⟨h.nd, by simp, fun a ha c hc => ?_⟩
      obtain ⟨x, hx, rfl⟩ := List.mem_map.1 ha
      simp at hc
      subst hc
      exact erl_none hh.2.2 x hx
    · rcases List.mem_append.1 hx with hx | hx
      · exact h.lo x hx
      · rw [List.mem_singleton] at hx
        subst hx
        exact ⟨hh.1, hh.2.1, hn, hb⟩
  · exact h
theorem ROk.ltK {r : Rcv} (h : ROk r) (b : ByteArray) : ROk (ltK r b) := by
  unfold Lk.ltK
  cases hr : lrD b with
  | none => exact h
  | some p =>
    obtain ⟨e, n, s⟩ := p
    have := lrD_bd hr
    dsimp only
    split
    · exact h.lkR _ _ (by omega) this.1
    · exact h
theorem ROk.ltR {r : Rcv} (h : ROk r) (b : ByteArray) : ROk (ltR r b) := by
  unfold Lk.ltR
  split
  · exact (h.ltK b).lgR
  · exact h
theorem nodup_bound (l : List Nat) (lo w : Nat) (hn : l.Nodup) (h : ∀ x ∈ l, lo ≤ x ∧ x < lo + w) : l.length ≤ w := by
  have h1 : (l.map fun x => x - lo).Nodup := by
    refine List.Pairwise.map _ ?_ (List.Pairwise.and_mem.1 hn)
    rintro a b ⟨ha, hb, hne⟩ e
    have := h a ha
    have := h b hb
    exact hne (by omega)
  have h2 : (l.map fun x => x - lo) ⊆ List.range w := fun y hy => by
    obtain ⟨x, hx, rfl⟩ := List.mem_map.1 hy
    have := h x hx
    rw [List.mem_range]
    omega
  have := List.Nodup.length_le_of_subset h1 h2
  simpa using this
theorem ROk.few {r : Rcv} (h : ROk r) : r.early.length ≤ 256 := by
  have := nodup_bound (r.early.map Prod.fst) r.next r.wd h.nd (fun x hx => by
    obtain ⟨y, hy, rfl⟩ := List.mem_map.1 hx
    have := h.lo y hy
    omega)
  rw [List.length_map] at this
  have := h.w1
  omega
theorem lgO_len {r : Rcv} : (lgO r).length ≤ r.early.length := by
  obtain ⟨k, hk⟩ : ∃ k, r.early.length = k := ⟨_, rfl⟩
  induction k using Nat.strongRecOn generalizing r with
  | ind k ih =>
    cases hf : erl r.early r.next with
    | none => rw [(lgR_stop hf).2]; exact Nat.zero_le _
    | some b =>
      have hd := erd_len hf
      have := ih _ (by dsimp only; omega) (r := ⟨r.ep, r.wd, r.next + 1, erd r.early r.next⟩) rfl
      rw [(lgR_go hf).2, List.length_cons]
      dsimp only at this
      omega
end Go.Proofs.Ytjacedlfkimlhaa.Lk
namespace Go.Proofs.Ytjacedlfkimlhaa
open Go.RowKit

/-- What stays: all blocks but some. -/
structure Kp (F : List Nat) (w w' : World) : Prop where
  os : w'.os = w.os
  tape : w'.tape = w.tape
  output : w'.output = w.output
  size : w.heap.size ≤ w'.heap.size
  block : ∀ k, k < w.heap.size → k ∉ F → w'.heap[k]? = w.heap[k]?
theorem Kp.refl (F : List Nat) (w : World) : Kp F w w := ⟨rfl, rfl, rfl, Nat.le_refl _, fun _ _ _ => rfl⟩
theorem Kp.trans {F G : List Nat} {a b c : World} (h : Kp F a b) (k : Kp G b c) (hG : ∀ x ∈ G, x ∈ F ∨ a.heap.size ≤ x) : Kp F a c :=
  ⟨k.os.trans h.os, k.tape.trans h.tape, k.output.trans h.output, Nat.le_trans h.size k.size, fun i hi hn =>
    (k.block i (Nat.lt_of_lt_of_le hi h.size) (fun hm => (hG i hm).elim hn (fun h1 => by omega))).trans (h.block i hi hn)⟩
theorem Kp.mono {F G : List Nat} {a b : World} (h : Kp F a b) (hG : ∀ x ∈ F, x ∈ G) : Kp G a b := ⟨h.os, h.tape, h.output, h.size, fun i hi hn => h.block i hi (fun hm => hn (hG i hm))⟩
theorem Kp.of {w w' : World} {row : Option Nat} (h : w.grownBy w' row) : Kp row.toList w w' := ⟨h.os, h.tape, h.output, h.size, fun i hi hn => h.block i hi (fun e => hn (by rw [← e]; simp))⟩
theorem Kp.alloc (w : World) (o : Obj) : Kp [] w (w.alloc o) := Kp.of (World.grownBy_alloc w o none)
theorem Kp.drew (w : World) : Kp [] w w.drew := ⟨rfl, rfl, rfl, Nat.le_refl _, fun _ _ _ => rfl⟩
theorem Kp.below {F : List Nat} {B : Nat} {w w' : World} (h : Kp F w w') (hB : B ≤ w.heap.size) (hF : ∀ k ∈ F, B ≤ k) : Below B w w' :=
  ⟨h.os, h.tape, h.output, h.size, fun k hk => h.block k (by omega) (fun hm => by have := hF k hm; omega)⟩
theorem Kp.ofBelow {w w' : World} (h : Below w.heap.size w w') : Kp [] w w' := ⟨h.os, h.tape, h.output, h.size, fun k hk _ => h.block k hk⟩
theorem Kp.cell {F : List Nat} {w w' : World} (h : Kp F w w') {p : Addr} {v : Value} (hc : w.cell? p = some v) (hp : p.block ∉ F) : w'.cell? p = some v :=
  (World.cell?_of_block (h.block p.block (World.block_lt_of_cell? w p hc) hp)).trans hc
/-- The box of a change lies there. -/
def CBox (g : Nat) (cs : Array Value) (t : TypeId) (w : World) : Prop := w.heap[g]? = some (.cells cs t (0, 0))
theorem CBox.cell {g : Nat} {cs : Array Value} {t : TypeId} {w : World} (h : CBox g cs t w) {i : Nat} {v : Value} (hv : cs[i]? = some v) : w.cell? ⟨g, i, none⟩ = some v := by
  unfold CBox at h
  simp [World.cell?, h, hv]
theorem CBox.kp {g : Nat} {cs : Array Value} {t : TypeId} {w w' : World} {F : List Nat} (h : CBox g cs t w) (hk : Kp F w w') (hF : g ∉ F) : CBox g cs t w' := (hk.block g (Array.getElem?_eq_some_iff.1 h).1 hF).trans h
theorem CBox.new (w : World) (cs : Array Value) (t : TypeId) : CBox w.heap.size cs t (w.alloc (.cells cs t)) := heap_alloc_new w _
theorem CBox.set {g : Nat} {cs : Array Value} {t : TypeId} {w : World} (h : CBox g cs t w) (i : Nat) (v : Value) : CBox g (cs.setIfInBounds i v) t (w.setCell ⟨g, i, none⟩ v) := by
  unfold CBox at *
  unfold World.setCell
  simp [h, Array.getElem?_modify]
theorem CBox.froz {g : Nat} {cs : Array Value} {t : TypeId} {w : World} (h : CBox g cs t w) (i : Nat) : w.frozen? ⟨g, i, none⟩ = false := by
  unfold CBox at h
  simp [World.frozen?, h]
theorem Kp.set (w : World) (p i : Nat) (v : Value) : Kp [p] w (w.setCell ⟨p, i, none⟩ v) :=
  ⟨rfl, rfl, rfl, by simp [World.setCell], fun k _ hn => Below.heap_setCell _ _ _ _ (by simpa using hn)⟩
theorem Kp.drewQ (w : World) (n : Nat) : Kp [] w (w.drewN n) := ⟨rfl, rfl, rfl, Nat.le_refl _, fun _ _ _ => rfl⟩
/-- append to a row of the call's own, as one step of a statement whose order is drawn; where the new row lies. -/
theorem step_append_lies {P : Program} {ops : Array Oper} {o : Oper} {a : Act} {w : World} {K : Act → World → Prop} {Q : Exit → Act → World → Prop} {E : Prop}
    (hg : o.guard = none) (s x : Operand) (t : TypeId) (hop : o.op = Op.call { callee := Callee.builtin Builtin.append, args := #[s, x], argTypes := #[t, t] })
    (base : Nat) (e : TypeId) (i : TypeInfo) (z : Value) (size bytes : Nat) (h1 : P.underlying t = some (.slice e)) (h2 : P.info? e = some i) (h3 : i.zero = some z) (h4 : i.size = size) (h5 : i.bytes = bytes) (h6 : z.cells.size = size) (h7 : 0 < size)
    (v : Value) (n : Nat) (xs : List Value) (hs : a.eval s = v) (hown : w.ownsRow base e size v n xs)
    (ad : Addr) (m c : Nat) (news : List Value) (hx : a.eval x = .slice (some ad) m c) (hn : news.length = m * size) (hc : ∀ j u, news[j]? = some u → w.cell? (ad.add j) = some u) (h1c : ∀ u ∈ news, u.oneCell' = true) (hm : 0 < m)
    (b1 : n + m ≤ maxLen) (b2 : (n + m) * bytes ≤ 140737488355328) (hb : base ≤ w.heap.size)
    (hK : ∀ g cap w', w'.ownsRow base e size (.slice (some ⟨g, 0, none⟩) (n + m) cap) (n + m) (xs ++ news) → w.grownBy w' v.ownBlock → (v.ownBlock = some g ∨ g = w.heap.size) → K (a.put o.dst (.slice (some ⟨g, 0, none⟩) (n + m) cap)) w') :
    if Region.wanted o (yielded ops a.tmps) = true then Oper.wp P o a w K Q else E := by
  have hw : Region.wanted o (yielded ops a.tmps) = true := by simp [Region.wanted, hg]
  rw [if_pos hw]
  obtain ⟨g, cap, w', hrun, r1, r2, r3, _⟩ := run_append_lies (P := P) (w := w) t o.type base e i z size bytes h1 h2 h3 h4 h5 h6 h7 v n xs hown ad m c news hn hc h1c hm b1 b2 hb _ rfl
  unfold Oper.wp
  simp [execOp, hop, resolve, invoke, builtin, hs, hx, hrun, Result.andThen]
  exact hK g cap w' r1 r2 r3
theorem one_new (w : World) (x : Value) (t : TypeId) : ∀ (j : Nat) (u : Value), [x][j]? = some u → (w.alloc (.cells #[x] t)).cell? ((⟨w.heap.size, 0, none⟩ : Addr).add j) = some u := fun j u hj => by
  match j, hj with
  | 0, hj =>
    simp at hj
    subst hj
    exact (CBox.new w #[x] t).cell rfl
end Go.Proofs.Ytjacedlfkimlhaa
