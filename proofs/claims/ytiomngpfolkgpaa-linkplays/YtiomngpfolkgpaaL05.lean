/-
  Links, plainly: packets, senders, receivers, what each call answers and what it leaves. Of no program.
  The document's packets, plainly: what was decoded; which of many items are a packet's.
-/
import Derived.Test.YtiomngpfolkgpaaL04
namespace Go.Proofs.Ytiomngpfolkgpaa.Lk
open Go.RowKit

/-- Items of packets. -/
def pkN (n : Int) : It := ⟨false, n, ⟨#[]⟩⟩
def pkT (b : ByteArray) : It := ⟨true, 0, b⟩
def dataL (ep n : Int) (b : ByteArray) : List It := [pkN 0, pkN ep, pkN n, pkT b]
def ackL (ep n : Int) : List It := [pkN 1, pkN ep, pkN n]
def dataB (ep n : Int) (b : ByteArray) : ByteArray := encS (dataL ep n b)
def ackB (ep n : Int) : ByteArray := encS (ackL ep n)
/-- A number from 0 to most. -/
def isNum (x : It) (most : Int) : Bool := !x.t && decide (0 ≤ x.n ∧ x.n ≤ most)
def isKind (x : It) (k : Int) : Bool := !x.t && (x.n == k && x.s.toList.isEmpty)
/-- The head of a packet. -/
def headB : List It → Int → Int → Bool
  | a :: b :: c :: _, k, m => isKind a k && (isNum b 1073741824 && isNum c m)
  | _, _, _ => false
/-- What any bytes are as an acknowledgement: its epoch and its number. -/
def ackOf : List It → Option (Int × Int)
  | [a, b, c] => if headB [a, b, c] 1 1073741825 then some (b.n, c.n) else none
  | _ => none
/-- What any bytes are as a data packet. -/
def dataOf : List It → Option (Int × Int × ByteArray)
  | [a, b, c, d] => if headB [a, b, c] 0 1073741824 && (d.t && decide (d.s.size ≤ 60000)) then some (b.n, c.n, d.s) else none
  | _ => none
def lrA (b : ByteArray) : Option (Int × Int) := if (decS b.data.toList).2.2 = 0 then ackOf (decS b.data.toList).1 else none
def lrD (b : ByteArray) : Option (Int × Int × ByteArray) := if (decS b.data.toList).2.2 = 0 then dataOf (decS b.data.toList).1 else none
/-- Where nothing is wrong the place is 0. -/
theorem decF_at (f : Nat) : ∀ (b : List UInt8) (a : Nat) (acc : List It), (decF f b a acc).2.2 = 0 → (decF f b a acc).2.1 = 0 := by
  induction f with
  | zero => intro b a acc _; rfl
  | succ f ih =>
    intro b a acc h
    rw [decF] at h ⊢
    split
    · rfl
    · rename_i h1
      rw [if_neg h1] at h
      split
      · rename_i h2
        rw [if_pos h2] at h
        cases h
      · rename_i h2
        rw [if_neg h2] at h
        split
        · rename_i h3
          rw [if_pos h3] at h
          exact absurd h h3
        · rename_i h3
          rw [if_neg h3] at h
          exact ih _ _ _ h
theorem decS_at (b : List UInt8) (h : (decS b).2.2 = 0) : (decS b).2.1 = 0 := by
  unfold decS at h ⊢
  split
  · rename_i h1; rw [if_pos h1] at h
  · rename_i h1; rw [if_neg h1] at h; exact decF_at _ _ _ _ h
theorem isNum_iff {x : It} {m : Int} : isNum x m = true ↔ x.t = false ∧ 0 ≤ x.n ∧ x.n ≤ m := by
  unfold isNum
  rw [Bool.and_eq_true, Bool.not_eq_true', decide_eq_true_iff]
theorem ackOf_some {l : List It} {e n : Int} (h : ackOf l = some (e, n)) : ∃ a b c, l = [a, b, c] ∧ headB l 1 1073741825 = true ∧ b.n = e ∧ c.n = n ∧ 0 ≤ e ∧ e ≤ 1073741824 ∧ 0 ≤ n ∧ n ≤ 1073741825 := by
  unfold ackOf at h
  split at h
  · rename_i a b c
    split at h
    · rename_i hh
      injection h with h
      injection h with h1 h2
      have := hh
      unfold headB at this
      rw [Bool.and_eq_true, Bool.and_eq_true] at this
      have hb := isNum_iff.1 this.2.1
      have hc := isNum_iff.1 this.2.2
      exact ⟨a, b, c, rfl, hh, h1, h2, by omega, by omega, by omega, by omega⟩
    · cases h
  · cases h
theorem dataOf_some {l : List It} {e n : Int} {s : ByteArray} (h : dataOf l = some (e, n, s)) : ∃ a b c d, l = [a, b, c, d] ∧ headB [a, b, c] 0 1073741824 = true ∧ b.n = e ∧ c.n = n ∧ d.s = s ∧ d.t = true ∧ s.size ≤ 60000 ∧ 0 ≤ e ∧ e ≤ 1073741824 ∧ 0 ≤ n ∧ n ≤ 1073741824 := by
  unfold dataOf at h
  split at h
  · rename_i a b c d
    split at h
    · rename_i hh
      injection h with h
      injection h with h1 h2
      injection h2 with h2 h3
      rw [Bool.and_eq_true, Bool.and_eq_true, decide_eq_true_iff] at hh
      have := hh.1
      unfold headB at this
      rw [Bool.and_eq_true, Bool.and_eq_true] at this
      have hb := isNum_iff.1 this.2.1
      have hc := isNum_iff.1 this.2.2
      exact ⟨a, b, c, d, rfl, hh.1, h1, h2, h3, hh.2.1, by rw [← h3]; exact hh.2.2, by omega, by omega, by omega, by omega⟩
    · cases h
  · cases h

/-- A text that is not acknowledged, and the tick at which it was last sent (-1: it was not). -/
structure Pu where
  b : ByteArray
  at_ : Int
structure Snd where
  ep : Int
  wd : Nat
  pt : Int
  first : Nat
  left : List Pu
  now : Int
/-- What holds of senders. -/
structure SOk (s : Snd) : Prop where
  e0 : 0 ≤ s.ep
  e1 : s.ep ≤ 1073741824
  w0 : 1 ≤ s.wd
  w1 : s.wd ≤ 256
  p0 : 1 ≤ s.pt
  p1 : s.pt ≤ 256
  len : s.left.length ≤ 4096
  top : s.first + s.left.length ≤ 1073741825
  sz : ∀ x ∈ s.left, x.b.size ≤ 60000 ∧ -1 ≤ x.at_ ∧ x.at_ ≤ s.now
  n0 : 0 ≤ s.now
  n1 : s.now ≤ 1073741824
def lepB (n : Int) : Bool := decide (0 ≤ n ∧ n ≤ 1073741824)
def lstB (n : Int) : Bool := decide (1 ≤ n ∧ n ≤ 256)
def luE (s : Snd) (b : ByteArray) : Int := if 60000 < b.size ∨ s.left.length = 4096 ∨ 1073741824 < s.first + s.left.length then 2 else 0
def luS (s : Snd) (b : ByteArray) : Snd := if luE s b = 0 then ⟨s.ep, s.wd, s.pt, s.first, s.left ++ [⟨b, -1⟩], s.now⟩ else s
def ldE (s : Snd) (t : Int) : Int := if t < s.now ∨ 1073741824 < t then 1 else 0
/-- Is a text sent now? -/
def lagn (pt t : Int) (x : Pu) : Bool := x.at_ == -1 || decide (pt ≤ t - x.at_)
def lmk (pt t : Int) (x : Pu) : Pu := if lagn pt t x then ⟨x.b, t⟩ else x
/-- The packets that are sent, of texts numbered on from n. -/
def lpk (ep pt t : Int) : Nat → List Pu → List ByteArray
  | _, [] => []
  | n, x :: r => if lagn pt t x then dataB ep (n : Int) x.b :: lpk ep pt t (n + 1) r else lpk ep pt t (n + 1) r
def lmks (pt t : Int) (k : Nat) (l : List Pu) : List Pu := (l.take k).map (lmk pt t) ++ l.drop k
def ldS (s : Snd) (t : Int) : Snd := if ldE s t = 0 then ⟨s.ep, s.wd, s.pt, s.first, lmks s.pt t s.wd s.left, t⟩ else s
def ldO (s : Snd) (t : Int) : List ByteArray := if ldE s t = 0 then lpk s.ep s.pt t s.first (s.left.take s.wd) else []
def lhE (s : Snd) (b : ByteArray) : Int := match lrA b with
  | none => 3
  | some (e, n) => if e ≠ s.ep then 190 else if ((s.first + s.left.length : Nat) : Int) < n then 1 else 0
def lhS (s : Snd) (b : ByteArray) : Snd := match lrA b with
  | none => s
  | some (_, n) => if lhE s b = 0 ∧ (s.first : Int) < n then ⟨s.ep, s.wd, s.pt, n.toNat, s.left.drop (n.toNat - s.first), s.now⟩ else s

theorem lpk_append (ep pt t : Int) : ∀ (n : Nat) (a b : List Pu), lpk ep pt t n (a ++ b) = lpk ep pt t n a ++ lpk ep pt t (n + a.length) b
  | n, [], b => by simp [lpk]
  | n, x :: a, b => by
    rw [List.cons_append, lpk, lpk, lpk_append ep pt t (n + 1) a b, List.length_cons, show n + 1 + a.length = n + (a.length + 1) by omega]
    split <;> simp
theorem lpk_len (ep pt t : Int) : ∀ (n : Nat) (a : List Pu), (lpk ep pt t n a).length ≤ a.length
  | n, [] => Nat.le_refl _
  | n, x :: a => by
    have := lpk_len ep pt t (n + 1) a
    rw [lpk, List.length_cons]
    split
    · rw [List.length_cons]; omega
    · omega
theorem lmks_len (pt t : Int) (k : Nat) (l : List Pu) : (lmks pt t k l).length = l.length := by
  unfold lmks
  rw [List.length_append, List.length_map, ← List.length_append, List.take_append_drop]
theorem lmks_zero (pt t : Int) (l : List Pu) : lmks pt t 0 l = l := by simp [lmks]
theorem lmks_at (pt t : Int) (k : Nat) (l : List Pu) (i : Nat) (h : i < l.length) : (lmks pt t k l)[i]'(by rw [lmks_len]; exact h) = if i < k then lmk pt t l[i] else l[i] := by
  unfold lmks
  by_cases hk : i < k
  · rw [if_pos hk, List.getElem_append_left (by rw [List.length_map, List.length_take]; omega)]
    simp
  · rw [if_neg hk, List.getElem_append_right (by rw [List.length_map, List.length_take]; omega)]
    simp only [List.length_map, List.length_take, List.getElem_drop]
    congr 1
    omega
theorem lmks_succ (pt t : Int) (k : Nat) (l : List Pu) (h : k < l.length) : lmks pt t (k + 1) l = (lmks pt t k l).set k (lmk pt t l[k]) := by
  refine List.ext_getElem (by rw [List.length_set, lmks_len, lmks_len]) fun i h1 h2 => ?_
  have hi : i < l.length := by rw [lmks_len] at h1; exact h1
  rw [lmks_at _ _ _ _ _ hi, List.getElem_set]
  by_cases hik : k = i
  · subst hik
    rw [if_pos (by omega), if_pos rfl]
  · rw [if_neg hik, lmks_at _ _ _ _ _ hi]
    by_cases h3 : i < k
    · rw [if_pos (by omega), if_pos h3]
    · rw [if_neg (by omega), if_neg h3]
theorem lmks_past (pt t : Int) (k : Nat) (l : List Pu) (h : l.length ≤ k) : lmks pt t k l = lmks pt t l.length l := by
  unfold lmks
  rw [List.take_of_length_le h, List.drop_of_length_le h, List.take_length, List.drop_length]
theorem lpk_take_succ (ep pt t : Int) (n k : Nat) (l : List Pu) (h : k < l.length) : lpk ep pt t n (l.take (k + 1)) = lpk ep pt t n (l.take k) ++ (if lagn pt t l[k] then [dataB ep ((n + k : Nat) : Int) l[k].b] else []) := by
  rw [List.take_succ_eq_append_getElem h, lpk_append, List.length_take, Nat.min_eq_left (by omega), lpk, lpk]
theorem lmk_b (pt t : Int) (x : Pu) : (lmk pt t x).b = x.b := by unfold lmk; split <;> rfl
theorem SOk.luS {s : Snd} (h : SOk s) (b : ByteArray) : SOk (luS s b) := by
  unfold Lk.luS
  split
  · rename_i he
    unfold luE at he
    split at he
    · cases he
    · rename_i hn
      have hl := h.len
      refine ⟨h.e0, h.e1, h.w0, h.w1, h.p0, h.p1, by rw [List.length_append]; simp; omega, by rw [List.length_append]; simp; omega, fun x hx => ?_, h.n0, h.n1⟩
      rcases List.mem_append.1 hx with hx | hx
      · exact h.sz x hx
      · rw [List.mem_singleton] at hx
        subst hx
        have := h.n0
        exact ⟨by simp; omega, by simp, by simp; omega⟩
  · exact h
theorem lmks_sz {pt t now : Int} {k : Nat} {l : List Pu} (h : ∀ x ∈ l, x.b.size ≤ 60000 ∧ -1 ≤ x.at_ ∧ x.at_ ≤ now) (ht : now ≤ t) (h0 : 0 ≤ t) : ∀ x ∈ lmks pt t k l, x.b.size ≤ 60000 ∧ -1 ≤ x.at_ ∧ x.at_ ≤ t := fun x hx => by
  unfold lmks at hx
  rcases List.mem_append.1 hx with hx | hx
  · obtain ⟨y, hy, rfl⟩ := List.mem_map.1 hx
    have := h y (List.mem_of_mem_take hy)
    rw [lmk_b]
    refine ⟨this.1, ?_⟩
    unfold lmk
    split
    · exact ⟨by simp; omega, by simp⟩
    · exact ⟨this.2.1, by omega⟩
  · have := h x (List.mem_of_mem_drop hx)
    exact ⟨this.1, this.2.1, by omega⟩
theorem SOk.ldS {s : Snd} (h : SOk s) (t : Int) : SOk (ldS s t) := by
  unfold Lk.ldS
  split
  · rename_i he
    unfold ldE at he
    split at he
    · cases he
    · rename_i hn
      have h0 := h.n0
      exact ⟨h.e0, h.e1, h.w0, h.w1, h.p0, h.p1, by rw [lmks_len]; exact h.len, by rw [lmks_len]; exact h.top, lmks_sz h.sz (by omega) (by omega), by simp; omega, by simp; omega⟩
  · exact h
theorem lrA_bd {b : ByteArray} {e n : Int} (h : lrA b = some (e, n)) : 0 ≤ e ∧ e ≤ 1073741824 ∧ 0 ≤ n ∧ n ≤ 1073741825 := by
  unfold lrA at h
  split at h
  · obtain ⟨_, _, _, _, _, _, _, h1, h2, h3, h4⟩ := ackOf_some h
    exact ⟨h1, h2, h3, h4⟩
  · cases h
theorem lrD_bd {b : ByteArray} {e n : Int} {s : ByteArray} (h : lrD b = some (e, n, s)) : s.size ≤ 60000 ∧ 0 ≤ e ∧ e ≤ 1073741824 ∧ 0 ≤ n ∧ n ≤ 1073741824 := by
  unfold lrD at h
  split at h
  · obtain ⟨_, _, _, _, _, _, _, _, _, _, h1, h2, h3, h4, h5⟩ := dataOf_some h
    exact ⟨h1, h2, h3, h4, h5⟩
  · cases h
theorem SOk.lhS {s : Snd} (h : SOk s) (b : ByteArray) : SOk (lhS s b) := by
  unfold Lk.lhS
  cases hr : lrA b with
  | none => exact h
  | some p =>
    obtain ⟨e, n⟩ := p
    dsimp only
    split
    · rename_i hh
      obtain ⟨h1, h2⟩ := hh
      unfold lhE at h1
      rw [hr] at h1
      dsimp only at h1
      split at h1
      · cases h1
      · split at h1
        · cases h1
        · have ht := h.top
          have hl := h.len
          refine ⟨h.e0, h.e1, h.w0, h.w1, h.p0, h.p1, by rw [List.length_drop]; omega, by rw [List.length_drop]; dsimp only; omega, fun x hx => h.sz x (List.mem_of_mem_drop hx), h.n0, h.n1⟩
    · exact h

/-- Texts that came early. -/
def erl (l : List (Nat × ByteArray)) (n : Nat) : Option ByteArray := (l.find? fun x => x.1 == n).map Prod.snd
def erd (l : List (Nat × ByteArray)) (n : Nat) : List (Nat × ByteArray) := l.filter fun x => x.1 != n
structure Rcv where
  ep : Int
  wd : Nat
  next : Nat
  early : List (Nat × ByteArray)
structure ROk (r : Rcv) : Prop where
  e0 : 0 ≤ r.ep
  e1 : r.ep ≤ 1073741824
  w0 : 1 ≤ r.wd
  w1 : r.wd ≤ 256
  n1 : r.next ≤ 1073741825
  nd : (r.early.map Prod.fst).Nodup
  lo : ∀ x ∈ r.early, r.next ≤ x.1 ∧ x.1 < r.next + r.wd ∧ x.1 ≤ 1073741824 ∧ x.2.size ≤ 60000
def lkR (r : Rcv) (n : Nat) (b : ByteArray) : Rcv := if r.next ≤ n ∧ n < r.next + r.wd ∧ erl r.early n = none then ⟨r.ep, r.wd, r.next, r.early ++ [(n, b)]⟩ else r
/-- All that is told from a number on, without a gap. -/
def lgF : Nat → Nat → List (Nat × ByteArray) → List ByteArray × Nat × List (Nat × ByteArray)
  | 0, n, l => ([], n, l)
  | f + 1, n, l => match erl l n with
    | none => ([], n, l)
    | some b => (b :: (lgF f (n + 1) (erd l n)).1, (lgF f (n + 1) (erd l n)).2)
theorem lgF_succ (f n : Nat) (l : List (Nat × ByteArray)) : lgF (f + 1) n l = match erl l n with
    | none => ([], n, l)
    | some b => (b :: (lgF f (n + 1) (erd l n)).1, (lgF f (n + 1) (erd l n)).2) := rfl
def lgO (r : Rcv) : List ByteArray := (lgF r.early.length r.next r.early).1
def lgR (r : Rcv) : Rcv := ⟨r.ep, r.wd, (lgF r.early.length r.next r.early).2.1, (lgF r.early.length r.next r.early).2.2⟩
def ltE (r : Rcv) (b : ByteArray) : Int := match lrD b with
  | none => 3
  | some (e, _, _) => if e ≠ r.ep then 190 else 0
def ltK (r : Rcv) (b : ByteArray) : Rcv := match lrD b with
  | none => r
  | some (_, n, s) => if ltE r b = 0 then lkR r n.toNat s else r
def ltR (r : Rcv) (b : ByteArray) : Rcv := if ltE r b = 0 then lgR (ltK r b) else r
def ltO (r : Rcv) (b : ByteArray) : List ByteArray := if ltE r b = 0 then lgO (ltK r b) else []
def ltA (r : Rcv) (b : ByteArray) : ByteArray := if ltE r b = 0 then ackB r.ep ((ltR r b).next : Int) else ⟨#[]⟩
theorem erl_none {l : List (Nat × ByteArray)} {n : Nat} (h : erl l n = none) : ∀ x ∈ l, x.1 ≠ n := fun x hx e => by
  unfold erl at h
  rw [Option.map_eq_none_iff, List.find?_eq_none] at h
  exact h x hx (by simpa using e)
theorem erl_some {l : List (Nat × ByteArray)} {n : Nat} {b : ByteArray} (h : erl l n = some b) : (n, b) ∈ l := by
  unfold erl at h
  rw [Option.map_eq_some_iff] at h
  obtain ⟨⟨m, c⟩, h1, rfl⟩ := h
  have h2 := List.find?_some h1
  have h3 := List.mem_of_find?_eq_some h1
  simp at h2
  subst h2
  exact h3
theorem erd_len {l : List (Nat × ByteArray)} {n : Nat} {b : ByteArray} (h : erl l n = some b) : (erd l n).length < l.length := by
  unfold erd
  exact List.length_filter_lt_length_iff_exists.2 ⟨_, erl_some h, by simp⟩
theorem lgF_more : ∀ (f g n : Nat) (l : List (Nat × ByteArray)), l.length ≤ f → l.length ≤ g → lgF f n l = lgF g n l
  | 0, 0, _, _, _, _ => rfl
  | 0, g + 1, n, l, hf, _ => by
    obtain rfl : l = [] := List.eq_nil_of_length_eq_zero (by omega)
    rfl
  | f + 1, 0, n, l, _, hg => by
    obtain rfl : l = [] := List.eq_nil_of_length_eq_zero (by omega)
    rfl
  | f + 1, g + 1, n, l, hf, hg => by
    unfold lgF
    cases h : erl l n with
    | none => rfl
    | some b =>
      have := erd_len h
      dsimp only
      rw [lgF_more f g (n + 1) (erd l n) (by omega) (by omega)]
theorem lgF_stop {l : List (Nat × ByteArray)} {n : Nat} (f : Nat) (h : erl l n = none) : lgF f n l = ([], n, l) := by
  cases f with
  | zero => rfl
  | succ f => unfold lgF; rw [h]
theorem lgF_go {l : List (Nat × ByteArray)} {n : Nat} {b : ByteArray} (h : erl l n = some b) : lgF l.length n l = (b :: (lgF (erd l n).length (n + 1) (erd l n)).1, (lgF (erd l n).length (n + 1) (erd l n)).2) := by
  have hd := erd_len h
  obtain ⟨f, hf⟩ : ∃ f, l.length = f + 1 := ⟨l.length - 1, by omega⟩
  rw [hf, lgF_succ, h]
  dsimp only
  rw [lgF_more f (erd l n).length (n + 1) (erd l n) (by omega) (Nat.le_refl _)]
theorem lgR_stop {r : Rcv} (h : erl r.early r.next = none) : lgR r = r ∧ lgO r = [] := by
  unfold lgR lgO
  rw [lgF_stop _ h]
  exact ⟨rfl, rfl⟩
theorem lgR_go {r : Rcv} {b : ByteArray} (h : erl r.early r.next = some b) : lgR r = lgR ⟨r.ep, r.wd, r.next + 1, erd r.early r.next⟩ ∧ lgO r = b :: lgO ⟨r.ep, r.wd, r.next + 1, erd r.early r.next⟩ := by
  unfold lgR lgO
  rw [lgF_go h]
  exact ⟨rfl, rfl⟩
theorem erd_mem {l : List (Nat × ByteArray)} {n : Nat} {x : Nat × ByteArray} (h : x ∈ erd l n) : x ∈ l ∧ x.1 ≠ n := by
  unfold erd at h
  rw [List.mem_filter] at h
  exact ⟨h.1, by simpa using h.2⟩
theorem ROk.step {r : Rcv} (h : ROk r) {b : ByteArray} (hf : erl r.early r.next = some b) : ROk ⟨r.ep, r.wd, r.next + 1, erd r.early r.next⟩ ∧ b.size ≤ 60000 := by
  have hm := h.lo _ (erl_some hf)
  dsimp only at hm
  refine ⟨⟨h.e0, h.e1, h.w0, h.w1, by dsimp only; omega, ?_, fun x hx => ?_⟩, hm.2.2.2⟩
  · exact (List.filter_sublist.map _).nodup h.nd
  · obtain ⟨h1, h2⟩ := erd_mem hx
    have := h.lo x h1
    dsimp only
    exact ⟨by omega, by omega, this.2.2.1, this.2.2.2⟩
theorem ROk.lgR {r : Rcv} (h : ROk r) : ROk (lgR r) := by
  obtain ⟨k, hk⟩ : ∃ k, r.early.length = k := ⟨_, rfl⟩
  induction k using Nat.strongRecOn generalizing r with
  | ind k ih =>
    cases hf : erl r.early r.next with
    | none => rw [(lgR_stop hf).1]; exact h
    | some b =>
      rw [(lgR_go hf).1]
      exact ih _ (by have := erd_len hf; dsimp only; omega) (h.step hf).1 rfl
theorem ROk.lkR {r : Rcv} (h : ROk r) (n : Nat) (b : ByteArray) (hn : n ≤ 1073741824) (hb : b.size ≤ 60000) : ROk (lkR r n b) := by
  unfold Lk.lkR
  split
  · rename_i hh
    refine ⟨h.e0, h.e1, h.w0, h.w1, h.n1, ?_, fun x hx => ?_⟩
    · rw [List.map_append, List.nodup_append]
      refine ⟨h.nd, by simp, fun a ha c hc => ?_⟩
      obtain ⟨x, hx, rfl⟩ := List.mem_map.1 ha
      simp at hc
      subst hc
      exact erl_none hh.2.2 x hx
    · rcases List.mem_append.1 hx with hx | hx
      · exact h.lo x hx
      · rw [List.mem_singleton] at hx
        subst hx
        exact ⟨hh.1, hh.2.1, hn, hb⟩
  · exact h
theorem ROk.ltK {r : Rcv} (h : ROk r) (b : ByteArray) : ROk (ltK r b) := by
  unfold Lk.ltK
  cases hr : lrD b with
  | none => exact h
  | some p =>
    obtain ⟨e, n, s⟩ := p
    have := lrD_bd hr
    dsimp only
    split
    · exact h.lkR _ _ (by omega) this.1
    · exact h
theorem ROk.ltR {r : Rcv} (h : ROk r) (b : ByteArray) : ROk (ltR r b) := by
  unfold Lk.ltR
  split
  · exact (h.ltK b).lgR
  · exact h
theorem nodup_bound (l : List Nat) (lo w : Nat) (hn : l.Nodup) (h : ∀ x ∈ l, lo ≤ x ∧ x < lo + w) : l.length ≤ w := by
  have h1 : (l.map fun x => x - lo).Nodup := by
    refine List.Pairwise.map _ ?_ (List.Pairwise.and_mem.1 hn)
    rintro a b ⟨ha, hb, hne⟩ e
    have := h a ha
    have := h b hb
    exact hne (by omega)
  have h2 : (l.map fun x => x - lo) ⊆ List.range w := fun y hy => by
    obtain ⟨x, hx, rfl⟩ := List.mem_map.1 hy
    have := h x hx
    rw [List.mem_range]
    omega
  have := List.Nodup.length_le_of_subset h1 h2
  simpa using this
theorem ROk.few {r : Rcv} (h : ROk r) : r.early.length ≤ 256 := by
  have := nodup_bound (r.early.map Prod.fst) r.next r.wd h.nd (fun x hx => by
    obtain ⟨y, hy, rfl⟩ := List.mem_map.1 hx
    have := h.lo y hy
    omega)
  rw [List.length_map] at this
  have := h.w1
  omega
theorem lgO_len {r : Rcv} : (lgO r).length ≤ r.early.length := by
  obtain ⟨k, hk⟩ : ∃ k, r.early.length = k := ⟨_, rfl⟩
  induction k using Nat.strongRecOn generalizing r with
  | ind k ih =>
    cases hf : erl r.early r.next with
    | none => rw [(lgR_stop hf).2]; exact Nat.zero_le _
    | some b =>
      have hd := erd_len hf
      have := ih _ (by dsimp only; omega) (r := ⟨r.ep, r.wd, r.next + 1, erd r.early r.next⟩) rfl
      rw [(lgR_go hf).2, List.length_cons]
      dsimp only at this
      omega
end Go.Proofs.Ytiomngpfolkgpaa.Lk
namespace Go.Proofs.Ytiomngpfolkgpaa.Lk
open Go.RowKit

theorem rdI_num (l : List UInt8) (h : (rdI l).1.t = false) : (rdI l).1.s = ⟨#[]⟩ := by
  cases l with
  | nil => rfl
  | cons c r =>
    rw [rdI] at h ⊢
    split
    · rfl
    · rename_i h1
      rw [if_neg h1] at h
      split
      · rfl
      · rename_i h2
        rw [if_neg h2] at h
        split
        · rfl
        · rename_i h3
          rw [if_neg h3] at h
          split
          · rfl
          · rename_i h4
            rw [if_neg h4] at h
            split
            · rfl
            · rename_i h5
              rw [if_neg h5] at h
              cases h
theorem decF_num (f : Nat) : ∀ (b : List UInt8) (a : Nat) (acc : List It), (∀ x ∈ acc, x.t = false → x.s = ⟨#[]⟩) → ∀ x ∈ (decF f b a acc).1, x.t = false → x.s = ⟨#[]⟩ := by
  induction f with
  | zero => intro b a acc h; exact h
  | succ f ih =>
    intro b a acc h
    rw [decF]
    split
    · exact h
    · split
      · intro x hx; cases hx
      · split
        · intro x hx; cases hx
        · refine ih _ _ _ (fun x hx => ?_)
          rcases List.mem_append.1 hx with hx | hx
          · exact h x hx
          · rw [List.mem_singleton] at hx
            subst hx
            exact rdI_num _
theorem decS_num (b : List UInt8) : ∀ x ∈ (decS b).1, x.t = false → x.s = ⟨#[]⟩ := by
  unfold decS
  split
  · intro x hx; cases hx
  · exact decF_num _ _ _ _ (fun x hx => by cases hx)
/-- The head of a packet, as the document looks at it. -/
def hdR (k m : Int) (a b c : It) : Prop := a.t = false ∧ a.n = k ∧ b.t = false ∧ 0 ≤ b.n ∧ b.n ≤ 1073741824 ∧ c.t = false ∧ 0 ≤ c.n ∧ c.n ≤ m
theorem headB_hdR {k m : Int} {a b c : It} {r : List It} (h : a.t = false → a.s = ⟨#[]⟩) : headB (a :: b :: c :: r) k m = true ↔ hdR k m a b c := by
  unfold headB hdR isKind
  rw [Bool.and_eq_true, Bool.and_eq_true, Bool.and_eq_true, Bool.and_eq_true, isNum_iff, isNum_iff, Bool.not_eq_true', beq_iff_eq]
  constructor
  · rintro ⟨⟨h1, h2, _⟩, ⟨h3, h4, h5⟩, h6, h7, h8⟩
    exact ⟨h1, h2, h3, h4, h5, h6, h7, h8⟩
  · rintro ⟨h1, h2, h3, h4, h5, h6, h7, h8⟩
    refine ⟨⟨h1, h2, ?_⟩, ⟨h3, h4, h5⟩, h6, h7, h8⟩
    rw [h h1]
    unfold ByteArray.toList ByteArray.toList.loop
    rfl
/-- What the document's parse tells: nothing, or the items. -/
def prs (b : ByteArray) (many : Nat) (k m : Int) : Prop := (decS b.data.toList).2.2 = 0 ∧ (decS b.data.toList).1.length = many ∧ ∃ x y z r, (decS b.data.toList).1 = x :: y :: z :: r ∧ hdR k m x y z
theorem lrA_prs {p : ByteArray} (h : ¬ prs p 3 1 1073741825) : lrA p = none := by
  unfold lrA
  split
  · rename_i hc
    cases ha : ackOf (decS p.data.toList).1 with
    | none => rfl
    | some q =>
      exfalso
      obtain ⟨e, n⟩ := q
      obtain ⟨a, b, c, hl, hh, _⟩ := ackOf_some ha
      refine h ⟨hc, by rw [hl]; rfl, a, b, c, [], hl, ?_⟩
      rw [hl] at hh
      exact (headB_hdR (decS_num _ a (by rw [hl]; simp))).1 hh
  · rfl
theorem lrA_some {p : ByteArray} {x y z : It} {r : List It} (hc : (decS p.data.toList).2.2 = 0) (hl : (decS p.data.toList).1.length = 3) (he : (decS p.data.toList).1 = x :: y :: z :: r) (hh : hdR 1 1073741825 x y z) : lrA p = some (y.n, z.n) := by
  unfold lrA
  rw [if_pos hc, he]
  obtain rfl : r = [] := by
    rw [he] at hl
    simp at hl
    exact hl
  unfold ackOf
  dsimp only
  rw [if_pos ((headB_hdR (decS_num _ x (by rw [he]; simp))).2 hh)]
theorem lrD_prs {p : ByteArray} (h : ¬ prs p 4 0 1073741824) : lrD p = none := by
  unfold lrD
  split
  · rename_i hc
    cases ha : dataOf (decS p.data.toList).1 with
    | none => rfl
    | some q =>
      exfalso
      obtain ⟨e, n, s⟩ := q
      obtain ⟨a, b, c, d, hl, hh, _⟩ := dataOf_some ha
      refine h ⟨hc, by rw [hl]; rfl, a, b, c, [d], hl, ?_⟩
      exact (headB_hdR (decS_num _ a (by rw [hl]; simp))).1 hh
  · rfl
theorem lrD_is {p : ByteArray} {x y z d : It} (hc : (decS p.data.toList).2.2 = 0) (he : (decS p.data.toList).1 = [x, y, z, d]) (hh : hdR 0 1073741824 x y z) : lrD p = if d.t = true ∧ d.s.size ≤ 60000 then some (y.n, z.n, d.s) else none := by
  unfold lrD
  rw [if_pos hc, he]
  unfold dataOf
  dsimp only
  have h1 := (headB_hdR (r := []) (decS_num _ x (by rw [he]; simp))).2 hh
  rw [h1, Bool.true_and]
  by_cases hd : d.t = true ∧ d.s.size ≤ 60000
  · rw [if_pos hd, if_pos (by rw [hd.1, decide_eq_true hd.2]; rfl)]
  · rw [if_neg hd, if_neg (by rw [Bool.and_eq_true, decide_eq_true_iff]; exact hd)]
/-- Early texts: the one that is found is taken out. -/
theorem erl_at {l : List (Nat × ByteArray)} {n : Nat} {b : ByteArray} (h : erl l n = some b) : ∃ i, ∃ hi : i < l.length, l[i] = (n, b) ∧ ∀ j (hj : j < l.length), j < i → (l[j]).1 ≠ n := by
  induction l with
  | nil => cases h
  | cons x l ih =>
    by_cases hx : x.1 = n
    · refine ⟨0, by simp, ?_, fun j _ hj => absurd hj (Nat.not_lt_zero j)⟩
      unfold erl at h
      rw [List.find?_cons_of_pos (by simpa using hx)] at h
      simp only [Option.map_some, Option.some.injEq] at h
      show x = (n, b)
      rw [← hx, ← h]
    · have h' : erl l n = some b := by
        unfold erl at h ⊢
        rwa [List.find?_cons_of_neg (by simpa using hx)] at h
      obtain ⟨i, hi, h1, h2⟩ := ih h'
      refine ⟨i + 1, by simp; omega, h1, fun j hj hji => ?_⟩
      cases j with
      | zero => exact hx
      | succ j => exact h2 j (by simpa using hj) (by omega)
theorem erd_at {l : List (Nat × ByteArray)} {n : Nat} (hnd : (l.map Prod.fst).Nodup) {i : Nat} (hi : i < l.length) (hn : (l[i]).1 = n) : erd l n = l.take i ++ l.drop (i + 1) := by
  induction l generalizing i with
  | nil => cases hi
  | cons x l ih =>
    rw [List.map_cons, List.nodup_cons] at hnd
    unfold erd
    cases i with
    | zero =>
      have hx : x.1 = n := hn
      rw [List.filter_cons_of_neg (by simpa using hx)]
      show _ = l
      refine List.filter_eq_self.2 (fun y hy => ?_)
      have : y.1 ≠ n := fun e => hnd.1 (List.mem_map.2 ⟨y, hy, by rw [e, hx]⟩)
      simpa using this
    | succ i =>
      have hi' : i < l.length := by simpa using hi
      have hn' : (l[i]).1 = n := hn
      have hx : x.1 ≠ n := fun e => hnd.1 (List.mem_map.2 ⟨l[i], List.getElem_mem hi', by rw [hn', e]⟩)
      rw [List.filter_cons_of_pos (by simpa using hx)]
      have := ih hnd.2 hi' hn'
      unfold erd at this
      rw [this]
      rfl
end Go.Proofs.Ytiomngpfolkgpaa.Lk
