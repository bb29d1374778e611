/-
  Reading a text as an expression, plainly; what is written is read back.
  ExprSums: numbers are reckoned modulo 2^64: plainly.
-/
import Derived.Test.YthipclehhcfahaaGreatDoorGs30
import Derived.Test.YthipclehhcfahaaGreatDoorGs25
namespace Go.Proofs.YthipclehhcfahaaGreatDoor
open Go.RowKit

/-- How tokens are read from the first on. -/
def psR (l : List Tk) : PR := pRd (mRd 0 l) 0 0 [] l
def hdPl : List Tk → Int
  | [] => 0
  | t :: _ => t.pl
def hdKd : List Tk → Int
  | [] => 0
  | t :: _ => t.kd
/-- What Read tells: the parts, the place and the number of a fault. -/
structure RO where
  x : List Pt
  at_ : Int
  c : Int
def rdG (n : Nat) (ts : List Tk) : RO := match psR (ts ++ [endZ n]) with
  | .bad q => ⟨[], hdPl q, 110⟩
  | .good x q => if ckK x = 0 then ⟨[], 0, 110⟩ else if hdKd q = 0 then ⟨x, 0, 0⟩ else ⟨[], hdPl q, 110⟩
def rdO (s : ByteArray) : RO := match tsR s with
  | .bad k c => ⟨[], (k : Int), c⟩
  | .good ts => rdG s.size ts
/-- Of tokens that may be all parts may be held. -/
def PR.fits : PR → Prop
  | .bad _ => True
  | .good x _ => ∀ p ∈ x, p.ok
theorem e0 : (txt []).size = 0 := rfl
theorem opP_ok {k : Int} (h : -100 ≤ k ∧ k ≤ 100) : (opP k).ok := by
  unfold opP Pt.ok
  dsimp only
  rw [e0]
  omega
theorem opA_ok {n : Nat} {s : List UInt8} {k : Int} (h : opA n s = some k) : (opP k).ok := by
  have h1 := (opA_some h).1
  apply opP_ok
  unfold lvO at h1
  repeat' split at h1
  all_goals first | (simp at h1; omega) | simp at h1
theorem fldOf_rng (s : List UInt8) : -1 ≤ fldOf s ∧ fldOf s ≤ 5 := by
  unfold fldOf
  repeat' split
  all_goals omega
theorem fdE_fits (st : ByteArray) (hst : st.size ≤ 9223372036854775807) (ts : List Tk) : (fdE st ts).fits := by
  cases ts with
  | nil => trivial
  | cons c r =>
    rw [fdE]
    split
    · intro p hp
      simp only [List.mem_singleton] at hp
      subst hp
      have := fldOf_rng (wdT c)
      unfold Pt.ok
      dsimp only
      rw [e0]
      omega
    · trivial
theorem fdR_fits (t : Tk) (ht : t.ok) (r : List Tk) : (fdR t r).fits := by
  unfold fdR
  split
  · cases r with
    | nil => trivial
    | cons c q =>
      dsimp only
      split
      · exact fdE_fits t.s (by unfold Tk.ok at ht; omega) q
      · trivial
  · exact fdE_fits (txt []) (by rw [e0]; omega) _
theorem shut_fits (x : List Pt) (hx : ∀ p ∈ x, p.ok) (q : List Tk) : (shut x q).fits := by
  cases q with
  | nil => trivial
  | cons c q =>
    rw [shut]
    split
    · exact hx
    · trivial
theorem suf_mem {a b : List Tk} (h : a <:+ b) {Q : Tk → Prop} (hb : ∀ t ∈ b, Q t) : ∀ t ∈ a, Q t := fun t ht => hb t (h.mem ht)
theorem cons_ok {k : Int} {x : List Pt} (h : (opP k).ok) (hx : ∀ p ∈ x, p.ok) : ∀ p ∈ opP k :: x, p.ok := by
  intro p hp
  rcases List.mem_cons.1 hp with rfl | hp
  · exact h
  · exact hx p hp
theorem app_ok {x y : List Pt} (hx : ∀ p ∈ x, p.ok) (hy : ∀ p ∈ y, p.ok) : ∀ p ∈ x ++ y, p.ok := by
  intro p hp
  rcases List.mem_append.1 hp with hp | hp
  · exact hx p hp
  · exact hy p hp
theorem pRd_fits (f : Nat) : ∀ (m d : Nat) (acc : List Pt) (ts : List Tk), (∀ t ∈ ts, t.ok) → (∀ p ∈ acc, p.ok) → (pRd f m d acc ts).fits := by
  induction f with
  | zero => intro m d acc ts _ _; rw [pRd]; trivial
  | succ f ih =>
    intro m d acc ts hts hacc
    have ih' : ∀ (m d : Nat) (acc : List Pt) (ts' : List Tk), ts' <:+ ts → (∀ p ∈ acc, p.ok) → (pRd f m d acc ts').fits := fun m d acc ts' hs ha => ih m d acc ts' (suf_mem hs hts) ha
    have suf := fun (m d : Nat) (acc : List Pt) (ts' : List Tk) => pRd_suf f m d acc ts'
    have nil : ∀ p ∈ ([] : List Pt), p.ok := fun p hp => by cases hp
    cases ts with
    | nil => rw [pRd]; trivial
    | cons t r =>
      have ht := hts t (by simp)
      have hr : r <:+ t :: r := List.suffix_cons t r
      have hrf : t :: r <:+ t :: r := List.suffix_refl _
      rw [pRd]
      by_cases h6 : m = 6
      · rw [if_pos h6]
        split
        · intro p hp
          simp only [List.mem_singleton] at hp
          subst hp
          unfold Tk.ok at ht
          unfold Pt.ok
          dsimp only
          rw [e0]
          omega
        · split
          · intro p hp
            simp only [List.mem_singleton] at hp
            subst hp
            unfold Tk.ok at ht
            unfold Pt.ok
            dsimp only
            rw [e0]
            omega
          · split
            · exact fdR_fits t ht r
            · split
              · split
                · have h1 := ih' 0 (d + 1) [] r hr nil
                  cases hE : pRd f 0 (d + 1) [] r with
                  | bad q => trivial
                  | good x q => rw [hE] at h1; exact shut_fits x h1 q
                · trivial
              · trivial
      · rw [if_neg h6]
        split
        · split
          · rename_i kk hk
            split
            · have h1 := ih' 2 (d + 1) [] r hr nil
              cases hE : pRd f 2 (d + 1) [] r with
              | bad q => trivial
              | good x q => rw [hE] at h1; exact cons_ok (opA_ok hk) h1
            · trivial
          · exact ih' 3 d [] (t :: r) hrf nil
        · split
          · have h1 := ih' 4 d [] (t :: r) hrf nil
            have s1 := suf 4 d [] (t :: r)
            cases hE : pRd f 4 d [] (t :: r) with
            | bad q => trivial
            | good x q =>
              rw [hE] at h1 s1
              cases q with
              | nil => trivial
              | cons c q' =>
                dsimp only
                split
                · exact h1
                · rename_i kk hk
                  have h2 := ih' 4 d [] q' ((List.suffix_cons c q').trans s1) nil
                  cases hE2 : pRd f 4 d [] q' with
                  | bad s => trivial
                  | good y s => rw [hE2] at h2; exact cons_ok (opA_ok hk) (app_ok h1 h2)
          · split
            · have h1 := ih' (m + 1) d [] (t :: r) hrf nil
              have s1 := suf (m + 1) d [] (t :: r)
              cases hE : pRd f (m + 1) d [] (t :: r) with
              | bad q => trivial
              | good x q => rw [hE] at h1 s1; exact ih' (m + 10) d x q s1 h1
            · split
              · exact hacc
              · rename_i kk hk
                have h1 := ih' (m - 10 + 1) d [] r hr nil
                have s1 := suf (m - 10 + 1) d [] r
                cases hE : pRd f (m - 10 + 1) d [] r with
                | bad q => trivial
                | good y q => rw [hE] at h1 s1; exact ih' m d _ q (s1.trans hr) (cons_ok (opA_ok hk) (app_ok hacc h1))
theorem endd_snoc (ts : List Tk) (n : Nat) : Endd (ts ++ [endZ n]) := ⟨ts, endZ n, rfl, rfl⟩
/-- What is written is read back. -/
theorem write_read {x : List Pt} (h : ckK x ≠ 0) (hok : ∀ p ∈ x, p.ok) : rdO (wrS x) = ⟨x, 0, 0⟩ := by
  obtain ⟨t, h1, h2, h3, h4, h5, h6⟩ := ckK_leaves h
  have hfd : fdX wrv x = some (t.val wrv) := by rw [h3]; exact fdX_flat wrv t h1
  have hlv := t.fine_leaves h2
  have hnk : ∀ q ∈ t.flat, q.nk := fun q hq => (hok q (by rw [h3]; exact hq)).2.1.2
  have hlen := t.wr_len h1 hlv hnk
  have hw : wrS x = txt t.wr := by unfold wrS; rw [if_neg h, hfd]; rfl
  obtain ⟨b1, b2⟩ := t.bod_wr h2 hnk
  rw [← h3] at hlen b2
  obtain ⟨ts, g1, g2⟩ := toks_join t.bod 0 b1 (by omega)
  have hsz : (txt t.wr).size = t.wr.length := txt_size _
  have ht : tsR (txt t.wr) = .good ts := by
    unfold tsR
    rw [if_neg (by rw [hsz]; unfold Ex.wr; omega), txt_list, t.wr_tok]
    exact g1
  obtain ⟨e, r1, r2⟩ := read_back t h2 h4 ts (txt t.wr).size g2
  rw [hw]
  unfold rdO
  rw [ht]
  dsimp only
  unfold rdG psR
  rw [r1]
  dsimp only
  rw [← h3, if_neg h, if_pos (show hdKd [e] = 0 from r2)]
theorem rdG_may {n : Nat} {ts : List Tk} (h : (rdG n ts).c = 0) : ckK (rdG n ts).x ≠ 0 := by
  unfold rdG at h ⊢
  split at h
  · cases h
  · split at h
    · cases h
    · split at h
      · rename_i x q _ hk hq
        rw [if_neg hk, if_pos hq]
        exact hk
      · cases h
/-- What is read may be. -/
theorem read_may {s : ByteArray} (h : (rdO s).c = 0) : ckK (rdO s).x ≠ 0 := by
  rcases tsR_code s with ⟨ts, hr, _, _⟩ | ⟨_, hc⟩
  · unfold rdO at h ⊢
    rw [hr] at h ⊢
    exact rdG_may h
  · exfalso
    unfold rdO at h
    cases hr : tsR s with
    | bad k c => rw [hr] at h hc; exact hc h
    | good ts => rw [hr] at hc; exact hc rfl
theorem rdG_ok {n : Nat} {ts : List Tk} (h : ∀ t ∈ ts ++ [endZ n], t.ok) : ∀ p ∈ (rdG n ts).x, p.ok := by
  have hf := pRd_fits (mRd 0 (ts ++ [endZ n])) 0 0 [] (ts ++ [endZ n]) h (fun p hp => by cases hp)
  unfold rdG psR
  split
  · intro p hp; cases hp
  · rename_i x q he
    rw [he] at hf
    split
    · intro p hp; cases hp
    · split
      · exact hf
      · intro p hp; cases hp
theorem read_ok (s : ByteArray) : ∀ p ∈ (rdO s).x, p.ok := by
  have hk := tsL_ok s
  unfold rdO
  cases hr : tsR s with
  | bad k c => intro p hp; cases hp
  | good ts =>
    rw [hr] at hk
    exact rdG_ok hk
theorem rdG_zero {n : Nat} {ts : List Tk} : ((rdG n ts).at_ == 0 && (rdG n ts).c == 0) = true → (rdG n ts).c = 0 := by
  intro h
  simp at h
  exact h.2
/-- Where there is a fault there are no parts. -/
theorem read_none {s : ByteArray} (h : (rdO s).c ≠ 0) : (rdO s).x = [] := by
  unfold rdO at h ⊢
  cases hr : tsR s with
  | bad k c => rfl
  | good ts =>
    rw [hr] at h
    dsimp only at h ⊢
    unfold rdG at h ⊢
    split
    · rfl
    · rename_i x q he
      rw [he] at h
      dsimp only at h
      split
      · rfl
      · rename_i hk
        rw [if_neg hk] at h
        split
        · rename_i hq
          rw [if_pos hq] at h
          exact absurd rfl h
        · rfl
theorem read_at {s : ByteArray} (h : (rdO s).c = 0) : (rdO s).at_ = 0 := by
  rcases tsR_code s with ⟨ts, hr, _, _⟩ | ⟨_, hc⟩
  · unfold rdO at h ⊢
    rw [hr] at h ⊢
    dsimp only at h ⊢
    unfold rdG at h ⊢
    split
    · rename_i q he
      rw [he] at h
      cases h
    · rename_i x q he
      rw [he] at h
      dsimp only at h
      split
      · rfl
      · rename_i hk
        rw [if_neg hk] at h
        split
        · rfl
        · rename_i hq
          rw [if_neg hq] at h
          cases h
  · exfalso
    unfold rdO at h
    cases hr : tsR s with
    | bad k c => rw [hr] at h hc; exact hc h
    | good ts => rw [hr] at hc; exact hc rfl
theorem read_len {s : ByteArray} : (rdO s).x.length ≤ 200 := by
  by_cases h : (rdO s).c = 0
  · obtain ⟨t, _, _, _, _, h5⟩ := ckK_some (read_may h)
    exact h5
  · rw [read_none h]
    simp
end Go.Proofs.YthipclehhcfahaaGreatDoor
namespace Go.Proofs.YthipclehhcfahaaGreatDoor
open Go.RowKit

/-- The law's event. -/
def sumV (a b c : Int) : Ev := ⟨⟨#[107]⟩, ⟨#[116]⟩, a, b, c, IntKind.i64.wrap (a + b), noB⟩
def sumM (a b c : Int) : Mo := ⟨sumV a b c, [], []⟩
/-- The law's texts, and what they must tell. -/
def sumS : List ByteArray := [⟨#[110, 48, 32, 43, 32, 110, 49, 32, 61, 61, 32, 110, 51]⟩, ⟨#[110, 49, 32, 43, 32, 110, 48, 32, 61, 61, 32, 110, 48, 32, 43, 32, 110, 49]⟩, ⟨#[110, 48, 32, 42, 32, 110, 49, 32, 61, 61, 32, 110, 49, 32, 42, 32, 110, 48]⟩, ⟨#[110, 48, 32, 45, 32, 110, 49, 32, 43, 32, 110, 49, 32, 61, 61, 32, 110, 48]⟩, ⟨#[110, 48, 32, 42, 32, 40, 110, 49, 32, 43, 32, 110, 50, 41, 32, 61, 61, 32, 110, 48, 32, 42, 32, 110, 49, 32, 43, 32, 110, 48, 32, 42, 32, 110, 50]⟩, ⟨#[110, 48, 32, 60, 32, 110, 49, 32, 111, 114, 32, 110, 49, 32, 60, 61, 32, 110, 48]⟩, ⟨#[110, 48, 32, 60, 32, 110, 49, 32, 97, 110, 100, 32, 110, 49, 32, 60, 61, 32, 110, 48]⟩, ⟨#[110, 48, 32, 61, 61, 32, 110, 49]⟩, ⟨#[110, 111, 116, 32, 110, 48, 32, 33, 61, 32, 110, 49]⟩]
def sumW (a b : Int) : List Bool := [true, true, true, true, true, true, false, (a == b), (a == b)]
theorem eqV_num (x y : Int) : eqV ⟨x, noB, false⟩ ⟨y, noB, false⟩ = (x == y) := by
  unfold eqV
  simp
  rfl
theorem wrap_mul (a x : Int) : ∃ q : Int, a * IntKind.i64.wrap x = a * x + 18446744073709551616 * q := by
  refine ⟨a * -((x + 9223372036854775808) / 18446744073709551616), ?_⟩
  have h : IntKind.i64.wrap x = x + 18446744073709551616 * -((x + 9223372036854775808) / 18446744073709551616) := by
    rw [IntKind.wrap_i64]
    omega
  rw [h, Int.mul_add, Int.mul_left_comm]
theorem wrap_plus (x y q r : Int) (h : x = y + 18446744073709551616 * q - 18446744073709551616 * r) : IntKind.i64.wrap x = IntKind.i64.wrap y := by
  rw [IntKind.wrap_i64, IntKind.wrap_i64]
  omega
theorem wrap_back (a b : Int) (h1 : -9223372036854775808 ≤ a) (h2 : a ≤ 9223372036854775807) : IntKind.i64.wrap (IntKind.i64.wrap (a - b) + b) = a := by
  rw [IntKind.wrap_i64, IntKind.wrap_i64]
  omega
theorem wrap_dist (a b c : Int) : IntKind.i64.wrap (a * IntKind.i64.wrap (b + c)) = IntKind.i64.wrap (IntKind.i64.wrap (a * b) + IntKind.i64.wrap (a * c)) := by
  obtain ⟨q, hq⟩ := wrap_mul a (b + c)
  rw [hq, Int.mul_add]
  rw [IntKind.wrap_i64, IntKind.wrap_i64, IntKind.wrap_i64, IntKind.wrap_i64]
  omega
/-- A text that is read, and what it tells of the moment. -/
theorem sum_one {s : ByteArray} {M : Mo} {v : Vl} {r : Bool} (h1 : (rdO s).c = 0) (h2 : ckK (rdO s).x = 3) (h3 : M.ns.length = M.la.length) (h4 : hasS M.ns (rdO s).x = true) (h5 : fdX (vlv M) (rdO s).x = some v) (h6 : v.t = r) : (rdO s).c = 0 ∧ hdE (rdO s).x M = 0 ∧ hdB (rdO s).x M = r := by
  obtain ⟨e1, w, e2, e3⟩ := hold_ok h2 h3 h4
  rw [h5] at e2
  cases e2
  exact ⟨h1, e1, e3.trans h6⟩
theorem sum_0 (a b c : Int) : (rdO ⟨#[110, 48, 32, 43, 32, 110, 49, 32, 61, 61, 32, 110, 51]⟩).c = 0 ∧ hdE (rdO ⟨#[110, 48, 32, 43, 32, 110, 49, 32, 61, 61, 32, 110, 51]⟩).x (sumM a b c) = 0 ∧ hdB (rdO ⟨#[110, 48, 32, 43, 32, 110, 49, 32, 61, 61, 32, 110, 51]⟩).x (sumM a b c) = true :=
  sum_one (v := ⟨0, noB, eqV ⟨IntKind.i64.wrap (a + b), noB, false⟩ ⟨IntKind.i64.wrap (a + b), noB, false⟩⟩) (by kernel_rfl) (by kernel_rfl) rfl (by kernel_rfl) (by kernel_rfl) (by rw [eqV_num]; simp)
theorem sum_1 (a b c : Int) : (rdO ⟨#[110, 49, 32, 43, 32, 110, 48, 32, 61, 61, 32, 110, 48, 32, 43, 32, 110, 49]⟩).c = 0 ∧ hdE (rdO ⟨#[110, 49, 32, 43, 32, 110, 48, 32, 61, 61, 32, 110, 48, 32, 43, 32, 110, 49]⟩).x (sumM a b c) = 0 ∧ hdB (rdO ⟨#[110, 49, 32, 43, 32, 110, 48, 32, 61, 61, 32, 110, 48, 32, 43, 32, 110, 49]⟩).x (sumM a b c) = true :=
  sum_one (v := ⟨0, noB, eqV ⟨IntKind.i64.wrap (b + a), noB, false⟩ ⟨IntKind.i64.wrap (a + b), noB, false⟩⟩) (by kernel_rfl) (by kernel_rfl) rfl (by kernel_rfl) (by kernel_rfl) (by rw [eqV_num, Int.add_comm]; simp)
theorem sum_2 (a b c : Int) : (rdO ⟨#[110, 48, 32, 42, 32, 110, 49, 32, 61, 61, 32, 110, 49, 32, 42, 32, 110, 48]⟩).c = 0 ∧ hdE (rdO ⟨#[110, 48, 32, 42, 32, 110, 49, 32, 61, 61, 32, 110, 49, 32, 42, 32, 110, 48]⟩).x (sumM a b c) = 0 ∧ hdB (rdO ⟨#[110, 48, 32, 42, 32, 110, 49, 32, 61, 61, 32, 110, 49, 32, 42, 32, 110, 48]⟩).x (sumM a b c) = true :=
  sum_one (v := ⟨0, noB, eqV ⟨IntKind.i64.wrap (a * b), noB, false⟩ ⟨IntKind.i64.wrap (b * a), noB, false⟩⟩) (by kernel_rfl) (by kernel_rfl) rfl (by kernel_rfl) (by kernel_rfl) (by rw [eqV_num, Int.mul_comm]; simp)
theorem sum_3 (a b c : Int) (h1 : -9223372036854775808 ≤ a) (h2 : a ≤ 9223372036854775807) : (rdO ⟨#[110, 48, 32, 45, 32, 110, 49, 32, 43, 32, 110, 49, 32, 61, 61, 32, 110, 48]⟩).c = 0 ∧ hdE (rdO ⟨#[110, 48, 32, 45, 32, 110, 49, 32, 43, 32, 110, 49, 32, 61, 61, 32, 110, 48]⟩).x (sumM a b c) = 0 ∧ hdB (rdO ⟨#[110, 48, 32, 45, 32, 110, 49, 32, 43, 32, 110, 49, 32, 61, 61, 32, 110, 48]⟩).x (sumM a b c) = true :=
  sum_one (v := ⟨0, noB, eqV ⟨IntKind.i64.wrap (IntKind.i64.wrap (a - b) + b), noB, false⟩ ⟨a, noB, false⟩⟩) (by kernel_rfl) (by kernel_rfl) rfl (by kernel_rfl) (by kernel_rfl) (by rw [eqV_num, wrap_back a b h1 h2]; simp)
theorem sum_4 (a b c : Int) : (rdO ⟨#[110, 48, 32, 42, 32, 40, 110, 49, 32, 43, 32, 110, 50, 41, 32, 61, 61, 32, 110, 48, 32, 42, 32, 110, 49, 32, 43, 32, 110, 48, 32, 42, 32, 110, 50]⟩).c = 0 ∧ hdE (rdO ⟨#[110, 48, 32, 42, 32, 40, 110, 49, 32, 43, 32, 110, 50, 41, 32, 61, 61, 32, 110, 48, 32, 42, 32, 110, 49, 32, 43, 32, 110, 48, 32, 42, 32, 110, 50]⟩).x (sumM a b c) = 0 ∧ hdB (rdO ⟨#[110, 48, 32, 42, 32, 40, 110, 49, 32, 43, 32, 110, 50, 41, 32, 61, 61, 32, 110, 48, 32, 42, 32, 110, 49, 32, 43, 32, 110, 48, 32, 42, 32, 110, 50]⟩).x (sumM a b c) = true :=
  sum_one (v := ⟨0, noB, eqV ⟨IntKind.i64.wrap (a * IntKind.i64.wrap (b + c)), noB, false⟩ ⟨IntKind.i64.wrap (IntKind.i64.wrap (a * b) + IntKind.i64.wrap (a * c)), noB, false⟩⟩) (by kernel_rfl) (by kernel_rfl) rfl (by kernel_rfl) (by kernel_rfl) (by rw [eqV_num, wrap_dist]; simp)
theorem sum_5 (a b c : Int) : (rdO ⟨#[110, 48, 32, 60, 32, 110, 49, 32, 111, 114, 32, 110, 49, 32, 60, 61, 32, 110, 48]⟩).c = 0 ∧ hdE (rdO ⟨#[110, 48, 32, 60, 32, 110, 49, 32, 111, 114, 32, 110, 49, 32, 60, 61, 32, 110, 48]⟩).x (sumM a b c) = 0 ∧ hdB (rdO ⟨#[110, 48, 32, 60, 32, 110, 49, 32, 111, 114, 32, 110, 49, 32, 60, 61, 32, 110, 48]⟩).x (sumM a b c) = true :=
  sum_one (v := ⟨0, noB, decide (a < b) || decide (b ≤ a)⟩) (by kernel_rfl) (by kernel_rfl) rfl (by kernel_rfl) (by kernel_rfl) (by rw [Bool.or_eq_true, decide_eq_true_eq, decide_eq_true_eq]; omega)
theorem sum_6 (a b c : Int) : (rdO ⟨#[110, 48, 32, 60, 32, 110, 49, 32, 97, 110, 100, 32, 110, 49, 32, 60, 61, 32, 110, 48]⟩).c = 0 ∧ hdE (rdO ⟨#[110, 48, 32, 60, 32, 110, 49, 32, 97, 110, 100, 32, 110, 49, 32, 60, 61, 32, 110, 48]⟩).x (sumM a b c) = 0 ∧ hdB (rdO ⟨#[110, 48, 32, 60, 32, 110, 49, 32, 97, 110, 100, 32, 110, 49, 32, 60, 61, 32, 110, 48]⟩).x (sumM a b c) = false :=
  sum_one (v := ⟨0, noB, decide (a < b) && decide (b ≤ a)⟩) (by kernel_rfl) (by kernel_rfl) rfl (by kernel_rfl) (by kernel_rfl) (by rw [Bool.and_eq_false_iff, decide_eq_false_iff_not, decide_eq_false_iff_not]; omega)
theorem sum_7 (a b c : Int) : (rdO ⟨#[110, 48, 32, 61, 61, 32, 110, 49]⟩).c = 0 ∧ hdE (rdO ⟨#[110, 48, 32, 61, 61, 32, 110, 49]⟩).x (sumM a b c) = 0 ∧ hdB (rdO ⟨#[110, 48, 32, 61, 61, 32, 110, 49]⟩).x (sumM a b c) = (a == b) :=
  sum_one (v := ⟨0, noB, eqV ⟨a, noB, false⟩ ⟨b, noB, false⟩⟩) (by kernel_rfl) (by kernel_rfl) rfl (by kernel_rfl) (by kernel_rfl) (eqV_num a b)
theorem sum_8 (a b c : Int) : (rdO ⟨#[110, 111, 116, 32, 110, 48, 32, 33, 61, 32, 110, 49]⟩).c = 0 ∧ hdE (rdO ⟨#[110, 111, 116, 32, 110, 48, 32, 33, 61, 32, 110, 49]⟩).x (sumM a b c) = 0 ∧ hdB (rdO ⟨#[110, 111, 116, 32, 110, 48, 32, 33, 61, 32, 110, 49]⟩).x (sumM a b c) = (a == b) :=
  sum_one (v := ⟨0, noB, !(!(eqV ⟨a, noB, false⟩ ⟨b, noB, false⟩))⟩) (by kernel_rfl) (by kernel_rfl) rfl (by kernel_rfl) (by kernel_rfl) (by rw [Bool.not_not]; exact eqV_num a b)
theorem sum_ok (a b c : Int) (h1 : -9223372036854775808 ≤ a) (h2 : a ≤ 9223372036854775807) (k : Nat) (hk : k < 9) : ∃ s w, sumS[k]? = some s ∧ (sumW a b)[k]? = some w ∧ (rdO s).c = 0 ∧ hdE (rdO s).x (sumM a b c) = 0 ∧ hdB (rdO s).x (sumM a b c) = w := by
  rcases (show k = 0 ∨ k = 1 ∨ k = 2 ∨ k = 3 ∨ k = 4 ∨ k = 5 ∨ k = 6 ∨ k = 7 ∨ k = 8 by omega) with rfl | rfl | rfl | rfl | rfl | rfl | rfl | rfl | rfl
  · exact ⟨_, _, rfl, rfl, sum_0 a b c⟩
  · exact ⟨_, _, rfl, rfl, sum_1 a b c⟩
  · exact ⟨_, _, rfl, rfl, sum_2 a b c⟩
  · exact ⟨_, _, rfl, rfl, sum_3 a b c h1 h2⟩
  · exact ⟨_, _, rfl, rfl, sum_4 a b c⟩
  · exact ⟨_, _, rfl, rfl, sum_5 a b c⟩
  · exact ⟨_, _, rfl, rfl, sum_6 a b c⟩
  · exact ⟨_, _, rfl, rfl, sum_7 a b c⟩
  · exact ⟨_, _, rfl, rfl, sum_8 a b c⟩
end Go.Proofs.YthipclehhcfahaaGreatDoor
