/-
  Reading a text as an expression, plainly; what is written is read back.
  Two rows of parts held against one another, plainly and by the law's own function.
  ExprBinds, plainly: how operations bind.
-/
import Derived.Test.YthipclehhcfahabGreatDoorGb30
import Derived.Test.YthipclehhcfahabGreatDoorGb10
import Derived.Test.YthipclehhcfahabGreatDoorGb13
import Derived.Deep.RegionHeld3
import Derived.Test.YthipclehhcfahabGreatDoorGb25
namespace Go.Proofs.YthipclehhcfahabGreatDoor
open Go.RowKit

/-- How tokens are read from the first on. -/
def psR (l : List Tk) : PR := pRd (mRd 0 l) 0 0 [] l
def hdPl : List Tk → Int
  | [] => 0
  | t :: _ => t.pl
def hdKd : List Tk → Int
  | [] => 0
  | t :: _ => t.kd
/-- What Read tells: the parts, the place and the number of a fault. -/
structure RO where
  x : List Pt
  at_ : Int
  c : Int
def rdG (n : Nat) (ts : List Tk) : RO := match psR (ts ++ [endZ n]) with
  | .bad q => ⟨[], hdPl q, 110⟩
  | .good x q => if ckK x = 0 then ⟨[], 0, 110⟩ else if hdKd q = 0 then ⟨x, 0, 0⟩ else ⟨[], hdPl q, 110⟩
def rdO (s : ByteArray) : RO := match tsR s with
  | .bad k c => ⟨[], (k : Int), c⟩
  | .good ts => rdG s.size ts
/-- Of tokens that may be all parts may be held. -/
def PR.fits : PR → Prop
  | .bad _ => True
  | .good x _ => ∀ p ∈ x, p.ok
theorem e0 : (txt []).size = 0 := rfl
theorem opP_ok {k : Int} (h : -100 ≤ k ∧ k ≤ 100) : (opP k).ok := by
  unfold opP Pt.ok
  dsimp only
  rw [e0]
  omega
theorem opA_ok {n : Nat} {s : List UInt8} {k : Int} (h : opA n s = some k) : (opP k).ok := by
  have h1 := (opA_some h).1
  apply opP_ok
  unfold lvO at h1
  repeat' split at h1
  all_goals first | (simp at h1; omega) | simp at h1
theorem fldOf_rng (s : List UInt8) : -1 ≤ fldOf s ∧ fldOf s ≤ 5 := by
  unfold fldOf
  repeat' split
  all_goals omega
theorem fdE_fits (st : ByteArray) (hst : st.size ≤ 9223372036854775807) (ts : List Tk) : (fdE st ts).fits := by
  cases ts with
  | nil => trivial
  | cons c r =>
    rw [fdE]
    split
    · intro p hp
      simp only [List.mem_singleton] at hp
      subst hp
      have := fldOf_rng (wdT c)
      unfold Pt.ok
      dsimp only
      rw [e0]
      omega
    · trivial
theorem fdR_fits (t : Tk) (ht : t.ok) (r : List Tk) : (fdR t r).fits := by
  unfold fdR
  split
  · cases r with
    | nil => trivial
    | cons c q =>
      dsimp only
      split
      · exact fdE_fits t.s (by unfold Tk.ok at ht; omega) q
      · trivial
  · exact fdE_fits (txt []) (by rw [e0]; omega) _
theorem shut_fits (x : List Pt) (hx : ∀ p ∈ x, p.ok) (q : List Tk) : (shut x q).fits := by
  cases q with
  | nil => trivial
  | cons c q =>
    rw [shut]
    split
    · exact hx
    · trivial
theorem suf_mem {a b : List Tk} (h : a <:+ b) {Q : Tk → Prop} (hb : ∀ t ∈ b, Q t) : ∀ t ∈ a, Q t := fun t ht => hb t (h.mem ht)
theorem cons_ok {k : Int} {x : List Pt} (h : (opP k).ok) (hx : ∀ p ∈ x, p.ok) : ∀ p ∈ opP k :: x, p.ok := by
  intro p hp
  rcases List.mem_cons.1 hp with rfl | hp
  · exact h
  · exact hx p hp
theorem app_ok {x y : List Pt} (hx : ∀ p ∈ x, p.ok) (hy : ∀ p ∈ y, p.ok) : ∀ p ∈ x ++ y, p.ok := by
  intro p hp
  rcases List.mem_append.1 hp with hp | hp
  · exact hx p hp
  · exact hy p hp
theorem pRd_fits (f : Nat) : ∀ (m d : Nat) (acc : List Pt) (ts : List Tk), (∀ t ∈ ts, t.ok) → (∀ p ∈ acc, p.ok) → (pRd f m d acc ts).fits := by
  induction f with
  | zero => intro m d acc ts _ _; rw [pRd]; trivial
  | succ f ih =>
    intro m d acc ts hts hacc
    have ih' : ∀ (m d : Nat) (acc : List Pt) (ts' : List Tk), ts' <:+ ts → (∀ p ∈ acc, p.ok) → (pRd f m d acc ts').fits := fun m d acc ts' hs ha => ih m d acc ts' (suf_mem hs hts) ha
    have suf := fun (m d : Nat) (acc : List Pt) (ts' : List Tk) => pRd_suf f m d acc ts'
    have nil : ∀ p ∈ ([] : List Pt), p.ok := fun p hp => by cases hp
    cases ts with
    | nil => rw [pRd]; trivial
    | cons t r =>
      have ht := hts t (by simp)
      have hr : r <:+ t :: r := List.suffix_cons t r
      have hrf : t :: r <:+ t :: r := List.suffix_refl _
      rw [pRd]
      by_cases h6 : m = 6
      · rw [if_pos h6]
        split
        · intro p hp
          simp only [List.mem_singleton] at hp
          subst hp
          unfold Tk.ok at ht
          unfold Pt.ok
          dsimp only
          rw [e0]
          omega
        · split
          · intro p hp
            simp only [List.mem_singleton] at hp
            subst hp
            unfold Tk.ok at ht
            unfold Pt.ok
            dsimp only
            rw [e0]
            omega
          · split
            · exact fdR_fits t ht r
            · split
              · split
                · have h1 := ih' 0 (d + 1) [] r hr nil
                  cases hE : pRd f 0 (d + 1) [] r with
                  | bad q => trivial
                  | good x q => rw [hE] at h1; exact shut_fits x h1 q
                · trivial
              · trivial
      · rw [if_neg h6]
        split
        · split
          · rename_i kk hk
            split
            · have h1 := ih' 2 (d + 1) [] r hr nil
              cases hE : pRd f 2 (d + 1) [] r with
              | bad q => trivial
              | good x q => rw [hE] at h1; exact cons_ok (opA_ok hk) h1
            · trivial
          · exact ih' 3 d [] (t :: r) hrf nil
        · split
          · have h1 := ih' 4 d [] (t :: r) hrf nil
            have s1 := suf 4 d [] (t :: r)
            cases hE : pRd f 4 d [] (t :: r) with
            | bad q => trivial
            | good x q =>
              rw [hE] at h1 s1
              cases q with
              | nil => trivial
              | cons c q' =>
                dsimp only
                split
                · exact h1
                · rename_i kk hk
                  have h2 := ih' 4 d [] q' ((List.suffix_cons c q').trans s1) nil
                  cases hE2 : pRd f 4 d [] q' with
                  | bad s => trivial
                  | good y s => rw [hE2] at h2; exact cons_ok (opA_ok hk) (app_ok h1 h2)
          · split
            · have h1 := ih' (m + 1) d [] (t :: r) hrf nil
              have s1 := suf (m + 1) d [] (t :: r)
              cases hE : pRd f (m + 1) d [] (t :: r) with
              | bad q => trivial
              | good x q => rw [hE] at h1 s1; exact ih' (m + 10) d x q s1 h1
            · split
              · exact hacc
              · rename_i kk hk
                have h1 := ih' (m - 10 + 1) d [] r hr nil
                have s1 := suf (m - 10 + 1) d [] r
                cases hE : pRd f (m - 10 + 1) d [] r with
                | bad q => trivial
                | good y q => rw [hE] at h1 s1; exact ih' m d _ q (s1.trans hr) (cons_ok (opA_ok hk) (app_ok hacc h1))
theorem endd_snoc (ts : List Tk) (n : Nat) : Endd (ts ++ [endZ n]) := ⟨ts, endZ n, rfl, rfl⟩
/-- What is written is read back. -/
theorem write_read {x : List Pt} (h : ckK x ≠ 0) (hok : ∀ p ∈ x, p.ok) : rdO (wrS x) = ⟨x, 0, 0⟩ := by
  obtain ⟨t, h1, h2, h3, h4, h5, h6⟩ := ckK_leaves h
  have hfd : fdX wrv x = some (t.val wrv) := by rw [h3]; exact fdX_flat wrv t h1
  have hlv := t.fine_leaves h2
  have hnk : ∀ q ∈ t.flat, q.nk := fun q hq => (hok q (by rw [h3]; exact hq)).2.1.2
  have hlen := t.wr_len h1 hlv hnk
  have hw : wrS x = txt t.wr := by unfold wrS; rw [if_neg h, hfd]; rfl
  obtain ⟨b1, b2⟩ := t.bod_wr h2 hnk
  rw [← h3] at hlen b2
  obtain ⟨ts, g1, g2⟩ := toks_join t.bod 0 b1 (by omega)
  have hsz : (txt t.wr).size = t.wr.length := txt_size _
  have ht : tsR (txt t.wr) = .good ts := by
    unfold tsR
    rw [if_neg (by rw [hsz]; unfold Ex.wr; omega), txt_list, t.wr_tok]
    exact g1
  obtain ⟨e, r1, r2⟩ := read_back t h2 h4 ts (txt t.wr).size g2
  rw [hw]
  unfold rdO
  rw [ht]
  dsimp only
  unfold rdG psR
  rw [r1]
  dsimp only
  rw [← h3, if_neg h, if_pos (show hdKd [e] = 0 from r2)]
theorem rdG_may {n : Nat} {ts : List Tk} (h : (rdG n ts).c = 0) : ckK (rdG n ts).x ≠ 0 := by
  unfold rdG at h ⊢
  split at h
  · cases h
  · split at h
    · cases h
    · split at h
      · rename_i x q _ hk hq
        rw [if_neg hk, if_pos hq]
        exact hk
      · cases h
/-- What is read may be. -/
theorem read_may {s : ByteArray} (h : (rdO s).c = 0) : ckK (rdO s).x ≠ 0 := by
  rcases tsR_code s with ⟨ts, hr, _, _⟩ | ⟨_, hc⟩
  · unfold rdO at h ⊢
    rw [hr] at h ⊢
    exact rdG_may h
  · exfalso
    unfold rdO at h
    cases hr : tsR s with
    | bad k c => rw [hr] at h hc; exact hc h
    | good ts => rw [hr] at hc; exact hc rfl
theorem rdG_ok {n : Nat} {ts : List Tk} (h : ∀ t ∈ ts ++ [endZ n], t.ok) : ∀ p ∈ (rdG n ts).x, p.ok := by
  have hf := pRd_fits (mRd 0 (ts ++ [endZ n])) 0 0 [] (ts ++ [endZ n]) h (fun p hp => by cases hp)
  unfold rdG psR
  split
  · intro p hp; cases hp
  · rename_i x q he
    rw [he] at hf
    split
    · intro p hp; cases hp
    · split
      · exact hf
      · intro p hp; cases hp
theorem read_ok (s : ByteArray) : ∀ p ∈ (rdO s).x, p.ok := by
  have hk := tsL_ok s
  unfold rdO
  cases hr : tsR s with
  | bad k c => intro p hp; cases hp
  | good ts =>
    rw [hr] at hk
    exact rdG_ok hk
theorem rdG_zero {n : Nat} {ts : List Tk} : ((rdG n ts).at_ == 0 && (rdG n ts).c == 0) = true → (rdG n ts).c = 0 := by
  intro h
  simp at h
  exact h.2
/-- Where there is a fault there are no parts. -/
theorem read_none {s : ByteArray} (h : (rdO s).c ≠ 0) : (rdO s).x = [] := by
  unfold rdO at h ⊢
  cases hr : tsR s with
  | bad k c => rfl
  | good ts =>
    rw [hr] at h
    dsimp only at h ⊢
    unfold rdG at h ⊢
    split
    · rfl
    · rename_i x q he
      rw [he] at h
      dsimp only at h
      split
      · rfl
      · rename_i hk
        rw [if_neg hk] at h
        split
        · rename_i hq
          rw [if_pos hq] at h
          exact absurd rfl h
        · rfl
theorem read_at {s : ByteArray} (h : (rdO s).c = 0) : (rdO s).at_ = 0 := by
  rcases tsR_code s with ⟨ts, hr, _, _⟩ | ⟨_, hc⟩
  · unfold rdO at h ⊢
    rw [hr] at h ⊢
    dsimp only at h ⊢
    unfold rdG at h ⊢
    split
    · rename_i q he
      rw [he] at h
      cases h
    · rename_i x q he
      rw [he] at h
      dsimp only at h
      split
      · rfl
      · rename_i hk
        rw [if_neg hk] at h
        split
        · rfl
        · rename_i hq
          rw [if_neg hq] at h
          cases h
  · exfalso
    unfold rdO at h
    cases hr : tsR s with
    | bad k c => rw [hr] at h hc; exact hc h
    | good ts => rw [hr] at hc; exact hc rfl
theorem read_len {s : ByteArray} : (rdO s).x.length ≤ 200 := by
  by_cases h : (rdO s).c = 0
  · obtain ⟨t, _, _, _, _, h5⟩ := ckK_some (read_may h)
    exact h5
  · rw [read_none h]
    simp
end Go.Proofs.YthipclehhcfahabGreatDoor
namespace Go.Proofs.YthipclehhcfahabGreatDoor
open Go.RowKit

/-- The same parts? -/
def ptsEq : List Pt → List Pt → Bool
  | [], [] => true
  | a :: x, b :: y => ptEq a b && ptsEq x y
  | _, _ => false
theorem ptsEq_iff (x y : List Pt) : ptsEq x y = true ↔ x = y := by
  induction x generalizing y with
  | nil => cases y <;> simp [ptsEq]
  | cons a x ih =>
    cases y with
    | nil => simp [ptsEq]
    | cons b y => rw [ptsEq, Bool.and_eq_true, ptEq_iff, ih]; simp
theorem ptsEq_self (x : List Pt) : ptsEq x x = true := (ptsEq_iff x x).2 rfl
theorem ptsEq_no {x y : List Pt} (h : x ≠ y) : ptsEq x y = false := by
  cases hb : ptsEq x y with
  | false => rfl
  | true => exact absurd ((ptsEq_iff x y).1 hb) h
theorem take_same {x y : List Pt} {k : Nat} (hx : k < x.length) (hy : k < y.length) (h : x.take k = y.take k) (he : x[k] = y[k]) : x.take (k + 1) = y.take (k + 1) := by
  rw [List.take_succ_eq_append_getElem hx, List.take_succ_eq_append_getElem hy, h, he]
set_option maxHeartbeats 2000000 in
set_option maxRecDepth 100000 in
theorem same_any (a1 a2 : Option Addr) (c1 c2 : Nat) (x y : List Pt) (w : World) (hlx : x.length ≤ 9223372036854775807) (h1 : PtsAt w a1 x) (h2 : PtsAt w a2 y) :
    Calls Tryz.prog 11 #[.slice a1 x.length c1, .slice a2 y.length c2] w fun e w' => e = .returned (.bool (ptsEq x y)) ∧ Kp [] w w' := by
  have HR : Hid (∀ b, ptsEq x y = b → ptsEq x y = b) := hide (fun b h => h)
  by_cases hl : x.length = y.length
  · have HN : Hid (∀ k (hx : k < x.length) (hy : k < y.length), x[k] ≠ y[k] → ptsEq x y = false) := hide (fun k hx hy hne => ptsEq_no (fun e => hne (by subst e; rfl)))
    have HY : Hid (x.take x.length = y.take x.length → ptsEq x y = true) := hide (fun h => by
      rw [List.take_length, hl, List.take_length] at h
      rw [h]
      exact ptsEq_self y)
    have HT : Hid (∀ k (hx : k < x.length) (hy : k < y.length), x.take k = y.take k → x[k] = y[k] → x.take (k + 1) = y.take (k + 1)) := hide (fun k hx hy h he => take_same hx hy h he)
    have H1 := hide h1
    have H2 := hide h2
    clear h1 h2 HR
    obtain ⟨n, hn⟩ : ∃ n, x.length = n := ⟨_, rfl⟩
    have hn2 : y.length = n := by omega
    have HL1 := hide hn
    have HL2 := hide hn2
    rw [hn] at HY hlx
    rw [hn, hn2]
    clear hl hn hn2
    generalize ptsEq x y = R at *
    go_enter Tryz.func11, Tryz.ntmps11
    go_wp2
    go_loopw [5] (fun i wr => ∃ k : Nat, k ≤ n ∧ i = .int .i64 (k : Int) ∧ Kp [] w wr ∧ Hid (x.take k = y.take k)) (fun i _ => n - (intOf i).toNat)
    case atStart => exact ⟨0, Nat.zero_le _, rfl, Kp.refl _ _, hide rfl⟩
    case round =>
      obtain ⟨k, hk, rfl, kp, HK⟩ := hrel
      by_cases hlt : k < n
      · have hkx : k < x.length := by rw [unhide HL1]; exact hlt
        have hky : k < y.length := by rw [unhide HL2]; exact hlt
        have kp2 := kp.trans (Kp.drew wr) (by simp)
        obtain ⟨b1, o1, rfl, _, x0, x1, x2, x3, x4⟩ := ((unhide H1).kp kp2).at k hkx
        obtain ⟨b2, o2, rfl, _, y0, y1, y2, y3, y4⟩ := ((unhide H2).kp kp2).at k hky
        have hli : (k : Int) < (n : Int) := by omega
        have EQ := fun W => eqP 9998 x[k] y[k] W
        have NX : Hid (ptEq x[k] y[k] = true → x.take (k + 1) = y.take (k + 1)) := hide (fun h => unhide HT k hkx hky (unhide HK) ((ptEq_iff _ _).1 h))
        have NO : Hid (ptEq x[k] y[k] = false → R = false) := hide (fun h => unhide HN k hkx hky (fun e => by rw [(ptEq_iff _ _).2 e] at h; cases h))
        have KP := hide kp2
        clear H1 H2 kp kp2 HK HN HT HY
        unfold Pt.v at EQ
        generalize ptEq x[k] y[k] = B at *
        generalize x[k] = p at *
        generalize y[k] = q at *
        clear hkx hky
        obtain ⟨pk, pn, ps, pt, pf⟩ := p
        obtain ⟨qk, qn, qs, qt, qf⟩ := q
        dsimp only at x0 x1 x2 x3 x4 y0 y1 y2 y3 y4 EQ
        have cS := And.intro x0 (And.intro x1 (And.intro x2 (And.intro x3 (And.intro x4 (And.intro y0 (And.intro y1 (And.intro y2 (And.intro y3 y4))))))))
        clear x0 x1 x2 x3 x4 y0 y1 y2 y3 y4
        go_wp2_with fail
        go_region_held3 (fun W => W.cell? ⟨b1, o1 + k * 5, none⟩ = some (.int .i64 pk) ∧ W.cell? ⟨b1, o1 + k * 5 + 1, none⟩ = some (.int .i64 pn) ∧ W.cell? ⟨b1, o1 + k * 5 + 2, none⟩ = some (.string ps) ∧ W.cell? ⟨b1, o1 + k * 5 + 3, none⟩ = some (.string pt) ∧ W.cell? ⟨b1, o1 + k * 5 + 4, none⟩ = some (.int .i64 pf) ∧ W.cell? ⟨b2, o2 + k * 5, none⟩ = some (.int .i64 qk) ∧ W.cell? ⟨b2, o2 + k * 5 + 1, none⟩ = some (.int .i64 qn) ∧ W.cell? ⟨b2, o2 + k * 5 + 2, none⟩ = some (.string qs) ∧ W.cell? ⟨b2, o2 + k * 5 + 3, none⟩ = some (.string qt) ∧ W.cell? ⟨b2, o2 + k * 5 + 4, none⟩ = some (.int .i64 qf))
          (first | with_reducible exact cS)
          (first | fail)
        clear EQ cS
        cases B with
        | true =>
          have NX2 := hide (unhide NX rfl)
          clear NX NO
          go_wp2
          go_roundw
          case rel => exact ⟨k + 1, by omega, by go_num, unhide KP, NX2⟩
          case measure => simp [intOf]; omega
        | false =>
          obtain rfl := unhide NO rfl
          clear NX NO
          go_wp2
          go_ret
          exact ⟨rfl, unhide KP⟩
      · obtain rfl : k = n := by omega
        obtain rfl := unhide HY (unhide HK)
        clear HY HN
        go_wp2
        go_ret
        exact ⟨rfl, kp⟩
  · have hR : ptsEq x y = false := ptsEq_no (fun e => hl (by rw [e]))
    rw [hR]
    have g : ((x.length : Int) == (y.length : Int)) = false := beq_eq_false_iff_ne.2 (by omega)
    clear hR h1 h2 HR
    go_enter Tryz.func11, Tryz.ntmps11
    go_wp2
    go_ret
    exact ⟨rfl, Kp.refl _ _⟩
end Go.Proofs.YthipclehhcfahabGreatDoor
namespace Go.Proofs.YthipclehhcfahabGreatDoor
open Go.RowKit

/-- The law's texts. -/
def binS : List ByteArray := [⟨#[49, 32, 43, 32, 50, 32, 42, 32, 51, 32, 60, 32, 52]⟩, ⟨#[40, 49, 32, 43, 32, 40, 50, 32, 42, 32, 51, 41, 41, 32, 60, 32, 52]⟩, ⟨#[40, 40, 49, 32, 43, 32, 50, 41, 32, 42, 32, 51, 41, 32, 60, 32, 52]⟩, ⟨#[49, 32, 45, 32, 50, 32, 45, 32, 51, 32, 60, 32, 52]⟩, ⟨#[40, 40, 49, 32, 45, 32, 50, 41, 32, 45, 32, 51, 41, 32, 60, 32, 52]⟩, ⟨#[40, 49, 32, 45, 32, 40, 50, 32, 45, 32, 51, 41, 41, 32, 60, 32, 52]⟩, ⟨#[110, 48, 32, 60, 32, 49, 32, 111, 114, 32, 110, 49, 32, 60, 32, 50, 32, 97, 110, 100, 32, 110, 50, 32, 60, 32, 51]⟩, ⟨#[40, 110, 48, 32, 60, 32, 49, 41, 32, 111, 114, 32, 40, 40, 110, 49, 32, 60, 32, 50, 41, 32, 97, 110, 100, 32, 40, 110, 50, 32, 60, 32, 51, 41, 41]⟩, ⟨#[40, 40, 110, 48, 32, 60, 32, 49, 41, 32, 111, 114, 32, 40, 110, 49, 32, 60, 32, 50, 41, 41, 32, 97, 110, 100, 32, 40, 110, 50, 32, 60, 32, 51, 41]⟩, ⟨#[110, 111, 116, 32, 110, 48, 32, 60, 32, 49, 32, 97, 110, 100, 32, 110, 49, 32, 60, 32, 50]⟩, ⟨#[40, 110, 111, 116, 32, 40, 110, 48, 32, 60, 32, 49, 41, 41, 32, 97, 110, 100, 32, 40, 110, 49, 32, 60, 32, 50, 41]⟩, ⟨#[110, 111, 116, 32, 40, 40, 110, 48, 32, 60, 32, 49, 41, 32, 97, 110, 100, 32, 40, 110, 49, 32, 60, 32, 50, 41, 41]⟩, ⟨#[49, 32, 42, 32, 50, 32, 43, 32, 51, 32, 60, 32, 52]⟩, ⟨#[40, 40, 49, 32, 42, 32, 50, 41, 32, 43, 32, 51, 41, 32, 60, 32, 52]⟩, ⟨#[40, 49, 32, 42, 32, 40, 50, 32, 43, 32, 51, 41, 41, 32, 60, 32, 52]⟩]
def binL : ByteArray := ⟨#[110, 48, 32, 45, 32, 110, 49, 32, 43, 32, 110, 49, 32, 61, 61, 32, 110, 48, 32, 97, 110, 100, 32, 110, 48, 32, 45, 32, 40, 110, 49, 32, 43, 32, 110, 49, 41, 32, 61, 61, 32, 110, 48, 32, 45, 32, 110, 49, 32, 45, 32, 110, 49]⟩
/-- What must be of three texts. -/
def BinOk (s t u : ByteArray) : Prop := ((rdO s).c = 0 ∧ (rdO t).c = 0 ∧ (rdO u).c = 0) ∧ ptsEq (rdO s).x (rdO t).x = true ∧ ptsEq (rdO s).x (rdO u).x = false
theorem eqV_num (x y : Int) : eqV ⟨x, noB, false⟩ ⟨y, noB, false⟩ = (x == y) := by
  unfold eqV
  simp
  rfl
theorem bin_0 : BinOk ⟨#[49, 32, 43, 32, 50, 32, 42, 32, 51, 32, 60, 32, 52]⟩ ⟨#[40, 49, 32, 43, 32, 40, 50, 32, 42, 32, 51, 41, 41, 32, 60, 32, 52]⟩ ⟨#[40, 40, 49, 32, 43, 32, 50, 41, 32, 42, 32, 51, 41, 32, 60, 32, 52]⟩ := ⟨⟨by kernel_rfl, by kernel_rfl, by kernel_rfl⟩, by kernel_rfl, by kernel_rfl⟩
theorem bin_1 : BinOk ⟨#[49, 32, 45, 32, 50, 32, 45, 32, 51, 32, 60, 32, 52]⟩ ⟨#[40, 40, 49, 32, 45, 32, 50, 41, 32, 45, 32, 51, 41, 32, 60, 32, 52]⟩ ⟨#[40, 49, 32, 45, 32, 40, 50, 32, 45, 32, 51, 41, 41, 32, 60, 32, 52]⟩ := ⟨⟨by kernel_rfl, by kernel_rfl, by kernel_rfl⟩, by kernel_rfl, by kernel_rfl⟩
theorem bin_2 : BinOk ⟨#[110, 48, 32, 60, 32, 49, 32, 111, 114, 32, 110, 49, 32, 60, 32, 50, 32, 97, 110, 100, 32, 110, 50, 32, 60, 32, 51]⟩ ⟨#[40, 110, 48, 32, 60, 32, 49, 41, 32, 111, 114, 32, 40, 40, 110, 49, 32, 60, 32, 50, 41, 32, 97, 110, 100, 32, 40, 110, 50, 32, 60, 32, 51, 41, 41]⟩ ⟨#[40, 40, 110, 48, 32, 60, 32, 49, 41, 32, 111, 114, 32, 40, 110, 49, 32, 60, 32, 50, 41, 41, 32, 97, 110, 100, 32, 40, 110, 50, 32, 60, 32, 51, 41]⟩ := ⟨⟨by kernel_rfl, by kernel_rfl, by kernel_rfl⟩, by kernel_rfl, by kernel_rfl⟩
theorem bin_3 : BinOk ⟨#[110, 111, 116, 32, 110, 48, 32, 60, 32, 49, 32, 97, 110, 100, 32, 110, 49, 32, 60, 32, 50]⟩ ⟨#[40, 110, 111, 116, 32, 40, 110, 48, 32, 60, 32, 49, 41, 41, 32, 97, 110, 100, 32, 40, 110, 49, 32, 60, 32, 50, 41]⟩ ⟨#[110, 111, 116, 32, 40, 40, 110, 48, 32, 60, 32, 49, 41, 32, 97, 110, 100, 32, 40, 110, 49, 32, 60, 32, 50, 41, 41]⟩ := ⟨⟨by kernel_rfl, by kernel_rfl, by kernel_rfl⟩, by kernel_rfl, by kernel_rfl⟩
theorem bin_4 : BinOk ⟨#[49, 32, 42, 32, 50, 32, 43, 32, 51, 32, 60, 32, 52]⟩ ⟨#[40, 40, 49, 32, 42, 32, 50, 41, 32, 43, 32, 51, 41, 32, 60, 32, 52]⟩ ⟨#[40, 49, 32, 42, 32, 40, 50, 32, 43, 32, 51, 41, 41, 32, 60, 32, 52]⟩ := ⟨⟨by kernel_rfl, by kernel_rfl, by kernel_rfl⟩, by kernel_rfl, by kernel_rfl⟩
theorem bin_ok (k : Nat) (hk : k < 5) : ∃ s t u, binS[k * 3]? = some s ∧ binS[k * 3 + 1]? = some t ∧ binS[k * 3 + 2]? = some u ∧ BinOk s t u := by
  rcases (show k = 0 ∨ k = 1 ∨ k = 2 ∨ k = 3 ∨ k = 4 by omega) with rfl | rfl | rfl | rfl | rfl
  · exact ⟨_, _, _, rfl, rfl, rfl, bin_0⟩
  · exact ⟨_, _, _, rfl, rfl, rfl, bin_1⟩
  · exact ⟨_, _, _, rfl, rfl, rfl, bin_2⟩
  · exact ⟨_, _, _, rfl, rfl, rfl, bin_3⟩
  · exact ⟨_, _, _, rfl, rfl, rfl, bin_4⟩
theorem binS_size : ∀ s ∈ binS, s.size ≤ 9223372036854775807 := by
  intro s hs
  unfold binS at hs
  simp only [List.mem_cons, List.not_mem_nil, or_false] at hs
  rcases hs with rfl | rfl | rfl | rfl | rfl | rfl | rfl | rfl | rfl | rfl | rfl | rfl | rfl | rfl | rfl <;> decide
/-- The law's event. -/
def binV (a b : Int) : Ev := ⟨noB, noB, a, b, 0, 0, noB⟩
theorem bin_last (a b : Int) (h1 : -9223372036854775808 ≤ a) (h2 : a ≤ 9223372036854775807) : (rdO binL).c = 0 ∧ hdE (rdO binL).x ⟨binV a b, [], []⟩ = 0 ∧ hdB (rdO binL).x ⟨binV a b, [], []⟩ = true := by
  have hck : ckK (rdO binL).x = 3 := by kernel_rfl
  have hs : hasS [] (rdO binL).x = true := by kernel_rfl
  have hf : fdX (vlv ⟨binV a b, [], []⟩) (rdO binL).x = some ⟨0, noB, eqV ⟨IntKind.i64.wrap (IntKind.i64.wrap (a - b) + b), noB, false⟩ ⟨a, noB, false⟩ && eqV ⟨IntKind.i64.wrap (a - IntKind.i64.wrap (b + b)), noB, false⟩ ⟨IntKind.i64.wrap (IntKind.i64.wrap (a - b) - b), noB, false⟩⟩ := by kernel_rfl
  obtain ⟨e1, v, e2, e3⟩ := hold_ok (M := ⟨binV a b, [], []⟩) hck rfl hs
  rw [hf] at e2
  cases e2
  refine ⟨by kernel_rfl, e1, e3.trans ?_⟩
  have q1 : IntKind.i64.wrap (IntKind.i64.wrap (a - b) + b) = a := by rw [IntKind.wrap_i64, IntKind.wrap_i64]; omega
  have q2 : IntKind.i64.wrap (a - IntKind.i64.wrap (b + b)) = IntKind.i64.wrap (IntKind.i64.wrap (a - b) - b) := by rw [IntKind.wrap_i64, IntKind.wrap_i64, IntKind.wrap_i64, IntKind.wrap_i64]; omega
  rw [eqV_num, eqV_num, q1, q2]
  simp
end Go.Proofs.YthipclehhcfahabGreatDoor
