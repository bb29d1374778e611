/-
  The document's store and purse.
  The document's store and purse: Take, New; Add, Spend.
  Credit: the chapter's example.
-/
import Derived.Test.YtcogcfnbgicjcaaP04
namespace Go.Proofs.Ytcogcfnbgicjcaa
open Go.RowKit Cr

/-- The document's store lies there: what is free, what is owed, its texts in a row. -/
def RcAt (w : World) (r : Nat) (s : Sto) : Prop :=
  s.Ok ∧ ∃ v, CBox r #[.int .i64 ((s.cap - s.q.length - s.owed : Nat) : Int), .int .i64 (s.owed : Int), v] 41 w ∧ TxO 0 w v s.q
theorem TxO.far {w : World} {v : Value} {l : List ByteArray} (h : TxO 0 w v l) {F : List Nat} (hF : ∀ x ∈ F, ∃ cs t, CBox x cs t w ∧ t ≠ 9) : ∀ g, v.ownBlock = some g → g ∉ F := by
  intro g hg hm
  obtain ⟨_, cur, hc⟩ := h.block hg
  obtain ⟨cs, t, h1, h2⟩ := hF g hm
  unfold CBox at h1
  rw [hc] at h1
  injection h1 with e
  injection e with _ e
  exact h2 e.symm
theorem RcAt.kp {w w' : World} {r : Nat} {s : Sto} {F : List Nat} (h : RcAt w r s) (hk : Kp F w w') (hr : r ∉ F) (hF : ∀ x ∈ F, ∃ cs t, CBox x cs t w ∧ t ≠ 9) : RcAt w' r s := by
  obtain ⟨ok, v, h1, h2⟩ := h
  exact ⟨ok, v, h1.kp hk hr, h2.kp hk (h2.far hF)⟩
/-- The box is written to, the row stays. -/
theorem TxO.set {w : World} {v : Value} {l : List ByteArray} (h : TxO 0 w v l) {r : Nat} {cs : Array Value} (hb : CBox r cs 41 w) (i : Nat) (x : Value) : TxO 0 (w.setCell ⟨r, i, none⟩ x) v l :=
  h.kp (Kp.set w r i x) (h.far (fun y hy => by
    rw [List.mem_singleton] at hy
    subst hy
    exact ⟨cs, _, hb, by decide⟩))
/-- How the texts of a row lie. -/
theorem TxO.at_all {B : Nat} {w : World} {ad : Option Addr} {n cp : Nat} {l : List ByteArray} (h : TxO B w (.slice ad n cp) l) : ∀ a, ad = some a → ∀ j u, (l.map Value.string)[j]? = some u → w.cell? (a.add j) = some u := by
  intro a e j u hj
  subst e
  obtain ⟨_, cp', e, _, _, _, _, hg⟩ := h.form
  injection e with e1 e2 e3
  obtain ⟨g, rfl⟩ := hg a e1.symm
  exact World.ownsRow.cells h (g := g) rfl j u hj
/-- The texts behind the first one. -/
theorem TxO.at_tail {B : Nat} {w : World} {g n cp : Nat} {x : ByteArray} {l : List ByteArray} (h : TxO B w (.slice (some ⟨g, 0, none⟩) n cp) (x :: l)) (hc : l.length + 1 ≤ cp) : ∀ a, (if cp = 1 then some (⟨g, 0, none⟩ : Addr) else some ⟨g, 1, none⟩) = some a → ∀ j u, (l.map Value.string)[j]? = some u → w.cell? (a.add j) = some u := by
  intro a e j u hj
  have hall := h.at_all _ rfl
  split at e
  · rename_i h1
    obtain rfl : l = [] := List.eq_nil_of_length_eq_zero (by omega)
    cases hj
  · injection e with e
    subst e
    have := hall (j + 1) u (by rw [List.map_cons, List.getElem?_cons_succ]; exact hj)
    rw [Go.WideShapes.add_plain] at this ⊢
    rw [show 1 + j = 0 + (j + 1) by omega]
    exact this
set_option maxHeartbeats 1000000 in
theorem rcGive_any (r : Nat) (s : Sto) (most : Int) (w : World) (h : RcAt w r s) :
    Calls Try.prog 21 #[.pointer (some ⟨r, 0, none⟩), .int .i64 most] w fun e w' => e = .returned (.tuple #[.int .i64 (gvN s most : Int), .int .i64 (gvE most)]) ∧ RcAt w' r (gvS s most) ∧ Kp [r] w w' := by
  obtain ⟨ok, v, hb, hr⟩ := h
  have c0 : w.cell? ⟨r, 0, none⟩ = some (.int .i64 ((s.cap - s.q.length - s.owed : Nat) : Int)) := hb.cell (i := 0) rfl
  have c1 : w.cell? ⟨r, 1, none⟩ = some (.int .i64 (s.owed : Int)) := hb.cell (i := 1) rfl
  have z0 := hb.froz 0
  have z1 := hb.froz 1
  by_cases hm : most < 0
  · have eE : gvE most = 1 := by unfold gvE; rw [if_pos hm]
    rw [gvS_neg s hm, gvN_neg s hm, eE]
    have H : Hid (RcAt w r s) := hide ⟨ok, v, hb, hr⟩
    clear ok hb hr
    go_enter Try.func21, Try.ntmps21
    go_wp2
    go_ret2
    exact ⟨rfl, unhide H, Kp.refl _ _⟩
  · have eE : gvE most = 0 := by unfold gvE; rw [if_neg hm]
    rw [eE]
    have ho := ok.room
    have hh := ok.hi
    obtain ⟨m, hmn⟩ : ∃ m, m = gvN s most := ⟨_, rfl⟩
    obtain ⟨f, hf⟩ : ∃ f, f = s.cap - s.q.length - s.owed := ⟨_, rfl⟩
    have hmi : min most (f : Int) = (m : Int) := by rw [hmn, hf]; unfold gvN; omega
    have hml : s.owed + m ≤ 256 := by have := gvN_le s ok most; omega
    have hmf : m ≤ f := by rw [hmn, hf]; unfold gvN; omega
    have hfl : f ≤ 256 := by omega
    have FIN : Hid (RcAt ((w.setCell ⟨r, 0, none⟩ (.int .i64 ((f : Int) - (m : Int)))).setCell ⟨r, 1, none⟩ (.int .i64 ((s.owed : Int) + (m : Int)))) r (gvS s most)) := hide (by
      have b1 := hb.set 0 (.int .i64 ((f : Int) - (m : Int)))
      have b2 := b1.set 1 (.int .i64 ((s.owed : Int) + (m : Int)))
      refine ⟨ok.gv most, v, ?_, (hr.set hb _ _).set b1 _ _⟩
      have e1 : ((s.cap - s.q.length - (s.owed + m) : Nat) : Int) = (f : Int) - (m : Int) := by omega
      have e2 : ((s.owed + m : Nat) : Int) = (s.owed : Int) + (m : Int) := by omega
      unfold gvS
      rw [← hmn, e1, e2]
      exact b2)
    have KS : Hid (Kp [r] w ((w.setCell ⟨r, 0, none⟩ (.int .i64 ((f : Int) - (m : Int)))).setCell ⟨r, 1, none⟩ (.int .i64 ((s.owed : Int) + (m : Int))))) := hide ((Kp.set w r 0 _).trans (Kp.set _ r 1 _) (by simp))
    have c1' : (w.setCell ⟨r, 0, none⟩ (.int .i64 ((f : Int) - (m : Int)))).cell? ⟨r, 1, none⟩ = some (.int .i64 (s.owed : Int)) := (hb.set 0 _).cell rfl
    have z1' : (w.setCell ⟨r, 0, none⟩ (.int .i64 ((f : Int) - (m : Int)))).frozen? ⟨r, 1, none⟩ = false := (hb.set 0 _).froz 1
    rw [← hf] at c0
    rw [← hmn]
    clear hb hr hmn hf ok ho hh
    generalize s.owed = o at *
    go_enter Try.func21, Try.ntmps21
    go_wp2
    go_ret2
    exact ⟨rfl, unhide FIN, unhide KS⟩
set_option maxHeartbeats 2000000 in
theorem rcPut_any (r : Nat) (s : Sto) (t : ByteArray) (w : World) (h : RcAt w r s) :
    Calls Try.prog 22 #[.pointer (some ⟨r, 0, none⟩), .string t] w fun e w' => e = .returned (.int .i64 (ptE s)) ∧ RcAt w' r (ptS s t) ∧ Kp [r] w w' := by
  obtain ⟨ok, v, hb, hr⟩ := h
  have c1 : w.cell? ⟨r, 1, none⟩ = some (.int .i64 (s.owed : Int)) := hb.cell (i := 1) rfl
  by_cases hq : s.owed = 0
  · have eS : ptS s t = s := by unfold ptS; rw [if_pos hq]
    have eE : ptE s = 200 := by unfold ptE; rw [if_pos hq]
    rw [eS, eE]
    have H : Hid (RcAt w r s) := hide ⟨ok, v, hb, hr⟩
    clear ok hb hr
    rw [hq] at c1
    go_enter Try.func22, Try.ntmps22
    go_wp2
    go_ret
    exact ⟨rfl, unhide H, Kp.refl _ _⟩
  · have eS : ptS s t = ⟨s.cap, s.owed - 1, s.q ++ [t]⟩ := by unfold ptS; rw [if_neg hq]
    have eE : ptE s = 0 := by unfold ptE; rw [if_neg hq]
    have ok2 := ok.pt t
    rw [eS] at ok2
    rw [eS, eE]
    have ho := ok.room
    have hh := ok.hi
    have z1 := hb.froz 1
    have hql : s.q.length ≤ 256 := by omega
    have hqi : ¬ (s.owed : Int) = 0 := by omega
    have hoi : (s.owed : Int) ≤ 256 := by omega
    obtain ⟨ad, cp, rfl, hcp, _, hcm, hnone, hsp⟩ := hr.form
    -- what is owed is one less
    obtain ⟨W1, hW1⟩ : ∃ W1, W1 = w.setCell ⟨r, 1, none⟩ (.int .i64 ((s.owed : Int) - 1)) := ⟨_, rfl⟩
    have k1 : Kp [r] w W1 := by rw [hW1]; exact Kp.set w r 1 _
    have b1 : CBox r #[.int .i64 ((s.cap - s.q.length - s.owed : Nat) : Int), .int .i64 ((s.owed : Int) - 1), .slice ad s.q.length cp] 41 W1 := by rw [hW1]; exact hb.set 1 _
    have r1 : TxO 0 W1 (.slice ad s.q.length cp) s.q := by rw [hW1]; exact hr.set hb _ _
    -- the empty row
    have k2 : Kp [] W1 (W1.alloc (.cells #[] 9)) := Kp.alloc _ _
    have c2 : (W1.alloc (.cells #[] 9)).cell? ⟨r, 2, none⟩ = some (.slice ad s.q.length cp) := (b1.kp k2 (by simp)).cell (i := 2) rfl
    have r2 : TxO W1.heap.size (W1.alloc (.cells #[] 9)) (.slice (some ⟨W1.heap.size, 0, none⟩) 0 0) [] := TxO.empty W1 (Nat.le_refl _)
    have o2 := r1.kp k2 (by simp)
    obtain ⟨g3, cap3, W3, run3, r3, k3⟩ := r2.appAny ad cp (ys := s.q) (fun e => ⟨by have := hnone e; omega, hnone e⟩) (fun a e => by obtain ⟨g, rfl⟩ := hsp a e; rfl) o2.at_all rfl (by simp [World.size_alloc]) (by simp; omega) 39
    simp only [List.nil_append, Nat.zero_add] at run3 r3
    have k13 : Kp [] W1 W3 := k2.trans k3 (by simp)
    -- the text
    have k4 := Kp.alloc W3 (.cells #[.string t] 9)
    have r4 := r3.kp k4 (by simp)
    obtain ⟨v5, W5, run5, r5, k5, _⟩ := r4.push (by have := k13.size; rw [World.size_alloc]; omega) (CBox.new W3 #[.string t] 9) (by omega) 39
    obtain ⟨ad5, cp5, rfl, _⟩ := r5.form
    have k15 : Kp [] W1 W5 := (k13.trans k4 (by simp)).trans k5 (fun x hx => Or.inr (by
      have := (r4.block (k := x) (by simpa using hx)).1
      exact this))
    have b5 := b1.kp k15 (by simp)
    have z5 := b5.froz 2
    have c5 : W5.cell? ⟨r, 2, none⟩ = some (.slice ad s.q.length cp) := b5.cell (i := 2) rfl
    have FIN : Hid (RcAt (W5.setCell ⟨r, 2, none⟩ (.slice ad5 (s.q ++ [t]).length cp5)) r ⟨s.cap, s.owed - 1, s.q ++ [t]⟩) := hide (by
      have b6 := b5.set 2 (.slice ad5 (s.q ++ [t]).length cp5)
      refine ⟨ok2, _, ?_, (r5.lower (Nat.zero_le _)).set b5 2 _⟩
      have e1 : ((s.cap - (s.q ++ [t]).length - (s.owed - 1) : Nat) : Int) = ((s.cap - s.q.length - s.owed : Nat) : Int) := by rw [List.length_append, List.length_singleton]; omega
      have e2 : ((s.owed - 1 : Nat) : Int) = (s.owed : Int) - 1 := by omega
      dsimp only
      rw [e1, e2]
      exact b6)
    have KS : Hid (Kp [r] w (W5.setCell ⟨r, 2, none⟩ (.slice ad5 (s.q ++ [t]).length cp5))) := hide ((k1.trans k15 (by simp)).trans (Kp.set _ r 2 _) (by simp))
    have RUN3 := hide run3
    have RUN5 := hide run5
    have HW := hide hW1
    clear hb hr ok ok2 ho hh b1 r1 k1 k2 r2 o2 r3 k3 k13 k4 r4 r5 k5 k15 b5 run3 run5 hW1 hnone hsp hcm eS eE hq
    generalize (s.q ++ [t]).length = n5 at *
    generalize s.owed = o at *
    generalize s.q.length = nq at *
    go_enter Try.func22, Try.ntmps22
    go_upto_region 4 with fail
    rw [← unhide HW]
    go_wp2_with (first | (at_builtin; refine wpList_app_run rfl _ _ 39 rfl rfl rfl (unhide RUN5) ?_) | (at_builtin; refine wpList_app_run rfl _ _ 39 rfl rfl rfl (unhide RUN3) ?_))
    go_ret
    exact ⟨rfl, unhide FIN, unhide KS⟩
set_option maxHeartbeats 1000000 in
theorem rcPeek_any (r : Nat) (s : Sto) (w : World) (h : RcAt w r s) :
    Calls Try.prog 24 #[.pointer (some ⟨r, 0, none⟩)] w fun e w' => e = .returned (.tuple #[.string (tkT s), .int .i64 (tkE s)]) ∧ w' = w := by
  obtain ⟨ok, v, hb, hr⟩ := h
  obtain ⟨ad, cp, rfl, hcp, hm1, hcm, hnone, hsp⟩ := hr.form
  have c2 : w.cell? ⟨r, 2, none⟩ = some (.slice ad s.q.length cp) := hb.cell (i := 2) rfl
  by_cases hq : s.q.length = 0
  · have e0 : s.q = [] := List.eq_nil_of_length_eq_zero hq
    have eT : tkT s = ⟨#[]⟩ := by unfold tkT; rw [e0]; rfl
    have eE : tkE s = 5 := by unfold tkE; rw [if_pos hq]
    rw [eT, eE]
    clear hb hr hnone hsp ok
    rw [hq] at c2
    go_enter Try.func24, Try.ntmps24
    go_wp2
    go_ret2
    exact ⟨rfl, rfl⟩
  · have eE : tkE s = 0 := by unfold tkE; rw [if_neg hq]
    have hh := ok.hi
    have ho := ok.room
    rw [eE]
    obtain ⟨a, rfl⟩ : ∃ a, ad = some a := by
      cases ad with
      | none => have := hnone rfl; omega
      | some a => exact ⟨a, rfl⟩
    obtain ⟨g, rfl⟩ := hsp a rfl
    have hx : w.cell? ⟨g, 0, none⟩ = some (.string (tkT s)) := by
      have := hr.at_all _ rfl 0 (.string (s.q[0]'(by omega))) (by rw [List.getElem?_map, List.getElem?_eq_getElem (by omega)]; rfl)
      rw [Go.WideShapes.add_plain, head_get s.q (by omega)] at this
      exact this
    have hqi : ¬ (s.q.length : Int) = 0 := by omega
    have hq0 : (0 : Int) < (s.q.length : Int) := by omega
    have hql : s.q.length ≤ 256 := by omega
    clear hb hr hnone hsp ok ho hh
    generalize s.q.length = n at *
    generalize tkT s = x at *
    go_enter Try.func24, Try.ntmps24
    go_wp2
    go_ret2
    exact ⟨rfl, rfl⟩
end Go.Proofs.Ytcogcfnbgicjcaa
namespace Go.Proofs.Ytcogcfnbgicjcaa
open Go.RowKit Cr

/-- The document's purse lies there. -/
def RpAt (w : World) (b n : Nat) : Prop := CBox b #[.int .i64 (n : Int)] 34 w
theorem rcNew_not (c : Int) (w : World) (h : ¬ (1 ≤ c ∧ c ≤ 256)) :
    Calls Try.prog 7 #[.int .i64 c] w fun e w' => e = .returned (.tuple #[.pointer none, .int .i64 1]) ∧ w' = w := by
  by_cases h1 : c < 1
  · clear h
    go_enter Try.func7, Try.ntmps7
    go_wp2
    go_ret2
    exact ⟨rfl, rfl⟩
  · have h2 : c > 256 := by omega
    clear h
    go_enter Try.func7, Try.ntmps7
    go_wp2
    go_ret2
    exact ⟨rfl, rfl⟩
theorem rcNew_ok (c : Nat) (w : World) (h0 : 1 ≤ c) (h1 : c ≤ 256) :
    Calls Try.prog 7 #[.int .i64 (c : Int)] w fun e w' => e = .returned (.tuple #[.pointer (some ⟨w.heap.size, 0, none⟩), .int .i64 0]) ∧ RcAt w' w.heap.size ⟨c, 0, []⟩ ∧ Kp [] w w' := by
  have k1 : ¬ (c : Int) < 1 := by omega
  have k2 : ¬ (c : Int) > 256 := by omega
  go_enter Try.func7, Try.ntmps7
  go_wp2
  go_ret2
  exact ⟨rfl, ⟨⟨h0, h1, by show 0 + 0 ≤ c; omega⟩, .slice none 0 0, CBox.new w _ _, TxO.nil _ _⟩, Kp.alloc _ _⟩
set_option maxHeartbeats 2000000 in
theorem rcTake_any (r : Nat) (s : Sto) (w : World) (h : RcAt w r s) :
    Calls Try.prog 23 #[.pointer (some ⟨r, 0, none⟩)] w fun e w' => e = .returned (.tuple #[.string (tkT s), .int .i64 (tkE s)]) ∧ RcAt w' r (tkS s) ∧ Kp [r] w w' := by
  have PK := hide (rcPeek_any r s w h)
  by_cases hq : s.q.length = 0
  · have e0 : s.q = [] := List.eq_nil_of_length_eq_zero hq
    have eS : tkS s = s := by unfold tkS; cases s; subst e0; rfl
    have eE : tkE s = 5 := by unfold tkE; rw [if_pos hq]
    rw [eE] at PK
    rw [eS, eE]
    have H := hide h
    clear h eE
    generalize tkT s = x at *
    go_enter Try.func23, Try.ntmps23
    go_wp2_with fail
    refine (unhide PK).mono ?_
    rintro e w1 ⟨rfl, hw1⟩
    obtain rfl := hw1.symm
    clear PK
    go_wp2
    go_ret2
    exact ⟨rfl, unhide H, Kp.refl _ _⟩
  · have eE : tkE s = 0 := by unfold tkE; rw [if_neg hq]
    rw [eE] at PK
    rw [eE]
    obtain ⟨c, o, q⟩ := s
    obtain ⟨x, p, rfl⟩ : ∃ x p, q = x :: p := by
      cases q with
      | nil => exact absurd rfl hq
      | cons x p => exact ⟨x, p, rfl⟩
    obtain ⟨ok, v, hb, hr⟩ := h
    have ho := ok.room
    have hh := ok.hi
    have ok2 := ok.tk
    dsimp only [List.length_cons] at ho hh hb
    obtain ⟨ad, cp, rfl, hcp, hm1, hcm, hnone, hsp⟩ := hr.form
    rw [List.length_cons] at hcp hm1 hr hb
    obtain ⟨a, rfl⟩ : ∃ a, ad = some a := by
      cases ad with
      | none => have := hnone rfl; omega
      | some a => exact ⟨a, rfl⟩
    obtain ⟨g, rfl⟩ := hsp a rfl
    have c2 : (w.alloc (.cells #[] 9)).cell? ⟨r, 2, none⟩ = some (.slice (some ⟨g, 0, none⟩) (p.length + 1) cp) := (hb.kp (Kp.alloc _ _) (by simp)).cell (i := 2) rfl
    have c20 : w.cell? ⟨r, 2, none⟩ = some (.slice (some ⟨g, 0, none⟩) (p.length + 1) cp) := hb.cell (i := 2) rfl
    have r2 : TxO w.heap.size (w.alloc (.cells #[] 9)) (.slice (some ⟨w.heap.size, 0, none⟩) 0 0) [] := TxO.empty w (Nat.le_refl _)
    have k2 : Kp [] w (w.alloc (.cells #[] 9)) := Kp.alloc _ _
    have o2 := hr.kp k2 (by simp)
    obtain ⟨nad, hnad⟩ : ∃ nad : Option Addr, nad = if cp = 1 then some ⟨g, 0, none⟩ else some ⟨g, 1, none⟩ := ⟨_, rfl⟩
    have ht := o2.at_tail hcp
    rw [← hnad] at ht
    have hnn : nad ≠ none := by rw [hnad]; split <;> simp
    have hsp2 : ∀ a, nad = some a → a.spot = none := by
      intro a e
      rw [hnad] at e
      split at e <;> (injection e with e; subst e; rfl)
    obtain ⟨g3, cap3, W3, run3, r3, k3⟩ := r2.appAny nad (cp - 1) (ys := p) (fun e => absurd e hnn) hsp2 ht rfl (by simp [World.size_alloc]) (by simp; omega) 39
    simp only [List.nil_append, Nat.zero_add] at run3 r3
    have k13 : Kp [] w W3 := k2.trans k3 (by simp)
    have b3 := hb.kp k13 (by simp)
    have z3 := b3.froz 2
    have c3 : W3.cell? ⟨r, 2, none⟩ = some (.slice (some ⟨g, 0, none⟩) (p.length + 1) cp) := b3.cell (i := 2) rfl
    have b4 := b3.set 2 (.slice (some ⟨g3, 0, none⟩) p.length cap3)
    have z4 := b4.froz 0
    have c4 : (W3.setCell ⟨r, 2, none⟩ (.slice (some ⟨g3, 0, none⟩) p.length cap3)).cell? ⟨r, 0, none⟩ = some (.int .i64 ((c - (p.length + 1) - o : Nat) : Int)) := b4.cell (i := 0) rfl
    have r4 := (r3.lower (Nat.zero_le _)).set b3 2 (.slice (some ⟨g3, 0, none⟩) p.length cap3)
    have FIN : Hid (RcAt ((W3.setCell ⟨r, 2, none⟩ (.slice (some ⟨g3, 0, none⟩) p.length cap3)).setCell ⟨r, 0, none⟩ (.int .i64 (((c - (p.length + 1) - o : Nat) : Int) + 1))) r (tkS ⟨c, o, x :: p⟩)) := hide (by
      have b5 := b4.set 0 (.int .i64 (((c - (p.length + 1) - o : Nat) : Int) + 1))
      refine ⟨ok2, .slice (some ⟨g3, 0, none⟩) p.length cap3, ?_, r4.set b4 0 _⟩
      have e1 : ((c - p.length - o : Nat) : Int) = ((c - (p.length + 1) - o : Nat) : Int) + 1 := by omega
      unfold tkS
      dsimp only [List.tail_cons]
      rw [e1]
      exact b5)
    have KS : Hid (Kp [r] w ((W3.setCell ⟨r, 2, none⟩ (.slice (some ⟨g3, 0, none⟩) p.length cap3)).setCell ⟨r, 0, none⟩ (.int .i64 (((c - (p.length + 1) - o : Nat) : Int) + 1)))) := hide (((k13.mono (G := [r]) (by simp)).trans (Kp.set _ r 2 _) (by simp)).trans (Kp.set _ r 0 _) (by simp))
    have RUN3 := hide run3
    have hfl : c - (p.length + 1) - o ≤ 256 := by omega
    have hpl : p.length + 1 ≤ 256 := by omega
    have hnad2 : (if cp = 1 then some (⟨g, 0, none⟩ : Addr) else some ⟨g, 1, none⟩) = nad := hnad.symm
    have hrn : p.length + 1 - 1 = p.length := by omega
    have hpi : (1 : Int) ≤ ((p.length + 1 : Nat) : Int) := by omega
    have hp0 : (0 : Int) < ((p.length + 1 : Nat) : Int) := by omega
    clear ok hb hr ok2 hsp ho hh k2 o2 hnad ht hnn hsp2 run3 r3 k3 k13 b3 b4 r4 r2 hq hnone hm1 eE
    generalize c - (p.length + 1) - o = f at *
    generalize tkT ⟨c, o, x :: p⟩ = tx at *
    generalize p.length = n at *
    go_enter Try.func23, Try.ntmps23
    go_wp2_with fail
    refine (unhide PK).mono ?_
    rintro e w1 ⟨rfl, hw1⟩
    obtain rfl := hw1.symm
    clear PK
    go_wp2_with (at_builtin; refine wpList_app_run rfl _ _ 39 rfl rfl rfl (unhide RUN3) ?_)
    go_ret2
    exact ⟨rfl, unhide FIN, unhide KS⟩
set_option maxHeartbeats 1000000 in
theorem rpSpend_any (b n : Nat) (w : World) (h : RpAt w b n) (hn : n ≤ 256) :
    Calls Try.prog 26 #[.pointer (some ⟨b, 0, none⟩)] w fun e w' => e = .returned (.int .i64 (spE n)) ∧ RpAt w' b (n - 1) ∧ Kp [b] w w' := by
  have c0 : w.cell? ⟨b, 0, none⟩ = some (.int .i64 (n : Int)) := h.cell (i := 0) rfl
  have z0 := CBox.froz h 0
  unfold spE
  by_cases h0 : n = 0
  · subst h0
    have H := hide h
    clear h
    rw [if_pos rfl]
    go_enter Try.func26, Try.ntmps26
    go_wp2
    go_ret
    exact ⟨rfl, unhide H, Kp.refl _ _⟩
  · rw [if_neg h0]
    have hi : ¬ (n : Int) = 0 := by omega
    have H := hide (show RpAt (w.setCell ⟨b, 0, none⟩ (.int .i64 ((n : Int) - 1))) b (n - 1) from by
      have := CBox.set h 0 (.int .i64 ((n : Int) - 1))
      unfold RpAt
      rw [show (((n - 1 : Nat)) : Int) = (n : Int) - 1 by omega]
      exact this)
    have K := hide (Kp.set w b 0 (.int .i64 ((n : Int) - 1)))
    clear h
    go_enter Try.func26, Try.ntmps26
    go_wp2
    go_ret
    exact ⟨rfl, unhide H, unhide K⟩
set_option maxHeartbeats 1000000 in
theorem rpAdd_any (b n : Nat) (x : Int) (w : World) (h : RpAt w b n) (hn : n ≤ 256) :
    Calls Try.prog 25 #[.pointer (some ⟨b, 0, none⟩), .int .i64 x] w fun e w' => e = .returned (.int .i64 (adE n x)) ∧ RpAt w' b (adN n x) ∧ Kp [b] w w' := by
  have c0 : w.cell? ⟨b, 0, none⟩ = some (.int .i64 (n : Int)) := h.cell (i := 0) rfl
  have z0 := CBox.froz h 0
  unfold adE adN
  by_cases h0 : x < 0
  · rw [if_pos h0, if_pos h0]
    have H := hide h
    clear h
    go_enter Try.func25, Try.ntmps25
    go_wp2
    go_ret
    exact ⟨rfl, unhide H, Kp.refl _ _⟩
  · rw [if_neg h0, if_neg h0]
    by_cases h1 : x > 256 - (n : Int)
    · rw [if_pos h1, if_pos h1]
      have H := hide h
      clear h
      go_enter Try.func25, Try.ntmps25
      go_wp2
      go_ret
      exact ⟨rfl, unhide H, Kp.refl _ _⟩
    · rw [if_neg h1, if_neg h1]
      have H := hide (show RpAt (w.setCell ⟨b, 0, none⟩ (.int .i64 ((n : Int) + x))) b (n + x.toNat) from by
        have := CBox.set h 0 (.int .i64 ((n : Int) + x))
        unfold RpAt
        rw [show (((n + x.toNat : Nat)) : Int) = (n : Int) + x by omega]
        exact this)
      have K := hide (Kp.set w b 0 (.int .i64 ((n : Int) + x)))
      clear h
      go_enter Try.func25, Try.ntmps25
      go_wp2
      go_ret
      exact ⟨rfl, unhide H, unhide K⟩
end Go.Proofs.Ytcogcfnbgicjcaa
namespace Go.Proofs.Ytcogcfnbgicjcaa
open Go.RowKit Cr

/-- What stays while something of the call's own goes on. -/
theorem kp_own {w W W' : World} {b : Nat} (h : Kp [] w W) (k : Kp [b] W W') (hb : w.heap.size ≤ b) : Kp [] w W' := h.trans k (fun x hx => Or.inr (by rw [List.mem_singleton] at hx; omega))
set_option maxHeartbeats 4000000 in
set_option maxRecDepth 100000 in
theorem cWorks_any (w : World) : Calls Try.prog 13 #[] w fun e w' => e = .returned (.bool true) ∧ Kp [] w w' := by
  have N := hide (newStore_ok 2 w (by decide) (by decide))
  have G1 : Hid (∀ W b, CrAt W b ⟨2, 0, []⟩ → Calls Try.prog 18 #[.pointer (some ⟨b, 0, none⟩), .int .i64 5] W fun e w' => e = .returned (.tuple #[.int .i64 2, .int .i64 0]) ∧ CrAt w' b ⟨2, 2, []⟩ ∧ Kp [b] W w') := hide (fun W b h => cGive_any b ⟨2, 0, []⟩ 5 W h)
  have P1 : Hid (∀ W b, CrAt W b ⟨2, 2, []⟩ → Calls Try.prog 16 #[.pointer (some ⟨b, 0, none⟩), .string ⟨#[97]⟩] W fun e w' => e = .returned (.int .i64 0) ∧ CrAt w' b ⟨2, 1, [⟨#[97]⟩]⟩ ∧ Kp [b] W w') := hide (fun W b h => cPut_any b ⟨2, 2, []⟩ ⟨#[97]⟩ W h (by decide))
  have P2 : Hid (∀ W b, CrAt W b ⟨2, 1, [⟨#[97]⟩]⟩ → Calls Try.prog 16 #[.pointer (some ⟨b, 0, none⟩), .string ⟨#[98]⟩] W fun e w' => e = .returned (.int .i64 0) ∧ CrAt w' b ⟨2, 0, [⟨#[97]⟩, ⟨#[98]⟩]⟩ ∧ Kp [b] W w') := hide (fun W b h => cPut_any b ⟨2, 1, [⟨#[97]⟩]⟩ ⟨#[98]⟩ W h (by decide))
  have P3 : Hid (∀ W b, CrAt W b ⟨2, 0, [⟨#[97]⟩, ⟨#[98]⟩]⟩ → Calls Try.prog 16 #[.pointer (some ⟨b, 0, none⟩), .string ⟨#[99]⟩] W fun e w' => e = .returned (.int .i64 200) ∧ CrAt w' b ⟨2, 0, [⟨#[97]⟩, ⟨#[98]⟩]⟩ ∧ Kp [b] W w') := hide (fun W b h => cPut_any b ⟨2, 0, [⟨#[97]⟩, ⟨#[98]⟩]⟩ ⟨#[99]⟩ W h (by decide))
  have T1 : Hid (∀ W b, CrAt W b ⟨2, 0, [⟨#[97]⟩, ⟨#[98]⟩]⟩ → Calls Try.prog 17 #[.pointer (some ⟨b, 0, none⟩)] W fun e w' => e = .returned (.tuple #[.string ⟨#[97]⟩, .int .i64 0]) ∧ CrAt w' b ⟨2, 0, [⟨#[98]⟩]⟩ ∧ Kp [b] W w') := hide (fun W b h => cTake_any b ⟨2, 0, [⟨#[97]⟩, ⟨#[98]⟩]⟩ W h)
  have G2 : Hid (∀ W b, CrAt W b ⟨2, 0, [⟨#[98]⟩]⟩ → Calls Try.prog 18 #[.pointer (some ⟨b, 0, none⟩), .int .i64 5] W fun e w' => e = .returned (.tuple #[.int .i64 1, .int .i64 0]) ∧ CrAt w' b ⟨2, 1, [⟨#[98]⟩]⟩ ∧ Kp [b] W w') := hide (fun W b h => cGive_any b ⟨2, 0, [⟨#[98]⟩]⟩ 5 W h)
  have P4 : Hid (∀ W b, CrAt W b ⟨2, 1, [⟨#[98]⟩]⟩ → Calls Try.prog 16 #[.pointer (some ⟨b, 0, none⟩), .string ⟨#[99]⟩] W fun e w' => e = .returned (.int .i64 0) ∧ CrAt w' b ⟨2, 0, [⟨#[98]⟩, ⟨#[99]⟩]⟩ ∧ Kp [b] W w') := hide (fun W b h => cPut_any b ⟨2, 1, [⟨#[98]⟩]⟩ ⟨#[99]⟩ W h (by decide))
  have L1 : Hid (∀ W b, CrAt W b ⟨2, 0, [⟨#[98]⟩, ⟨#[99]⟩]⟩ → Calls Try.prog 10 #[.pointer (some ⟨b, 0, none⟩)] W fun e w' => e = .returned (.int .i64 2) ∧ w' = W) := hide (fun W b h => cLen_any b ⟨2, 0, [⟨#[98]⟩, ⟨#[99]⟩]⟩ W h)
  generalize hB : w.heap.size = b at *
  have HB := hide hB
  clear hB
  go_enter Try.func13, Try.ntmps13
  go_wp2_with fail
  refine (unhide N).mono ?_
  rintro r w1 ⟨rfl, a1, k1⟩
  have A1 := hide a1
  have K1 := hide k1
  clear N a1 k1
  go_wp2_with fail
  refine (unhide G1 _ _ (unhide A1)).mono ?_
  rintro r w2 ⟨rfl, a2, k2⟩
  have A2 := hide a2
  have K2 := hide (kp_own (unhide K1) k2 (by have := unhide HB; omega))
  clear G1 A1 K1 a2 k2
  go_wp2_with fail
  refine (unhide P1 _ _ (unhide A2)).mono ?_
  rintro r w3 ⟨rfl, a3, k3⟩
  have A3 := hide a3
  have K3 := hide (kp_own (unhide K2) k3 (by have := unhide HB; omega))
  clear P1 A2 K2 a3 k3
  go_wp2_with fail
  refine (unhide P2 _ _ (unhide A3)).mono ?_
  rintro r w4 ⟨rfl, a4, k4⟩
  have A4 := hide a4
  have K4 := hide (kp_own (unhide K3) k4 (by have := unhide HB; omega))
  clear P2 A3 K3 a4 k4
  go_wp2_with fail
  refine (unhide P3 _ _ (unhide A4)).mono ?_
  rintro r w5 ⟨rfl, a5, k5⟩
  have A5 := hide a5
  have K5 := hide (kp_own (unhide K4) k5 (by have := unhide HB; omega))
  clear P3 A4 K4 a5 k5
  go_wp2_with fail
  refine (unhide T1 _ _ (unhide A5)).mono ?_
  rintro r w6 ⟨rfl, a6, k6⟩
  have A6 := hide a6
  have K6 := hide (kp_own (unhide K5) k6 (by have := unhide HB; omega))
  clear T1 A5 K5 a6 k6
  go_wp2_with fail
  refine (unhide G2 _ _ (unhide A6)).mono ?_
  rintro r w7 ⟨rfl, a7, k7⟩
  have A7 := hide a7
  have K7 := hide (kp_own (unhide K6) k7 (by have := unhide HB; omega))
  clear G2 A6 K6 a7 k7
  go_wp2_with fail
  refine (unhide P4 _ _ (unhide A7)).mono ?_
  rintro r w8 ⟨rfl, a8, k8⟩
  have A8 := hide a8
  have K8 := hide (kp_own (unhide K7) k8 (by have := unhide HB; omega))
  clear P4 A7 K7 a8 k8
  go_wp2_with fail
  refine (unhide L1 _ _ (unhide A8)).mono ?_
  rintro r w9 ⟨rfl, rfl⟩
  go_wp2
  go_ret
  exact ⟨rfl, unhide K8⟩
end Go.Proofs.Ytcogcfnbgicjcaa
