/-
  GateHolds, plainly.
-/
import Derived.Test.YtcgmoadahdkbbaaGa07
namespace Go.Proofs.Ytcgmoadahdkbbaa
open Go.RowKit Gt Cr

theorem turn_to {n t l : Nat} (ht : t < n) (hl : l < n) : ∃ k, k < n ∧ (t + k) % n = l ∧ ∀ j, j < k → (t + j) % n ≠ l := by
  have hk : ∃ k, k < n ∧ (t + k) % n = l := by
    by_cases h : t ≤ l
    · exact ⟨l - t, by omega, by rw [show t + (l - t) = l by omega]; exact Nat.mod_eq_of_lt hl⟩
    · exact ⟨l + n - t, by omega, by rw [show t + (l + n - t) = l + n by omega, Nat.add_mod_right]; exact Nat.mod_eq_of_lt hl⟩
  obtain ⟨k, h1, h2⟩ := hk
  exact ⟨k, h1, h2, fun j hj e => by
    have := mod_ne ht h1 (by omega : j < n) (h2.trans e.symm)
    omega⟩
theorem fst_only {g : Gt} {l : Nat} (ht : g.turn < g.n) (hl : l < g.n) (ho : (g.ch l).opn = true) (hn : ∀ j, j < g.n → j ≠ l → (g.ch j).opn = false) : g.fst = some l := by
  obtain ⟨k, h1, h2, h3⟩ := turn_to ht hl
  have := fst_some (g := g) h1 (fun j hj => hn _ (Nat.mod_lt _ (by omega)) (h3 j hj)) (by rw [h2]; exact ho)
  rw [this, h2]
theorem fst_empty {g : Gt} (hn : ∀ j, j < g.n → (g.ch j).opn = false) (h0 : 0 < g.n) : g.fst = none := fst_none fun _ _ => hn _ (Nat.mod_lt _ h0)
theorem fst_any {g : Gt} {l : Nat} (ht : g.turn < g.n) (hl : l < g.n) (ho : (g.ch l).opn = true) : ∃ k, g.fst = some k ∧ k < g.n ∧ (g.ch k).opn = true := by
  obtain ⟨k, h1, h2, _⟩ := turn_to ht hl
  unfold Gt.fst
  cases hf : (List.range g.n).find? (fun k => (g.ch ((g.turn + k) % g.n)).opn) with
  | none =>
    rw [List.find?_eq_none] at hf
    exact absurd ho (by have := hf k (List.mem_range.2 h1); rwa [h2] at this)
  | some j =>
    have := List.find?_some hf
    exact ⟨_, rfl, Nat.mod_lt _ (by omega), this⟩
theorem pl_fst {g : Gt} {k : Nat} (ha : g.all = false) (hf : g.fst = some k) : g.plC = (k : Int) ∧ g.plT = (g.ch k).hd.t ∧ g.plB = 0 ∧ g.plE = 0 ∧ g.plS = (g.tn ((k + 1) % g.n)).upd k (g.ch k).tl := by
  unfold Gt.plC Gt.plT Gt.plB Gt.plE Gt.plS Gt.fsI
  rw [ha, hf]
  exact ⟨rfl, rfl, rfl, rfl, rfl⟩
theorem pl_none {g : Gt} (ha : g.all = false) (hf : g.fst = none) : g.plC = 0 ∧ g.plT = ⟨#[]⟩ ∧ g.plB = 0 ∧ g.plE = 5 ∧ g.plS = g := by
  unfold Gt.plC Gt.plT Gt.plB Gt.plE Gt.plS Gt.fsI
  rw [ha, hf]
  exact ⟨rfl, rfl, rfl, rfl, rfl⟩
theorem pl_all {g : Gt} (ha : g.all = true) : g.plC = -1 ∧ g.plT = ⟨#[]⟩ ∧ g.plB = g.bar g.n ∧ g.plE = 0 ∧ g.plS = g.tls g.n := by
  unfold Gt.plC Gt.plT Gt.plB Gt.plE Gt.plS
  rw [ha]
  exact ⟨rfl, rfl, rfl, rfl, rfl⟩
def tBeh : ByteArray := ⟨#[98, 101, 104, 105, 110, 100]⟩
def tAhe : ByteArray := ⟨#[97, 104, 101, 97, 100]⟩
def chZ : Ch := ⟨20, 0, [], 3⟩
def chB : Ch := ⟨20, 18, [⟨⟨#[]⟩, 3⟩, ⟨tBeh, 0⟩], 4⟩
/-- The gate: of the first k channels one is 'late', the others have a barrier and a text. -/
def hg (n l k : Nat) (c : Ch) (t : Nat) : Gt := ⟨n, fun j => if j < k then (if j = l then c else chB) else chZ, t⟩
theorem gt_ext {n : Nat} {f g : Nat → Ch} {t : Nat} (h : ∀ j, f j = g j) : (⟨n, f, t⟩ : Gt) = ⟨n, g, t⟩ := by rw [funext h]
theorem hg_zero (n l : Nat) (c : Ch) : hg n l 0 c 0 = gt0 n 20 3 := gt_ext fun j => if_neg (Nat.not_lt_zero j)
theorem hg_upd {n l k : Nat} {c d : Ch} {t : Nat} (hl : l < k) : (hg n l k c t).upd l d = hg n l k d t := gt_ext fun j => by
  dsimp only [hg]
  by_cases e : j = l
  · subst e; simp [hl]
  · simp [e]
theorem hg_at {n l k : Nat} {c : Ch} {t : Nat} (hl : l < k) : (hg n l k c t).ch l = c := by simp [hg, hl]
theorem hg_other {n l k j : Nat} {c : Ch} {t : Nat} (hj : j < k) (hne : j ≠ l) : (hg n l k c t).ch j = chB := by simp [hg, hj, hne]
theorem hg_new {n l k : Nat} {c : Ch} {t : Nat} : (hg n l k c t).ch k = chZ := by simp [hg]
theorem hg_late (n l : Nat) (c : Ch) (t : Nat) : (hg n l l c t).upd l c = hg n l (l + 1) c t := gt_ext fun j => by
  dsimp only [hg]
  by_cases e : j = l
  · subst e; simp
  · by_cases h : j < l
    · simp [e, h, show j < l + 1 by omega]
    · simp [e, h, show ¬ j < l + 1 by omega]
theorem hg_next {n l k : Nat} (c : Ch) (t : Nat) (hk : k ≠ l) : (hg n l k c t).upd k chB = hg n l (k + 1) c t := gt_ext fun j => by
  dsimp only [hg]
  by_cases e : j = k
  · subst e; simp [hk]
  · by_cases h : j < k
    · simp [e, h, show j < k + 1 by omega]
    · simp [e, h, show ¬ j < k + 1 by omega]
theorem hg_nx {n l k : Nat} {c : Ch} {t : Nat} (hc : c.next ≤ 4) (j : Nat) : ((hg n l k c t).ch j).next ≤ 4611686018427387904 := by
  dsimp only [hg]
  split
  · split
    · omega
    · decide
  · decide
/-- The late channel: o are owed, r texts stand there. -/
def chL (o r : Nat) : Ch := ⟨20, o, List.replicate r ⟨tAhe, 0⟩, 3⟩
def hL (n l o r t : Nat) : Gt := hg n l n (chL o r) t
theorem chL_opn (o r : Nat) : (chL o (r + 1)).opn = true := rfl
theorem chL_blk (o r : Nat) : (chL o r).blk = false := by cases r <;> rfl
theorem hL_all {n l o r t : Nat} (hl : l < n) : (hL n l o r t).all = false := all_false (k := l) hl (by unfold hL; rw [hg_at hl]; exact chL_blk _ _)
theorem hL_fst {n l o r t : Nat} (hl : l < n) (ht : t < n) : (hL n l o (r + 1) t).fst = some l :=
  fst_only ht hl (by unfold hL; rw [hg_at hl]; rfl) (fun j hj hne => by unfold hL; rw [hg_other (show j < n from hj) hne]; rfl)
theorem hL_pull {n l o r t : Nat} (hl : l < n) (ht : t < n) : (hL n l o (r + 1) t).plC = (l : Int) ∧ (hL n l o (r + 1) t).plT = tAhe ∧ (hL n l o (r + 1) t).plB = 0 ∧ (hL n l o (r + 1) t).plE = 0 ∧ (hL n l o (r + 1) t).plS = hL n l o r ((l + 1) % n) := by
  obtain ⟨h1, h2, h3, h4, h5⟩ := pl_fst (hL_all hl) (hL_fst (o := o) (r := r) hl ht)
  refine ⟨h1, h2.trans ?_, h3, h4, h5.trans ?_⟩
  · unfold hL; rw [hg_at hl]; rfl
  · have e : (hL n l o (r + 1) t).ch l = chL o (r + 1) := hg_at hl
    rw [e]
    exact hg_upd (t := (l + 1) % n) hl
theorem hL_none {n l o t : Nat} (hl : l < n) : (hL n l o 0 t).plC = 0 ∧ (hL n l o 0 t).plT = ⟨#[]⟩ ∧ (hL n l o 0 t).plB = 0 ∧ (hL n l o 0 t).plE = 5 ∧ (hL n l o 0 t).plS = hL n l o 0 t :=
  pl_none (hL_all hl) (fst_empty (fun j hj => by
    by_cases e : j = l
    · subst e; unfold hL; rw [hg_at hl]; rfl
    · unfold hL; rw [hg_other (show j < n from hj) e]; rfl) (show 0 < n by omega))
/-- The late channel's barrier has come. -/
def chM (o : Nat) : Ch := ⟨20, o, [⟨⟨#[]⟩, 3⟩], 4⟩
theorem hM_all {n l o t : Nat} : (hg n l n (chM o) t).all = true := all_true fun k hk => by
  by_cases e : k = l
  · subst e; rw [hg_at (show k < n from hk)]; rfl
  · rw [hg_other (show k < n from hk) e]; rfl
theorem hM_bar {n l o t : Nat} (hn : 0 < n) : (hg n l n (chM o) t).bar n = 3 := by
  unfold Gt.bar
  rw [if_neg (by omega)]
  by_cases e : n - 1 = l
  · rw [← e, hg_at (by omega)]; rfl
  · rw [hg_other (by omega) e]; rfl
/-- What is left to be pulled: so many channels have one text. -/
structure Hs (n i : Nat) (g : Gt) : Prop where
  nn : g.n = n
  tt : g.turn < n
  q : ∀ k, k < n → (g.ch k).q = [] ∨ (g.ch k).q = [⟨tBeh, 0⟩]
  c : (List.range n).countP (fun k => (g.ch k).opn) = i
theorem countP_one {p q : Nat → Bool} : ∀ {l : List Nat} {k : Nat}, l.Nodup → k ∈ l → p k = true → q k = false → (∀ j, j ≠ k → q j = p j) → l.countP p = l.countP q + 1
  | [], _, _, hm, _, _, _ => by cases hm
  | a :: r, k, hd, hm, h1, h2, h3 => by
    obtain ⟨hna, hdr⟩ := List.nodup_cons.1 hd
    by_cases e : a = k
    · subst e
      rw [List.countP_cons_of_pos h1, List.countP_cons_of_neg (by rw [h2]; simp)]
      congr 1
      refine List.countP_congr fun x hx => ?_
      rw [h3 x (fun e => hna (e ▸ hx))]
    · have hm2 : k ∈ r := by
        rcases List.mem_cons.1 hm with e2 | e2
        · exact absurd e2.symm e
        · exact e2
      have := countP_one hdr hm2 h1 h2 h3
      have ha := h3 a e
      rw [List.countP_cons, List.countP_cons, this, ha]
      omega
theorem countP_ne (n l : Nat) (hl : l < n) : (List.range n).countP (fun k => decide (k ≠ l)) = n - 1 := by
  have h := countP_one (p := fun _ => true) (q := fun k => decide (k ≠ l)) (l := List.range n) (k := l) List.nodup_range (List.mem_range.2 hl) rfl (by simp) (fun j hj => by simp [hj])
  have h2 : (List.range n).countP (fun _ => true) = n := by rw [List.countP_eq_length.2 (by simp), List.length_range]
  omega
theorem hs_start {n l o t : Nat} (hl : l < n) (ht : t < n) : Hs n (n - 1) ((hg n l n (chM o) t).tls n) := by
  have e : ∀ k, k < n → ((hg n l n (chM o) t).tls n).ch k = if k = l then (chM o).tl else chB.tl := fun k hk => by
    show (if k < n then ((hg n l n (chM o) t).ch k).tl else _) = _
    rw [if_pos hk]
    by_cases h : k = l
    · subst h; rw [if_pos rfl, hg_at hk]
    · rw [if_neg h, hg_other hk h]
  refine ⟨rfl, ht, fun k hk => ?_, ?_⟩
  · rw [e k hk]
    by_cases h : k = l
    · rw [if_pos h]; exact Or.inl rfl
    · rw [if_neg h]; exact Or.inr rfl
  · rw [← countP_ne n l hl]
    refine List.countP_congr fun k hk => ?_
    rw [e k (List.mem_range.1 hk)]
    by_cases h : k = l
    · rw [if_pos h]; simp [h, chM, Ch.tl, Ch.opn]
    · rw [if_neg h]; simp [h, chB, Ch.tl, Ch.opn]
theorem hs_blk {n i : Nat} {g : Gt} (h : Hs n i g) (hn : 0 < n) : g.all = false := all_false (k := 0) (by rw [h.nn]; exact hn) (by
  unfold Ch.blk
  rcases h.q 0 hn with e | e
  · rw [e]
  · rw [e]; rfl)
theorem hs_pull {n i : Nat} {g : Gt} (h : Hs n (i + 1) g) (hn : 0 < n) : g.plT = tBeh ∧ g.plB = 0 ∧ g.plE = 0 ∧ Hs n i g.plS := by
  obtain ⟨l, hl, ho⟩ : ∃ l, l ∈ List.range n ∧ (g.ch l).opn = true := by
    have : 0 < (List.range n).countP (fun k => (g.ch k).opn) := by rw [h.c]; omega
    exact List.countP_pos_iff.1 this
  obtain ⟨k, hf, hk, hk2⟩ := fst_any (g := g) (by rw [h.nn]; exact h.tt) (by rw [h.nn]; exact List.mem_range.1 hl) ho
  rw [h.nn] at hk
  obtain ⟨p1, p2, p3, p4, p5⟩ := pl_fst (hs_blk h hn) hf
  have hq : (g.ch k).q = [⟨tBeh, 0⟩] := by
    rcases h.q k hk with e | e
    · unfold Ch.opn at hk2; rw [e] at hk2; cases hk2
    · exact e
  refine ⟨p2.trans (by unfold Ch.hd; rw [hq]; rfl), p3, p4, ?_⟩
  rw [p5]
  have e1 : ((g.tn ((k + 1) % g.n)).upd k (g.ch k).tl).ch k = (g.ch k).tl := Gt.upd_same _ _ _
  have e2 : ∀ j, j ≠ k → ((g.tn ((k + 1) % g.n)).upd k (g.ch k).tl).ch j = g.ch j := fun j hj => Gt.upd_ne _ _ hj
  refine ⟨h.nn, ?_, fun j hj => ?_, ?_⟩
  · show (k + 1) % g.n < n
    rw [h.nn]; exact Nat.mod_lt _ hn
  · by_cases e : j = k
    · subst e; rw [e1]; left; show (g.ch j).q.tail = []; rw [hq]; rfl
    · rw [e2 j e]; exact h.q j hj
  · have := countP_one (p := fun j => (g.ch j).opn) (q := fun j => (((g.tn ((k + 1) % g.n)).upd k (g.ch k).tl).ch j).opn) (l := List.range n) (k := k) List.nodup_range (List.mem_range.2 hk) hk2 (by
      (try dsimp only)
      rw [e1]
      unfold Ch.opn Ch.tl
      rw [hq]
      rfl) (fun j hj => by (try dsimp only); rw [e2 j hj])
    have hc := h.c
    omega
theorem hs_done {n : Nat} {g : Gt} (h : Hs n 0 g) (hn : 0 < n) : g.plE = 5 := by
  refine (pl_none (hs_blk h hn) (fst_empty (fun j hj => ?_) (by rw [h.nn]; exact hn))).2.2.2.1
  have := List.countP_eq_zero.1 h.c j (List.mem_range.2 (by rw [← h.nn]; exact hj))
  simpa using this
/-- What the first calls of a channel leave. -/
theorem hg_gv {n l k : Nat} {c : Ch} (hk : k < n) : (hg n l k c 0).gvN (k : Int) 20 = 20 ∧ (hg n l k c 0).gvE (k : Int) 20 = 0 ∧ (hg n l k c 0).gvS (k : Int) 20 = (hg n l k c 0).upd k ⟨20, 20, [], 3⟩ := by
  have hc : 0 ≤ (k : Int) ∧ (k : Int) < ((hg n l k c 0).n : Int) := ⟨by omega, by show (k : Int) < (n : Int); omega⟩
  unfold Gt.gvN Gt.gvE Gt.gvS
  rw [if_pos hc, if_pos hc, if_pos hc, Int.toNat_natCast, hg_new]
  exact ⟨rfl, rfl, rfl⟩
theorem upd_ba {g : Gt} {k : Nat} (hk : k < g.n) (o : Nat) (q : List It) : (g.upd k ⟨20, o + 1, q, 3⟩).baE (k : Int) 3 = 0 ∧ (g.upd k ⟨20, o + 1, q, 3⟩).baS (k : Int) 3 = g.upd k ⟨20, o, q ++ [⟨⟨#[]⟩, 3⟩], 4⟩ := by
  have hc : 0 ≤ (k : Int) ∧ (k : Int) < ((g.upd k ⟨20, o + 1, q, 3⟩).n : Int) := ⟨by omega, by show (k : Int) < (g.n : Int); omega⟩
  unfold Gt.baE Gt.baS
  rw [if_pos hc, if_pos hc, Int.toNat_natCast, Gt.upd_same, Gt.upd_upd]
  exact ⟨rfl, rfl⟩
theorem upd_tx {g : Gt} {k : Nat} (hk : k < g.n) (o : Nat) (q : List It) (m : Nat) {t : ByteArray} (ht : ¬ 60000 < t.size) : (g.upd k ⟨20, o + 1, q, m⟩).txE (k : Int) t = 0 ∧ (g.upd k ⟨20, o + 1, q, m⟩).txS (k : Int) t = g.upd k ⟨20, o, q ++ [⟨t, 0⟩], m⟩ := by
  have hc : 0 ≤ (k : Int) ∧ (k : Int) < ((g.upd k ⟨20, o + 1, q, m⟩).n : Int) := ⟨by omega, by show (k : Int) < (g.n : Int); omega⟩
  unfold Gt.txE Gt.txS
  rw [if_pos hc, if_pos hc, if_neg ht, if_neg ht, Int.toNat_natCast, Gt.upd_same, Gt.upd_upd]
  exact ⟨rfl, rfl⟩
theorem upd_nx {g : Gt} {k : Nat} {c : Ch} (h : ∀ j, (g.ch j).next ≤ 4611686018427387904) (hc : c.next ≤ 4611686018427387904) (j : Nat) : ((g.upd k c).ch j).next ≤ 4611686018427387904 := by
  by_cases e : j = k
  · subst e; rw [Gt.upd_same]; exact hc
  · rw [Gt.upd_ne g c e]; exact h j
theorem hL_text {n l o r : Nat} (hl : l < n) : (hL n l (o + 1) r 0).txE (l : Int) tAhe = 0 ∧ (hL n l (o + 1) r 0).txS (l : Int) tAhe = hL n l o (r + 1) 0 := by
  have e : hL n l (o + 1) r 0 = (hL n l (o + 1) r 0).upd l ⟨20, o + 1, List.replicate r ⟨tAhe, 0⟩, 3⟩ := (hg_upd hl).symm
  have h := upd_tx (g := hL n l (o + 1) r 0) (k := l) hl o (List.replicate r ⟨tAhe, 0⟩) 3 (t := tAhe) (by decide)
  rw [← e] at h
  refine ⟨h.1, h.2.trans ?_⟩
  unfold hL
  rw [hg_upd hl]
  congr 1
  unfold chL
  rw [List.replicate_succ']
theorem hL_bar {n l o t : Nat} (hl : l < n) : (hL n l (o + 1) 0 t).baE (l : Int) 3 = 0 ∧ (hL n l (o + 1) 0 t).baS (l : Int) 3 = hg n l n (chM o) t := by
  have e : hL n l (o + 1) 0 t = (hL n l (o + 1) 0 t).upd l ⟨20, o + 1, [], 3⟩ := (hg_upd hl).symm
  have h := upd_ba (g := hL n l (o + 1) 0 t) (k := l) hl o []
  rw [← e] at h
  exact ⟨h.1, h.2.trans (hg_upd hl)⟩
end Go.Proofs.Ytcgmoadahdkbbaa
