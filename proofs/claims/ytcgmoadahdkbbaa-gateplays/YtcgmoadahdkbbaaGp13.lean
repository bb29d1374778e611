/-
  GateHolds, plainly.
  The document's gate: Pull.
-/
import Derived.Test.YtcgmoadahdkbbaaGp07
import Derived.Test.YtcgmoadahdkbbaaGp12
namespace Go.Proofs.Ytcgmoadahdkbbaa
open Go.RowKit Gt Cr

theorem turn_to {n t l : Nat} (ht : t < n) (hl : l < n) : ∃ k, k < n ∧ (t + k) % n = l ∧ ∀ j, j < k → (t + j) % n ≠ l := by
  have hk : ∃ k, k < n ∧ (t + k) % n = l := by
    by_cases h : t ≤ l
    · exact ⟨l - t, by omega, by rw [show t + (l - t) = l by omega]; exact Nat.mod_eq_of_lt hl⟩
    · exact ⟨l + n - t, by omega, by rw [show t + (l + n - t) = l + n by omega, Nat.add_mod_right]; exact Nat.mod_eq_of_lt hl⟩
  obtain ⟨k, h1, h2⟩ := hk
  exact ⟨k, h1, h2, fun j hj e => by
    have := mod_ne ht h1 (by omega : j < n) (h2.trans e.symm)
    omega⟩
theorem fst_only {g : Gt} {l : Nat} (ht : g.turn < g.n) (hl : l < g.n) (ho : (g.ch l).opn = true) (hn : ∀ j, j < g.n → j ≠ l → (g.ch j).opn = false) : g.fst = some l := by
  obtain ⟨k, h1, h2, h3⟩ := turn_to ht hl
  have := fst_some (g := g) h1 (fun j hj => hn _ (Nat.mod_lt _ (by omega)) (h3 j hj)) (by rw [h2]; exact ho)
  rw [this, h2]
theorem fst_empty {g : Gt} (hn : ∀ j, j < g.n → (g.ch j).opn = false) (h0 : 0 < g.n) : g.fst = none := fst_none fun _ _ => hn _ (Nat.mod_lt _ h0)
theorem fst_any {g : Gt} {l : Nat} (ht : g.turn < g.n) (hl : l < g.n) (ho : (g.ch l).opn = true) : ∃ k, g.fst = some k ∧ k < g.n ∧ (g.ch k).opn = true := by
  obtain ⟨k, h1, h2, _⟩ := turn_to ht hl
  unfold Gt.fst
  cases hf : (List.range g.n).find? (fun k => (g.ch ((g.turn + k) % g.n)).opn) with
  | none =>
    rw [List.find?_eq_none] at hf
    exact absurd ho (by have := hf k (List.mem_range.2 h1); rwa [h2] at this)
  | some j =>
    have := List.find?_some hf
    exact ⟨_, rfl, Nat.mod_lt _ (by omega), this⟩
theorem pl_fst {g : Gt} {k : Nat} (ha : g.all = false) (hf : g.fst = some k) : g.plC = (k : Int) ∧ g.plT = (g.ch k).hd.t ∧ g.plB = 0 ∧ g.plE = 0 ∧ g.plS = (g.tn ((k + 1) % g.n)).upd k (g.ch k).tl := by
  unfold Gt.plC Gt.plT Gt.plB Gt.plE Gt.plS Gt.fsI
  rw [ha, hf]
  exact ⟨rfl, rfl, rfl, rfl, rfl⟩
theorem pl_none {g : Gt} (ha : g.all = false) (hf : g.fst = none) : g.plC = 0 ∧ g.plT = ⟨#[]⟩ ∧ g.plB = 0 ∧ g.plE = 5 ∧ g.plS = g := by
  unfold Gt.plC Gt.plT Gt.plB Gt.plE Gt.plS Gt.fsI
  rw [ha, hf]
  exact ⟨rfl, rfl, rfl, rfl, rfl⟩
theorem pl_all {g : Gt} (ha : g.all = true) : g.plC = -1 ∧ g.plT = ⟨#[]⟩ ∧ g.plB = g.bar g.n ∧ g.plE = 0 ∧ g.plS = g.tls g.n := by
  unfold Gt.plC Gt.plT Gt.plB Gt.plE Gt.plS
  rw [ha]
  exact ⟨rfl, rfl, rfl, rfl, rfl⟩
def tBeh : ByteArray := ⟨#[98, 101, 104, 105, 110, 100]⟩
def tAhe : ByteArray := ⟨#[97, 104, 101, 97, 100]⟩
def chZ : Ch := ⟨20, 0, [], 3⟩
def chB : Ch := ⟨20, 18, [⟨⟨#[]⟩, 3⟩, ⟨tBeh, 0⟩], 4⟩
/-- The gate: of the first k channels one is 'late', the others have a barrier and a text. -/
def hg (n l k : Nat) (c : Ch) (t : Nat) : Gt := ⟨n, fun j => if j < k then (if j = l then c else chB) else chZ, t⟩
theorem gt_ext {n : Nat} {f g : Nat → Ch} {t : Nat} (h : ∀ j, f j = g j) : (⟨n, f, t⟩ : Gt) = ⟨n, g, t⟩ := by rw [funext h]
theorem hg_zero (n l : Nat) (c : Ch) : hg n l 0 c 0 = gt0 n 20 3 := gt_ext fun j => if_neg (Nat.not_lt_zero j)
theorem hg_upd {n l k : Nat} {c d : Ch} {t : Nat} (hl : l < k) : (hg n l k c t).upd l d = hg n l k d t := gt_ext fun j => by
  dsimp only [hg]
  by_cases e : j = l
  · subst e; simp [hl]
  · simp [e]
theorem hg_at {n l k : Nat} {c : Ch} {t : Nat} (hl : l < k) : (hg n l k c t).ch l = c := by simp [hg, hl]
theorem hg_other {n l k j : Nat} {c : Ch} {t : Nat} (hj : j < k) (hne : j ≠ l) : (hg n l k c t).ch j = chB := by simp [hg, hj, hne]
theorem hg_new {n l k : Nat} {c : Ch} {t : Nat} : (hg n l k c t).ch k = chZ := by simp [hg]
theorem hg_late (n l : Nat) (c : Ch) (t : Nat) : (hg n l l c t).upd l c = hg n l (l + 1) c t := gt_ext fun j => by
  dsimp only [hg]
  by_cases e : j = l
  · subst e; simp
  · by_cases h : j < l
    · simp [e, h, show j < l + 1 by omega]
    · simp [e, h, show ¬ j < l + 1 by omega]
theorem hg_next {n l k : Nat} (c : Ch) (t : Nat) (hk : k ≠ l) : (hg n l k c t).upd k chB = hg n l (k + 1) c t := gt_ext fun j => by
  dsimp only [hg]
  by_cases e : j = k
  · subst e; simp [hk]
  · by_cases h : j < k
    · simp [e, h, show j < k + 1 by omega]
    · simp [e, h, show ¬ j < k + 1 by omega]
theorem hg_nx {n l k : Nat} {c : Ch} {t : Nat} (hc : c.next ≤ 4) (j : Nat) : ((hg n l k c t).ch j).next ≤ 4611686018427387904 := by
  dsimp only [hg]
  split
  · split
    · omega
    · decide
  · decide
/-- The late channel: o are owed, r texts stand there. -/
def chL (o r : Nat) : Ch := ⟨20, o, List.replicate r ⟨tAhe, 0⟩, 3⟩
def hL (n l o r t : Nat) : Gt := hg n l n (chL o r) t
theorem chL_opn (o r : Nat) : (chL o (r + 1)).opn = true := rfl
theorem chL_blk (o r : Nat) : (chL o r).blk = false := by cases r <;> rfl
theorem hL_all {n l o r t : Nat} (hl : l < n) : (hL n l o r t).all = false := all_false (k := l) hl (by unfold hL; rw [hg_at hl]; exact chL_blk _ _)
theorem hL_fst {n l o r t : Nat} (hl : l < n) (ht : t < n) : (hL n l o (r + 1) t).fst = some l :=
  fst_only ht hl (by unfold hL; rw [hg_at hl]; rfl) (fun j hj hne => by unfold hL; rw [hg_other (show j < n from hj) hne]; rfl)
theorem hL_pull {n l o r t : Nat} (hl : l < n) (ht : t < n) : (hL n l o (r + 1) t).plC = (l : Int) ∧ (hL n l o (r + 1) t).plT = tAhe ∧ (hL n l o (r + 1) t).plB = 0 ∧ (hL n l o (r + 1) t).plE = 0 ∧ (hL n l o (r + 1) t).plS = hL n l o r ((l + 1) % n) := by
  obtain ⟨h1, h2, h3, h4, h5⟩ := pl_fst (hL_all hl) (hL_fst (o := o) (r := r) hl ht)
  refine ⟨h1, h2.trans ?_, h3, h4, h5.trans ?_⟩
  · unfold hL; rw [hg_at hl]; rfl
  · have e : (hL n l o (r + 1) t).ch l = chL o (r + 1) := hg_at hl
    rw [e]
    exact hg_upd (t := (l + 1) % n) hl
theorem hL_none {n l o t : Nat} (hl : l < n) : (hL n l o 0 t).plC = 0 ∧ (hL n l o 0 t).plT = ⟨#[]⟩ ∧ (hL n l o 0 t).plB = 0 ∧ (hL n l o 0 t).plE = 5 ∧ (hL n l o 0 t).plS = hL n l o 0 t :=
  pl_none (hL_all hl) (fst_empty (fun j hj => by
    by_cases e : j = l
    · subst e; unfold hL; rw [hg_at hl]; rfl
    · unfold hL; rw [hg_other (show j < n from hj) e]; rfl) (show 0 < n by omega))
/-- The late channel's barrier has come. -/
def chM (o : Nat) : Ch := ⟨20, o, [⟨⟨#[]⟩, 3⟩], 4⟩
theorem hM_all {n l o t : Nat} : (hg n l n (chM o) t).all = true := all_true fun k hk => by
  by_cases e : k = l
  · subst e; rw [hg_at (show k < n from hk)]; rfl
  · rw [hg_other (show k < n from hk) e]; rfl
theorem hM_bar {n l o t : Nat} (hn : 0 < n) : (hg n l n (chM o) t).bar n = 3 := by
  unfold Gt.bar
  rw [if_neg (by omega)]
  by_cases e : n - 1 = l
  · rw [← e, hg_at (by omega)]; rfl
  · rw [hg_other (by omega) e]; rfl
/-- What is left to be pulled: so many channels have one text. -/
structure Hs (n i : Nat) (g : Gt) : Prop where
  nn : g.n = n
  tt : g.turn < n
  q : ∀ k, k < n → (g.ch k).q = [] ∨ (g.ch k).q = [⟨tBeh, 0⟩]
  c : (List.range n).countP (fun k => (g.ch k).opn) = i
theorem countP_one {p q : Nat → Bool} : ∀ {l : List Nat} {k : Nat}, l.Nodup → k ∈ l → p k = true → q k = false → (∀ j, j ≠ k → q j = p j) → l.countP p = l.countP q + 1
  | [], _, _, hm, _, _, _ => by cases hm
  | a :: r, k, hd, hm, h1, h2, h3 => by
    obtain ⟨hna, hdr⟩ := List.nodup_cons.1 hd
    by_cases e : a = k
    · subst e
      rw [List.countP_cons_of_pos h1, List.countP_cons_of_neg (by rw [h2]; simp)]
      congr 1
      refine List.countP_congr fun x hx => ?_
      rw [h3 x (fun e => hna (e ▸ hx))]
    · have hm2 : k ∈ r := by
        rcases List.mem_cons.1 hm with e2 | e2
        · exact absurd e2.symm e
        · exact e2
      have := countP_one hdr hm2 h1 h2 h3
      have ha := h3 a e
      rw [List.countP_cons, List.countP_cons, this, ha]
      omega
theorem countP_ne (n l : Nat) (hl : l < n) : (List.range n).countP (fun k => decide (k ≠ l)) = n - 1 := by
  have h := countP_one (p := fun _ => true) (q := fun k => decide (k ≠ l)) (l := List.range n) (k := l) List.nodup_range (List.mem_range.2 hl) rfl (by simp) (fun j hj => by simp [hj])
  have h2 : (List.range n).countP (fun _ => true) = n := by rw [List.countP_eq_length.2 (by simp), List.length_range]
  omega
theorem hs_start {n l o t : Nat} (hl : l < n) (ht : t < n) : Hs n (n - 1) ((hg n l n (chM o) t).tls n) := by
  have e : ∀ k, k < n → ((hg n l n (chM o) t).tls n).ch k = if k = l then (chM o).tl else chB.tl := fun k hk => by
    show (if k < n then ((hg n l n (chM o) t).ch k).tl else _) = _
    rw [if_pos hk]
    by_cases h : k = l
    · subst h; rw [if_pos rfl, hg_at hk]
    · rw [if_neg h, hg_other hk h]
  refine ⟨rfl, ht, fun k hk => ?_, ?_⟩
  · rw [e k hk]
    by_cases h : k = l
    · rw [if_pos h]; exact Or.inl rfl
    · rw [if_neg h]; exact Or.inr rfl
  · rw [← countP_ne n l hl]
    refine List.countP_congr fun k hk => ?_
    rw [e k (List.mem_range.1 hk)]
    by_cases h : k = l
    · rw [if_pos h]; simp [h, chM, Ch.tl, Ch.opn]
    · rw [if_neg h]; simp [h, chB, Ch.tl, Ch.opn]
theorem hs_blk {n i : Nat} {g : Gt} (h : Hs n i g) (hn : 0 < n) : g.all = false := all_false (k := 0) (by rw [h.nn]; exact hn) (by
  unfold Ch.blk
  rcases h.q 0 hn with e | e
  · rw [e]
  · rw [e]; rfl)
theorem hs_pull {n i : Nat} {g : Gt} (h : Hs n (i + 1) g) (hn : 0 < n) : g.plT = tBeh ∧ g.plB = 0 ∧ g.plE = 0 ∧ Hs n i g.plS := by
  obtain ⟨l, hl, ho⟩ : ∃ l, l ∈ List.range n ∧ (g.ch l).opn = true := by
    have : 0 < (List.range n).countP (fun k => (g.ch k).opn) := by rw [h.c]; omega
    exact List.countP_pos_iff.1 this
  obtain ⟨k, hf, hk, hk2⟩ := fst_any (g := g) (by rw [h.nn]; exact h.tt) (by rw [h.nn]; exact List.mem_range.1 hl) ho
  rw [h.nn] at hk
  obtain ⟨p1, p2, p3, p4, p5⟩ := pl_fst (hs_blk h hn) hf
  have hq : (g.ch k).q = [⟨tBeh, 0⟩] := by
    rcases h.q k hk with e | e
    · unfold Ch.opn at hk2; rw [e] at hk2; cases hk2
    · exact e
  refine ⟨p2.trans (by unfold Ch.hd; rw [hq]; rfl), p3, p4, ?_⟩
  rw [p5]
  have e1 : ((g.tn ((k + 1) % g.n)).upd k (g.ch k).tl).ch k = (g.ch k).tl := Gt.upd_same _ _ _
  have e2 : ∀ j, j ≠ k → ((g.tn ((k + 1) % g.n)).upd k (g.ch k).tl).ch j = g.ch j := fun j hj => Gt.upd_ne _ _ hj
  refine ⟨h.nn, ?_, fun j hj => ?_, ?_⟩
  · show (k + 1) % g.n < n
    rw [h.nn]; exact Nat.mod_lt _ hn
  · by_cases e : j = k
    · subst e; rw [e1]; left; show (g.ch j).q.tail = []; rw [hq]; rfl
    · rw [e2 j e]; exact h.q j hj
  · have := countP_one (p := fun j => (g.ch j).opn) (q := fun j => (((g.tn ((k + 1) % g.n)).upd k (g.ch k).tl).ch j).opn) (l := List.range n) (k := k) List.nodup_range (List.mem_range.2 hk) hk2 (by
      (try dsimp only)
      rw [e1]
      unfold Ch.opn Ch.tl
      rw [hq]
      rfl) (fun j hj => by (try dsimp only); rw [e2 j hj])
    have hc := h.c
    omega
theorem hs_done {n : Nat} {g : Gt} (h : Hs n 0 g) (hn : 0 < n) : g.plE = 5 := by
  refine (pl_none (hs_blk h hn) (fst_empty (fun j hj => ?_) (by rw [h.nn]; exact hn))).2.2.2.1
  have := List.countP_eq_zero.1 h.c j (List.mem_range.2 (by rw [← h.nn]; exact hj))
  simpa using this
/-- What the first calls of a channel leave. -/
theorem hg_gv {n l k : Nat} {c : Ch} (hk : k < n) : (hg n l k c 0).gvN (k : Int) 20 = 20 ∧ (hg n l k c 0).gvE (k : Int) 20 = 0 ∧ (hg n l k c 0).gvS (k : Int) 20 = (hg n l k c 0).upd k ⟨20, 20, [], 3⟩ := by
  have hc : 0 ≤ (k : Int) ∧ (k : Int) < ((hg n l k c 0).n : Int) := ⟨by omega, by show (k : Int) < (n : Int); omega⟩
  unfold Gt.gvN Gt.gvE Gt.gvS
  rw [if_pos hc, if_pos hc, if_pos hc, Int.toNat_natCast, hg_new]
  exact ⟨rfl, rfl, rfl⟩
theorem upd_ba {g : Gt} {k : Nat} (hk : k < g.n) (o : Nat) (q : List It) : (g.upd k ⟨20, o + 1, q, 3⟩).baE (k : Int) 3 = 0 ∧ (g.upd k ⟨20, o + 1, q, 3⟩).baS (k : Int) 3 = g.upd k ⟨20, o, q ++ [⟨⟨#[]⟩, 3⟩], 4⟩ := by
  have hc : 0 ≤ (k : Int) ∧ (k : Int) < ((g.upd k ⟨20, o + 1, q, 3⟩).n : Int) := ⟨by omega, by show (k : Int) < (g.n : Int); omega⟩
  unfold Gt.baE Gt.baS
  rw [if_pos hc, if_pos hc, Int.toNat_natCast, Gt.upd_same, Gt.upd_upd]
  exact ⟨rfl, rfl⟩
theorem upd_tx {g : Gt} {k : Nat} (hk : k < g.n) (o : Nat) (q : List It) (m : Nat) {t : ByteArray} (ht : ¬ 60000 < t.size) : (g.upd k ⟨20, o + 1, q, m⟩).txE (k : Int) t = 0 ∧ (g.upd k ⟨20, o + 1, q, m⟩).txS (k : Int) t = g.upd k ⟨20, o, q ++ [⟨t, 0⟩], m⟩ := by
  have hc : 0 ≤ (k : Int) ∧ (k : Int) < ((g.upd k ⟨20, o + 1, q, m⟩).n : Int) := ⟨by omega, by show (k : Int) < (g.n : Int); omega⟩
  unfold Gt.txE Gt.txS
  rw [if_pos hc, if_pos hc, if_neg ht, if_neg ht, Int.toNat_natCast, Gt.upd_same, Gt.upd_upd]
  exact ⟨rfl, rfl⟩
theorem upd_nx {g : Gt} {k : Nat} {c : Ch} (h : ∀ j, (g.ch j).next ≤ 4611686018427387904) (hc : c.next ≤ 4611686018427387904) (j : Nat) : ((g.upd k c).ch j).next ≤ 4611686018427387904 := by
  by_cases e : j = k
  · subst e; rw [Gt.upd_same]; exact hc
  · rw [Gt.upd_ne g c e]; exact h j
theorem hL_text {n l o r : Nat} (hl : l < n) : (hL n l (o + 1) r 0).txE (l : Int) tAhe = 0 ∧ (hL n l (o + 1) r 0).txS (l : Int) tAhe = hL n l o (r + 1) 0 := by
  have e : hL n l (o + 1) r 0 = (hL n l (o + 1) r 0).upd l ⟨20, o + 1, List.replicate r ⟨tAhe, 0⟩, 3⟩ := (hg_upd hl).symm
  have h := upd_tx (g := hL n l (o + 1) r 0) (k := l) hl o (List.replicate r ⟨tAhe, 0⟩) 3 (t := tAhe) (by decide)
  rw [← e] at h
  refine ⟨h.1, h.2.trans ?_⟩
  unfold hL
  rw [hg_upd hl]
  congr 1
  unfold chL
  rw [List.replicate_succ']
theorem hL_bar {n l o t : Nat} (hl : l < n) : (hL n l (o + 1) 0 t).baE (l : Int) 3 = 0 ∧ (hL n l (o + 1) 0 t).baS (l : Int) 3 = hg n l n (chM o) t := by
  have e : hL n l (o + 1) 0 t = (hL n l (o + 1) 0 t).upd l ⟨20, o + 1, [], 3⟩ := (hg_upd hl).symm
  have h := upd_ba (g := hL n l (o + 1) 0 t) (k := l) hl o []
  rw [← e] at h
  exact ⟨h.1, h.2.trans (hg_upd hl)⟩
end Go.Proofs.Ytcgmoadahdkbbaa
namespace Go.Proofs.Ytcgmoadahdkbbaa
open Go.RowKit Gt Cr

theorem all_snoc (f : Nat → Bool) (k : Nat) : (List.range (k + 1)).all f = ((List.range k).all f && f k) := by
  rw [List.range_succ, List.all_append]
  simp
theorem run_rfld1 (a b : Value) (W : World) : (Instr.field 73 (.agg #[a, b]) 1).run Try.prog W = .ok b W := by kernel_rfl
theorem run_rfld0 (a b : Value) (W : World) : (Instr.field 73 (.agg #[a, b]) 0).run Try.prog W = .ok a W := by kernel_rfl
theorem bq_some {B : Nat} {W : World} {v : Value} {f : Nat → Bool} {k : Nat} (h : BqR B W v f k) (hk : 0 < k) : ∃ g cap, v = .slice (some ⟨g, 0, none⟩) k cap ∧ ∀ j, j < k → W.cell? ⟨g, j, none⟩ = some (.bool (f j)) := by
  obtain ⟨_, ⟨rfl, h0⟩ | ⟨g, cp, cur, rfl, _⟩⟩ := id h
  · omega
  · exact ⟨g, cp, rfl, fun j hj => bq_cell h hj⟩
set_option maxHeartbeats 16000000 in
set_option maxRecDepth 100000 in
theorem rPull_any (B b L : Nat) (G : Gt) (w : World) (h : RgAt B w b L G) :
    Calls Try.prog 24 #[.pointer (some ⟨b, 0, none⟩)] w fun e w' => e = .returned (.tuple #[.int .i64 G.plC, .string G.plT, .int .i64 (G.plB : Int), .int .i64 G.plE]) ∧ RgAt B w' b L G.plS ∧ Ko rgO B w w' := by
  have hn0 := h.2.n0
  have hn1 := h.2.n1
  have ht := h.2.tn
  have BL := hide (rBlocked_any B b L G w h)
  have HG := hide (fun W (k1 : Kp [] w W) => h.kp k1)
  have f0 := run_rfld0
  have f1 := run_rfld1
  go_enter Try.func24, Try.ntmps24
  go_wp2_with fail
  refine (unhide BL).mono ?_
  rintro r w1 ⟨v, rfl, hv, k1⟩
  obtain ⟨gb, cb, rfl, hcell⟩ := bq_some hv hn0
  have HCELL := hide hcell
  have K1 := hide k1
  have H1 := hide (unhide HG w1 k1)
  clear hv k1 hcell BL HG h
  go_wp2
  go_loopw [7, 8] (fun a i wr => ∃ (k : Nat) (A : Bool), k ≤ G.n ∧ i = .int .i64 (k : Int) ∧ a = .bool A ∧ wr = w1 ∧ Hid (A = (List.range k).all fun j => (G.ch j).blk)) (fun _ i _ => G.n - (intOf i).toNat)
  case atStart => exact ⟨0, true, Nat.zero_le _, rfl, rfl, rfl, hide rfl⟩
  case round =>
    obtain ⟨k, A, hk, rfl, rfl, rfl, HA⟩ := hrel
    by_cases hlt : k < G.n
    · have hli : (k : Int) < (G.n : Int) := by omega
      have hsn := all_snoc (fun j => (G.ch j).blk) k
      cases A with
      | false =>
        have HN : Hid (false = (List.range (k + 1)).all fun j => (G.ch j).blk) := hide (by rw [hsn, ← unhide HA]; rfl)
        clear hsn HA
        go_wp2
        go_roundw
        case rel => exact ⟨k + 1, false, by omega, by go_num, rfl, by trivial, HN⟩
        case measure => simp [intOf]; omega
      | true =>
        have c := unhide HCELL k hlt
        have HN : Hid ((G.ch k).blk = (List.range (k + 1)).all fun j => (G.ch j).blk) := hide (by rw [hsn, ← unhide HA]; rfl)
        clear hsn HA
        generalize (G.ch k).blk = bk at *
        go_wp2
        go_roundw
        case rel => exact ⟨k + 1, bk, by omega, by go_num, rfl, by trivial, HN⟩
        case measure => simp [intOf]; omega
    · obtain rfl : k = G.n := by omega
      have hA : A = G.all := unhide HA
      clear HA
      subst hA
      cases hall : G.all with
      | true =>
        have HPL := hide (pl_all hall)
        have SH := hide (fun k (hk : k < G.n) W (hW : RgAt B W b L (G.tls k)) => rTake_any B b L (G.tls k) k W hW hk (by rw [Gt.tls_ch]; exact (Ch.blk_q (all_at hall hk)).1))
        have H0 : Hid (RgAt B wr b L (G.tls 0) ∧ Ko rgO B w wr) := hide (by rw [Gt.tls_zero]; exact ⟨unhide H1, Ko.nil (unhide K1)⟩)
        clear HCELL K1 H1 hall
        go_wp2
        go_loopw [9, 10] (fun m i wq => ∃ k : Nat, k ≤ G.n ∧ i = .int .i64 (k : Int) ∧ m = .int .i64 (Gt.bar G k : Int) ∧ Hid (RgAt B wq b L (G.tls k) ∧ Ko rgO B w wq)) (fun _ i _ => G.n - (intOf i).toNat)
        case atStart => exact ⟨0, Nat.zero_le _, rfl, rfl, H0⟩
        case round =>
          obtain ⟨k, hk, rfl, rfl, HW⟩ := hrel
          clear H0
          by_cases hlt2 : k < G.n
          · have hli : (k : Int) < (G.n : Int) := by omega
            have SH2 := hide (unhide SH k hlt2 _ (unhide HW).1)
            rw [Gt.tls_ch, show (G.tls k).upd k (G.ch k).tl = G.tls (k + 1) by rw [Gt.tls_succ, Gt.tls_ch]] at SH2
            have HB : Hid ((G.ch k).hd.n = Gt.bar G (k + 1)) := hide (by unfold Gt.bar; rw [if_neg (by omega)]; rfl)
            rw [unhide HB] at SH2
            generalize (G.ch k).hd.t = ht' at *
            go_wp2_with fail
            refine (unhide SH2).mono ?_
            rintro r w2 ⟨rfl, h2, h3⟩
            have H2 := hide (And.intro h2 ((unhide HW).2.trans h3))
            clear h2 h3 SH2
            go_wp2
            go_roundw
            case rel => exact ⟨k + 1, by omega, by go_num, rfl, H2⟩
            case measure => simp [intOf]; omega
          · obtain rfl : k = G.n := by omega
            go_wp2
            refine bodyPost_ret (results_tmp4g rfl _ _ _) rfl ?_
            obtain ⟨p1, p2, p3, p4, p5⟩ := unhide HPL
            rw [p1, p2, p3, p4, p5]
            exact ⟨rfl, (unhide HW).1, (unhide HW).2⟩
      | false =>
        have HQ : Hid (∀ k, k < G.n → ∃ ad cap, wr.cell? ⟨L, k * 4 + 2, none⟩ = some (.slice ad (G.ch k).q.length cap)) := hide (fun k hk => by
          obtain ⟨_, _, _, v, b2, hrq0⟩ := (unhide H1).1.at hk
          have hrq : RqQ wr v (G.ch k).q := hrq0
          obtain ⟨ad, cap, rfl⟩ := hrq.slice
          exact ⟨ad, cap, b2⟩)
        have d0 := (unhide H1).1.lines.1
        have d1 := (unhide H1).1.lines.2.1
        have d2 := (unhide H1).1.lines.2.2
        have FS := hide (fun k (hk : k < G.n) a c => fst_some (g := G) hk a c)
        have FN := hide (fun a => fst_none (g := G) a)
        have HTN := hide (fun q (hq : q < G.n) (ho : (G.ch q).opn = true) => (show RgAt B (wr.setCell ⟨b, 1, none⟩ (.int .i64 (((q + 1) % G.n : Nat) : Int))) b L (G.tn ((q + 1) % G.n)) ∧ Ko rgO B wr (wr.setCell ⟨b, 1, none⟩ (.int .i64 (((q + 1) % G.n : Nat) : Int))) from by
          have hm : (q + 1) % G.n < G.n := Nat.mod_lt _ hn0
          obtain ⟨e1, e2⟩ := rg_turn (unhide H1).1 ((q + 1) % G.n)
          exact ⟨⟨e1, (unhide H1).2.tn' hm⟩, e2⟩))
        have SH := hide (fun q (hq : q < G.n) (ho : (G.ch q).opn = true) W (hW : RgAt B W b L (G.tn ((q + 1) % G.n))) => rTake_any B b L (G.tn ((q + 1) % G.n)) q W hW hq (Ch.opn_q ho).1)
        have HPS := hide (fun k h => pl_fst (k := k) hall h)
        have HPN := hide (fun h => pl_none hall h)
        clear hall
        go_wp2
        go_loopw [11] (fun i wq => ∃ k : Nat, k ≤ G.n ∧ i = .int .i64 (k : Int) ∧ wq = wr ∧ Hid (∀ j, j < k → (G.ch ((G.turn + j) % G.n)).opn = false)) (fun i _ => G.n - (intOf i).toNat)
        case atStart => exact ⟨0, Nat.zero_le _, rfl, rfl, hide (fun j hj => absurd hj (Nat.not_lt_zero j))⟩
        case round =>
          obtain ⟨k, hk, rfl, rfl, HN⟩ := hrel
          by_cases hlt2 : k < G.n
          · have hli : (k : Int) < (G.n : Int) := by omega
            have hw : IntKind.i64.wrap ((G.turn : Int) + (k : Int)) = ((G.turn + k : Nat) : Int) := by simp [IntKind.wrap, IntKind.signed, go_sem]; omega
            have hne : ¬ (G.n : Int) = 0 := by omega
            have hne2 : ¬ G.n = 0 := by omega
            have hm : ((G.turn + k : Nat) : Int).tmod (G.n : Int) = (((G.turn + k) % G.n : Nat) : Int) := tmod_nat _ _
            have hml : (G.turn + k) % G.n < G.n := Nat.mod_lt _ hn0
            have HK1 : Hid (∀ (o : (G.ch ((G.turn + k) % G.n)).opn = true), G.fst = some ((G.turn + k) % G.n)) := hide (fun o => unhide FS k hlt2 (unhide HN) o)
            obtain ⟨ad, cap, c2⟩ := unhide HQ _ hml
            have cb1 := unhide HCELL _ hml
            have hopn := Ch.opn_blk (G.ch ((G.turn + k) % G.n))
            cases hb : (G.ch ((G.turn + k) % G.n)).opn with
            | true =>
              have hR := unhide HK1 hb
              have HPL := hide (unhide HPS _ hR)
              rw [hb] at hopn
              have hql : 0 < (G.ch ((G.turn + k) % G.n)).q.length := (Ch.opn_q hb).1
              have hbf : (G.ch ((G.turn + k) % G.n)).blk = false := by
                cases h5 : (G.ch ((G.turn + k) % G.n)).blk with
                | false => rfl
                | true => rw [h5] at hopn; simp at hopn
              rw [hbf] at cb1
              obtain ⟨T1, T2⟩ := unhide HTN _ hml hb
              have TT1 := hide T1
              have TT2 := hide ((Ko.nil (unhide K1)).trans T2)
              have SH2 := hide (unhide SH _ hml hb _ T1)
              have e1 : ((G.tn (((G.turn + k) % G.n + 1) % G.n)).ch ((G.turn + k) % G.n)) = G.ch ((G.turn + k) % G.n) := rfl
              rw [e1] at SH2
              have hqi : (0 : Int) < ((G.ch ((G.turn + k) % G.n)).q.length : Int) := by omega
              clear HN FN FS HK1 HQ HCELL HTN SH hb hopn hbf hR T1 T2 e1 H1 HPS HPN
              generalize (G.tn (((G.turn + k) % G.n + 1) % G.n)).upd ((G.turn + k) % G.n) (G.ch ((G.turn + k) % G.n)).tl = G3 at *
              generalize (G.tn (((G.turn + k) % G.n + 1) % G.n)) = G2 at *
              generalize (G.ch ((G.turn + k) % G.n)).hd.t = ht' at *
              generalize (G.ch ((G.turn + k) % G.n)).hd.n = hn' at *
              generalize (G.ch ((G.turn + k) % G.n)).q.length = ql at *
              generalize hQ : (G.turn + k) % G.n = q at *
              have HQQ := hide hQ
              clear hQ
              have hw2 : IntKind.i64.wrap ((q : Int) + 1) = ((q + 1 : Nat) : Int) := by simp [IntKind.wrap, IntKind.signed, go_sem]; omega
              have htm2 : ((q + 1 : Nat) : Int).tmod (G.n : Int) = (((q + 1) % G.n : Nat) : Int) := tmod_nat _ _
              generalize (q + 1) % G.n = q2 at *
              generalize q + 1 = q1 at *
              generalize hT : G.turn + k = tk at *
              have HT := hide hT
              clear hT
              have hqn : (q : Int) < (G.n : Int) := by omega
              go_wp2_with fail
              refine (unhide SH2).mono ?_
              rintro r w3 ⟨rfl, h3, h4⟩
              have H3 := hide h3
              have H4 := hide ((unhide TT2).trans h4)
              clear h3 h4 SH2
              go_wp2
              refine bodyPost_ret (results_tmp4g rfl _ _ _) rfl ?_
              obtain ⟨p1, p2, p3, p4, p5⟩ := unhide HPL
              rw [p1, p2, p3, p4, p5]
              exact ⟨rfl, unhide H3, unhide H4⟩
            | false =>
              have HN2 : Hid (∀ j, j < k + 1 → (G.ch ((G.turn + j) % G.n)).opn = false) := hide (fun j hj => by
                by_cases e : j = k
                · subst e; exact hb
                · exact unhide HN j (by omega))
              rw [hb] at hopn
              clear HN FN FS HK1 HQ HTN SH hb
              by_cases hql : 0 < (G.ch ((G.turn + k) % G.n)).q.length
              · have hbf : (G.ch ((G.turn + k) % G.n)).blk = true := by
                  rw [decide_eq_true hql] at hopn
                  cases h5 : (G.ch ((G.turn + k) % G.n)).blk with
                  | true => rfl
                  | false => rw [h5] at hopn; simp at hopn
                rw [hbf] at cb1
                have hqi : (0 : Int) < ((G.ch ((G.turn + k) % G.n)).q.length : Int) := by omega
                clear hopn hbf
                generalize (G.ch ((G.turn + k) % G.n)).q.length = ql at *
                generalize (G.turn + k) % G.n = q at *
                generalize G.turn + k = tk at *
                go_wp2
                go_roundw
                case rel => exact ⟨k + 1, by omega, by go_num, by trivial, HN2⟩
                case measure => simp [intOf]; omega
              · have h0 : (G.ch ((G.turn + k) % G.n)).q.length = 0 := by omega
                rw [h0] at c2
                clear hopn cb1 hql h0
                generalize (G.turn + k) % G.n = q at *
                generalize G.turn + k = tk at *
                go_wp2
                go_roundw
                case rel => exact ⟨k + 1, by omega, by go_num, by trivial, HN2⟩
                case measure => simp [intOf]; omega
          · obtain rfl : k = G.n := by omega
            have hR := unhide FN (fun j hj => unhide HN j hj)
            have HPL := hide (unhide HPN hR)
            have HF := hide (And.intro (unhide H1) (Ko.nil (P := rgO) (B := B) (unhide K1)))
            clear hR FN FS HQ HTN SH HN HCELL HPS HPN
            go_wp2
            refine bodyPost_ret (results_tmp4g rfl _ _ _) rfl ?_
            obtain ⟨p1, p2, p3, p4, p5⟩ := unhide HPL
            rw [p1, p2, p3, p4, p5]
            exact ⟨rfl, unhide HF⟩
end Go.Proofs.Ytcgmoadahdkbbaa
