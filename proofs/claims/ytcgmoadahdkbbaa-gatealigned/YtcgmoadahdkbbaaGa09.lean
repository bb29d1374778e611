/-
  GateAligned, plainly: of each channel what went in (0: a barrier; else a text's number), and how many came out.
  Gates: Pull, Blocked.
-/
import Derived.Test.YtcgmoadahdkbbaaGa08
import Derived.Test.YtcgmoadahdkbbaaGa07
namespace Go.Proofs.Ytcgmoadahdkbbaa
open Go.RowKit Gt Cr

/-- A number's text. -/
def txN (m : Nat) : ByteArray := ⟨#[(m % 256).toUInt8, (m / 256 % 256).toUInt8]⟩
/-- How many barriers there are. -/
def zs (l : List Nat) : Nat := l.countP fun m => decide (m = 0)
/-- The items of numbers, behind so many barriers. -/
def itm (z : Nat) : List Nat → List It
  | [] => []
  | 0 :: r => ⟨⟨#[]⟩, z + 1⟩ :: itm (z + 1) r
  | (m + 1) :: r => ⟨txN (m + 1), 0⟩ :: itm z r
theorem itm_len (l : List Nat) : ∀ z, (itm z l).length = l.length := by
  induction l with
  | nil => intro z; rfl
  | cons m r ih =>
    intro z
    cases m with
    | zero => show (itm (z + 1) r).length + 1 = _; rw [ih]; rfl
    | succ m => show (itm z r).length + 1 = _; rw [ih]; rfl
theorem zs_cons (m : Nat) (l : List Nat) : zs (m :: l) = (if m = 0 then 1 else 0) + zs l := by
  unfold zs
  rw [List.countP_cons]
  by_cases h : m = 0
  · simp [h]; omega
  · simp [h]
theorem itm_snoc (m : Nat) : ∀ (l : List Nat) (z : Nat), itm z (l ++ [m]) = itm z l ++ [if m = 0 then ⟨⟨#[]⟩, z + zs l + 1⟩ else ⟨txN m, 0⟩]
  | [], z => by
    cases m with
    | zero => rfl
    | succ m => rfl
  | x :: r, z => by
    cases x with
    | zero =>
      show _ :: itm (z + 1) (r ++ [m]) = _ :: (itm (z + 1) r ++ _)
      rw [itm_snoc m r (z + 1), zs_cons, if_pos rfl, show z + 1 + zs r + 1 = z + (1 + zs r) + 1 by omega]
    | succ x =>
      show _ :: itm z (r ++ [m]) = _ :: (itm z r ++ _)
      rw [itm_snoc m r z, zs_cons, if_neg (Nat.succ_ne_zero x), Nat.zero_add]
/-- The gate, and what went in and came out of each channel. -/
structure Al (n : Nat) (G : Gt) (I : Nat → List Nat) (O : Nat → Nat) (told : Nat) : Prop where
  nn : G.n = n
  tt : G.turn < n
  cap : ∀ c, c < n → (G.ch c).cap = 256 ∧ (G.ch c).owed = 0 ∧ (G.ch c).next = zs (I c) + 1
  q : ∀ c, c < n → (G.ch c).q = itm told ((I c).drop (O c))
  z : ∀ c, c < n → zs (I c) = told + zs ((I c).drop (O c))
  o : ∀ c, c < n → O c ≤ (I c).length
theorem al_zero (n : Nat) (hn : 0 < n) : Al n (gt0 n 256 1) (fun _ => []) (fun _ => 0) 0 :=
  ⟨rfl, hn, fun _ _ => ⟨rfl, rfl, rfl⟩, fun _ _ => rfl, fun _ _ => rfl, fun _ _ => Nat.le_refl _⟩
theorem Al.congr {n : Nat} {G : Gt} {I I' : Nat → List Nat} {O O' : Nat → Nat} {told : Nat} (h : Al n G I O told) (hI : ∀ c, c < n → I' c = I c) (hO : ∀ c, c < n → O' c = O c) : Al n G I' O' told :=
  ⟨h.nn, h.tt, fun c hc => by rw [hI c hc]; exact h.cap c hc, fun c hc => by rw [hI c hc, hO c hc]; exact h.q c hc, fun c hc => by rw [hI c hc, hO c hc]; exact h.z c hc, fun c hc => by rw [hI c hc, hO c hc]; exact h.o c hc⟩
def upI (I : Nat → List Nat) (c m : Nat) : Nat → List Nat := fun j => if j = c then I c ++ [m] else I j
def upO (O : Nat → Nat) (c : Nat) : Nat → Nat := fun j => if j = c then O c + 1 else O j
theorem drop_cons {l : List Nat} {o m : Nat} {r : List Nat} (h : l.drop o = m :: r) : ∃ hl : o < l.length, l[o] = m ∧ l.drop (o + 1) = r := by
  have hl : o < l.length := by
    rcases Nat.lt_or_ge o l.length with h1 | h1
    · exact h1
    · rw [List.drop_eq_nil_of_le h1] at h; cases h
  rw [List.drop_eq_getElem_cons hl] at h
  injection h with h1 h2
  exact ⟨hl, h1, h2⟩
/-- A credit that is given for one item more. -/
theorem al_give {n : Nat} {G : Gt} {I : Nat → List Nat} {O : Nat → Nat} {told : Nat} (h : Al n G I O told) {c : Nat} (hc : c < n) :
    (G.gvE (c : Int) 1 = 0) ∧ ((G.gvN (c : Int) 1 = 0 ∧ G.gvS (c : Int) 1 = G) ∨ (G.gvN (c : Int) 1 = 1 ∧ (G.ch c).q.length < 256 ∧ G.gvS (c : Int) 1 = G.upd c ⟨256, 1, (G.ch c).q, zs (I c) + 1⟩)) := by
  have hcc : 0 ≤ (c : Int) ∧ (c : Int) < (G.n : Int) := ⟨by omega, by rw [h.nn]; omega⟩
  obtain ⟨h1, h2, h3⟩ := h.cap c hc
  unfold Gt.gvE Gt.gvN Gt.gvS
  rw [if_pos hcc, if_pos hcc, if_pos hcc, Int.toNat_natCast]
  have e : Cr.gvN (G.ch c).sto 1 = min 1 (256 - (G.ch c).q.length) := by
    unfold Cr.gvN Ch.sto
    simp [h1, h2]
  refine ⟨rfl, ?_⟩
  by_cases hl : (G.ch c).q.length < 256
  · refine Or.inr ⟨by rw [e]; omega, hl, ?_⟩
    congr 1
    unfold Ch.gv
    rw [e, h1, h2, h3, show 0 + min 1 (256 - (G.ch c).q.length) = 1 by omega]
  · refine Or.inl ⟨by rw [e]; omega, ?_⟩
    have : (G.ch c).gv 1 = G.ch c := by
      unfold Ch.gv
      rw [e, show (G.ch c).owed + min 1 (256 - (G.ch c).q.length) = (G.ch c).owed by omega]
    rw [this, Gt.upd_self]
theorem al_put {n : Nat} {G : Gt} {I : Nat → List Nat} {O : Nat → Nat} {told : Nat} (h : Al n G I O told) {c m : Nat} (hc : c < n) :
    Al n (G.upd c ⟨256, 0, (G.ch c).q ++ [if m = 0 then ⟨⟨#[]⟩, zs (I c) + 1⟩ else ⟨txN m, 0⟩], zs (I c ++ [m]) + 1⟩) (upI I c m) O told := by
  have ho := h.o c hc
  have hz := h.z c hc
  refine ⟨h.nn, h.tt, fun j hj => ?_, fun j hj => ?_, fun j hj => ?_, fun j hj => ?_⟩
  · by_cases e : j = c
    · subst e
      rw [Gt.upd_same]
      unfold upI
      rw [if_pos rfl]
      exact ⟨rfl, rfl, rfl⟩
    · rw [Gt.upd_ne G _ e]
      unfold upI
      rw [if_neg e]
      exact h.cap j hj
  · by_cases e : j = c
    · subst e
      rw [Gt.upd_same]
      unfold upI
      rw [if_pos rfl]
      dsimp only
      rw [h.q j hj, List.drop_append_of_le_length ho, itm_snoc, hz]
    · rw [Gt.upd_ne G _ e]
      unfold upI
      rw [if_neg e]
      exact h.q j hj
  · unfold upI
    by_cases e : j = c
    · subst e
      rw [if_pos rfl, List.drop_append_of_le_length ho]
      unfold zs at hz ⊢
      rw [List.countP_append, List.countP_append]
      omega
    · rw [if_neg e]; exact h.z j hj
  · unfold upI
    by_cases e : j = c
    · subst e
      rw [if_pos rfl, List.length_append]; omega
    · rw [if_neg e]; exact h.o j hj
theorem zs_snoc (l : List Nat) (m : Nat) : zs (l ++ [m]) = zs l + (if m = 0 then 1 else 0) := by
  unfold zs
  rw [List.countP_append]
  by_cases h : m = 0
  · simp [h]
  · simp [h]
/-- A text comes on a channel that has a credit. -/
theorem al_text {n : Nat} {G : Gt} {I : Nat → List Nat} {O : Nat → Nat} {told : Nat} (h : Al n G I O told) {c m : Nat} (hc : c < n) (hm : m ≠ 0) :
    (G.upd c ⟨256, 1, (G.ch c).q, zs (I c) + 1⟩).txE (c : Int) (txN m) = 0 ∧ Al n ((G.upd c ⟨256, 1, (G.ch c).q, zs (I c) + 1⟩).txS (c : Int) (txN m)) (upI I c m) O told := by
  have hcc : 0 ≤ (c : Int) ∧ (c : Int) < ((G.upd c ⟨256, 1, (G.ch c).q, zs (I c) + 1⟩).n : Int) := ⟨by omega, by show (c : Int) < (G.n : Int); rw [h.nn]; omega⟩
  have ht : ¬ 60000 < (txN m).size := by show ¬ 60000 < 2; decide
  unfold Gt.txE Gt.txS
  rw [if_pos hcc, if_pos hcc, if_neg ht, if_neg ht, Int.toNat_natCast, Gt.upd_same, Gt.upd_upd]
  refine ⟨rfl, ?_⟩
  have := al_put h (m := m) hc
  rw [if_neg hm, zs_snoc, if_neg hm, Nat.add_zero] at this
  exact this
theorem al_bar {n : Nat} {G : Gt} {I : Nat → List Nat} {O : Nat → Nat} {told : Nat} (h : Al n G I O told) {c : Nat} (hc : c < n) :
    (G.upd c ⟨256, 1, (G.ch c).q, zs (I c) + 1⟩).baE (c : Int) ((zs (I c) + 1 : Nat) : Int) = 0 ∧ Al n ((G.upd c ⟨256, 1, (G.ch c).q, zs (I c) + 1⟩).baS (c : Int) ((zs (I c) + 1 : Nat) : Int)) (upI I c 0) O told := by
  have hcc : 0 ≤ (c : Int) ∧ (c : Int) < ((G.upd c ⟨256, 1, (G.ch c).q, zs (I c) + 1⟩).n : Int) := ⟨by omega, by show (c : Int) < (G.n : Int); rw [h.nn]; omega⟩
  unfold Gt.baE Gt.baS
  rw [if_pos hcc, if_pos hcc, Int.toNat_natCast, Gt.upd_same, Gt.upd_upd]
  unfold Ch.pbE Ch.pb
  dsimp only
  rw [if_pos rfl, if_pos rfl]
  refine ⟨rfl, ?_⟩
  have := al_put h (m := 0) hc
  rw [if_pos rfl, zs_snoc, if_pos rfl] at this
  exact this
theorem itm_blk {z : Nat} {l : List Nat} {c : Ch} (hq : c.q = itm z l) : (c.blk = true → ∃ r, l = 0 :: r) ∧ (c.opn = true → ∃ m r, l = m :: r ∧ m ≠ 0) := by
  cases l with
  | nil =>
    refine ⟨fun h => ?_, fun h => ?_⟩
    · unfold Ch.blk at h; rw [hq] at h; cases h
    · unfold Ch.opn at h; rw [hq] at h; cases h
  | cons m r =>
    cases m with
    | zero =>
      refine ⟨fun _ => ⟨r, rfl⟩, fun h => ?_⟩
      unfold Ch.opn at h
      rw [hq] at h
      have : decide (z + 1 = 0) = true := h
      simp at this
    | succ m =>
      refine ⟨fun h => ?_, fun _ => ⟨m + 1, r, rfl, by omega⟩⟩
      unfold Ch.blk at h
      rw [hq] at h
      cases h
/-- How many items stand there. -/
def tot (n : Nat) (I : Nat → List Nat) (O : Nat → Nat) : Nat := ((List.range n).map fun c => (I c).length - O c).sum
/-- Nothing comes out any more. -/
def Stk (G : Gt) : Prop := G.all = false ∧ G.fst = none
theorem al_none {G : Gt} (h : Stk G) : G.plC = 0 ∧ G.plT = ⟨#[]⟩ ∧ G.plB = 0 ∧ G.plE = 5 ∧ G.plS = G := pl_none h.1 h.2
theorem sum_le {l : List Nat} {f g : Nat → Nat} (h : ∀ c ∈ l, f c ≤ g c) : (l.map f).sum ≤ (l.map g).sum := by
  induction l with
  | nil => exact Nat.le_refl _
  | cons a r ih =>
    have h1 := h a (List.mem_cons_self ..)
    have h2 := ih (fun c hc => h c (List.mem_cons_of_mem _ hc))
    simp only [List.map_cons, List.sum_cons]
    omega
theorem sum_lt {l : List Nat} {f g : Nat → Nat} {k : Nat} (hk : k ∈ l) (h : ∀ c ∈ l, f c ≤ g c) (h1 : f k < g k) : (l.map f).sum < (l.map g).sum := by
  induction l with
  | nil => cases hk
  | cons a r ih =>
    have ha := h a (List.mem_cons_self ..)
    have hr := sum_le (fun c hc => h c (List.mem_cons_of_mem a hc))
    simp only [List.map_cons, List.sum_cons]
    rcases List.mem_cons.1 hk with e | e
    · subst e; omega
    · have := ih e (fun c hc => h c (List.mem_cons_of_mem _ hc))
      omega
theorem fst_spec' {g : Gt} {k : Nat} (h : g.fst = some k) : ∃ j, j < g.n ∧ k = (g.turn + j) % g.n ∧ (g.ch k).opn = true ∧ ∀ i, i < j → (g.ch ((g.turn + i) % g.n)).opn = false := by
  unfold Gt.fst at h
  obtain ⟨j, hj, rfl⟩ := Option.map_eq_some_iff.1 h
  obtain ⟨h1, us, zs, h2, h3⟩ := List.find?_eq_some_iff_append.1 hj
  have hjn : j < g.n := List.mem_range.1 (by rw [h2]; simp)
  have has : us = List.range j := by
    have h5 := range_split hjn
    have hnd : (List.range g.n).Nodup := List.nodup_range
    have hal : us.length < g.n := by
      have := congrArg List.length h2
      rw [List.length_range, List.length_append, List.length_cons] at this
      omega
    have e1 : (List.range g.n)[us.length]'(by rw [List.length_range]; exact hal) = j := by
      have : (List.range g.n)[us.length]? = some j := by rw [h2]; simp
      exact (List.getElem?_eq_some_iff.1 this).2
    rw [List.getElem_range] at e1
    have h6 : us = (List.range g.n).take us.length := by rw [h2]; simp
    rw [h6, e1, List.take_range, Nat.min_eq_left (by omega)]
  refine ⟨j, hjn, rfl, h1, fun i hi => ?_⟩
  have := h3 i (by rw [has]; exact List.mem_range.2 hi)
  simpa using this
/-- What is pulled. -/
theorem al_pull {n : Nat} {G : Gt} {I : Nat → List Nat} {O : Nat → Nat} {told : Nat} (h : Al n G I O told) (hn : 0 < n) :
    Stk G ∨ (G.plE = 0 ∧ G.plC = -1 ∧ G.plT = ⟨#[]⟩ ∧ G.plB = told + 1 ∧ (∀ c, c < n → ∃ hl : O c < (I c).length, (I c)[O c] = 0) ∧ Al n G.plS I (fun c => O c + 1) (told + 1)) ∨
      (∃ k, k < n ∧ G.plE = 0 ∧ G.plC = (k : Int) ∧ G.plB = 0 ∧ (∃ hl : O k < (I k).length, (I k)[O k] ≠ 0 ∧ G.plT = txN (I k)[O k]) ∧ Al n G.plS I (upO O k) told) := by
  cases hall : G.all with
  | true =>
    right; left
    obtain ⟨p1, p2, p3, p4, p5⟩ := pl_all hall
    have hb : ∀ c, c < n → ∃ r, (I c).drop (O c) = 0 :: r := fun c hc => (itm_blk (h.q c hc)).1 (all_at hall (by rw [h.nn]; exact hc))
    refine ⟨p4, p1, p2, ?_, fun c hc => ?_, ?_⟩
    · rw [p3]
      unfold Gt.bar
      rw [h.nn, if_neg (by omega)]
      obtain ⟨r, hr⟩ := hb (n - 1) (by omega)
      unfold Ch.hd
      rw [h.q (n - 1) (by omega), hr]
      rfl
    · obtain ⟨r, hr⟩ := hb c hc
      obtain ⟨hl, e, _⟩ := drop_cons hr
      exact ⟨hl, e⟩
    · rw [p5]
      have ech : ∀ c, c < n → (G.tls G.n).ch c = (G.ch c).tl := fun c hc => if_pos (by rw [h.nn]; exact hc)
      refine ⟨h.nn, h.tt, fun c hc => ?_, fun c hc => ?_, fun c hc => ?_, fun c hc => ?_⟩
      · rw [ech c hc]; exact h.cap c hc
      · obtain ⟨r, hr⟩ := hb c hc
        obtain ⟨hl, e, e2⟩ := drop_cons hr
        rw [ech c hc]
        show (G.ch c).q.tail = _
        rw [h.q c hc, hr, e2]
        rfl
      · obtain ⟨r, hr⟩ := hb c hc
        obtain ⟨hl, e, e2⟩ := drop_cons hr
        rw [h.z c hc, hr, e2, zs_cons, if_pos rfl]; omega
      · obtain ⟨r, hr⟩ := hb c hc
        obtain ⟨hl, e, e2⟩ := drop_cons hr
        exact hl
  | false =>
    cases hf : G.fst with
    | none => exact Or.inl ⟨hall, hf⟩
    | some k =>
      right; right
      obtain ⟨p1, p2, p3, p4, p5⟩ := pl_fst hall hf
      obtain ⟨j, hj, hkj, hop, _⟩ := fst_spec' hf
      have hk : k < n := by rw [hkj, h.nn]; exact Nat.mod_lt _ hn
      obtain ⟨m, r, hr, hm⟩ := (itm_blk (h.q k hk)).2 hop
      obtain ⟨hl, e, e2⟩ := drop_cons hr
      have e1 : ((G.tn ((k + 1) % G.n)).upd k (G.ch k).tl).ch k = (G.ch k).tl := Gt.upd_same _ _ _
      have en : ∀ j, j ≠ k → ((G.tn ((k + 1) % G.n)).upd k (G.ch k).tl).ch j = G.ch j := fun j hj => Gt.upd_ne _ _ hj
      obtain ⟨m', rfl⟩ : ∃ m', m = m' + 1 := ⟨m - 1, by omega⟩
      refine ⟨k, hk, p4, p1, p3, ⟨hl, by rw [e]; omega, ?_⟩, ?_⟩
      · rw [p2]
        unfold Ch.hd
        rw [h.q k hk, hr, e]
        rfl
      · rw [p5]
        refine ⟨h.nn, ?_, fun c hc => ?_, fun c hc => ?_, fun c hc => ?_, fun c hc => ?_⟩
        · show (k + 1) % G.n < n
          rw [h.nn]; exact Nat.mod_lt _ hn
        · by_cases ec : c = k
          · subst ec; rw [e1]; exact h.cap c hc
          · rw [en c ec]; exact h.cap c hc
        · unfold upO
          by_cases ec : c = k
          · subst ec
            rw [e1, if_pos rfl]
            show (G.ch c).q.tail = _
            rw [h.q c hc, hr, e2]
            rfl
          · rw [en c ec, if_neg ec]; exact h.q c hc
        · unfold upO
          by_cases ec : c = k
          · subst ec
            rw [if_pos rfl, h.z c hc, hr, e2, zs_cons, if_neg (by omega), Nat.zero_add]
          · rw [if_neg ec]; exact h.z c hc
        · unfold upO
          by_cases ec : c = k
          · subst ec; rw [if_pos rfl]; exact hl
          · rw [if_neg ec]; exact h.o c hc
/-- Something came out: less is left. -/
theorem tot_all {n : Nat} {I : Nat → List Nat} {O : Nat → Nat} (hn : 0 < n) (h : ∀ c, c < n → ∃ hl : O c < (I c).length, (I c)[O c] = 0) : tot n I (fun c => O c + 1) < tot n I O :=
  sum_lt (k := 0) (List.mem_range.2 hn) (fun c _ => by (try dsimp only); omega) (by obtain ⟨hl, _⟩ := h 0 hn; (try dsimp only); omega)
theorem tot_one {n : Nat} {I : Nat → List Nat} {O : Nat → Nat} {k : Nat} (hk : k < n) (hl : O k < (I k).length) : tot n I (upO O k) < tot n I O :=
  sum_lt (k := k) (List.mem_range.2 hk) (fun c _ => by unfold upO; split <;> (try subst_vars) <;> omega) (by unfold upO; rw [if_pos rfl]; omega)
theorem tot_put {n : Nat} {I : Nat → List Nat} {O : Nat → Nat} {c m : Nat} (hc : c < n) (ho : O c ≤ (I c).length) : tot n (upI I c m) O = tot n I O + 1 := by
  have key : ∀ l : List Nat, l.Nodup → c ∈ l → (l.map fun j => (upI I c m j).length - O j).sum = (l.map fun j => (I j).length - O j).sum + 1 := by
    intro l
    induction l with
    | nil => intro _ h; cases h
    | cons a r ih =>
      intro hd hm
      obtain ⟨hna, hdr⟩ := List.nodup_cons.1 hd
      simp only [List.map_cons, List.sum_cons]
      by_cases e : a = c
      · subst e
        have hr : (r.map fun j => (upI I a m j).length - O j) = (r.map fun j => (I j).length - O j) := List.map_congr_left fun j hj => by
          unfold upI
          rw [if_neg (fun e : j = a => hna (e ▸ hj))]
        rw [hr]
        unfold upI
        rw [if_pos rfl, List.length_append, List.length_singleton]
        omega
      · have hm2 : c ∈ r := by
          rcases List.mem_cons.1 hm with e2 | e2
          · exact absurd e2.symm e
          · exact e2
        have := ih hdr hm2
        have ea : (upI I c m a).length = (I a).length := by unfold upI; rw [if_neg e]
        rw [this, ea]
        omega
  exact key _ List.nodup_range (List.mem_range.2 hc)
/-- Where nothing comes out, what is left stands behind a barrier. -/
theorem al_stuck {n : Nat} {G : Gt} {I : Nat → List Nat} {O : Nat → Nat} {told : Nat} (h : Al n G I O told) (hs : Stk G) {c : Nat} (hc : c < n) (ho : O c < (I c).length) : (G.ch c).blk = true := by
  have hop : (G.ch c).opn = false := by
    cases hop : (G.ch c).opn with
    | false => rfl
    | true =>
      obtain ⟨k, hk, _⟩ := fst_any (g := G) (by rw [h.nn]; exact h.tt) (by rw [h.nn]; exact hc) hop
      rw [hs.2] at hk
      cases hk
  have hl : 0 < (G.ch c).q.length := by
    rw [h.q c hc, itm_len, List.length_drop]
    omega
  have := Ch.opn_blk (G.ch c)
  rw [hop, decide_eq_true hl] at this
  cases hb : (G.ch c).blk with
  | true => rfl
  | false => rw [hb] at this; simp at this
end Go.Proofs.Ytcgmoadahdkbbaa
namespace Go.Proofs.Ytcgmoadahdkbbaa
open Go.RowKit Gt Cr

theorem results_tmp4g {fn : Func} {t u v x : Tmp} (h : fn.results = #[.tmp t, .tmp u, .tmp v, .tmp x]) (tmps : Array Value) (P : Program) (w : World) :
    (results fn tmps).run P w = .ok (.tuple #[tmps.getD t undef, tmps.getD u undef, tmps.getD v undef, tmps.getD x undef]) w := by
  simp [results, h, go_sem]
theorem fst_at {g : Gt} {k : Nat} (h : g.fst = some k) (hn : 0 < g.n) : k < g.n ∧ (g.ch k).opn = true := by
  unfold Gt.fst at h
  obtain ⟨j, hj, rfl⟩ := Option.map_eq_some_iff.1 h
  have := List.find?_some hj
  exact ⟨Nat.mod_lt _ hn, this⟩
set_option maxHeartbeats 4000000 in
set_option maxRecDepth 100000 in
theorem gPull_any (B b L : Nat) (G : Gt) (w : World) (h : GtAt B w b L G) :
    Calls Try.prog 15 #[.pointer (some ⟨b, 0, none⟩)] w fun e w' => e = .returned (.tuple #[.int .i64 G.plC, .string G.plT, .int .i64 (G.plB : Int), .int .i64 G.plE]) ∧ GtAt B w' b L G.plS ∧ Ko gtO B w w' := by
  obtain ⟨cs, rs, vs, hv, hl⟩ := id h
  have c0 := hv.lines.1
  have AL := hide (gAll_any hv)
  unfold Gt.plC Gt.plT Gt.plB Gt.plE Gt.plS
  cases hall : G.all with
  | true =>
    rw [hall] at AL
    simp only [if_true]
    have SA := hide (gShiftAll_any B b L G w h (fun k hk => (Ch.blk_q (all_at hall hk)).1))
    clear hv hl h hall
    generalize G.tls G.n = G2 at *
    generalize G.bar G.n = N2 at *
    generalize G.n = n at *
    go_enter Try.func15, Try.ntmps15
    go_wp2_with fail
    refine (unhide AL).mono ?_
    rintro r w1 ⟨rfl, rfl⟩
    go_wp2_with fail
    refine (unhide SA).mono ?_
    rintro r w2 ⟨rfl, h2, h3⟩
    have H2 := hide h2
    have H3 := hide h3
    clear h2 h3 SA AL c0
    go_wp2
    refine bodyPost_ret (results_tmp4g rfl _ _ _) rfl ?_
    exact ⟨rfl, unhide H2, unhide H3⟩
  | false =>
    rw [hall] at AL
    simp only [Bool.false_eq_true, if_false]
    have FO := hide (fun n => (gFirst_any (hv.kp (Kp.drewQ w n))).mono fun (_ : Ending) w' (hq : _ ∧ w' = w.drewN n) => (show _ ∧ ∃ m, w' = (w.drewN n).drewN m from ⟨hq.1, 0, hq.2⟩))
    have c1 := hv.lines.2
    cases hf : G.fst with
    | none =>
      have eI : G.fsI = 0 := by unfold Gt.fsI; rw [hf]
      rw [eI, hf] at FO
      rw [eI]
      have HH := hide (fun w1 (k1 : Kp [] w w1) => (show GtAt B w1 b L G ∧ Ko gtO B w w1 from ⟨h.kp k1, Ko.nil k1⟩))
      dsimp only [Option.isSome] at FO ⊢
      clear hv hl h hall eI hf
      generalize G.n = n at *
      generalize G.turn = tn at *
      go_enter Try.func15, Try.ntmps15
      go_wp2_with fail
      refine (unhide AL).mono ?_
      rintro r w1 ⟨rfl, rfl⟩
      go_wp2
      go_quiet (first | (go_at_call 28; exact Calls.quiet_of (unhide FO _)))
      go_wp2
      refine bodyPost_ret (results_tmp4g rfl _ _ _) rfl ?_
      exact ⟨rfl, unhide HH _ (Kp.drewQ _ _)⟩
    | some k =>
      have eI : G.fsI = (k : Int) := by unfold Gt.fsI; rw [hf]
      rw [eI, hf] at FO
      rw [eI]
      obtain ⟨hk, ho⟩ := fst_at hf hv.ok.n0
      have hq := (Ch.opn_q ho).1
      have hn1 := hv.ok.n1
      have hml : (k + 1) % G.n < G.n := Nat.mod_lt _ hv.ok.n0
      have HT := hide (fun w1 (k1 : Kp [] w w1) => gt_turn (h.kp k1) hml)
      have HC : Hid (∀ w1, Kp [] w w1 → w1.cell? ⟨b, 0, none⟩ = some (.slice (some ⟨L, 0, none⟩) G.n G.n) ∧ w1.cell? ⟨b, 1, none⟩ = some (.int .i64 (G.turn : Int)) ∧ w1.frozen? ⟨b, 1, none⟩ = false) := hide (fun w1 k1 => ⟨(hv.kp k1).lines.1, (hv.kp k1).lines.2, (hv.kp k1).box.froz 1⟩)
      have SH := hide (fun W (hW : GtAt B W b L (G.tn ((k + 1) % G.n))) => gShift_any B b L (G.tn ((k + 1) % G.n)) k W hW hk hq)
      have HCC : Hid (∀ W, GtAt B W b L (G.tn ((k + 1) % G.n)) → W.cell? ⟨b, 0, none⟩ = some (.slice (some ⟨L, 0, none⟩) G.n G.n)) := hide (fun W hW => by
        obtain ⟨_, _, _, h1, _⟩ := hW
        exact h1.lines.1)
      have hki : IntKind.i64.wrap ((k : Int) + 1) = ((k + 1 : Nat) : Int) := by simp [IntKind.wrap, IntKind.signed, go_sem]; omega
      have htm : ((k + 1 : Nat) : Int).tmod (G.n : Int) = (((k + 1) % G.n : Nat) : Int) := tmod_nat _ _
      have hne : ¬ (G.n : Int) = 0 := by omega
      have hne2 : ¬ G.n = 0 := by omega
      have hkn : (k : Int) < (G.n : Int) := by omega
      dsimp only [Option.isSome] at FO ⊢
      have e1 : ((G.tn ((k + 1) % G.n)).ch k) = G.ch k := rfl
      rw [e1] at SH
      clear hv hl h hall eI hf ho hq e1
      generalize (G.tn ((k + 1) % G.n)).upd k (G.ch k).tl = G3 at *
      generalize (G.tn ((k + 1) % G.n)) = G2 at *
      generalize (G.ch k).hd.t = ht' at *
      generalize (G.ch k).hd.n = hn' at *
      generalize G.n = n at *
      generalize G.turn = tn at *
      generalize (k + 1) % n = q at *
      generalize hk1 : k + 1 = kk at *
      have f0 := run_fld0
      go_enter Try.func15, Try.ntmps15
      go_wp2_with fail
      refine (unhide AL).mono ?_
      rintro r w1 ⟨rfl, rfl⟩
      go_wp2
      go_quiet (first | (go_at_call 28; exact Calls.quiet_of (unhide FO _)))
      obtain ⟨W, hW⟩ : ∃ W, W = w1.drewN nq := ⟨_, rfl⟩
      have KW : Hid (Kp [] w1 W) := hide (by rw [hW]; exact Kp.drewQ _ _)
      rw [← hW]
      clear hW c0 c1 FO AL
      obtain ⟨c0, c1, z1⟩ := unhide HC W (unhide KW)
      go_upto_region 7 with fail
      obtain ⟨t1, t2⟩ := unhide HT W (unhide KW)
      have T1 := hide t1
      have T2 := hide ((Ko.nil (unhide KW)).trans t2)
      clear c0 c1 z1 t2 HT HC
      have c0 := unhide HCC _ t1
      clear t1
      go_wp2_with fail
      refine (unhide SH _ (unhide T1)).mono ?_
      rintro r w3 ⟨rfl, h3, h4⟩
      have H3 := hide h3
      have H4 := hide ((unhide T2).trans h4)
      clear h3 h4
      go_wp2
      refine bodyPost_ret (results_tmp4g rfl _ _ _) rfl ?_
      exact ⟨rfl, unhide H3, unhide H4⟩
end Go.Proofs.Ytcgmoadahdkbbaa
