/-
  What is held, plainly: items with their ways; put, held, dropped; when all is dropped nothing is left. Of no program.
  A chain of entries, plainly: each behind the one ahead; put, dropped, swept. Of no program.
-/
import Derived.Test.YthdfaidjdddagaaJ07
import Derived.Test.YthdfaidjdddagaaJ04
namespace Go.Proofs.Ythdfaidjdddagaa
open Go.RowKit

/-- An item that is held: its entry, its way, and the row that the way lies in. -/
structure It where
  id : Nat
  way : List (Int × Int)
  v : Value
theorem IsWay.keep {c d : Nat → Ent} {n : Nat} {B q : Int} {l : List (Int × Int)} (h : IsWay c q l) (hI : BIv d (-1) n B) (hd : ∀ i, i < 4096 → lvE (c i) = true → lvE (d i) = true → (d i).s = (c i).s ∧ (d i).p = (c i).p ∧ (d i).q = (c i).q) (hq : ∀ i : Nat, q = (i : Int) → i < 4096 → lvE (d i) = true) : IsWay d q l :=
  h.stays hd hq fun i hi hv => (hI.par i hi (prE_lv _ hv)).imp id fun ⟨j, h1, h2, h3, _⟩ => ⟨j, h1, h2, lv_kids hI h2 h3⟩
theorem IsWay.lv {c : Nat → Ent} {i : Nat} {l : List (Int × Int)} (h : IsWay c (i : Int) l) : i < 4096 ∧ lvE (c i) = true ∧ ∃ k, l = k ++ [((c i).s, (c i).p)] ∧ IsWay c (c i).q k := by
  generalize hq : (i : Int) = q at h
  cases h with
  | none => omega
  | some j k hj hv hw =>
    obtain rfl : i = j := by omega
    exact ⟨hj, hv, k, rfl, hw⟩
theorem rm_self {c : Nat → Ent} {j m : Nat} {B : Int} (hI : BIv c (j : Int) m B) (hj : j < 4096) : rmE c j j = zeE ∧ ((c j).q ≠ -1 → (c j).q.toNat ≠ j) := by
  have hne : (c j).q ≠ -1 → (c j).q.toNat ≠ j := fun hq e => by
    rcases hI.par j hj (prE_self c j) with h1 | ⟨k, h1, h2, _, _, h5⟩
    · exact hq h1
    · have : k = j := by omega
      subst this
      omega
  refine ⟨?_, hne⟩
  unfold rmE
  split
  · exact setE_same _ _ _
  · rename_i hq
    unfold kdE
    rw [setE_ne _ _ (Ne.symm (hne hq)), setE_same]
theorem rm_other (c : Nat → Ent) {i j : Nat} (e : i ≠ j) : (rmE c j i).s = (c i).s ∧ (rmE c j i).p = (c i).p ∧ (rmE c j i).q = (c i).q ∧ (rmE c j i).h = (c i).h := by
  unfold rmE
  split
  · rw [setE_ne _ _ e]; exact ⟨rfl, rfl, rfl, rfl⟩
  · unfold kdE
    by_cases g : i = (c j).q.toNat
    · rw [g, setE_same, setE_ne _ _ (by rw [← g]; exact e)]; exact ⟨rfl, rfl, rfl, rfl⟩
    · rw [setE_ne _ _ g, setE_ne _ _ e]; exact ⟨rfl, rfl, rfl, rfl⟩
/-- What is not there comes not back by a sweep. -/
theorem Swp.gone {c d : Nat → Ent} {q : Int} {n m : Nat} {B : Int} (h : Swp c q n d) (hI : BIv c q m B) (hB : 0 ≤ B) : ∀ i, i < 4096 → prE c q i = false → lvE (d i) = false := by
  induction h generalizing m with
  | none c => exact fun i _ h => by rw [prE_neg] at h; exact h
  | there c j hv =>
    intro i _ h
    by_cases e : i = j
    · subst e; rw [prE_self] at h; cases h
    · rw [prE_ne _ _ _ (by omega)] at h; exact h
  | step c d j n hv hs ih =>
    intro i hi hp
    have hj : j < 4096 := by
      rcases hI.xs with h | ⟨k, h1, h2⟩ <;> omega
    obtain ⟨hI2, _⟩ := hI.remove hB hj hv
    have e : i ≠ j := fun e => by subst e; rw [prE_self] at hp; cases hp
    rw [prE_ne _ _ _ (by omega)] at hp
    have hq : (i : Int) ≠ (c j).q := fun e2 => by
      rcases hI.par j hj (prE_self c j) with h1 | ⟨k, h1, h2, h3, _⟩
      · omega
      · have : k = i := by omega
        subst this
        rw [lv_kids hI h2 h3] at hp; cases hp
    refine ih hI2 i hi ?_
    rw [prE_ne _ _ _ hq]
    have hsame : rmE c j i = c i := by
      unfold rmE
      split
      · rw [setE_ne _ _ e]
      · rename_i hq1
        unfold kdE
        rw [setE_ne _ _ (fun g => ?_), setE_ne _ _ e]
        rcases hI.par j hj (prE_self c j) with h1 | ⟨k, h1, _⟩
        · exact hq1 h1
        · omega
    rw [hsame]; exact hp
/-- What a sweep leaves: holds stay, and what is there stays as it was. -/
theorem Swp.keeps {c d : Nat → Ent} {q : Int} {n m : Nat} {B : Int} (h : Swp c q n d) (hI : BIv c q m B) (hB : 0 ≤ B) : ∀ i, i < 4096 → (d i).h = (c i).h ∧ (lvE (d i) = true → (d i).s = (c i).s ∧ (d i).p = (c i).p ∧ (d i).q = (c i).q) := by
  induction h generalizing m with
  | none c => exact fun i _ => ⟨rfl, fun _ => ⟨rfl, rfl, rfl⟩⟩
  | there c i hv => exact fun i _ => ⟨rfl, fun _ => ⟨rfl, rfl, rfl⟩⟩
  | step c d j n hv hs ih =>
    intro i hi
    have hj : j < 4096 := by
      rcases hI.xs with h | ⟨k, h1, h2⟩ <;> omega
    obtain ⟨hI2, _⟩ := hI.remove hB hj hv
    obtain ⟨e1, e2⟩ := ih hI2 i hi
    obtain ⟨hz, hne⟩ := rm_self hI hj
    by_cases e : i = j
    · subst e
      rw [hz] at e1
      have hh : (c i).h = 0 := by
        rw [lvE_not] at hv
        have := hI.low i hi
        omega
      refine ⟨by rw [e1, hh]; rfl, fun hl => ?_⟩
      have := hs.gone hI2 hB i hi (by
        rw [prE_ne _ _ _ (fun g => hne (by omega) (by omega)), hz]; rfl)
      rw [this] at hl; cases hl
    · obtain ⟨s1, s2, s3, s4⟩ := rm_other c e
      refine ⟨by rw [e1]; exact s4, fun hl => ?_⟩
      obtain ⟨g1, g2, g3⟩ := e2 hl
      exact ⟨by rw [g1]; exact s1, by rw [g2]; exact s2, by rw [g3]; exact s3⟩
/-- How often an entry is among the items. -/
def many (L : List It) (i : Nat) : Nat := L.countP fun x => x.id == i
theorem many_app (L K : List It) (i : Nat) : many (L ++ K) i = many L i + many K i := by unfold many; exact List.countP_append
theorem many_one (x : It) (i : Nat) : many [x] i = if x.id = i then 1 else 0 := by
  unfold many
  rw [List.countP_singleton]
  by_cases h : x.id = i <;> simp [h]
theorem many_pos {L : List It} {x : It} (h : x ∈ L) : 0 < many L x.id := by
  unfold many
  exact List.countP_pos_iff.2 ⟨x, h, by simp⟩
theorem many_cut (L : List It) (k : Nat) (hk : k < L.length) (i : Nat) : many L i = many (L.take k ++ L.drop (k + 1)) i + (if L[k].id = i then 1 else 0) := by
  have e : L = L.take k ++ ([L[k]] ++ L.drop (k + 1)) := by
    rw [List.singleton_append, List.getElem_cons_drop hk, List.take_append_drop]
  have h1 : many L i = many (L.take k) i + (many [L[k]] i + many (L.drop (k + 1)) i) := by
    rw [← many_app, ← many_app, ← e]
  rw [h1, many_one, many_app]
  omega
/-- What holds between two acts. -/
structure StP (c : Nat → Ent) (m : Nat) (L : List It) (t : Nat) : Prop where
  iv : BIv c (-1) m (t : Int)
  hold : ∀ i, i < 4096 → (c i).h = (many L i : Nat)
  way : ∀ x ∈ L, IsWay c (x.id : Int) x.way
  bnd : ∀ x ∈ L, x.way.length ≤ t ∧ ∀ y ∈ x.way, 0 ≤ y.1 ∧ y.1 < 8 ∧ 0 ≤ y.2 ∧ y.2 ≤ 1000 + 3 * (t : Int)
  len : L.length ≤ t
  few : m ≤ t
theorem StP.empty : StP (fun _ => zeE) 0 [] 0 where
  iv := BIv.empty
  hold := fun _ _ => rfl
  way := fun _ h => by cases h
  bnd := fun _ h => by cases h
  len := Nat.le_refl _
  few := Nat.le_refl _
theorem StP.up {c : Nat → Ent} {m t t' : Nat} {L : List It} (h : StP c m L t) (ht : t ≤ t') : StP c m L t' where
  iv := h.iv.up (by omega)
  hold := h.hold
  way := h.way
  bnd := fun x hx => ⟨Nat.le_trans (h.bnd x hx).1 ht, fun y hy => by have := (h.bnd x hx).2 y hy; omega⟩
  len := Nat.le_trans h.len ht
  few := Nat.le_trans h.few ht
theorem StP.held {c : Nat → Ent} {m t : Nat} {L : List It} (h : StP c m L t) {x : It} (hx : x ∈ L) : x.id < 4096 ∧ 0 < (c x.id).h ∧ lvE (c x.id) = true := by
  obtain ⟨h1, h2, _⟩ := (h.way x hx).lv
  refine ⟨h1, ?_, h2⟩
  rw [h.hold _ h1]
  have := many_pos hx
  omega
/-- Put. -/
theorem StP.put {c d : Nat → Ent} {m n t : Nat} {L : List It} {s p q id er : Int} {wy : List (Int × Int)} (h : StP c m L t) (ht : t < 4096) (hR : PutR c m s p q id er d n) (hr : 0 ≤ s ∧ s < 8 ∧ 0 ≤ p ∧ p ≤ 1003 + 3 * (t : Int)) (hq : ParOk c s p q) (hw : IsWay c q wy) (hl : wy.length ≤ t) (hb : ∀ y ∈ wy, 0 ≤ y.1 ∧ y.1 < 8 ∧ 0 ≤ y.2 ∧ y.2 ≤ 1000 + 3 * (t : Int)) :
    er = 0 ∧ ∃ i : Nat, id = (i : Int) ∧ ∀ v, StP d n (L ++ [⟨i, wy ++ [(s, p)], v⟩]) (t + 1) := by
  have hm := h.few
  obtain ⟨rfl, i, rfl, k1, a1, m1⟩ := hR.ok ⟨hr.1, hr.2.1, hr.2.2.1, by omega⟩ hq (by omega)
  have hI := hR.iv h.iv (by omega)
  have live : ∀ j, j < 4096 → lvE (c j) = true → lvE (d j) = true ∧ (d j).s = (c j).s ∧ (d j).p = (c j).p ∧ (d j).q = (c j).q := fun j hj hv => ((a1 (c j).s (c j).p (c j).q j).2 (Or.inl ⟨hj, hv, rfl, rfl, rfl⟩)).2
  have stay : ∀ {q' l'}, IsWay c q' l' → IsWay d q' l' := fun {q' l'} hw' => hw'.keep hI (fun j hj hv _ => (live j hj hv).2) (fun j hj hjl => by
    subst hj
    exact (live j hjl hw'.lv.2.1).1)
  have hh : ∀ j, j < 4096 → (d j).h = (c j).h + (if i = j then 1 else 0) := fun j hj => by
    generalize hid : ((i : Nat) : Int) = idd at hR
    generalize her : (0 : Int) = err at hR
    cases hR with
    | range => exact absurd her (by decide)
    | ref => exact absurd her (by decide)
    | bad => exact absurd her (by decide)
    | full => exact absurd her (by decide)
    | again a _ _ ha hva _ =>
      obtain rfl : i = a := by omega
      unfold hoE
      by_cases e : j = i
      · subst e; rw [setE_same, if_pos rfl]
      · rw [setE_ne _ _ e, if_neg (Ne.symm e)]; omega
    | more a _ _ _ _ ha hva _ =>
      obtain rfl : i = a := by omega
      by_cases e : j = i
      · subst e
        rw [adE_at hva hq, if_pos rfl, h.iv.zero j hj (by rw [prE_neg]; exact hva)]; rfl
      · rw [(adE_ne (s := s) (p := p) hq e).2.2.2.1, if_neg (Ne.symm e)]; omega
  refine ⟨rfl, i, rfl, fun v => ⟨hI, fun j hj => ?_, fun x hx => ?_, fun x hx => ?_, by rw [List.length_append]; have := h.len; simp; omega, by rcases m1 with ⟨e, _⟩ | ⟨e, _⟩ <;> omega⟩⟩
  · rw [hh j hj, h.hold j hj, many_app, many_one]
    split <;> simp
  · rcases List.mem_append.1 hx with h1 | h1
    · exact stay (h.way x h1)
    · simp at h1
      subst h1
      have := IsWay.some i wy k1.1 k1.2.1 (by rw [k1.2.2.2.2]; exact stay hw)
      rw [k1.2.2.1, k1.2.2.2.1] at this
      exact this
  · rcases List.mem_append.1 hx with h1 | h1
    · obtain ⟨b1, b2⟩ := h.bnd x h1
      exact ⟨by omega, fun y hy => by have := b2 y hy; omega⟩
    · simp at h1
      subst h1
      refine ⟨by simp; omega, fun y hy => ?_⟩
      rcases List.mem_append.1 hy with h2 | h2
      · have := hb y h2; omega
      · simp at h2
        subst h2
        dsimp only
        omega
/-- Hold. -/
theorem StP.hold1 {c : Nat → Ent} {m t : Nat} {L : List It} (h : StP c m L t) {x : It} (hx : x ∈ L) : StP (hoE c x.id) m (L ++ [x]) (t + 1) := by
  obtain ⟨h1, h2, h3⟩ := h.held hx
  have hI := h.iv.hold h1 h3
  have stay : ∀ {q' l'}, IsWay c q' l' → IsWay (hoE c x.id) q' l' := fun {q' l'} hw' => hw'.keep hI (fun j hj hv _ => by obtain ⟨a, b, e, _⟩ := hoE_all c x.id j h3; exact ⟨a, b, e⟩) (fun j hj hjl => by
    subst hj
    rw [(hoE_all c x.id j h3).2.2.2.2]
    exact hw'.lv.2.1)
  refine ⟨hI, fun j hj => ?_, fun y hy => ?_, fun y hy => ?_, by rw [List.length_append]; have := h.len; simp; omega, by have := h.few; omega⟩
  · rw [many_app, many_one]
    have := h.hold j hj
    unfold hoE
    by_cases e : j = x.id
    · subst e; rw [setE_same, if_pos rfl]; show (c x.id).h + 1 = _; omega
    · rw [setE_ne _ _ e, if_neg (Ne.symm e)]; omega
  · rcases List.mem_append.1 hy with g | g
    · exact stay (h.way y g)
    · simp at g
      subst g
      exact stay (h.way y hx)
  · have g : y ∈ L := by
      rcases List.mem_append.1 hy with g | g
      · exact g
      · simp at g; subst g; exact hx
    obtain ⟨b1, b2⟩ := h.bnd y g
    exact ⟨by omega, fun z hz => by have := b2 z hz; omega⟩
/-- Drop. -/
theorem StP.drop {c d : Nat → Ent} {m n t k : Nat} {L : List It} (h : StP c m L t) (hk : k < L.length) (hs : Swp (lgE c L[k].id) (L[k].id : Int) n d) (hd : BIv d (-1) (m - n) (t : Int)) : StP d (m - n) (L.take k ++ L.drop (k + 1)) t := by
  have hx : L[k] ∈ L := List.getElem_mem hk
  obtain ⟨h1, h2, h3⟩ := h.held hx
  have hI := h.iv.letGo h1 h2
  have kp := hs.keeps hI (by omega)
  have lg : ∀ i, i ≠ L[k].id → lgE c L[k].id i = c i := fun i e => by unfold lgE; rw [setE_ne _ _ e]
  have lgs : lgE c L[k].id L[k].id = ⟨(c L[k].id).s, (c L[k].id).p, (c L[k].id).q, (c L[k].id).h - 1, (c L[k].id).k⟩ := by unfold lgE; rw [setE_same]
  have sub : ∀ y ∈ L.take k ++ L.drop (k + 1), y ∈ L := fun y hy => by
    rcases List.mem_append.1 hy with g | g
    · exact List.mem_of_mem_take g
    · exact List.mem_of_mem_drop g
  have hold : ∀ i, i < 4096 → (d i).h = (many (L.take k ++ L.drop (k + 1)) i : Nat) := fun i hi => by
    rw [(kp i hi).1]
    have e1 := many_cut L k hk i
    have e2 := h.hold i hi
    by_cases e : i = L[k].id
    · rw [e, lgs]
      rw [e] at e1 e2
      rw [if_pos rfl] at e1
      show (c L[k].id).h - 1 = _
      omega
    · rw [lg i e]
      rw [if_neg (Ne.symm e)] at e1
      omega
  refine ⟨hd, hold, fun y hy => ?_, fun y hy => h.bnd y (sub y hy), ?_, by have := h.few; omega⟩
  · refine (h.way y (sub y hy)).keep hd (fun i hi _ hv => ?_) (fun i hi hil => ?_)
    · obtain ⟨g1, g2, g3⟩ := (kp i hi).2 hv
      by_cases e : i = L[k].id
      · rw [g1, g2, g3, e, lgs]; exact ⟨rfl, rfl, rfl⟩
      · rw [g1, g2, g3, lg i e]; exact ⟨rfl, rfl, rfl⟩
    · obtain rfl : y.id = i := by omega
      rw [lvE_iff]
      have g1 := hold y.id hil
      have g2 := many_pos hy
      have g3 := (hd.low y.id hil).2
      omega
  · have := h.len
    rw [List.length_append, List.length_take, List.length_drop]
    omega
/-- Where nothing is held nothing is there. -/
theorem BIv.none {c : Nat → Ent} {m : Nat} {B : Int} (h : BIv c (-1) m B) (h0 : ∀ i, i < 4096 → (c i).h = 0) : m = 0 := by
  have dead : ∀ (n : Nat) (i : Nat), i < 4096 → 1073741824 < (c i).p + (n : Int) → lvE (c i) = false := by
    intro n
    induction n with
    | zero =>
      intro i hi hp
      cases hv : lvE (c i) with
      | false => rfl
      | true => have := (h.rng i hi (prE_lv _ hv)).2.2.2; omega
    | succ n ih =>
      intro i hi hp
      cases hv : lvE (c i) with
      | false => rfl
      | true =>
        exfalso
        rw [lvE_iff, h0 i hi, h.kids i hi] at hv
        rcases Classical.em (∃ j, j < 4096 ∧ (prE c (-1) j && decide ((c j).q = (i : Int))) = true) with ⟨j, hj, hjk⟩ | hno
        · simp only [Bool.and_eq_true, decide_eq_true_eq] at hjk
          obtain ⟨hp1, hq1⟩ := hjk
          rcases h.par j hj hp1 with g | ⟨a, g1, g2, g3, g4, g5⟩
          · omega
          · have : a = i := by omega
            subst this
            rw [prE_neg] at hp1
            have := ih j hj (by omega)
            rw [this] at hp1; cases hp1
        · rw [cnt_zero fun j hj => by
            cases e : (prE c (-1) j && decide ((c j).q = (i : Int))) with
            | false => rfl
            | true => exact absurd ⟨j, hj, e⟩ hno] at hv
          exact absurd hv (by decide)
  rw [h.many]
  exact cnt_zero fun i hi => by
    rw [prE_neg]
    cases hv : lvE (c i) with
    | false => rfl
    | true =>
      have := dead 1073741825 i hi (by have := (h.rng i hi (prE_lv _ hv)).2.2.1; omega)
      rw [this] at hv; cases hv
theorem StP.fin {c : Nat → Ent} {m t : Nat} (h : StP c m [] t) : m = 0 := h.iv.none fun i hi => by rw [h.hold i hi]; rfl
end Go.Proofs.Ythdfaidjdddagaa
namespace Go.Proofs.Ythdfaidjdddagaa
open Go.RowKit

/-- A chain's first t entries: their stages and places, and how often each is held. -/
def chX (l : List (Int × Int)) (t : Nat) (H : Nat → Int) : Nat → Ent := fun j => if j < t then ⟨(l.getD j (0, 0)).1, (l.getD j (0, 0)).2, (j : Int) - 1, H j, if j + 1 < t then 1 else 0⟩ else zeE
theorem chX_in (l : List (Int × Int)) (t : Nat) (H : Nat → Int) (j : Nat) (h : j < t) : chX l t H j = ⟨(l.getD j (0, 0)).1, (l.getD j (0, 0)).2, (j : Int) - 1, H j, if j + 1 < t then 1 else 0⟩ := by unfold chX; rw [if_pos h]
theorem chX_out (l : List (Int × Int)) (t : Nat) (H : Nat → Int) (j : Nat) (h : ¬ j < t) : chX l t H j = zeE := by unfold chX; rw [if_neg h]
theorem chX_zero (l : List (Int × Int)) (H : Nat → Int) : chX l 0 H = fun _ => zeE := funext fun j => chX_out l 0 H j (by omega)
theorem getD_in {l k : List (Int × Int)} {j : Nat} (h : j < l.length) : (l ++ k).getD j (0, 0) = l.getD j (0, 0) := by
  rw [List.getD_eq_getElem?_getD, List.getD_eq_getElem?_getD, List.getElem?_append_left h]
theorem getD_end (l : List (Int × Int)) (x : Int × Int) : (l ++ [x]).getD l.length (0, 0) = x := by
  rw [List.getD_eq_getElem?_getD, List.getElem?_append_right (Nat.le_refl _)]
  simp
/-- All are held once. -/
def one1 : Nat → Int := fun _ => 1
theorem ch_more (l : List (Int × Int)) (s p : Int) : adE (chX l l.length one1) l.length s p ((l.length : Int) - 1) = chX (l ++ [(s, p)]) (l.length + 1) one1 := by
  funext j
  unfold adE
  by_cases h0 : l.length = 0
  · rw [if_pos (by omega)]
    by_cases e : j = l.length
    · subst e
      rw [setE_same, chX_in _ _ _ _ (by omega), getD_end, if_neg (by omega)]; rfl
    · rw [setE_ne _ _ e, chX_out _ _ _ _ (by omega), chX_out _ _ _ _ (by omega)]
  · rw [if_neg (by omega)]
    unfold kdE
    have ht : ((l.length : Int) - 1).toNat = l.length - 1 := by omega
    rw [ht]
    by_cases e1 : j = l.length - 1
    · subst e1
      rw [setE_same, setE_ne _ _ (by omega), chX_in _ _ _ _ (by omega), chX_in _ _ _ _ (by omega), getD_in (by omega), if_neg (by omega), if_pos (by omega)]; rfl
    · rw [setE_ne _ _ e1]
      by_cases e : j = l.length
      · subst e
        rw [setE_same, chX_in _ _ _ _ (by omega), getD_end, if_neg (by omega)]; rfl
      · rw [setE_ne _ _ e]
        by_cases h : j < l.length
        · rw [chX_in _ _ _ _ h, chX_in _ _ _ _ (by omega), getD_in h, if_pos (by omega), if_pos (by omega)]
        · rw [chX_out _ _ _ _ h, chX_out _ _ _ _ (by omega)]
theorem ch_put (l : List (Int × Int)) (s p : Int) (hs : 0 ≤ s ∧ s < 8 ∧ 0 ≤ p ∧ p ≤ 1073741824) (hl : l.length < 4096) (ha : ∀ j, j < l.length → (l.getD j (0, 0)).1 ≤ s ∧ (l.getD j (0, 0)).2 < p) :
    PutR (chX l l.length one1) l.length s p ((l.length : Int) - 1) (l.length : Int) 0 (chX (l ++ [(s, p)]) (l.length + 1) one1) (l.length + 1) := by
  rw [← ch_more]
  refine PutR.more l.length hs ?_ (fun j _ h e => ?_) hl hl ?_ (fun j hj => ?_)
  · by_cases h0 : l.length = 0
    · exact Or.inl (by omega)
    · refine Or.inr ⟨l.length - 1, by omega, by omega, ?_, ?_⟩
      · rw [chX_in _ _ _ _ (by omega), if_neg (by omega)]; rfl
      · rw [chX_in _ _ _ _ (by omega)]
        exact ha _ (by omega)
  · by_cases hj : j < l.length
    · rw [chX_in _ _ _ _ hj] at e
      have e1 := e.2.1
      have := (ha j hj).2
      dsimp only at e1
      omega
    · rw [chX_out _ _ _ _ hj] at h; cases h
  · rw [chX_out _ _ _ _ (by omega)]; rfl
  · rw [chX_in _ _ _ _ hj, lvE_iff]
    show 0 < (1 : Int) + (if j + 1 < l.length then 1 else 0)
    split <;> omega
theorem ch_let (l : List (Int × Int)) (n t : Nat) (H : Nat → Int) (ht : t < n) : lgE (chX l n H) t = chX l n (fun j => if j = t then H t - 1 else H j) := by
  funext j
  unfold lgE
  by_cases e : j = t
  · subst e
    rw [setE_same, chX_in _ _ _ _ ht, chX_in _ _ _ _ ht, if_pos rfl]
  · rw [setE_ne _ _ e]
    by_cases h : j < n
    · rw [chX_in _ _ _ _ h, chX_in _ _ _ _ h, if_neg e]
    · rw [chX_out _ _ _ _ h, chX_out _ _ _ _ h]
/-- The first t have been dropped. -/
def drp (t : Nat) : Nat → Int := fun j => if j < t then 0 else 1
theorem drp_zero : drp 0 = one1 := by funext j; unfold drp one1; rw [if_neg (by omega)]
theorem ch_drop (l : List (Int × Int)) (n t : Nat) (ht : t < n) : lgE (chX l n (drp t)) t = chX l n (drp (t + 1)) := by
  rw [ch_let _ _ _ _ ht]
  congr 1
  funext j
  unfold drp
  by_cases e : j = t
  · subst e; rw [if_pos rfl, if_neg (by omega), if_pos (by omega)]; rfl
  · rw [if_neg e]
    by_cases h : j < t
    · rw [if_pos h, if_pos (by omega)]
    · rw [if_neg h, if_neg (by omega)]
theorem ch_stays (l : List (Int × Int)) (n t : Nat) (ht : t + 1 < n) : Swp (lgE (chX l n (drp t)) t) (t : Int) 0 (chX l n (drp (t + 1))) := by
  rw [ch_drop _ _ _ (by omega)]
  refine Swp.there _ _ ?_
  rw [chX_in _ _ _ _ (by omega), if_pos ht]
  unfold drp
  rw [if_pos (by omega)]; rfl
theorem ch_held (l : List (Int × Int)) (n t : Nat) (ht : t < n) : 0 < (chX l n (drp t) t).h := by
  rw [chX_in _ _ _ _ ht]
  show 0 < drp t t
  unfold drp
  rw [if_neg (by omega)]; decide
/-- A chain that nobody holds. -/
def nil0 : Nat → Int := fun _ => 0
theorem ch_rm (l : List (Int × Int)) (t : Nat) : rmE (chX l (t + 1) nil0) t = chX l t nil0 ∧ (chX l (t + 1) nil0 t).q = (t : Int) - 1 ∧ lvE (chX l (t + 1) nil0 t) = false := by
  have vt : chX l (t + 1) nil0 t = ⟨(l.getD t (0, 0)).1, (l.getD t (0, 0)).2, (t : Int) - 1, 0, 0⟩ := by rw [chX_in _ _ _ _ (by omega), if_neg (by omega)]; rfl
  refine ⟨?_, by rw [vt], by rw [vt]; rfl⟩
  funext j
  unfold rmE
  rw [vt]
  dsimp only
  by_cases h0 : t = 0
  · subst h0
    rw [if_pos (by omega)]
    by_cases e : j = 0
    · subst e; rw [setE_same, chX_out _ _ _ _ (by omega)]
    · rw [setE_ne _ _ e, chX_out _ _ _ _ (by omega), chX_out _ _ _ _ (by omega)]
  · rw [if_neg (by omega)]
    have ht : ((t : Int) - 1).toNat = t - 1 := by omega
    rw [ht]
    unfold kdE
    by_cases e1 : j = t - 1
    · subst e1
      rw [setE_same, setE_ne _ _ (by omega), chX_in _ _ _ _ (by omega), chX_in _ _ _ _ (by omega), if_pos (by omega), if_neg (by omega)]; rfl
    · rw [setE_ne _ _ e1]
      by_cases e : j = t
      · subst e; rw [setE_same, chX_out _ _ _ _ (by omega)]
      · rw [setE_ne _ _ e]
        by_cases h : j < t
        · rw [chX_in _ _ _ _ (by omega), chX_in _ _ _ _ h, if_pos (by omega), if_pos (by omega)]
        · rw [chX_out _ _ _ _ (by omega), chX_out _ _ _ _ h]
theorem ch_swp (l : List (Int × Int)) (t : Nat) : Swp (chX l t nil0) ((t : Int) - 1) t (chX l 0 nil0) := by
  induction t with
  | zero => exact Swp.none _
  | succ t ih =>
    obtain ⟨h1, h2, h3⟩ := ch_rm l t
    rw [show ((t + 1 : Nat) : Int) - 1 = (t : Int) by omega]
    refine Swp.step _ _ t t h3 ?_
    rw [h1, h2]
    exact ih
theorem ch_last (l : List (Int × Int)) (t : Nat) : lgE (chX l (t + 1) (drp t)) t = chX l (t + 1) nil0 := by
  rw [ch_drop _ _ _ (by omega)]
  funext j
  by_cases h : j < t + 1
  · rw [chX_in _ _ _ _ h, chX_in _ _ _ _ h]
    unfold drp nil0
    rw [if_pos h]
  · rw [chX_out _ _ _ _ h, chX_out _ _ _ _ h]
theorem ch_way (l : List (Int × Int)) (n : Nat) (H : Nat → Int) (hn : n ≤ 4096) (hv : ∀ j, j < n → lvE (chX l n H j) = true) (t : Nat) (ht : t ≤ n) (htl : t ≤ l.length) : IsWay (chX l n H) ((t : Int) - 1) (l.take t) := by
  induction t with
  | zero => exact IsWay.none
  | succ t ih =>
    have e := IsWay.some t (l.take t) (by omega) (hv t (by omega)) (by rw [chX_in _ _ _ _ (by omega)]; exact ih (by omega) (by omega))
    rw [chX_in _ _ _ _ (by omega)] at e
    rw [show ((t + 1 : Nat) : Int) - 1 = (t : Int) by omega, List.take_succ_eq_append_getElem (by omega)]
    simp only [List.getD_eq_getElem?_getD, List.getElem?_eq_getElem (show t < l.length by omega), Option.getD_some] at e
    exact e
end Go.Proofs.Ythdfaidjdddagaa
