/-
  What is left behind Collect: plainly.
  A slice of strings that comes in as an argument: its strings lie where it says.
  A slice of strings that comes in as an argument, with the weights of its texts.
  A slice of structs that comes in as an argument: they lie where it says.
-/
import Derived.Test.YtdmckgcbmbhmmaaGreatDoorRw18
import Derived.Test.YtdmckgcbmbhmmaaGreatDoorRw09
import Derived.Test.YtdmckgcbmbhmmaaGreatDoorProg
import Derived.ProofKit
import Derived.OpenShut
import Derived.SliceStrings
import Derived.Deep.Slices
import Derived.SizedLaws
namespace Go.Proofs.YtdmckgcbmbhmmaaGreatDoor
open Go.RowKit

def fA : List ByteArray := mNm :: mNew :: (List.range 6).flatMap fun c => (List.range 5).map fun t => sNm (c + 1) t
theorem fA_len : fA.length ≤ 62 := by
  have : fA.length = 32 := by
    unfold fA
    rw [List.length_cons, List.length_cons, List.length_flatMap]
    simp only [List.length_map, List.length_range]
    rfl
  omega
theorem fA_nm {c t : Nat} (h1 : 1 ≤ c) (h2 : c ≤ 6) (ht : t < 5) : sNm c t ∈ fA := by
  unfold fA
  refine List.mem_cons_of_mem _ (List.mem_cons_of_mem _ (List.mem_flatMap.2 ⟨c - 1, List.mem_range.2 (by omega), List.mem_map.2 ⟨t, List.mem_range.2 ht, ?_⟩⟩))
  rw [show c - 1 + 1 = c by omega]
theorem fA_m : mNm ∈ fA := List.mem_cons_self
theorem fA_new : mNew ∈ fA := List.mem_cons_of_mem _ List.mem_cons_self
theorem fA_dnm : ∀ n ∈ fA, dnm n = true := fun n hn => by
  unfold fA at hn
  rw [List.mem_cons, List.mem_cons, List.mem_flatMap] at hn
  rcases hn with rfl | rfl | ⟨k, hk, hn⟩
  · exact dnm_m
  · exact dnm_new
  · obtain ⟨t, ht, rfl⟩ := List.mem_map.1 hn
    exact sNm_dnm _ _ (by have := List.mem_range.1 hk; omega) (by have := List.mem_range.1 ht; omega)
theorem Sm.monoA {A B : List ByteArray} {fs : Fs} (h : Sm A fs) (hs : ∀ x ∈ A, x ∈ B) : Sm B fs := ⟨h.nd, fun p hp => ⟨hs _ (h.mem p hp).1, (h.mem p hp).2⟩⟩
theorem Gn.monoA {A B : List ByteArray} {j i : Nat} {g : Get} {d : Dk} (h : Gn A j g d) (hs : ∀ x ∈ A, x ∈ B) (hj : j ≤ i) : Gn B i g d :=
  ⟨⟨h.jd.play, fun k hk t => ⟨(h.jd.cr k hk t).1.monoA hs, trivial⟩, Nat.le_trans h.jd.few hj⟩, h.fz, h.get⟩
/-- How the files stand behind so many shots. -/
structure Few (c l : Nat) (g : Get) : Prop where
  last : (l = 0 ∧ g mNm = none) ∨ ((1 ≤ l ∧ l ≤ c) ∧ ∃ n : Nat, ∃ s : ByteArray, (1 ≤ n ∧ n ≤ 5) ∧ s.size ≤ 500 ∧ g mNm = some (mfB (l : Int) (n : Int) s).data.toList ∧ ∀ t, t < n → (g (sNm l t)).isSome = true)
  names : ∀ m, (g m).isSome = true → m = mNm ∨ ∃ k t, (1 ≤ k ∧ k ≤ c) ∧ t < 5 ∧ m = sNm k t
  frs : ∀ k t x, g (sNm k t) = some x → ∃ b : ByteArray, b.size ≤ 500 ∧ x = (frS b).data.toList
section
variable {c l : Nat} {g : Get}
theorem Few.lt (h : Few c l g) (hc : c ≤ 6) : LtN g l := by
  rcases h.last with a | ⟨a, n, s, b, e, f, _⟩
  · exact Or.inl a
  · exact Or.inr ⟨⟨a.1, by omega⟩, n, s, ⟨b.1, by omega⟩, e, f⟩
theorem Few.more (h : Few c l g) : Few (c + 1) l g := ⟨h.last.imp id fun ⟨a, b⟩ => ⟨⟨a.1, by omega⟩, b⟩, fun m hm => (h.names m hm).imp id fun ⟨k, t, a, b⟩ => ⟨k, t, ⟨a.1, by omega⟩, b⟩, h.frs⟩
theorem Few.put (h : Few c l g) {t : Nat} (hc : 1 ≤ c ∧ c ≤ 6) (ht : t < 5) {b : ByteArray} (hb : b.size ≤ 500) : Few c l (gSet (sNm c t) (some (frS b).data.toList) g) := by
  refine ⟨h.last.imp (fun ⟨a, e⟩ => ⟨a, by rw [gSet_ne (sNm_ne_m _ _).symm]; exact e⟩) (fun ⟨a, n, s, q, e, f, k⟩ => ⟨a, n, s, q, e, by rw [gSet_ne (sNm_ne_m _ _).symm]; exact f, fun x hx => by
    unfold gSet
    split
    · rfl
    · exact k x hx⟩), fun m hm => ?_, fun k x y hy => ?_⟩
  · by_cases he : m = sNm c t
    · exact Or.inr ⟨c, t, ⟨hc.1, Nat.le_refl _⟩, ht, he⟩
    · rw [gSet_ne he] at hm
      exact h.names m hm
  · by_cases he : sNm k x = sNm c t
    · rw [he, gSet_eq] at hy
      injection hy with hy
      exact ⟨b, hb, hy.symm⟩
    · rw [gSet_ne he] at hy
      exact h.frs k x y hy
theorem TkN.put {f : Nat → ByteArray} {t : Nat} (h : TkN g c t f) (hc : 1 ≤ c ∧ c ≤ 6) (ht : t < 5) (hb : (f t).size ≤ 500) : TkN (gSet (sNm c t) (some (frS (f t)).data.toList) g) c (t + 1) f := fun x hx => by
  by_cases he : x = t
  · subst he
    exact ⟨gSet_eq _ _ _, by omega⟩
  · obtain ⟨a, b⟩ := h x (by omega)
    refine ⟨?_, b⟩
    rw [gSet_ne (fun e => he (sNm_inj hc.1 (by omega) (by omega) hc.1 (by omega) (by omega) e).2)]
    exact a
theorem Few.commit (h : Few c l g) {n : Nat} {s : ByteArray} {f : Nat → ByteArray} (hc : 1 ≤ c ∧ c ≤ 6) (hn : 1 ≤ n ∧ n ≤ 5) (hs : s.size ≤ 500) (hT : TkN g c n f) : Few c c (gSet mNm (some (mfB (c : Int) (n : Int) s).data.toList) (gSet mNew none g)) := by
  refine ⟨Or.inr ⟨⟨hc.1, Nat.le_refl _⟩, n, s, hn, hs, gSet_eq _ _ _, fun t ht => ?_⟩, fun m hm => ?_, fun k x y hy => ?_⟩
  · rw [gSet_ne (sNm_ne_m _ _), gSet_ne (sNm_ne_new _ _), (hT t ht).1]; rfl
  · by_cases he : m = mNm
    · exact Or.inl he
    · rw [gSet_ne he] at hm
      by_cases he2 : m = mNew
      · rw [he2, gSet_eq] at hm; cases hm
      · rw [gSet_ne he2] at hm
        exact h.names m hm
  · rw [gSet_ne (sNm_ne_m _ _), gSet_ne (sNm_ne_new _ _)] at hy
    exact h.frs k x y hy
end
/-- A name that is none of ours. -/
def Foreign (o : ByteArray) : Prop := ∃ b r, o.data.toList = b :: r ∧ b ≠ 115 ∧ b ≠ 109
theorem Foreign.sn {o : ByteArray} (h : Foreign o) (k t : Nat) : o ≠ sNm k t := fun e => by
  obtain ⟨b, r, e1, e2, _⟩ := h
  rw [e, sNm_list] at e1
  injection e1 with e1
  exact e2 e1.symm
theorem Foreign.m {o : ByteArray} (h : Foreign o) : o ≠ mNm ∧ o ≠ mNew := by
  obtain ⟨b, r, e1, _, e2⟩ := h
  constructor
  · rintro rfl
    injection e1 with e1
    exact e2 e1.symm
  · rintro rfl
    injection e1 with e1
    exact e2 e1.symm
theorem Foreign.ot {o : ByteArray} (h : Foreign o) (k : Int) : otB k o = false := by
  obtain ⟨b, r, e1, e2, _⟩ := h
  have : snP o.data.toList = none := by
    unfold snP
    rw [if_neg]
    rw [e1]
    unfold upA
    rw [List.takeWhile_cons]
    split
    · intro e
      injection e with e
      exact e2 e
    · exact fun e => by cases e
  unfold otB
  rw [this]
theorem few_no {c l : Nat} {g : Get} (h : Few c l g) {o : ByteArray} (ho : Foreign o) : g o = none := by
  cases hg : g o with
  | none => rfl
  | some x =>
    rcases h.names o (by rw [hg]; rfl) with e | ⟨k, t, _, _, e⟩
    · exact absurd e ho.m.1
    · exact absurd e (ho.sn k t)
/-- Another file is written, or its name may not be. -/
theorem few_other {j c l : Nat} {g : Get} {d : Dk} (hd : Gn fA j g d) (hj : j ≤ 100) (h : Few c l g) (o : ByteArray) (ho : Foreign o) :
    (d.wrE o 0 bx = 0 ∧ Gn (o :: fA) (j + 1) (gSet o (some bx.data.toList) g) (d.wrD o 0 bx) ∧ dnm o = true) ∨ (d.wrE o 0 bx = 30 ∧ d.wrD o 0 bx = d) := by
  by_cases hn : dnm o = true
  · left
    have hd' := hd.monoA (B := o :: fA) (fun x hx => List.mem_cons_of_mem _ hx) (Nat.le_refl j)
    have hw := hd'.jd.wr (n := o) (b := bx) (by omega) List.mem_cons_self (by rw [List.length_cons]; have := fA_len; omega) hn (by rw [hd.get]; exact few_no h ho) (by decide) (frn_true _)
    obtain ⟨a, b⟩ := hw.gn hd.fz hd.get
    exact ⟨a, b, hn⟩
  · right
    have hbad : d.badW o 0 bx = 30 := by
      unfold Dk.badW
      rw [if_pos (by simpa using hn)]
    unfold Dk.wrE Dk.wrD
    rw [hbad, if_neg (by decide), if_neg (by decide)]
    exact ⟨rfl, rfl⟩
/-- What is there of a snapshot's tasks. -/
def prs (g : Get) (l k : Nat) : Nat := ((List.range k).filter fun t => (g (sNm l t)).isSome).length
theorem prs_succ (g : Get) (l k : Nat) : prs g l (k + 1) = prs g l k + if (g (sNm l k)).isSome = true then 1 else 0 := by
  unfold prs
  rw [List.range_succ, List.filter_append, List.length_append]
  congr 1
  rw [List.filter_cons, List.filter_nil]
  split <;> rfl
theorem prs_ge {g : Get} {l n : Nat} (h : ∀ t, t < n → (g (sNm l t)).isSome = true) : ∀ k, min n k ≤ prs g l k
  | 0 => by omega
  | k + 1 => by
    have ih := prs_ge h k
    rw [prs_succ]
    by_cases hk : k < n
    · rw [if_pos (h k hk)]; omega
    · split <;> omega
theorem prs_le (g : Get) (l : Nat) : ∀ k, prs g l k ≤ k
  | 0 => Nat.le_refl _
  | k + 1 => by
    have ih := prs_le g l k
    rw [prs_succ]
    split <;> omega
/-- The end: what is collected, read and counted. -/
structure FewEnd (d : Dk) (l n : Nat) (s : ByteArray) (m : Nat) (K : Nat) : Prop where
  la : d.laE = 0 ∧ d.laM = ⟨(l : Int), (n : Int), s⟩
  ce : d.coll.2.1 = 0
  re : ∃ g : Get, (∀ t : Nat, t ≤ 32 → d.coll.2.2.reE (l : Int) (t : Int) = if (g (sNm l t)).isSome = true then 0 else 5) ∧ prs g l 33 = m
  la2 : d.coll.2.2.laE = 0 ∧ d.coll.2.2.laM = ⟨(l : Int), (n : Int), s⟩
  again : d.coll.2.2.coll.1 = 0 ∧ d.coll.2.2.coll.2.1 = 0
  len : (nmL d.coll.2.2.coll.2.2.now).length = 1 + m + K
  more : n ≤ m
  few : m ≤ 33 ∧ n ≤ 5
theorem few_end {A : List ByteArray} {j c l : Nat} {g gd : Get} {d : Dk} {o : ByteArray} (K : Bool) (hA : A.length ≤ 63) (hD : ∀ n ∈ A, dnm n = true) (hd : Gn A j gd d) (hj : j ≤ 200) (h : Few c l g) (hc : c ≤ 6) (hl : l ≠ 0) (ho : K = true → Foreign o) (hg : gd = if K = true then gSet o (some bx.data.toList) g else g) :
    ∃ n s m, FewEnd d l n s m (if K = true then 1 else 0) := by
  rcases h.last with a | ⟨hl1, n, s, hn, hs, hm, ht⟩
  · exact absurd a.1 hl
  have hgm : gd mNm = some (mfB (l : Int) (n : Int) s).data.toList := by
    rw [hg]
    cases K with
    | true => rw [if_pos rfl, gSet_ne (ho rfl).m.1.symm]; exact hm
    | false => rw [if_neg (by decide)]; exact hm
  have hgs : ∀ t, gd (sNm l t) = g (sNm l t) := fun t => by
    rw [hg]
    cases K with
    | true => rw [if_pos rfl, gSet_ne ((ho rfl).sn _ _).symm]
    | false => rw [if_neg (by decide)]
  have hl2 : 1 ≤ l ∧ l ≤ 1073741824 := ⟨hl1.1, by omega⟩
  have hn2 : 1 ≤ n ∧ n ≤ 33 := ⟨hn.1, by omega⟩
  have hla := hd.la hl2 hn2 hs hgm
  obtain ⟨c1, c2, c3⟩ := hd.coll (by omega) hA hD hl2 hn2 hs hgm (L := (nmL d.now).filter fun n => otB l n) ((List.filter_sublist).nodup (nmL_nodup hd.jd.sm.nd)) (fun x => by
    rw [List.mem_filter, nmL_iff, hd.get])
  have hlen : ((nmL d.now).filter fun n => otB l n).length ≤ 63 := Nat.le_trans (List.length_filter_le _ _) (by rw [nmL_len]; exact Nat.le_trans hd.jd.sm.len hA)
  generalize ((nmL d.now).filter fun n => otB l n) = L0 at *
  have g2m : (fun m => if otB l m = true then none else gd m) mNm = some (mfB (l : Int) (n : Int) s).data.toList := by
    show (if otB l mNm = true then none else gd mNm) = _
    rw [otB_m, if_neg (by decide), hgm]
  have g2s : ∀ t, t ≤ 32 → (fun m => if otB l m = true then none else gd m) (sNm l t) = g (sNm l t) := fun t ht => by
    show (if otB l (sNm l t) = true then none else gd (sNm l t)) = _
    rw [otB_nm hl2 ht, if_neg (by simp), hgs]
  have hla2 := c3.la hl2 hn2 hs g2m
  obtain ⟨b1, b2, b3⟩ := c3.coll (by omega) hA hD hl2 hn2 hs g2m (L := []) List.nodup_nil (fun x => by
    constructor
    · rintro ⟨a, b⟩
      rw [if_pos b] at a; cases a
    · exact fun h => absurd h (by simp))
  have hgg : ∀ m, (fun m => if otB l m = true then none else (fun m => if otB l m = true then none else gd m) m) m = if otB l m = true then none else gd m := fun m => by
    show (if otB l m = true then none else if otB l m = true then none else gd m) = _
    split <;> rfl
  have c4 := b3.eq hgg
  have hname := c4.names (l := (mNm :: ((List.range 33).filter fun t => (g (sNm l t)).isSome).map fun t => sNm l t) ++ if K = true then [o] else []) ?_ ?_
  · refine ⟨n, s, prs g l 33, hla, c1, ⟨g, fun t ht => ?_, rfl⟩, hla2, ⟨b2, b1⟩, ?_, ?_, prs_le _ _ _, hn.2⟩
    · cases hx : g (sNm l t) with
      | none =>
        rw [if_neg (by simp)]
        exact c3.re_not hl2 ht ((g2s t ht).trans hx)
      | some x =>
        obtain ⟨b, hb, rfl⟩ := h.frs l t x hx
        rw [if_pos (show (some (frS b).data.toList).isSome = true from rfl)]
        exact (c3.re hl2 ht (by omega) ((g2s t ht).trans hx)).1
    · rw [hname]
      unfold prs
      rw [List.length_append, List.length_cons, List.length_map]
      cases K <;> simp <;> omega
    · have := prs_ge ht 33
      omega
  · rw [List.nodup_append]
    refine ⟨?_, ?_, ?_⟩
    · rw [List.nodup_cons]
      refine ⟨fun hx => ?_, ?_⟩
      · obtain ⟨t, _, e⟩ := List.mem_map.1 hx
        exact sNm_ne_m _ _ e
      · refine List.pairwise_map.2 (List.Pairwise.imp_of_mem (R := fun a b => a ≠ b) (fun {a b} ha hb hab e => hab ?_) ((List.filter_sublist).nodup List.nodup_range))
        have h1 := List.mem_range.1 (List.mem_filter.1 ha).1
        have h2 := List.mem_range.1 (List.mem_filter.1 hb).1
        exact (sNm_inj hl2.1 hl2.2 (by omega) hl2.1 hl2.2 (by omega) e).2
    · cases K <;> simp
    · intro a ha b hb e
      cases hK : K with
      | false => rw [hK] at hb; simp at hb
      | true =>
        rw [hK, if_pos rfl] at hb
        obtain rfl := List.mem_singleton.1 hb
        subst e
        rw [List.mem_cons] at ha
        rcases ha with e | ha
        · exact (ho hK).m.1 e
        · obtain ⟨t, _, e⟩ := List.mem_map.1 ha
          exact (ho hK).sn _ _ e.symm
  · intro m
    constructor
    · intro hm2
      by_cases hot : otB l m = true
      · rw [if_pos hot] at hm2; cases hm2
      · rw [if_neg hot, hg] at hm2
        rw [List.mem_append]
        have base : (g m).isSome = true → m ∈ mNm :: ((List.range 33).filter fun t => (g (sNm l t)).isSome).map fun t => sNm l t := fun hq => by
          rcases h.names m hq with e | ⟨k, t, hk, ht5, e⟩
          · rw [e]; exact List.mem_cons_self
          · rw [e, otB_nm ⟨hk.1, by omega⟩ (by omega)] at hot
            have hkl : k = l := by simp at hot; omega
            subst hkl
            exact List.mem_cons_of_mem _ (List.mem_map.2 ⟨t, List.mem_filter.2 ⟨List.mem_range.2 (by omega), by rw [← e]; exact hq⟩, e.symm⟩)
        cases hK : K with
        | true =>
          rw [hK, if_pos rfl] at hm2
          by_cases hmo : m = o
          · right; rw [if_pos rfl, hmo]; exact List.mem_singleton.2 rfl
          · rw [gSet_ne hmo] at hm2
            exact Or.inl (base hm2)
        | false =>
          rw [hK, if_neg (by decide)] at hm2
          exact Or.inl (base hm2)
    · intro hmL
      rw [List.mem_append, List.mem_cons] at hmL
      rcases hmL with (e | hmL) | hmL
      · rw [e, otB_m, if_neg (by decide), hgm]; rfl
      · obtain ⟨t, ht2, rfl⟩ := List.mem_map.1 hmL
        obtain ⟨ht3, ht4⟩ := List.mem_filter.1 ht2
        have h32 := List.mem_range.1 ht3
        rw [otB_nm hl2 (by omega), if_neg (by simp), hgs]
        exact ht4
      · cases hK : K with
        | false => rw [hK] at hmL; simp at hmL
        | true =>
          rw [hK, if_pos rfl] at hmL
          obtain rfl := List.mem_singleton.1 hmL
          rw [(ho hK).ot, if_neg (by decide), hg, hK, if_pos rfl, gSet_eq]; rfl
end Go.Proofs.YtdmckgcbmbhmmaaGreatDoor
namespace Go.Proofs.YtdmckgcbmbhmmaaGreatDoor
open Go.RowKit Go.ChangeShapes

def StrsAt (w : World) (ad : Option Addr) (l : List ByteArray) : Prop :=
  l ≠ [] → ∃ b off, ad = some ⟨b, off, none⟩ ∧ b < w.heap.size ∧ ∀ i (h : i < l.length), w.cell? ⟨b, off + i, none⟩ = some (.string l[i])
theorem StrsAt.below {w w' : World} {B : Nat} {ad : Option Addr} {l : List ByteArray} (h : StrsAt w ad l) (hb : Below B w w') (hB : w.heap.size ≤ B) : StrsAt w' ad l := fun hl => by
  obtain ⟨b, off, e, hlt, hc⟩ := h hl
  exact ⟨b, off, e, Nat.lt_of_lt_of_le hlt hb.size, fun i hi => (hb.cell (p := ⟨b, off + i, none⟩) (Nat.lt_of_lt_of_le hlt hB)).trans (hc i hi)⟩
theorem cellsOf_strB : Tryz.prog.cellsOf 9 = 1 := by kernel_rfl
theorem open_strs {H : Type} {enc : TypeId × Value → H} {W : World} {fuel : Nat} {held : Bool} {v : Value} {x : DataW H × List MemPlace}
    (h : DataW.trod enc Tryz.prog W 0 (fun _ => true) held fuel 42 [v] = some x) :
    ∃ (ad : Option Addr) (cap : Nat) (l : List ByteArray), v = .slice ad l.length cap ∧ l.length ≤ 9223372036854775807 ∧ StrsAt W ad l ∧ ∀ y ∈ l, y.size ≤ 9223372036854775807 := by
  rcases open_strings Tryz.underlying42 Tryz.underlying9 cellsOf_strB h with ⟨hcs, _⟩ | ⟨a, len, cap, ss, hcs, hb, hl, hm, hz, _, hcell, hws⟩
  · simp only [List.cons.injEq, and_true] at hcs
    subst hcs
    exact ⟨none, 0, [], rfl, by simp, fun hne => absurd rfl hne, by simp⟩
  · simp only [List.cons.injEq, and_true] at hcs
    subst hcs
    rw [if_pos rfl] at hz
    have hlen : (ss.take len).length = len := by rw [List.length_take]; omega
    refine ⟨some a, cap, ss.take len, by rw [hlen], by rw [hlen]; unfold maxLen at hm; omega, fun hne => ?_, fun y hy => ?_⟩
    · have h0 : 0 < len := by
        rcases Nat.eq_zero_or_pos len with e | e
        · subst e; simp at hne
        · exact e
      obtain ⟨b, off, spot⟩ := a
      have hc0 := hcell 0 (by omega)
      have hspot : spot = none := by simpa [Addr.add] using World.cell?_spot hc0
      subst hspot
      refine ⟨b, off, rfl, ?_, fun i hi => ?_⟩
      · rcases Nat.lt_or_ge b W.heap.size with hlt | hge
        · exact hlt
        · exfalso
          rw [Go.WideShapes.add_plain] at hc0
          simp [World.cell?, Array.getElem?_eq_none hge] at hc0
      · rw [hlen] at hi
        have c := hcell i (by omega)
        rw [Go.WideShapes.add_plain] at c
        rw [c]
        have hi2 : i < ss.length := by omega
        simp only [List.getElem_take]
        rw [List.getD_eq_getElem?_getD, List.getElem?_eq_getElem hi2]
        rfl
    · have := hws y (List.mem_of_mem_take hy)
      unfold maxLen at this
      omega
end Go.Proofs.YtdmckgcbmbhmmaaGreatDoor
namespace Go.Proofs.YtdmckgcbmbhmmaaGreatDoor
open Go.RowKit Go.Deep

theorem strs_all {H : Type} : ∀ (L : List (DataW H)) (d : DataW H), d ∈ L → ∀ m ∈ d.weights Tryz.prog 9, m ∈ DataW.weightsAll Tryz.prog 9 L
  | [], d, hd, _, _ => by cases hd
  | y :: L, d, hd, m, hm => by
    simp only [DataW.weightsAll]
    rcases List.mem_cons.1 hd with rfl | hd
    · exact List.mem_append.2 (Or.inl hm)
    · exact List.mem_append.2 (Or.inr (strs_all L d hd m hm))
theorem open_strsW {H : Type} {enc : TypeId × Value → H} {W : World} {spare : Nat → Bool} {held : Bool} {fuel : Nat} {v : Value} {x : DataW H × List MemPlace}
    (h : DataW.trod enc Tryz.prog W 0 spare held fuel 42 [v] = some x) :
    ∃ (ad : Option Addr) (cap : Nat) (l : List ByteArray), v = .slice ad l.length cap ∧ l.length ≤ 9223372036854775807 ∧ StrsAt W ad l ∧ (∀ y ∈ l, y.size ≤ 9223372036854775807) ∧ ((∀ m ∈ x.1.weights Tryz.prog 42, m ≤ reachBytes) → ∀ y ∈ l, y.size ≤ reachBytes) := by
  rcases open_slice Tryz.underlying42 h with ⟨hcs, _⟩ | ⟨a, len, cap, m, n, D, Pl, hcs, hb, hl, hm, hmm, hxe, hx⟩
  · simp only [List.cons.injEq, and_true] at hcs
    subst hcs
    exact ⟨none, 0, [], rfl, by simp, fun hne => absurd rfl hne, by simp, by simp⟩
  · simp only [List.cons.injEq, and_true] at hcs
    subst hcs
    have hlm : len ≤ m := by rw [hmm]; split <;> omega
    have each : ∀ i, i < len → ∃ y : ByteArray, W.cell? (a.add i) = some (.string y) ∧ y.size ≤ 9223372036854775807 ∧ ((∀ m ∈ (D i).weights Tryz.prog 9, m ≤ reachBytes) → y.size ≤ reachBytes) := by
      intro i hi
      obtain ⟨cs', h1, h2⟩ := hx i (by omega)
      rw [cellsOf_strB, Nat.mul_one] at h1
      obtain ⟨_, hlen, hcell⟩ := World.cells?_some h1
      match cs', hlen with
      | [v0], _ =>
        obtain ⟨k0, q0, hy0, wf0⟩ := DataW.trod_string Tryz.underlying9 h2
        simp only [List.cons.injEq, and_true] at q0
        subst q0
        have e0 := hcell 0 (by omega)
        unfold maxLen at wf0
        refine ⟨k0, by simpa [Go.Deep.add_add] using e0, by omega, fun hw => ?_⟩
        have := hw k0.data.toList.length (by rw [show D i = _ from congrArg Prod.fst hy0]; simp [DataW.weights])
        simpa using this
    obtain ⟨q, hq⟩ := choose_lt each
    refine ⟨some a, cap, (List.range len).map q, by simp, by simp; unfold maxLen at hm; omega, fun hne => ?_, fun y hy => ?_, fun hw y hy => ?_⟩
    · have h0 : 0 < len := by
        rcases Nat.eq_zero_or_pos len with e | e
        · subst e; simp at hne
        · exact e
      obtain ⟨b, off, spot⟩ := a
      have hc0 := (hq 0 h0).1
      have hspot : spot = none := by simpa [Addr.add] using World.cell?_spot hc0
      subst hspot
      refine ⟨b, off, rfl, ?_, fun i hi => ?_⟩
      · rcases Nat.lt_or_ge b W.heap.size with hlt | hge
        · exact hlt
        · exfalso
          rw [Go.WideShapes.add_plain] at hc0
          simp [World.cell?, Array.getElem?_eq_none hge] at hc0
      · have hi' : i < len := by simpa using hi
        have c0 := (hq i hi').1
        rw [Go.WideShapes.add_plain] at c0
        simp only [List.getElem_map, List.getElem_range]
        exact c0
    · obtain ⟨i, hi, rfl⟩ := List.mem_map.1 hy
      exact (hq i (List.mem_range.1 hi)).2.1
    · obtain ⟨i, hi, rfl⟩ := List.mem_map.1 hy
      refine (hq i (List.mem_range.1 hi)).2.2 (fun m hm => hw m ?_)
      rw [hxe]
      simp only [DataW.weights, Tryz.underlying42]
      refine List.mem_cons_of_mem _ (List.mem_append.2 (Or.inl ?_))
      exact strs_all _ (D i) (List.mem_map.2 ⟨i, hi, rfl⟩) m hm
end Go.Proofs.YtdmckgcbmbhmmaaGreatDoor
namespace Go.Proofs.YtdmckgcbmbhmmaaGreatDoor
open Go.RowKit Go.Deep

/-- One of them. -/
structure Shot where
  a : Option Addr
  c : Nat
  L : List ByteArray
  s : ByteArray
  f : Int
  k : Int
  t : Int
def Shot.ok (a : Shot) : Prop := (a.L.length ≤ 9223372036854775807 ∧ ∀ y ∈ a.L, y.size ≤ 9223372036854775807) ∧ a.s.size ≤ 9223372036854775807 ∧ (-9223372036854775808 ≤ a.f ∧ a.f ≤ 9223372036854775807) ∧ (-9223372036854775808 ≤ a.k ∧ a.k ≤ 9223372036854775807) ∧ (-9223372036854775808 ≤ a.t ∧ a.t ≤ 9223372036854775807)
def ShAt (w : World) (ad : Option Addr) (l : List Shot) : Prop :=
  l ≠ [] → ∃ b off, ad = some ⟨b, off, none⟩ ∧ b < w.heap.size ∧ ∀ i (h : i < l.length), w.cell? ⟨b, off + i * 5, none⟩ = some (.slice l[i].a l[i].L.length l[i].c) ∧ w.cell? ⟨b, off + i * 5 + 1, none⟩ = some (.string l[i].s) ∧ w.cell? ⟨b, off + i * 5 + 2, none⟩ = some (.int .i64 l[i].f) ∧ w.cell? ⟨b, off + i * 5 + 3, none⟩ = some (.int .i64 l[i].k) ∧ w.cell? ⟨b, off + i * 5 + 4, none⟩ = some (.int .i64 l[i].t) ∧ StrsAt w l[i].a l[i].L
theorem StrsAt.kp {w w' : World} {ad : Option Addr} {l : List ByteArray} (h : StrsAt w ad l) (hk : Kp [] w w') : StrsAt w' ad l := fun hl => by
  obtain ⟨b, off, e, hlt, hc⟩ := h hl
  exact ⟨b, off, e, Nat.lt_of_lt_of_le hlt hk.size, fun i hi => hk.cell (hc i hi) (by simp)⟩
theorem ShAt.kp {w w' : World} {ad : Option Addr} {l : List Shot} (h : ShAt w ad l) (hk : Kp [] w w') : ShAt w' ad l := fun hl => by
  obtain ⟨b, off, e, hlt, hc⟩ := h hl
  refine ⟨b, off, e, Nat.lt_of_lt_of_le hlt hk.size, fun i hi => ?_⟩
  obtain ⟨c0, c1, c2, c3, c4, c5⟩ := hc i hi
  exact ⟨hk.cell c0 (by simp), hk.cell c1 (by simp), hk.cell c2 (by simp), hk.cell c3 (by simp), hk.cell c4 (by simp), c5.kp hk⟩
theorem ShAt.at {w : World} {ad : Option Addr} {l : List Shot} (h : ShAt w ad l) (i : Nat) (hi : i < l.length) : ∃ b off, ad = some ⟨b, off, none⟩ ∧ b < w.heap.size ∧ w.cell? ⟨b, off + i * 5, none⟩ = some (.slice l[i].a l[i].L.length l[i].c) ∧ w.cell? ⟨b, off + i * 5 + 1, none⟩ = some (.string l[i].s) ∧ w.cell? ⟨b, off + i * 5 + 2, none⟩ = some (.int .i64 l[i].f) ∧ w.cell? ⟨b, off + i * 5 + 3, none⟩ = some (.int .i64 l[i].k) ∧ w.cell? ⟨b, off + i * 5 + 4, none⟩ = some (.int .i64 l[i].t) ∧ StrsAt w l[i].a l[i].L := by
  obtain ⟨b, off, e, hlt, hc⟩ := h (by intro e; subst e; simp at hi)
  exact ⟨b, off, e, hlt, hc i hi⟩
theorem open_shots_cells : Tryz.prog.cellsOf 44 = 5 := by kernel_rfl
theorem open_shots_cells_strs : Tryz.prog.cellsOf 42 = 1 := by kernel_rfl
theorem open_shots_cells_string : Tryz.prog.cellsOf 9 = 1 := by kernel_rfl
theorem open_shots_cells_int : Tryz.prog.cellsOf 3 = 1 := by kernel_rfl
theorem open_shots_fields : ∃ f0 f1 f2 f3 f4 : Field, Tryz.prog.underlying 44 = some (.struct #[f0, f1, f2, f3, f4]) ∧ f0.type = 42 ∧ f1.type = 9 ∧ f2.type = 3 ∧ f3.type = 3 ∧ f4.type = 3 ∧ f0.offset = 0 ∧ f1.offset = 1 ∧ f2.offset = 2 ∧ f3.offset = 3 ∧ f4.offset = 4 :=
  ⟨_, _, _, _, _, Tryz.underlying44, rfl, rfl, rfl, rfl, rfl, rfl, rfl, rfl, rfl, rfl⟩
theorem open_shots_list {α : Type} : ∀ (l : List α), l.length = 5 → ∃ x0 x1 x2 x3 x4, l = [x0, x1, x2, x3, x4]
  | [x0, x1, x2, x3, x4], _ => ⟨x0, x1, x2, x3, x4, rfl⟩
set_option maxRecDepth 100000 in
theorem open_shots {H : Type} {enc : TypeId × Value → H} {W : World} {spare : Nat → Bool} {held : Bool} {fuel : Nat} {v : Value} {x : DataW H × List MemPlace}
    (h : DataW.trod enc Tryz.prog W 0 spare held fuel 41 [v] = some x) :
    ∃ (ad : Option Addr) (cap : Nat) (l : List Shot), v = .slice ad l.length cap ∧ l.length ≤ 9223372036854775807 ∧ ShAt W ad l ∧ ∀ y ∈ l, y.ok := by
  obtain ⟨f0, f1, f2, f3, f4, hu, t0, t1, t2, t3, t4, o0, o1, o2, o3, o4⟩ := open_shots_fields
  rcases open_slice Tryz.underlying41 h with ⟨hcs, _⟩ | ⟨a, len, cap, m, n, D, Pl, hcs, hb, hl, hm, hmm, _, hx⟩
  · simp only [List.cons.injEq, and_true] at hcs
    subst hcs
    exact ⟨none, 0, [], rfl, by simp, fun hne => absurd rfl hne, by simp⟩
  · simp only [List.cons.injEq, and_true] at hcs
    subst hcs
    have hlm : len ≤ m := by rw [hmm]; split <;> omega
    have each : ∀ i, i < len → ∃ y : Shot, W.cell? (a.add (i * 5)) = some (.slice y.a y.L.length y.c) ∧ W.cell? (a.add (i * 5 + 1)) = some (.string y.s) ∧ W.cell? (a.add (i * 5 + 2)) = some (.int .i64 y.f) ∧ W.cell? (a.add (i * 5 + 3)) = some (.int .i64 y.k) ∧ W.cell? (a.add (i * 5 + 4)) = some (.int .i64 y.t) ∧ StrsAt W y.a y.L ∧ y.ok := by
      intro i hi
      obtain ⟨cs', h1, h2⟩ := hx i (by omega)
      rw [open_shots_cells] at h1
      obtain ⟨_, hlen, hcell⟩ := World.cells?_some h1
      obtain ⟨xs, k, hk, hxy, _, hxl, hf⟩ := DataW.trod_struct hu h2
      obtain ⟨y0, y1, y2, y3, y4, rfl⟩ := open_shots_list xs hxl
      obtain ⟨v0, v1, v2, v3, v4, rfl⟩ := open_shots_list cs' hlen
      have g0 := hf 0 f0 rfl
      have g1 := hf 1 f1 rfl
      have g2 := hf 2 f2 rfl
      have g3 := hf 3 f3 rfl
      have g4 := hf 4 f4 rfl
      simp [o0, o1, o2, o3, o4, t0, t1, t2, t3, t4, open_shots_cells_strs, open_shots_cells_string, open_shots_cells_int] at g0 g1 g2 g3 g4
      have e0 := hcell 0 (by omega)
      have e1 := hcell 1 (by omega)
      have e2 := hcell 2 (by omega)
      have e3 := hcell 3 (by omega)
      have e4 := hcell 4 (by omega)
      rw [Go.Deep.add_add] at e0 e1 e2 e3 e4
      obtain ⟨ka, kc, kl, q0, wf0, st0, sz0, _⟩ := open_strsW g0
      obtain ⟨k1, q1, _, wf1⟩ := DataW.trod_string Tryz.underlying9 g1
      obtain ⟨k2, q2, _, wf2⟩ := DataW.trod_int Tryz.underlying3 g2
      obtain ⟨k3, q3, _, wf3⟩ := DataW.trod_int Tryz.underlying3 g3
      obtain ⟨k4, q4, _, wf4⟩ := DataW.trod_int Tryz.underlying3 g4
      simp only [List.cons.injEq, and_true] at q1 q2 q3 q4
      subst q0 q1 q2 q3 q4
      unfold maxLen at wf1
      have b2 := bounds_i64 wf2
      have b3 := bounds_i64 wf3
      have b4 := bounds_i64 wf4
      exact ⟨⟨ka, kc, kl, k1, k2, k3, k4⟩, by simpa using e0, by simpa using e1, by simpa using e2, by simpa using e3, by simpa using e4, st0, ⟨wf0, sz0⟩, by show k1.size ≤ _; omega, ⟨b2.1, by show k2 ≤ _; omega⟩, ⟨b3.1, by show k3 ≤ _; omega⟩, ⟨b4.1, by show k4 ≤ _; omega⟩⟩
    have hinh : Inhabited Shot := ⟨⟨none, 0, [], ⟨#[]⟩, 0, 0, 0⟩⟩
    obtain ⟨q, hq⟩ := choose_lt each
    refine ⟨some a, cap, (List.range len).map q, by simp, by simp; unfold maxLen at hm; omega, fun hne => ?_, fun y hy => ?_⟩
    · have h0 : 0 < len := by
        rcases Nat.eq_zero_or_pos len with e | e
        · subst e; simp at hne
        · exact e
      obtain ⟨b, off, spot⟩ := a
      have hc0 := (hq 0 h0).1
      have hspot : spot = none := by simpa [Addr.add] using World.cell?_spot hc0
      subst hspot
      refine ⟨b, off, rfl, ?_, fun i hi => ?_⟩
      · rcases Nat.lt_or_ge b W.heap.size with hlt | hge
        · exact hlt
        · exfalso
          rw [Go.WideShapes.add_plain] at hc0
          simp [World.cell?, Array.getElem?_eq_none hge] at hc0
      · have hi' : i < len := by simpa using hi
        obtain ⟨c0, c1, c2, c3, c4, c5, _⟩ := hq i hi'
        rw [Go.WideShapes.add_plain] at c0 c1 c2 c3 c4
        simp only [List.getElem_map, List.getElem_range]
        exact ⟨c0, by rw [Nat.add_assoc]; exact c1, by rw [Nat.add_assoc]; exact c2, by rw [Nat.add_assoc]; exact c3, by rw [Nat.add_assoc]; exact c4, c5⟩
    · obtain ⟨i, hi, rfl⟩ := List.mem_map.1 hy
      exact (hq i (List.mem_range.1 hi)).2.2.2.2.2.2
end Go.Proofs.YtdmckgcbmbhmmaaGreatDoor
