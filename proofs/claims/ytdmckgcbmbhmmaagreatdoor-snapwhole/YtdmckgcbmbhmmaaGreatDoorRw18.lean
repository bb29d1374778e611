/-
  What is collected: plainly.
  Snapshots on a disk where nothing goes wrong: what each call answers and leaves.
  The example of the chapter, and numbers that come in any order: plainly.
  Snapshots: which numbers may be; a task's file's name, made.
-/
import Derived.Test.YtdmckgcbmbhmmaaGreatDoorRw16
import Derived.Test.YtdmckgcbmbhmmaaGreatDoorRw17
import Derived.Test.YtdmckgcbmbhmmaaGreatDoorRw15
import Derived.Test.YtdmckgcbmbhmmaaGreatDoorRw03
namespace Go.Proofs.YtdmckgcbmbhmmaaGreatDoor
open Go.RowKit

def Dk.coll (d : Dk) : Int × Int × Dk := if d.laE = 0 then clF d.laM.c (nmL d.now) 0 d else (0, d.laE, d)
theorem nmL_iff {fs : Fs} {n : ByteArray} : n ∈ nmL fs ↔ (getF fs n).isSome = true := by
  constructor
  · intro h
    obtain ⟨l, hl⟩ := nmL_mem h
    unfold getF
    rw [Option.isSome_map, List.find?_isSome]
    exact ⟨_, hl, by simp⟩
  · intro h
    cases hg : getF fs n with
    | none => rw [hg] at h; cases h
    | some l =>
      unfold nmL
      exact List.mem_map.2 ⟨n.data.toList, (List.mergeSort_perm _ _).mem_iff.2 (List.mem_map.2 ⟨_, getF_some hg, rfl⟩), snA n⟩
theorem nmL_nodup {fs : Fs} (h : (fs.map (·.1)).Nodup) : (nmL fs).Nodup := by
  unfold nmL
  have h1 : (fs.map fun p => p.1.data.toList).Nodup := by
    have := List.Pairwise.map (fun s : ByteArray => s.data.toList) (S := fun a b => a ≠ b) (fun a b hab e => hab (by rw [← snA a, ← snA b, e])) h
    rwa [List.map_map] at this
  have h2 := (List.mergeSort_perm (fs.map fun p => p.1.data.toList) (fun x y => decide (x ≤ y))).nodup_iff.2 h1
  exact List.Pairwise.map (fun l : List UInt8 => (⟨l.toArray⟩ : ByteArray)) (S := fun a b => a ≠ b) (fun a b hab e => hab (by have := congrArg (fun s : ByteArray => s.data.toList) e; simpa using this)) h2
/-- Files that are just those of a list are as many. -/
theorem now_len {fs : Fs} (h : (fs.map (·.1)).Nodup) {l : List ByteArray} (hl : l.Nodup) (he : ∀ n, (getF fs n).isSome = true ↔ n ∈ l) : fs.length = l.length := by
  have h0 := nmL_len fs
  have h1 := len_le_of_sub (nmL_nodup h) (fun x hx => (he x).1 (nmL_iff.1 hx))
  have h2 := len_le_of_sub hl (A := nmL fs) (fun x hx => nmL_iff.2 ((he x).2 hx))
  omega
theorem otB_nm {c t : Nat} (hc : 1 ≤ c ∧ c ≤ 1073741824) (ht : t ≤ 32) (k : Int) : otB k (sNm c t) = decide ((c : Int) ≠ k) := by
  unfold otB
  rw [snP_nm c t hc.1 hc.2 ht]
theorem otB_m (k : Int) : otB k mNm = false := by
  unfold otB
  rw [snP_m]
theorem otB_new (k : Int) : otB k mNew = false := by
  unfold otB
  rw [snP_new]
def ClR (A : List ByteArray) (R : Get → Prop) (c : Int) (l : List ByteArray) (k : Int) (j : Nat) (d : Dk) (r : Int × Int × Dk) : Prop :=
  (r.2.1 = 0 ∧ r.1 = k + ((l.filter fun n => otB c n).length : Int) ∧ Jd A R (j + (l.filter fun n => otB c n).length) r.2.2 ∧ (∀ m, (m ∈ l → otB c m = true → getF r.2.2.now m = none) ∧ ((m ∈ l → otB c m = false) → getF r.2.2.now m = getF d.now m)) ∧ (Fz d → Fz r.2.2)) ∨ (r.2.1 = 31 ∧ Jd A R (j + l.length) r.2.2 ∧ ¬ Fz d)
theorem clF_res {A : List ByteArray} {R : Get → Prop} (c : Int) (hF : ∀ n, otB c n = true → Frn R n) (hD : ∀ n ∈ A, dnm n = true) : ∀ (l : List ByteArray) (k : Int) (j : Nat) (d : Dk), Jd A R j d → j + l.length ≤ 1000 → l.Nodup → (∀ n ∈ l, (getF d.now n).isSome = true) → ClR A R c l k j d (clF c l k d)
  | [], k, j, d, h, _, _, _ => Or.inl ⟨rfl, by show k = k + ((0 : Nat) : Int); omega, h.mono (fun _ => id) (Nat.le_refl _), fun m => ⟨fun hm => absurd hm (by simp), fun _ => rfl⟩, id⟩
  | n :: l, k, j, d, h, hj, hn, hs => by
    rw [List.nodup_cons] at hn
    rw [List.length_cons] at hj
    by_cases ho : otB c n = true
    · rw [clF, if_pos ho]
      have hsn := hs n List.mem_cons_self
      rcases h.rm (by omega) (hD n (h.sm.in hsn)) (hF n ho) with ⟨_, _, hg⟩ | ⟨_, hr⟩
      · rw [hg] at hsn; cases hsn
      · rcases hr with ⟨e, k1, m, z⟩ | ⟨e, k1, z⟩
        · dsimp only at e k1 m z
          rw [if_pos e]
          rcases clF_res c hF hD l (k + 1) (j + 1) (d.rmD n) k1 (by omega) hn.2 (fun x hx => by
            rw [m x]
            unfold gSet
            rw [if_neg (fun e => hn.1 (by rw [← e]; exact hx))]
            exact hs x (List.mem_cons_of_mem _ hx)) with ⟨a1, a2, a3, a4, a5⟩ | ⟨a1, a2, a3⟩
          · refine Or.inl ⟨a1, ?_, a3.mono (fun _ => id) (by rw [List.filter_cons_of_pos (by exact ho), List.length_cons]; omega), fun x => ⟨fun hx hox => ?_, fun hx => ?_⟩, fun hz => a5 (z hz)⟩
            · rw [a2, List.filter_cons_of_pos (by exact ho), List.length_cons]; omega
            · by_cases hxn : x = n
              · rw [(a4 x).2 (fun h => absurd h (by rw [hxn]; exact hn.1)), m x]
                exact if_pos hxn
              · exact (a4 x).1 ((List.mem_cons.1 hx).resolve_left hxn) hox
            · have hxn : x ≠ n := fun e => by
                have := hx (by rw [e]; exact List.mem_cons_self)
                rw [e, ho] at this; cases this
              rw [(a4 x).2 (fun h => hx (List.mem_cons_of_mem _ h)), m x]
              exact if_neg hxn
          · exact Or.inr ⟨a1, a2.mono (fun _ => id) (by rw [List.length_cons]; omega), fun hz => a3 (z hz)⟩
        · dsimp only at e k1 z
          rw [if_neg (by omega)]
          exact Or.inr ⟨e, k1.mono (fun _ => id) (by rw [List.length_cons]; omega), z⟩
    · rw [clF, if_neg ho]
      rcases clF_res c hF hD l k j d h (by omega) hn.2 (fun x hx => hs x (List.mem_cons_of_mem _ hx)) with ⟨a1, a2, a3, a4, a5⟩ | ⟨a1, a2, a3⟩
      · refine Or.inl ⟨a1, ?_, a3.mono (fun _ => id) (by rw [List.filter_cons_of_neg (by exact ho)]; exact Nat.le_refl _), fun x => ⟨fun hx hox => ?_, fun hx => (a4 x).2 (fun h => hx (List.mem_cons_of_mem _ h))⟩, a5⟩
        · rw [a2, List.filter_cons_of_neg (by exact ho)]
        · exact (a4 x).1 ((List.mem_cons.1 hx).resolve_left (fun e => ho (by rw [← e]; exact hox))) hox
      · exact Or.inr ⟨a1, a2.mono (fun _ => id) (by rw [List.length_cons]; omega), a3⟩
/-- Collect, where a snapshot counts. -/
theorem Jd.coll {A : List ByteArray} {R : Get → Prop} {j : Nat} {d : Dk} (h : Jd A R j d) (hj : j ≤ 900) (hL : A.length ≤ 63) (hD : ∀ n ∈ A, dnm n = true) {l t : Int} {s : ByteArray} (hl : 1 ≤ l ∧ l ≤ 1073741824) (ht : 1 ≤ t ∧ t ≤ 33) (hs : s.size ≤ 500) (hg : getF d.now mNm = some (mfB l t s).data.toList)
    (hF : ∀ n, otB l n = true → Frn R n) :
    (d.coll.2.1 = 0 ∧ d.coll.1 = (((nmL d.now).filter fun n => otB l n).length : Int) ∧ Jd A R (j + ((nmL d.now).filter fun n => otB l n).length) d.coll.2.2 ∧ (∀ m, getF d.coll.2.2.now m = if otB l m = true then none else getF d.now m) ∧ (Fz d → Fz d.coll.2.2)) ∨ (d.coll.2.1 = 31 ∧ Jd A R (j + 63) d.coll.2.2 ∧ ¬ Fz d) := by
  obtain ⟨e1, e2⟩ := la_fr hl ht hs hg
  have hlen : (nmL d.now).length ≤ 63 := by rw [nmL_len]; exact Nat.le_trans h.sm.len hL
  unfold Dk.coll
  rw [if_pos e1, e2]
  show ((clF l (nmL d.now) 0 d).2.1 = 0 ∧ _) ∨ _
  rcases clF_res l hF hD (nmL d.now) 0 j d h (by omega) (nmL_nodup h.sm.nd) (fun n hn => nmL_iff.1 hn) with ⟨a1, a2, a3, a4, a5⟩ | ⟨a1, a2, a3⟩
  · refine Or.inl ⟨a1, ?_, a3, fun m => ?_, a5⟩
    · rw [a2]; omega
    · by_cases ho : otB l m = true
      · rw [if_pos ho]
        by_cases hm : m ∈ nmL d.now
        · exact (a4 m).1 hm ho
        · rw [(a4 m).2 (fun h => absurd h hm)]
          cases hh : getF d.now m with
          | none => rfl
          | some x => exact absurd (nmL_iff.2 (by rw [hh]; rfl)) hm
      · rw [if_neg ho]
        exact (a4 m).2 (fun _ => by simpa using ho)
  · exact Or.inr ⟨a1, a2.mono (fun _ => id) (by omega), a3⟩
end Go.Proofs.YtdmckgcbmbhmmaaGreatDoor
namespace Go.Proofs.YtdmckgcbmbhmmaaGreatDoor
open Go.RowKit

structure Gn (A : List ByteArray) (j : Nat) (g : Get) (d : Dk) : Prop where
  jd : Jd A (fun _ => True) j d
  fz : Fz d
  get : ∀ m, getF d.now m = g m
theorem frn_true (n : ByteArray) : Frn (fun _ => True) n := fun _ _ _ h => h
/-- The number that counts. -/
def LtN (g : Get) (l : Nat) : Prop := (l = 0 ∧ g mNm = none) ∨ ((1 ≤ l ∧ l ≤ 1073741824) ∧ ∃ t : Nat, ∃ s : ByteArray, (1 ≤ t ∧ t ≤ 33) ∧ s.size ≤ 500 ∧ g mNm = some (mfB (l : Int) (t : Int) s).data.toList)
/-- The tasks' files are there. -/
def TkN (g : Get) (c n : Nat) (f : Nat → ByteArray) : Prop := ∀ t, t < n → g (sNm c t) = some (frS (f t)).data.toList ∧ (f t).size ≤ 65536
section
variable {A : List ByteArray} {j : Nat} {g : Get} {d : Dk}
theorem Gn.new : Gn A 0 (fun _ => none) Dk.new := ⟨Jd.empty ⟨Sm.nil, trivial⟩, ⟨rfl, rfl⟩, fun _ => rfl⟩
theorem Gn.eq (h : Gn A j g d) {g' : Get} (he : ∀ m, g m = g' m) : Gn A j g' d := ⟨h.jd, h.fz, fun m => (h.get m).trans (he m)⟩
theorem Res.gn {R R1 : Get → Prop} {i i1 : Nat} {N : Get → Get} {r : Int × Dk} (h : Res A R R1 i i1 d N r) (hz : Fz d) (hg : ∀ m, getF d.now m = g m) : r.1 = 0 ∧ Gn A i1 (N g) r.2 := by
  rcases h with ⟨e, k, m, z⟩ | ⟨_, _, z⟩
  · exact ⟨e, k.mono (fun _ _ => trivial) (Nat.le_refl _), z hz, fun x => by rw [m x, funext hg]⟩
  · exact absurd hz z
theorem ah_lt {l : Nat} (hl : LtN (getF d.now) l) {c : Nat} (hc : 1 ≤ c) : d.ahE c = if c ≤ l then 220 else 0 := by
  rcases hl with ⟨rfl, hg⟩ | ⟨h1, t, s, h2, h3, hg⟩
  · rw [ah_none hg (by omega), if_neg (by omega)]
  · rw [ah_fr (l := l) (t := t) ⟨by omega, by omega⟩ ⟨by omega, by omega⟩ h3 hg]
    by_cases h : c ≤ l
    · rw [if_pos (by omega), if_pos h]
    · rw [if_neg (by omega), if_neg h]
theorem Gn.lt (h : Gn A j g d) {l : Nat} (hl : LtN g l) : LtN (getF d.now) l := by rw [funext h.get]; exact hl
theorem Gn.put (h : Gn A j g d) (hj : j < 1000) (hL : A.length ≤ 63) {l c t : Nat} {b : ByteArray} (hl : LtN g l) (hc : 1 ≤ c ∧ c ≤ 1073741824) (hcl : l < c) (ht : t ≤ 32) (hA : sNm c t ∈ A) (hb : b.size ≤ 500) :
    (d.put c t b).1 = 0 ∧ Gn A (j + 2) (gSet (sNm c t) (some (frS b).data.toList) g) (d.put c t b).2 :=
  (h.jd.put hj hL hc ht hA hb (frn_true _) (by rw [ah_lt (h.lt hl) hc.1, if_neg (by omega)])).gn h.fz h.get
theorem Gn.put_not (h : Gn A j g d) {l c t : Nat} {b : ByteArray} (hl : LtN g l) (hc : 1 ≤ c ∧ c ≤ 1073741824) (hcl : c ≤ l) (ht : t ≤ 32) (hb : b.size ≤ 65536) : d.put c t b = (220, d) := by
  rw [put_eq hc ht hb, ah_lt (h.lt hl) hc.1, if_pos hcl, if_neg (by decide)]
theorem Gn.commit (h : Gn A j g d) (hj : j < 900) (hm : mNm ∈ A) (hn : mNew ∈ A) (hL : A.length ≤ 63) {l c n : Nat} {s : ByteArray} {f : Nat → ByteArray} (hl : LtN g l) (hc : 1 ≤ c ∧ c ≤ 1073741824) (hcl : l < c) (hn1 : 1 ≤ n ∧ n ≤ 33) (hs : s.size ≤ 500) (hT : TkN g c n f) :
    (d.commit c n s).1 = 0 ∧ Gn A 0 (gSet mNm (some (mfB (c : Int) (n : Int) s).data.toList) (gSet mNew none g)) (d.commit c n s).2 := by
  rw [commit_eq hc hn1 hs, ah_lt (h.lt hl) hc.1, if_neg (by omega : ¬ c ≤ l), if_pos rfl, if_pos (allB_fr (f := f) hc.2 hn1.2 (fun t ht => by rw [h.get]; exact hT t ht))]
  have hb := mfB_siz (c := (c : Int)) (t := (n : Int)) (s := s) ⟨by omega, by omega⟩ ⟨by omega, by omega⟩ hs
  exact (h.jd.place (K := fun _ => True) hj hm hn hL (by omega) trivial (frn_true _) (frn_true _) (frn_true _)).gn h.fz h.get
theorem Gn.commit_not (h : Gn A j g d) {l c n : Nat} {s : ByteArray} (hl : LtN g l) (hc : 1 ≤ c ∧ c ≤ 1073741824) (hcl : c ≤ l) (hn1 : 1 ≤ n ∧ n ≤ 33) (hs : s.size ≤ 500) : d.commit c n s = (220, d) := by
  rw [commit_eq hc hn1 hs, ah_lt (h.lt hl) hc.1, if_pos hcl, if_neg (by decide)]
theorem Gn.la (h : Gn A j g d) {l t : Nat} {s : ByteArray} (hl : 1 ≤ l ∧ l ≤ 1073741824) (ht : 1 ≤ t ∧ t ≤ 33) (hs : s.size ≤ 500) (hg : g mNm = some (mfB (l : Int) (t : Int) s).data.toList) : d.laE = 0 ∧ d.laM = ⟨l, t, s⟩ :=
  la_fr ⟨by omega, by omega⟩ ⟨by omega, by omega⟩ hs ((h.get _).trans hg)
theorem Gn.re (h : Gn A j g d) {c t : Nat} {b : ByteArray} (hc : 1 ≤ c ∧ c ≤ 1073741824) (ht : t ≤ 32) (hb : b.size ≤ 65536) (hg : g (sNm c t) = some (frS b).data.toList) : d.reE c t = 0 ∧ d.reS c t = b := by
  obtain ⟨e1, e2⟩ := re_eq (d := d) hc ht
  rw [e1, e2]
  exact sn_one (sNm_dnm c t hc.2 ht) ((h.get _).trans hg) hb
theorem Gn.re_not (h : Gn A j g d) {c t : Nat} (hc : 1 ≤ c ∧ c ≤ 1073741824) (ht : t ≤ 32) (hg : g (sNm c t) = none) : d.reE c t = 5 := by
  rw [(re_eq (d := d) hc ht).1]
  exact sn_none (sNm_dnm c t hc.2 ht) ((h.get _).trans hg)
theorem Gn.names (h : Gn A j g d) {l : List ByteArray} (hl : l.Nodup) (he : ∀ n, (g n).isSome = true ↔ n ∈ l) : (nmL d.now).length = l.length := by
  rw [nmL_len]
  exact now_len h.jd.sm.nd hl (fun n => by rw [h.get]; exact he n)
theorem Gn.count (h : Gn A j g d) (P : ByteArray → Bool) {l : List ByteArray} (hl : l.Nodup) (he : ∀ n, ((g n).isSome = true ∧ P n = true) ↔ n ∈ l) : ((nmL d.now).filter fun n => P n).length = l.length := by
  have h1 := len_le_of_sub (l := (nmL d.now).filter fun n => P n) (A := l) ((List.filter_sublist).nodup (nmL_nodup h.jd.sm.nd)) (fun x hx => by
    obtain ⟨a, b⟩ := List.mem_filter.1 hx
    exact (he x).1 ⟨by rw [← h.get]; exact nmL_iff.1 a, b⟩)
  have h2 := len_le_of_sub hl (A := (nmL d.now).filter fun n => P n) (fun x hx => by
    obtain ⟨a, b⟩ := (he x).2 hx
    exact List.mem_filter.2 ⟨nmL_iff.2 (by rw [h.get]; exact a), b⟩)
  omega
theorem Gn.coll (h : Gn A j g d) (hj : j ≤ 900) (hL : A.length ≤ 63) (hD : ∀ n ∈ A, dnm n = true) {l t : Nat} {s : ByteArray} (hl : 1 ≤ l ∧ l ≤ 1073741824) (ht : 1 ≤ t ∧ t ≤ 33) (hs : s.size ≤ 500) (hg : g mNm = some (mfB (l : Int) (t : Int) s).data.toList)
    {L : List ByteArray} (hn : L.Nodup) (he : ∀ n, ((g n).isSome = true ∧ otB l n = true) ↔ n ∈ L) :
    d.coll.2.1 = 0 ∧ d.coll.1 = (L.length : Int) ∧ Gn A (j + L.length) (fun m => if otB l m = true then none else g m) d.coll.2.2 := by
  have hc := h.count (fun n => otB l n) hn he
  rcases h.jd.coll hj hL hD (l := l) (t := t) (s := s) ⟨by omega, by omega⟩ ⟨by omega, by omega⟩ hs ((h.get _).trans hg) (fun _ _ => frn_true _) with ⟨a1, a2, a3, a4, a5⟩ | ⟨_, _, a⟩
  · rw [hc] at a2 a3
    exact ⟨a1, a2, a3, a5 h.fz, fun m => by rw [a4 m, h.get m]⟩
  · exact absurd h.fz a
end
end Go.Proofs.YtdmckgcbmbhmmaaGreatDoor
namespace Go.Proofs.YtdmckgcbmbhmmaaGreatDoor
open Go.RowKit

def bx : ByteArray := ⟨#[120]⟩
def bt : ByteArray := ⟨#[116]⟩
def rA : List ByteArray := mNm :: mNew :: (List.range 60).map fun k => sNm (k + 1) 0
def gR (l : Nat) : Get := if l = 0 then fun _ => none else gSet mNm (some (mfB (l : Int) ((1 : Nat) : Int) bt).data.toList) (gSet (sNm l 0) (some (frS bx).data.toList) fun _ => none)
theorem rA_len : rA.length ≤ 63 := by unfold rA; rw [List.length_cons, List.length_cons, List.length_map, List.length_range]; omega
theorem rA_nm {c : Nat} (h1 : 1 ≤ c) (h2 : c ≤ 60) : sNm c 0 ∈ rA := by
  unfold rA
  refine List.mem_cons_of_mem _ (List.mem_cons_of_mem _ (List.mem_map.2 ⟨c - 1, List.mem_range.2 (by omega), ?_⟩))
  rw [show c - 1 + 1 = c by omega]
theorem rA_m : mNm ∈ rA := List.mem_cons_self
theorem rA_new : mNew ∈ rA := List.mem_cons_of_mem _ List.mem_cons_self
theorem rA_dnm : ∀ n ∈ rA, dnm n = true := fun n hn => by
  unfold rA at hn
  rw [List.mem_cons, List.mem_cons, List.mem_map] at hn
  rcases hn with rfl | rfl | ⟨k, hk, rfl⟩
  · exact dnm_m
  · exact dnm_new
  · exact sNm_dnm _ _ (by have := List.mem_range.1 hk; omega) (by decide)
theorem gSet_eq (n : ByteArray) (v : Option (List UInt8)) (g : Get) : gSet n v g n = v := if_pos rfl
theorem gSet_ne {m n : ByteArray} (h : m ≠ n) (v : Option (List UInt8)) (g : Get) : gSet n v g m = g m := if_neg h
theorem gR_m {l : Nat} (h : 1 ≤ l) : gR l mNm = some (mfB (l : Int) ((1 : Nat) : Int) bt).data.toList := by
  unfold gR
  rw [if_neg (by omega)]
  exact gSet_eq _ _ _
theorem gR_s {l : Nat} (h : 1 ≤ l) : gR l (sNm l 0) = some (frS bx).data.toList := by
  unfold gR
  rw [if_neg (by omega), gSet_ne (sNm_ne_m _ _)]
  exact gSet_eq _ _ _
theorem gR_no {l : Nat} {n : ByteArray} (h1 : n ≠ mNm) (h2 : n ≠ sNm l 0) : gR l n = none := by
  unfold gR
  split
  · rfl
  · rw [gSet_ne h1, gSet_ne h2]
theorem gR_lt {l : Nat} (h : l ≤ 60) : LtN (gR l) l := by
  by_cases h0 : l = 0
  · subst h0
    exact Or.inl ⟨rfl, rfl⟩
  · exact Or.inr ⟨⟨by omega, by omega⟩, 1, bt, ⟨by decide, by decide⟩, by decide, gR_m (by omega)⟩
theorem gR_is {l : Nat} (h : 1 ≤ l) (n : ByteArray) : (gR l n).isSome = true ↔ n ∈ [mNm, sNm l 0] := by
  rw [List.mem_cons, List.mem_singleton]
  constructor
  · intro hs
    by_cases h1 : n = mNm
    · exact Or.inl h1
    · by_cases h2 : n = sNm l 0
      · exact Or.inr h2
      · rw [gR_no h1 h2] at hs; cases hs
  · rintro (rfl | rfl)
    · rw [gR_m h]; rfl
    · rw [gR_s h]; rfl
/-- Where a number is taken, or is not. -/
structure Rise (d d' : Dk) (j l : Nat) : Prop where
  la : d.laE = 0 ∧ d.laM = ⟨(l : Int), 1, bt⟩
  ce : d.coll.2.1 = 0
  eq : d.coll.2.2 = d'
  gn : Gn rA j (gR l) d'
  two : (nmL d'.now).length = 2
theorem rise_lo {d : Dk} {j l : Nat} (h : Gn rA j (gR l) d) (hj : j ≤ 900) (h1 : 1 ≤ l) (h2 : l ≤ 60) : Rise d d.coll.2.2 j l := by
  obtain ⟨a, b, c⟩ := h.coll hj rA_len rA_dnm (l := l) (t := 1) (s := bt) ⟨h1, by omega⟩ ⟨by decide, by decide⟩ (by decide) (gR_m h1) (L := []) List.nodup_nil (fun n => by
    rw [gR_is h1, List.mem_cons, List.mem_singleton]
    constructor
    · rintro ⟨rfl | rfl, ho⟩
      · rw [otB_m] at ho; cases ho
      · rw [otB_nm ⟨h1, by omega⟩ (by decide)] at ho; simp at ho
    · exact fun hn => absurd hn (by simp))
  have hg : Gn rA j (gR l) d.coll.2.2 := c.eq (fun m => by
    by_cases ho : otB l m = true
    · rw [if_pos ho]
      refine (gR_no (fun e => ?_) (fun e => ?_)).symm
      · rw [e, otB_m] at ho; cases ho
      · rw [e, otB_nm ⟨h1, by omega⟩ (by decide)] at ho; simp at ho
    · rw [if_neg ho])
  exact ⟨h.la ⟨h1, by omega⟩ ⟨by decide, by decide⟩ (by decide) (gR_m h1), a, rfl, hg, hg.names (l := [mNm, sNm l 0]) (by
    rw [List.nodup_cons, List.mem_singleton]
    exact ⟨(sNm_ne_m _ _).symm, by simp⟩) (gR_is h1)⟩
theorem rise_hi {d : Dk} {j l c : Nat} (h : Gn rA j (gR l) d) (hj : j ≤ 890) (hl : l < c) (hc : c ≤ 60) :
    (d.put c ((0 : Nat) : Int) bx).1 = 0 ∧ ((d.put c ((0 : Nat) : Int) bx).2.commit c ((1 : Nat) : Int) bt).1 = 0 ∧ Rise ((d.put c ((0 : Nat) : Int) bx).2.commit c ((1 : Nat) : Int) bt).2 ((d.put c ((0 : Nat) : Int) bx).2.commit c ((1 : Nat) : Int) bt).2.coll.2.2 1 c := by
  obtain ⟨e1, h1⟩ := h.put (t := 0) (b := bx) (by omega) rA_len (gR_lt (by omega)) ⟨by omega, by omega⟩ hl (by decide) (rA_nm (by omega) hc) (by decide)
  obtain ⟨e2, h2⟩ := h1.commit (n := 1) (s := bt) (f := fun _ => bx) (c := c) (l := l) (by omega) rA_m rA_new rA_len (by
    rcases gR_lt (l := l) (by omega) with ⟨a, b⟩ | ⟨a, t, s, b, e, f⟩
    · exact Or.inl ⟨a, by rw [gSet_ne (sNm_ne_m _ _).symm]; exact b⟩
    · exact Or.inr ⟨a, t, s, b, e, by rw [gSet_ne (sNm_ne_m _ _).symm]; exact f⟩) ⟨by omega, by omega⟩ hl ⟨by decide, by decide⟩ (by decide) (fun t ht => by
    obtain rfl : t = 0 := by omega
    exact ⟨gSet_eq _ _ _, by decide⟩)
  refine ⟨e1, e2, ?_⟩
  generalize ((d.put c ((0 : Nat) : Int) bx).2.commit c ((1 : Nat) : Int) bt).2 = d2 at *
  have hm : gSet mNm (some (mfB (c : Int) ((1 : Nat) : Int) bt).data.toList) (gSet mNew none (gSet (sNm c 0) (some (frS bx).data.toList) (gR l))) mNm = some (mfB (c : Int) ((1 : Nat) : Int) bt).data.toList := gSet_eq _ _ _
  have hc1 : 1 ≤ c := by omega
  have hs : gSet mNm (some (mfB (c : Int) ((1 : Nat) : Int) bt).data.toList) (gSet mNew none (gSet (sNm c 0) (some (frS bx).data.toList) (gR l))) (sNm c 0) = some (frS bx).data.toList := by
    rw [gSet_ne (sNm_ne_m _ _), gSet_ne (sNm_ne_new _ _)]
    exact gSet_eq _ _ _
  have hn : gSet mNm (some (mfB (c : Int) ((1 : Nat) : Int) bt).data.toList) (gSet mNew none (gSet (sNm c 0) (some (frS bx).data.toList) (gR l))) mNew = none := by
    rw [gSet_ne mNew_ne_m]
    exact gSet_eq _ _ _
  have ho : ∀ m, m ≠ mNm → m ≠ sNm c 0 → m ≠ mNew → gSet mNm (some (mfB (c : Int) ((1 : Nat) : Int) bt).data.toList) (gSet mNew none (gSet (sNm c 0) (some (frS bx).data.toList) (gR l))) m = gR l m := fun m a b e => by rw [gSet_ne a, gSet_ne e, gSet_ne b]
  generalize gSet mNm (some (mfB (c : Int) ((1 : Nat) : Int) bt).data.toList) (gSet mNew none (gSet (sNm c 0) (some (frS bx).data.toList) (gR l))) = g at *
  have hne : l ≠ 0 → sNm l 0 ≠ sNm c 0 := fun h0 e => by
    have := (sNm_inj (by omega) (by omega) (by decide) hc1 (by omega) (by decide) e).1
    omega
  have hL : ∃ L : List ByteArray, L.Nodup ∧ L.length ≤ 1 ∧ ∀ n, ((g n).isSome = true ∧ otB c n = true) ↔ n ∈ L := by
    by_cases h0 : l = 0
    · refine ⟨[], List.nodup_nil, by simp, fun n => ⟨fun ⟨a, b⟩ => ?_, fun hx => absurd hx (by simp)⟩⟩
      by_cases n1 : n = mNm
      · rw [n1, otB_m] at b; cases b
      · by_cases n2 : n = sNm c 0
        · rw [n2, otB_nm ⟨hc1, by omega⟩ (by decide)] at b; simp at b
        · by_cases n3 : n = mNew
          · rw [n3, hn] at a; cases a
          · rw [ho n n1 n2 n3, h0] at a
            cases a
    · refine ⟨[sNm l 0], by simp, by simp, fun n => ⟨fun ⟨a, b⟩ => ?_, fun hx => ?_⟩⟩
      · by_cases n1 : n = mNm
        · rw [n1, otB_m] at b; cases b
        · by_cases n2 : n = sNm c 0
          · rw [n2, otB_nm ⟨hc1, by omega⟩ (by decide)] at b; simp at b
          · by_cases n3 : n = mNew
            · rw [n3, hn] at a; cases a
            · rw [ho n n1 n2 n3] at a
              have := (gR_is (by omega) n).1 a
              rw [List.mem_cons] at this
              exact this.resolve_left n1
      · obtain rfl := List.mem_singleton.1 hx
        refine ⟨?_, ?_⟩
        · rw [ho _ (sNm_ne_m _ _) (hne h0) (sNm_ne_new _ _), gR_s (by omega)]; rfl
        · rw [otB_nm ⟨by omega, by omega⟩ (by decide)]
          simp; omega
  obtain ⟨L, l1, l2, l3⟩ := hL
  obtain ⟨a, b, e⟩ := h2.coll (by omega) rA_len rA_dnm (l := c) (t := 1) (s := bt) ⟨hc1, by omega⟩ ⟨by decide, by decide⟩ (by decide) hm l1 l3
  have hg : Gn rA 1 (gR c) d2.coll.2.2 := ⟨e.jd.mono (fun _ => id) (by omega), e.fz, fun m => by
    rw [e.get]
    by_cases n1 : m = mNm
    · rw [n1, otB_m, if_neg (by decide), hm, gR_m hc1]
    · by_cases n2 : m = sNm c 0
      · rw [n2, otB_nm ⟨hc1, by omega⟩ (by decide), if_neg (by simp), hs, gR_s hc1]
      · rw [gR_no n1 n2]
        by_cases n3 : m = mNew
        · rw [n3, hn]; split <;> rfl
        · by_cases hb : otB c m = true
          · rw [if_pos hb]
          · rw [if_neg hb]
            cases hgm : g m with
            | none => rfl
            | some x =>
              exfalso
              rw [ho m n1 n2 n3] at hgm
              by_cases h0 : l = 0
              · rw [h0] at hgm; cases hgm
              · have := (gR_is (l := l) (by omega) m).1 (by rw [hgm]; rfl)
                rw [List.mem_cons] at this
                have hm2 := List.mem_singleton.1 (this.resolve_left n1)
                rw [hm2, otB_nm ⟨by omega, by omega⟩ (by decide)] at hb
                simp at hb; omega⟩
  exact ⟨h2.la ⟨hc1, by omega⟩ ⟨by decide, by decide⟩ (by decide) hm, a, rfl, hg, hg.names (l := [mNm, sNm c 0]) (by
    rw [List.nodup_cons, List.mem_singleton]
    exact ⟨(sNm_ne_m _ _).symm, by simp⟩) (gR_is hc1)⟩
end Go.Proofs.YtdmckgcbmbhmmaaGreatDoor
namespace Go.Proofs.YtdmckgcbmbhmmaaGreatDoor
open Go.RowKit

set_option maxHeartbeats 400000 in
theorem isSnap_any (c : Int) (w : World) : Calls Tryz.prog 23 #[.int .i64 c] w fun e w' => e = .returned (.bool (decide (1 ≤ c ∧ c ≤ 1073741824))) ∧ w' = w := by
  by_cases h1 : 1 ≤ c
  · by_cases h2 : c ≤ 1073741824
    · rw [decide_eq_true (⟨h1, h2⟩ : 1 ≤ c ∧ c ≤ 1073741824)]
      go_enter Tryz.func23, Tryz.ntmps23
      go_wp2
      go_ret
      exact ⟨rfl, rfl⟩
    · rw [decide_eq_false (fun h : 1 ≤ c ∧ c ≤ 1073741824 => h2 h.2)]
      go_enter Tryz.func23, Tryz.ntmps23
      go_wp2
      go_ret
      exact ⟨rfl, rfl⟩
  · rw [decide_eq_false (fun h : 1 ≤ c ∧ c ≤ 1073741824 => h1 h.1)]
    go_enter Tryz.func23, Tryz.ntmps23
    go_wp2
    go_ret
    exact ⟨rfl, rfl⟩
set_option maxHeartbeats 400000 in
theorem isTask_any (c : Int) (w : World) : Calls Tryz.prog 24 #[.int .i64 c] w fun e w' => e = .returned (.bool (decide (0 ≤ c ∧ c ≤ 32))) ∧ w' = w := by
  by_cases h1 : 0 ≤ c
  · by_cases h2 : c ≤ 32
    · rw [decide_eq_true (⟨h1, h2⟩ : 0 ≤ c ∧ c ≤ 32)]
      go_enter Tryz.func24, Tryz.ntmps24
      go_wp2
      go_ret
      exact ⟨rfl, rfl⟩
    · rw [decide_eq_false (fun h : 0 ≤ c ∧ c ≤ 32 => h2 h.2)]
      go_enter Tryz.func24, Tryz.ntmps24
      go_wp2
      go_ret
      exact ⟨rfl, rfl⟩
  · rw [decide_eq_false (fun h : 0 ≤ c ∧ c ≤ 32 => h1 h.1)]
    go_enter Tryz.func24, Tryz.ntmps24
    go_wp2
    go_ret
    exact ⟨rfl, rfl⟩
set_option maxHeartbeats 400000 in
theorem isCount_any (c : Int) (w : World) : Calls Tryz.prog 31 #[.int .i64 c] w fun e w' => e = .returned (.bool (decide (1 ≤ c ∧ c ≤ 33))) ∧ w' = w := by
  by_cases h1 : 1 ≤ c
  · by_cases h2 : c ≤ 33
    · rw [decide_eq_true (⟨h1, h2⟩ : 1 ≤ c ∧ c ≤ 33)]
      go_enter Tryz.func31, Tryz.ntmps31
      go_wp2
      go_ret
      exact ⟨rfl, rfl⟩
    · rw [decide_eq_false (fun h : 1 ≤ c ∧ c ≤ 33 => h2 h.2)]
      go_enter Tryz.func31, Tryz.ntmps31
      go_wp2
      go_ret
      exact ⟨rfl, rfl⟩
  · rw [decide_eq_false (fun h : 1 ≤ c ∧ c ≤ 33 => h1 h.1)]
    go_enter Tryz.func31, Tryz.ntmps31
    go_wp2
    go_ret
    exact ⟨rfl, rfl⟩
theorem sNm_eq (c t : Nat) : (⟨#[115, 46]⟩ : ByteArray) ++ ⟨(Lib.decDigits c).toArray⟩ ++ ⟨#[46]⟩ ++ ⟨(Lib.decDigits t).toArray⟩ = sNm c t := by
  apply ByteArray.ext
  simp [sNm]
set_option maxHeartbeats 400000 in
theorem fileName_any (c t : Nat) (w : World) (hc : c < 100) (ht : t < 100) : Calls Tryz.prog 26 #[.int .i64 (c : Int), .int .i64 (t : Int)] w fun e w' => e = .returned (.string (sNm c t)) ∧ w' = w := by
  have i1 := fun W => Tryz.strconv_Itoa_small c hc W
  have i2 := fun W => Tryz.strconv_Itoa_small t ht W
  have I1 := hide i1
  have I2 := hide i2
  have E := hide (sNm_eq c t)
  clear i1 i2
  have hcz : (⟨(Lib.decDigits c).toArray⟩ : ByteArray).size ≤ 10 := by
    have := digs_few c (by omega)
    simpa [ByteArray.size] using this
  have htz : (⟨(Lib.decDigits t).toArray⟩ : ByteArray).size ≤ 10 := by
    have := digs_few t (by omega)
    simpa [ByteArray.size] using this
  generalize (⟨(Lib.decDigits c).toArray⟩ : ByteArray) = dc at *
  generalize (⟨(Lib.decDigits t).toArray⟩ : ByteArray) = dt at *
  have e46 : (⟨#[46]⟩ : ByteArray).size = 1 := rfl
  have e115 : (⟨#[115, 46]⟩ : ByteArray).size = 2 := rfl
  go_enter Tryz.func26, Tryz.ntmps26
  go_wp2_with fail
  refine (unhide I1 _).mono ?_
  rintro e w1 ⟨rfl, rfl⟩
  go_wp2_with fail
  refine (unhide I2 _).mono ?_
  rintro e w1 ⟨rfl, rfl⟩
  go_wp2
  go_ret
  exact ⟨by rw [← unhide E]; rfl, rfl⟩
end Go.Proofs.YtdmckgcbmbhmmaaGreatDoor
