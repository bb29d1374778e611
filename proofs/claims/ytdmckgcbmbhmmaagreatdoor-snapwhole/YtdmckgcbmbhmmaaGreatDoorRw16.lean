/-
  What lies on a disk behind each step, and what a crash would leave of it: plainly. A frame is read as what it holds; a manifest as what it says.
  A file written anew, a snapshot that is put and committed: what each leaves, plainly, whatever goes wrong.
-/
import Derived.Test.YtdmckgcbmbhmmaaGreatDoorRw15
namespace Go.Proofs.YtdmckgcbmbhmmaaGreatDoor
open Go.RowKit

theorem bodyS_fr (b : List UInt8) (hb : b.length ≤ 65536) : bodyS (frameL b) = (b, 0) := by
  obtain ⟨q, e, hq⟩ := frame_take2 b
  have hl := frameL_len b
  have hsum := sumOf_lt (headL b.length ++ b)
  have hp : Lib.hasPrefix (frameL b) [87, 70] = true := by rw [e]; exact hasPre _
  have hn : unw4 ((frameL b).drop 2) = b.length := by rw [frame_drop2]; exact unw4_w4 _ _ (by omega)
  have hs : unw4 ((frameL b).drop 6) = sumOf (headL b.length ++ b) := by rw [frame_drop6]; exact unw4_w4 _ _ hsum
  unfold bodyS
  rw [if_neg (fun h => by have := h.1; omega), if_neg (by rw [hp]; simp), if_neg (by omega), hn, if_neg (by omega), frame_drop10, if_neg (by omega), List.take_length, frame_take6, hs, if_neg (by simp)]
theorem unfS_fr (b : List UInt8) (hb : b.length ≤ 65536) : unfS (frameL b) 0 = (b, ((frameL b).length : Int), 0, 0) := by
  unfold unfS
  have hl := frameL_len b
  have e : (frameL b).drop (Int.toNat 0) = frameL b := rfl
  rw [if_neg (by omega), e, bodyS_fr b hb]
  dsimp only
  rw [if_neg (by simp), hl]
  refine Prod.ext rfl (Prod.ext ?_ rfl)
  dsimp only
  omega
theorem snA (s : ByteArray) : (⟨s.data.toList.toArray⟩ : ByteArray) = s := by
  apply ByteArray.ext
  simp
theorem snL (s : ByteArray) : s.data.toList.length = s.size := Array.length_toList
theorem frS_dat (s : ByteArray) (h : s.size ≤ 65536) : (frS s).data.toList = frameL s.data.toList := by
  unfold frS
  rw [if_neg (by omega)]
theorem frS_siz (s : ByteArray) (h : s.size ≤ 65536) : (frS s).size = s.size + 10 := by
  rw [← snL, frS_dat s h, frameL_len, snL]
section
variable {d : Dk} {n : ByteArray}
theorem badN_at (hn : dnm n = true) : d.badN n = if (getF d.now n).isSome = true then 0 else 5 := by
  unfold Dk.badN
  rw [if_neg (by simp [hn])]
theorem sn_one {b : ByteArray} (hn : dnm n = true) (hg : getF d.now n = some (frS b).data.toList) (hb : b.size ≤ 65536) : d.oneE n = 0 ∧ d.oneS n = b := by
  have hbad : d.badN n = 0 := by rw [badN_at hn, hg]; rfl
  rw [frS_dat b hb] at hg
  have hr : d.rdS n = ⟨(frameL b.data.toList).toArray⟩ := by
    unfold Dk.rdS hasF
    rw [if_pos hbad, hg]; rfl
  have hR : d.oneR n = (b.data.toList, ((frameL b.data.toList).length : Int), 0, 0) := by
    unfold Dk.oneR
    rw [hr]
    exact unfS_fr _ (by rw [snL]; exact hb)
  have hE : d.oneE n = 0 := by
    unfold Dk.oneE
    rw [show d.rdE n = 0 from hbad, if_pos rfl, hR, hr, if_pos ⟨rfl, by show ((frameL b.data.toList).length : Int) = ((frameL b.data.toList).toArray.size : Int); simp⟩]
  refine ⟨hE, ?_⟩
  unfold Dk.oneS
  rw [if_pos hE, hR]
theorem sn_none (hn : dnm n = true) (hg : getF d.now n = none) : d.oneE n = 5 := by
  have h : d.rdE n = 5 := by
    show d.badN n = 5
    rw [badN_at hn, hg]; rfl
  unfold Dk.oneE
  rw [h, if_neg (by decide)]
theorem la_none (hg : getF d.now mNm = none) : d.laE = 5 ∧ d.laM = Mf.z := by
  have h := sn_none dnm_m hg
  unfold Dk.laE Dk.laM
  rw [h, if_neg (by decide), if_neg (by decide)]
  exact ⟨rfl, rfl⟩
end
/-! A manifest. -/
theorem snN_may (n : Int) : (It.mk false n ⟨#[]⟩).may = true := by
  show mayB false n ⟨#[]⟩ = true
  unfold mayB
  simp [ByteArray.toList_eq]
theorem snT_may (b : ByteArray) : (It.mk true 0 b).may = true := by
  show mayB true 0 b = true
  unfold mayB
  simp
theorem snN_len {n : Int} (h0 : -9223372036854775808 ≤ n) (h1 : n < 9223372036854775808) : (It.mk false n ⟨#[]⟩).b.length ≤ 11 := by
  show (itemB false n ⟨#[]⟩).length ≤ 11
  unfold itemB
  have := (numB_length (u := zig n) (zig_lt h0 h1)).2
  simp
  omega
theorem snT_len {b : ByteArray} (h : b.size ≤ 1000000) : (It.mk true 0 b).b.length ≤ b.size + 11 := by
  show (itemB true 0 b).length ≤ _
  unfold itemB
  have := (numB_length (u := zig (b.size : Int)) (zig_lt (by omega) (by omega))).2
  have e : b.data.toList.length = b.size := Array.length_toList
  simp only [if_true, List.length_cons, List.length_append]
  omega
theorem snB_cons (x : It) (r : List It) : listB (x :: r) = x.b ++ listB r := by unfold listB; rw [List.flatMap_cons]
section
variable {c t : Int} {s : ByteArray} (hc : 1 ≤ c ∧ c ≤ 1073741824) (ht : 1 ≤ t ∧ t ≤ 33) (hs : s.size ≤ 500)
include hc ht hs
theorem mfI_len : (listB (mfI c t s)).length ≤ s.size + 33 := by
  unfold mfI
  rw [snB_cons, snB_cons, snB_cons]
  have h1 := snN_len (n := c) (by omega) (by omega)
  have h2 := snN_len (n := t) (by omega) (by omega)
  have h3 := snT_len (b := s) (by omega)
  simp only [List.length_append]
  have h5 : (listB []).length = 0 := rfl
  omega
theorem mfI_enc : encE (mfI c t s) = 0 := by
  have h := mfI_len hc ht hs
  unfold encE
  rw [if_neg (by simp [mfI]), if_neg (by simp [mfI, snN_may, snT_may]), if_neg (by omega)]
theorem mfI_siz : (encS (mfI c t s)).size ≤ 533 := by
  have h := mfI_len hc ht hs
  unfold encS
  rw [if_pos (mfI_enc hc ht hs)]
  show (listB (mfI c t s)).toArray.size ≤ _
  rw [List.size_toArray]
  omega
theorem mfB_siz : (mfB c t s).size ≤ 543 := by
  have h := mfI_siz hc ht hs
  unfold mfB
  rw [frS_siz _ (by omega)]
  omega
theorem la_fr {d : Dk} (hg : getF d.now mNm = some (mfB c t s).data.toList) : d.laE = 0 ∧ d.laM = ⟨c, t, s⟩ := by
  have h := mfI_siz hc ht hs
  obtain ⟨h1, h2⟩ := sn_one dnm_m hg (by omega)
  have hd := dec_enc (mfI c t s) (mfI_enc hc ht hs) (fun x hx => by
    unfold mfI at hx
    simp only [List.mem_cons, List.not_mem_nil, or_false] at hx
    rcases hx with rfl | rfl | rfl
    · exact ⟨by show _ ≤ c; omega, by show c < _; omega, by show (0 : Nat) ≤ 9223372036854775807; decide⟩
    · exact ⟨by show _ ≤ t; omega, by show t < _; omega, by show (0 : Nat) ≤ 9223372036854775807; decide⟩
    · exact ⟨by show (_ : Int) ≤ 0; decide, by show (0 : Int) < _; decide, by show s.size ≤ _; omega⟩)
  have hO : mfO (encS (mfI c t s)).data.toList = some ⟨c, t, s⟩ := by
    unfold mfO
    rw [hd, if_pos rfl]
    show mfL (mfI c t s) = _
    show (if (false = false ∧ false = false ∧ true = true) ∧ (1 ≤ c ∧ c ≤ 1073741824) ∧ 1 ≤ t ∧ t ≤ 33 then some (Mf.mk c t s) else none) = _
    rw [if_pos ⟨⟨rfl, rfl, rfl⟩, ⟨hc.1, hc.2⟩, ht.1, ht.2⟩]
  unfold Dk.laE Dk.laM
  rw [if_pos h1, if_pos h1, h2, hO]
  exact ⟨rfl, rfl⟩
end
/-! Files of few names, none long. -/
theorem len_le_of_sub : ∀ {l A : List ByteArray}, l.Nodup → (∀ x ∈ l, x ∈ A) → l.length ≤ A.length
  | [], _, _, _ => Nat.zero_le _
  | a :: l, A, hn, hs => by
    rw [List.nodup_cons] at hn
    have ha := hs a List.mem_cons_self
    have h := len_le_of_sub (l := l) (A := A.filter fun y => decide (y ≠ a)) hn.2 (fun x hx => List.mem_filter.2 ⟨hs x (List.mem_cons_of_mem _ hx), by
      simp only [decide_eq_true_eq]
      exact fun e => hn.1 (by rw [← e]; exact hx)⟩)
    have : (A.filter fun y => decide (y ≠ a)).length < A.length := List.length_filter_lt_length_iff_exists.2 ⟨a, ha, by simp⟩
    rw [List.length_cons]; omega
structure Sm (A : List ByteArray) (fs : Fs) : Prop where
  nd : (fs.map (·.1)).Nodup
  mem : ∀ p ∈ fs, p.1 ∈ A ∧ p.2.length ≤ 600
section
variable {A : List ByteArray} {fs : Fs} {n : ByteArray}
theorem Sm.nil : Sm A [] := ⟨List.nodup_nil, fun p hp => by cases hp⟩
theorem Sm.len (h : Sm A fs) : fs.length ≤ A.length := by
  have := len_le_of_sub h.nd (fun x hx => by
    obtain ⟨p, hp, rfl⟩ := List.mem_map.1 hx
    exact (h.mem p hp).1)
  rwa [List.length_map] at this
theorem tot_le : ∀ {fs : Fs}, (∀ p ∈ fs, p.2.length ≤ 600) → total fs ≤ 600 * fs.length
  | [], _ => Nat.le_refl _
  | p :: fs, h => by
    have h1 := tot_le (fs := fs) (fun q hq => h q (List.mem_cons_of_mem _ hq))
    have h2 := h p List.mem_cons_self
    unfold total at *
    rw [List.map_cons, List.sum_cons, List.length_cons]
    omega
theorem Sm.tot (h : Sm A fs) : total fs ≤ 600 * A.length := by
  have h1 := tot_le (fun p hp => (h.mem p hp).2)
  have := h.len
  omega
theorem Sm.without (h : Sm A fs) (n : ByteArray) : Sm A (without fs n) := ⟨nodup_without h.nd n, fun p hp => h.mem p (List.mem_filter.1 hp).1⟩
theorem Sm.withF (h : Sm A fs) (hn : n ∈ A) {l : List UInt8} (hl : l.length ≤ 600) : Sm A (withF fs n l) := ⟨nodup_with h.nd n l, fun p hp => by
  have := (withF_perm fs n l).mem_iff.1 hp
  rw [List.mem_cons] at this
  rcases this with rfl | hp
  · exact ⟨hn, hl⟩
  · exact (h.without n).mem p hp⟩
theorem Sm.has (h : Sm A fs) (n : ByteArray) : (hasF fs n).length ≤ 600 := by
  unfold hasF
  cases hg : getF fs n with
  | none => exact Nat.zero_le _
  | some l => exact (h.mem _ (getF_some hg)).2
theorem Sm.in (h : Sm A fs) (hg : (getF fs n).isSome = true) : n ∈ A := by
  cases hh : getF fs n with
  | none => rw [hh] at hg; cases hg
  | some l => exact (h.mem _ (getF_some hh)).1
end
theorem getF_wo {fs : Fs} (hn : (fs.map (·.1)).Nodup) (m n : ByteArray) : getF (without fs m) n = if n = m then none else getF fs n := by
  by_cases h : n = m
  · subst h; rw [if_pos rfl, getF_without]
  · rw [if_neg h, getF_without_ne hn h]
/-! What a crash leaves: so many changes, and of the next one a part. -/
def lfN (s : Fs) (w : List Chg) (k : Nat) (t : Int) : Fs := match w[k]? with
  | some c => torn (playAll s (w.take k)) t c
  | none => playAll s (w.take k)
theorem crash_lf (d : Dk) (k t : Int) : ∃ i, i ≤ d.wait.length ∧ d.crash k t = ⟨lfN d.safe d.wait i t, lfN d.safe d.wait i t, [], -1, false⟩ := by
  refine ⟨d.kept k, ?_, rfl⟩
  unfold Dk.kept
  omega
/-- What is said of files: their names are few, and what R says. -/
abbrev Get := ByteArray → Option (List UInt8)
def Qf (A : List ByteArray) (R : Get → Prop) (fs : Fs) : Prop := Sm A fs ∧ R (getF fs)
structure Jd (A : List ByteArray) (R : Get → Prop) (j : Nat) (d : Dk) : Prop where
  play : playAll d.safe d.wait = d.now
  cr : ∀ i, i ≤ d.wait.length → ∀ t, Qf A R (lfN d.safe d.wait i t)
  few : d.wait.length ≤ j
section
variable {A : List ByteArray} {R R' : Get → Prop} {j i : Nat} {d : Dk} {c : Chg}
theorem lf_all (s : Fs) (w : List Chg) (t : Int) : lfN s w w.length t = playAll s w := by
  unfold lfN
  rw [List.getElem?_eq_none (Nat.le_refl _), List.take_length]
theorem Jd.now (h : Jd A R j d) : Qf A R d.now := by
  have := h.cr d.wait.length (Nat.le_refl _) 0
  rwa [lf_all, h.play] at this
theorem Jd.sm (h : Jd A R j d) : Sm A d.now := h.now.1
theorem Jd.r (h : Jd A R j d) : R (getF d.now) := h.now.2
theorem Jd.mono (h : Jd A R j d) (hr : ∀ g, R g → R' g) (hj : j ≤ i) : Jd A R' i d := ⟨h.play, fun k hk t => ⟨(h.cr k hk t).1, hr _ (h.cr k hk t).2⟩, Nat.le_trans h.few hj⟩
theorem Jd.empty {s : Fs} {left : Int} {down : Bool} (h : Qf A R s) : Jd A R 0 ⟨s, s, [], left, down⟩ := ⟨rfl, fun k hk t => by
  obtain rfl : k = 0 := by simpa using hk
  exact h, Nat.zero_le _⟩
theorem Jd.crash (h : Jd A R j d) (k t : Int) : Jd A R 0 (d.crash k t) ∧ (d.crash k t).left = -1 ∧ (d.crash k t).down = false := by
  obtain ⟨m, hm, e⟩ := crash_lf d k t
  rw [e]
  exact ⟨Jd.empty (h.cr m hm t), rfl, rfl⟩
theorem Jd.same {d' : Dk} (h : Jd A R j d) (e1 : d'.safe = d.safe) (e2 : d'.wait = d.wait) (e3 : d'.now = d.now) : Jd A R j d' := ⟨by rw [e1, e2, e3]; exact h.play, by rw [e1, e2]; exact h.cr, by rw [e2]; exact h.few⟩
theorem Jd.snoc {d' : Dk} (h : Jd A R j d) (hm : Qf A R (made d.now c)) (ht : ∀ t, Qf A R (torn d.now t c)) (e1 : d'.safe = d.safe) (e2 : d'.wait = d.wait ++ [c]) (e3 : d'.now = made d.now c) : Jd A R (j + 1) d' := by
  have hf := h.few
  refine ⟨by rw [e1, e2, e3, playAll_snoc, h.play], ?_, by rw [e2, List.length_append, List.length_singleton]; omega⟩
  rw [e1, e2]
  intro k hk t
  rw [List.length_append, List.length_singleton] at hk
  by_cases h1 : k < d.wait.length
  · have := h.cr k (by omega) t
    unfold lfN at this ⊢
    rwa [List.getElem?_append_left h1, List.take_append_of_le_length (by omega)]
  · by_cases h2 : k = d.wait.length
    · subst h2
      unfold lfN
      rw [List.getElem?_append_right (Nat.le_refl _), Nat.sub_self, List.take_left, h.play]
      exact ht t
    · obtain rfl : k = (d.wait ++ [c]).length := by rw [List.length_append, List.length_singleton]; omega
      rw [lf_all, playAll_snoc, h.play]
      exact hm
/-- No fuse is laid, and the disk is not down. -/
def Fz (d : Dk) : Prop := d.left = -1 ∧ d.down = false
theorem Fz.ready (h : Fz d) : d.readyB = true ∧ d.ready = d := by
  have e1 : d.readyB = true := by unfold Dk.readyB; rw [h.2, h.1]; rfl
  refine ⟨e1, ?_⟩
  unfold Dk.ready
  rw [if_pos e1]
  obtain ⟨a, b, c, e, f⟩ := d
  have := h.1
  dsimp only at this ⊢
  subst this
  rfl
/-- What a call answers and leaves: all well, as said; or the disk is down, and the files are as they were. -/
def Res (A : List ByteArray) (R R' : Get → Prop) (j j' : Nat) (d : Dk) (N : Get → Get) (r : Int × Dk) : Prop :=
  (r.1 = 0 ∧ Jd A R' j' r.2 ∧ (∀ m, getF r.2.now m = N (getF d.now) m) ∧ (Fz d → Fz r.2)) ∨ (r.1 = 31 ∧ Jd A R j r.2 ∧ ¬ Fz d)
theorem Jd.do (h : Jd A R j d) (hj : j < 1024) (hm : Qf A R (made d.now c)) (ht : ∀ t, Qf A R (torn d.now t c)) :
    (d.doE = 0 ∧ Jd A R (j + 1) (d.doD c) ∧ (d.doD c).now = made d.now c ∧ (Fz d → Fz (d.doD c))) ∨ (d.doE = 31 ∧ Jd A R j (d.doD c) ∧ ¬ Fz d) := by
  have hf := h.few
  obtain ⟨e1, e2, e3⟩ := ready_now d
  have hw : ¬ 1024 ≤ d.wait.length := by omega
  unfold Dk.doE Dk.doD
  rw [if_neg hw, if_neg hw]
  by_cases hr : d.readyB = true
  · left
    rw [if_pos hr, if_pos hr]
    refine ⟨rfl, h.snoc hm ht e2 rfl rfl, rfl, fun hz => ?_⟩
    rw [(hz.ready).2]
    exact hz
  · right
    rw [if_neg hr, if_neg hr]
    exact ⟨rfl, h.same e2 e3 e1, fun hz => hr hz.ready.1⟩
theorem Jd.sy (h : Jd A R j d) (hr : R' (getF d.now)) : Res A R R' j 0 d id d.sy := by
  obtain ⟨e1, e2, e3⟩ := ready_now d
  unfold Res Dk.sy Dk.syE Dk.syD
  dsimp only
  by_cases hb : d.readyB = true
  · left
    rw [if_pos hb, if_pos hb]
    refine ⟨rfl, ⟨e1.symm, fun k hk t => ?_, Nat.zero_le _⟩, fun m => by rw [e1]; rfl, fun hz => ?_⟩
    · obtain rfl : k = 0 := by simpa using hk
      exact ⟨h.sm, hr⟩
    · rw [(hz.ready).2]
      exact hz
  · right
    rw [if_neg hb, if_neg hb]
    exact ⟨rfl, h.same e2 e3 e1, fun hz => hb hz.ready.1⟩
end
end Go.Proofs.YtdmckgcbmbhmmaaGreatDoor
namespace Go.Proofs.YtdmckgcbmbhmmaaGreatDoor
open Go.RowKit

/-- What does not hang on one file. -/
def Frn (R : Get → Prop) (n : ByteArray) : Prop := ∀ g g' : Get, (∀ m, m ≠ n → g' m = g m) → R g → R g'
def gSet (n : ByteArray) (v : Option (List UInt8)) (g : Get) : Get := fun m => if m = n then v else g m
theorem Frn.set {R : Get → Prop} {n : ByteArray} (h : Frn R n) {g : Get} (hr : R g) (v : Option (List UInt8)) : R (gSet n v g) := h g _ (fun _ hm => if_neg hm) hr
theorem Frn.and {R K : Get → Prop} {n : ByteArray} (h : Frn R n) (k : Frn K n) : Frn (fun g => R g ∧ K g) n := fun g g' e hr => ⟨h g g' e hr.1, k g g' e hr.2⟩
theorem Frn.or {R K : Get → Prop} {n : ByteArray} (h : Frn R n) (k : Frn K n) : Frn (fun g => R g ∨ K g) n := fun g g' e hr => hr.imp (h g g' e) (k g g' e)
theorem gSet_set (n : ByteArray) (u v : Option (List UInt8)) (g : Get) : gSet n u (gSet n v g) = gSet n u g := by
  funext m
  unfold gSet
  split <;> rfl
section
variable {A : List ByteArray} {R R1 R2 R' : Get → Prop} {i j j1 j2 : Nat} {d : Dk} {n b : ByteArray} {N1 N2 : Get → Get} {r : Int × Dk}
theorem Res.mono (h : Res A R R1 j j1 d N1 r) (h1 : ∀ g, R g → R' g) (h2 : j ≤ i) (h3 : ∀ g, R1 g → R2 g) (h4 : j1 ≤ j2) : Res A R' R2 i j2 d N1 r := by
  rcases h with ⟨e, k, m, z⟩ | ⟨e, k, z⟩
  · exact Or.inl ⟨e, k.mono h3 h4, m, z⟩
  · exact Or.inr ⟨e, k.mono h1 h2, z⟩
theorem Res.andThen {f : Dk → Int × Dk} (h : Res A R R1 j j1 d N1 r) (hf : Jd A R1 j1 r.2 → (∀ m, getF r.2.now m = N1 (getF d.now) m) → Res A R R2 j j2 r.2 N2 (f r.2)) : Res A R R2 j j2 d (fun g => N2 (N1 g)) (bnd r f) := by
  unfold bnd
  rcases h with ⟨e, k, m, z⟩ | ⟨e, k, z⟩
  · rw [if_pos e]
    rcases hf k m with ⟨e', k', m', z'⟩ | ⟨e', k', z'⟩
    · refine Or.inl ⟨e', k', fun x => ?_, fun hz => z' (z hz)⟩
      rw [m' x, show getF r.2.now = N1 (getF d.now) from funext m]
    · exact Or.inr ⟨e', k', fun hz => z' (z hz)⟩
  · rw [if_neg (by omega)]
    exact Or.inr ⟨e, k, z⟩
theorem Jd.rm (h : Jd A R j d) (hj : j < 1024) (hn : dnm n = true) (hF : Frn R n) : (d.rmE n = 5 ∧ d.rmD n = d ∧ getF d.now n = none) ∨ ((getF d.now n).isSome = true ∧ Res A R R j (j + 1) d (gSet n none) (d.rmE n, d.rmD n)) := by
  unfold Dk.rmE Dk.rmD
  rw [badN_at hn]
  cases hg : getF d.now n with
  | none => exact Or.inl ⟨rfl, rfl, rfl⟩
  | some l =>
    refine Or.inr ⟨rfl, ?_⟩
    have e0 : (if (some l).isSome = true then (0 : Int) else 5) = 0 := rfl
    rw [e0, if_pos rfl, if_pos rfl]
    have hw : ∀ m, getF (without d.now n) m = gSet n none (getF d.now) m := fun m => getF_wo h.sm.nd n m
    rcases h.do (c := .rm n) hj ⟨h.sm.without n, by
      show R (getF (without d.now n))
      rw [funext hw]
      exact hF.set h.r _⟩ (fun _ => h.now) with ⟨a, k, e, z⟩ | ⟨a, k, z⟩
    · exact Or.inl ⟨a, k, fun m => by
        show getF (d.doD (.rm n)).now m = _
        rw [e]
        exact hw m, z⟩
    · exact Or.inr ⟨a, k, z⟩
theorem over_nil' (l : List UInt8) : over [] 0 l = l := by simp [over]
theorem Jd.wr (h : Jd A R j d) (hj : j < 1024) (hA : n ∈ A) (hL : A.length ≤ 63) (hn : dnm n = true) (hg : getF d.now n = none) (hb : b.size ≤ 600) (hF : Frn R n) : Res A R R j (j + 1) d (gSet n (some b.data.toList)) (d.wrE n 0 b, d.wrD n 0 b) := by
  have hH : hasF d.now n = [] := by unfold hasF; rw [hg]; rfl
  have hbad : d.badW n 0 b = 0 := by
    have h1 := h.sm.tot
    have h2 := h.sm.len
    unfold Dk.badW
    rw [if_neg (by simp [hn]), if_neg (by rw [hH]; decide), if_neg]
    unfold Dk.fullW Dk.grows
    rw [hH]
    simp only [Bool.or_eq_true, Bool.and_eq_true, decide_eq_true_eq, not_or, not_and, List.length_nil]
    exact ⟨by omega, fun _ => by omega⟩
  unfold Dk.wrE Dk.wrD
  rw [if_pos hbad, if_pos hbad]
  have hmk : ∀ s : ByteArray, made d.now (.wr n 0 s) = withF d.now n s.data.toList := fun s => by
    show withF _ _ (over (hasF d.now n) 0 s.data.toList) = _
    rw [hH, over_nil']
  have hw : ∀ (l : List UInt8) m, getF (withF d.now n l) m = gSet n (some l) (getF d.now) m := fun l m => getF_with h.sm.nd n m l
  have hq : ∀ l : List UInt8, l.length ≤ 600 → Qf A R (withF d.now n l) := fun l hl => ⟨h.sm.withF hA hl, by
    rw [funext (hw l)]
    exact hF.set h.r _⟩
  rcases h.do (c := .wr n (0 : Int).toNat b) hj (by
      show Qf A R (made d.now (.wr n 0 b))
      rw [hmk]
      exact hq _ (by rw [snL]; exact hb)) (fun t => by
      show Qf A R (if t < 0 then d.now else made d.now (.wr n 0 ⟨(b.data.toList.take t.toNat).toArray⟩))
      split
      · exact h.now
      · rw [hmk]
        exact hq _ (by
          show (b.data.toList.take t.toNat).toArray.toList.length ≤ 600
          rw [List.toList_toArray, List.length_take, snL]; omega)) with ⟨a, k, e, z⟩ | ⟨a, k, z⟩
  · exact Or.inl ⟨a, k, fun m => by
      show getF (d.doD (.wr n (0 : Int).toNat b)).now m = _
      rw [e]
      show getF (made d.now (.wr n 0 b)) m = _
      rw [hmk]
      exact hw _ m, z⟩
  · exact Or.inr ⟨a, k, z⟩
theorem Jd.anew (h : Jd A R j d) (hj : j < 1000) (hA : n ∈ A) (hL : A.length ≤ 63) (hn : dnm n = true) (hb : b.size ≤ 600) (hF : Frn R n) : Res A R R (j + 2) (j + 2) d (gSet n (some b.data.toList)) (d.anew n b) := by
  unfold Dk.anew
  rcases h.rm (by omega) hn hF with ⟨e, e2, hg⟩ | ⟨_, hr⟩
  · rw [if_pos (Or.inr e), e2]
    exact (h.wr (by omega) hA hL hn hg hb hF).mono (fun _ => id) (by omega) (fun _ => id) (by omega)
  · rcases hr with ⟨e, k, m, z⟩ | ⟨e, k, z⟩
    · dsimp only at e k m z
      rw [if_pos (Or.inl e)]
      have hw := k.wr (b := b) (by omega) hA hL hn (by rw [m n]; exact if_pos rfl) hb hF
      rcases hw with ⟨e', k', m', z'⟩ | ⟨e', k', z'⟩
      · refine Or.inl ⟨e', k', fun x => ?_, fun hz => z' (z hz)⟩
        rw [m' x, funext m, gSet_set]
      · exact Or.inr ⟨e', k'.mono (fun _ => id) (by omega), fun hz => z' (z hz)⟩
    · dsimp only at e k z
      rw [if_neg (by omega)]
      exact Or.inr ⟨e, k.mono (fun _ => id) (by omega), z⟩
/-- A manifest is placed. -/
theorem Jd.place {K : Get → Prop} (h : Jd A R j d) (hj : j < 900) (hm : mNm ∈ A) (hn : mNew ∈ A) (hL : A.length ≤ 63) (hb : b.size ≤ 600) (hK : K (getF d.now)) (hR : Frn R mNew) (hKn : Frn K mNew) (hKm : Frn K mNm) :
    Res A (fun g => R g ∨ (g mNm = some b.data.toList ∧ K g)) (fun g => g mNm = some b.data.toList ∧ K g) (j + 3) 0 d (fun g => gSet mNm (some b.data.toList) (gSet mNew none g)) (d.place b) := by
  unfold Dk.place
  have s1 := (h.sy (R' := fun g => R g ∧ K g) ⟨h.r, hK⟩).mono (R' := fun g => R g ∨ (g mNm = some b.data.toList ∧ K g)) (i := j + 3) (fun _ x => Or.inl x) (by omega) (fun _ => id) (Nat.le_refl _)
  have fin := s1.andThen (N2 := fun g => gSet mNm (some b.data.toList) (gSet mNew none g)) (j2 := 0) (R2 := fun g => g mNm = some b.data.toList ∧ K g) (f := fun d1 => bnd (d1.anew mNew b) fun d2 => bnd d2.sy fun d3 => bnd (d3.rn mNew mNm) Dk.sy) (fun k1 m1 => by
    have s2 := (k1.anew (b := b) (by omega) hn hL dnm_new hb (hR.and hKn)).mono (R' := fun g => R g ∨ (g mNm = some b.data.toList ∧ K g)) (i := j + 3) (fun _ x => Or.inl x.1) (by omega) (fun _ => id) (Nat.le_refl _)
    have fin2 := s2.andThen (N2 := fun g => gSet mNm (g mNew) (gSet mNew none g)) (j2 := 0) (R2 := fun g => g mNm = some b.data.toList ∧ K g) (f := fun d2 => bnd d2.sy fun d3 => bnd (d3.rn mNew mNm) Dk.sy) (fun k2 m2 => by
      have h2 : getF (d.sy.2.anew mNew b).2.now mNew = some b.data.toList := by rw [m2 mNew]; exact if_pos rfl
      generalize (d.sy.2.anew mNew b).2 = d2 at *
      have s3 := (k2.sy (R' := fun g => R g ∧ K g) k2.r).mono (R' := fun g => R g ∨ (g mNm = some b.data.toList ∧ K g)) (i := j + 3) (fun _ x => Or.inl x.1) (by omega) (fun _ => id) (Nat.le_refl _)
      have fin3 := s3.andThen (N2 := fun g => gSet mNm (g mNew) (gSet mNew none g)) (j2 := 0) (R2 := fun g => g mNm = some b.data.toList ∧ K g) (f := fun d3 => bnd (d3.rn mNew mNm) Dk.sy) (fun k3 m3 => by
        have h3 : getF d2.sy.2.now mNew = some b.data.toList := (m3 mNew).trans h2
        generalize d2.sy.2 = d3 at *
        have hbad : d3.badR mNew mNm = 0 := by
          unfold Dk.badR
          rw [if_neg (by simp [dnm_new, dnm_m]), badN_at dnm_new, h3]; rfl
        have hH : hasF d3.now mNew = b.data.toList := by unfold hasF; rw [h3]; rfl
        have hmk : ∀ m, getF (made d3.now (.rn mNew mNm)) m = gSet mNm (some b.data.toList) (gSet mNew none (getF d3.now)) m := fun m => by
          show getF (withF (without d3.now mNew) mNm (hasF d3.now mNew)) m = _
          rw [getF_with (nodup_without k3.sm.nd mNew), hH]
          unfold gSet
          split
          · rfl
          · exact getF_wo k3.sm.nd mNew m
        have hN : (gSet mNm (some b.data.toList) (gSet mNew none (getF d3.now))) mNm = some b.data.toList ∧ K (gSet mNm (some b.data.toList) (gSet mNew none (getF d3.now))) := ⟨if_pos rfl, hKm.set (hKn.set k3.r.2 _) _⟩
        have k3' := k3.mono (R' := fun g => R g ∨ (g mNm = some b.data.toList ∧ K g)) (i := 0) (fun _ x => Or.inl x.1) (Nat.le_refl _)
        have s4 : Res A (fun g => R g ∨ (g mNm = some b.data.toList ∧ K g)) (fun g => R g ∨ (g mNm = some b.data.toList ∧ K g)) (j + 3) (j + 3) d3 (fun g => gSet mNm (g mNew) (gSet mNew none g)) (d3.rn mNew mNm) := by
          unfold Dk.rn Dk.rnE Dk.rnD
          rw [if_pos hbad, if_pos hbad]
          rcases k3'.do (c := .rn mNew mNm) (by omega) ⟨(k3.sm.without mNew).withF hm (k3.sm.has mNew), by
            show _ ∨ _
            rw [funext hmk]
            exact Or.inr hN⟩ (fun _ => k3'.now) with ⟨a, k, e, z⟩ | ⟨a, k, z⟩
          · refine Or.inl ⟨a, k.mono (fun _ => id) (by omega), fun m => ?_, z⟩
            show getF (d3.doD (.rn mNew mNm)).now m = _
            rw [e, hmk m]
            show _ = gSet mNm (getF d3.now mNew) (gSet mNew none (getF d3.now)) m
            rw [h3]
          · exact Or.inr ⟨a, k.mono (fun _ => id) (by omega), z⟩
        have fin4 := s4.andThen (N2 := id) (j2 := 0) (R2 := fun g => g mNm = some b.data.toList ∧ K g) (f := Dk.sy) (fun k4 m4 => by
          refine k4.sy ?_
          rw [funext m4, h3]
          exact hN)
        exact fin4)
      exact fin3)
    rcases fin2 with ⟨e, k, m, z⟩ | x
    · refine Or.inl ⟨e, k, fun x => ?_, z⟩
      rw [m x]
      show gSet mNm (gSet mNew (some b.data.toList) _ mNew) (gSet mNew none (gSet mNew (some b.data.toList) _)) x = _
      rw [gSet_set]
      have : gSet mNew (some b.data.toList) (getF d.sy.2.now) mNew = some b.data.toList := if_pos rfl
      rw [this]
    · exact Or.inr x)
  exact fin
end
/-! The calls. -/
section
variable {A : List ByteArray} {R : Get → Prop} {j : Nat} {d : Dk}
theorem ah_none (hg : getF d.now mNm = none) {c : Int} (hc : 1 ≤ c) : d.ahE c = 0 := by
  obtain ⟨e1, e2⟩ := la_none hg
  unfold Dk.ahE
  rw [e1, e2, if_pos (Or.inr rfl), if_neg (by show ¬ c ≤ 0; omega)]
theorem ah_fr {l t : Int} {s : ByteArray} (hl : 1 ≤ l ∧ l ≤ 1073741824) (ht : 1 ≤ t ∧ t ≤ 33) (hs : s.size ≤ 500) (hg : getF d.now mNm = some (mfB l t s).data.toList) (c : Int) : d.ahE c = if c ≤ l then 220 else 0 := by
  obtain ⟨e1, e2⟩ := la_fr hl ht hs hg
  unfold Dk.ahE
  rw [e1, e2, if_pos (Or.inl rfl)]
theorem put_eq {c t : Nat} {b : ByteArray} (hc : 1 ≤ c ∧ c ≤ 1073741824) (ht : t ≤ 32) (hb : b.size ≤ 65536) : d.put c t b = if d.ahE c = 0 then d.anew (sNm c t) (frS b) else (d.ahE c, d) := by
  unfold Dk.put
  rw [if_pos ⟨⟨by omega, by omega⟩, by omega, by omega⟩, if_pos (show frE b = 0 by unfold frE; rw [if_neg (by omega)])]
  simp only [Int.toNat_natCast]
theorem Jd.put (h : Jd A R j d) (hj : j < 1000) (hL : A.length ≤ 63) {c t : Nat} {b : ByteArray} (hc : 1 ≤ c ∧ c ≤ 1073741824) (ht : t ≤ 32) (hA : sNm c t ∈ A) (hb : b.size ≤ 500) (hF : Frn R (sNm c t)) (ha : d.ahE c = 0) :
    Res A R R (j + 2) (j + 2) d (gSet (sNm c t) (some (frS b).data.toList)) (d.put c t b) := by
  rw [put_eq hc ht (by omega), if_pos ha]
  exact h.anew hj hA hL (sNm_dnm c t hc.2 ht) (by rw [frS_siz b (by omega)]; omega) hF
theorem allB_iff {c n : Nat} : d.allB c n = true ↔ ∀ t, t < n → d.oneE (sNm c t) = 0 := by
  unfold Dk.allB
  rw [List.all_eq_true]
  constructor
  · exact fun h t ht => by simpa using h t (List.mem_range.2 ht)
  · exact fun h t ht => by simpa using h t (List.mem_range.1 ht)
theorem allB_fr {c n : Nat} {f : Nat → ByteArray} (hc : c ≤ 1073741824) (hn : n ≤ 33) (h : ∀ t, t < n → getF d.now (sNm c t) = some (frS (f t)).data.toList ∧ (f t).size ≤ 65536) : d.allB c n = true :=
  allB_iff.2 fun t ht => (sn_one (sNm_dnm c t hc (by omega)) (h t ht).1 (h t ht).2).1
theorem commit_eq {c n : Nat} {s : ByteArray} (hc : 1 ≤ c ∧ c ≤ 1073741824) (hn : 1 ≤ n ∧ n ≤ 33) (hs : s.size ≤ 500) : d.commit c n s = if d.ahE c = 0 then (if d.allB c n = true then d.place (mfB c n s) else (220, d)) else (d.ahE c, d) := by
  unfold Dk.commit
  rw [if_pos ⟨⟨by omega, by omega⟩, by omega, by omega⟩, if_neg (by omega)]
  simp only [Int.toNat_natCast]
theorem re_eq {c t : Nat} (hc : 1 ≤ c ∧ c ≤ 1073741824) (ht : t ≤ 32) : d.reE c t = d.oneE (sNm c t) ∧ d.reS c t = d.oneS (sNm c t) := by
  unfold Dk.reE Dk.reS
  rw [if_pos ⟨⟨by omega, by omega⟩, by omega, by omega⟩, if_pos ⟨⟨by omega, by omega⟩, by omega, by omega⟩]
  simp only [Int.toNat_natCast, and_self]
end
end Go.Proofs.YtdmckgcbmbhmmaaGreatDoor
