/-
  TapeBegins, plain: a file of frames, what a crash leaves of it, what is opened.
-/
import Derived.Test.YtllkkflolijpaaaDoorTpP
import Derived.Test.YtllkkflolijpaaaDoorTpX
namespace Go.Proofs.YtllkkflolijpaaaDoor
open Go.RowKit

theorem nLg : dnm ⟨#[108, 111, 103]⟩ = true := by decide
/-- Of files there is at most the one, with these bytes. -/
def FileIs (fs : Fs) (b : List UInt8) : Prop := (fs = [] ∧ b = []) ∨ fs = [(⟨#[108, 111, 103]⟩, b)]
theorem FileIs.has {fs : Fs} {b : List UInt8} (h : FileIs fs b) : hasF fs ⟨#[108, 111, 103]⟩ = b := by
  rcases h with ⟨rfl, rfl⟩ | rfl
  · rfl
  · rfl
theorem FileIs.tot {fs : Fs} {b : List UInt8} (h : FileIs fs b) : total fs = b.length := by
  rcases h with ⟨rfl, rfl⟩ | rfl
  · rfl
  · unfold total; simp
theorem FileIs.len {fs : Fs} {b : List UInt8} (h : FileIs fs b) : fs.length ≤ 1 := by
  rcases h with ⟨rfl, rfl⟩ | rfl
  · exact Nat.zero_le _
  · exact Nat.le_refl _
theorem FileIs.put {fs : Fs} {b : List UInt8} (h : FileIs fs b) (x : List UInt8) : withF fs ⟨#[108, 111, 103]⟩ x = [(⟨#[108, 111, 103]⟩, x)] := by
  rcases h with ⟨rfl, rfl⟩ | rfl
  · rfl
  · rfl
theorem FileIs.wrote {fs : Fs} {b : List UInt8} (h : FileIs fs b) (s : ByteArray) : made fs (.wr ⟨#[108, 111, 103]⟩ b.length s) = [(⟨#[108, 111, 103]⟩, b ++ s.data.toList)] := by
  show withF _ _ _ = _
  rw [h.has, over_end, h.put]
/-- The changes that texts make, appended one by one. -/
def wrs : List (List UInt8) → List (List UInt8) → List Chg
  | _, [] => []
  | base, x :: xs => .wr ⟨#[108, 111, 103]⟩ (allF base).length ⟨(frameL x).toArray⟩ :: wrs (base ++ [x]) xs
theorem wrs_len : ∀ (base xs : List (List UInt8)), (wrs base xs).length = xs.length
  | _, [] => rfl
  | base, x :: xs => by show (wrs (base ++ [x]) xs).length + 1 = xs.length + 1; rw [wrs_len]
theorem wrs_snoc : ∀ (base xs : List (List UInt8)) (y : List UInt8), wrs base (xs ++ [y]) = wrs base xs ++ [.wr ⟨#[108, 111, 103]⟩ (allF (base ++ xs)).length ⟨(frameL y).toArray⟩]
  | base, [], y => by show [_] = [_]; rw [List.append_nil]
  | base, x :: xs, y => by
    show _ :: wrs (base ++ [x]) (xs ++ [y]) = _ :: (wrs (base ++ [x]) xs ++ _)
    rw [wrs_snoc (base ++ [x]) xs y, List.append_assoc]; rfl
theorem wrs_take : ∀ (base xs : List (List UInt8)) (k : Nat), (wrs base xs).take k = wrs base (xs.take k)
  | base, [], k => by simp [wrs]
  | base, x :: xs, 0 => rfl
  | base, x :: xs, k + 1 => by
    show _ :: (wrs (base ++ [x]) xs).take k = _ :: wrs (base ++ [x]) (xs.take k)
    rw [wrs_take (base ++ [x]) xs k]
theorem wrs_get : ∀ (base xs : List (List UInt8)) (k : Nat) (h : k < xs.length), (wrs base xs)[k]? = some (.wr ⟨#[108, 111, 103]⟩ (allF (base ++ xs.take k)).length ⟨(frameL xs[k]).toArray⟩)
  | base, x :: xs, 0, _ => by simp [wrs]
  | base, x :: xs, k + 1, h => by
    show (wrs (base ++ [x]) xs)[k]? = _
    rw [wrs_get (base ++ [x]) xs k (by simpa using h), List.append_assoc]; rfl
theorem wrs_play : ∀ (base xs : List (List UInt8)) {fs : Fs}, FileIs fs (allF base) → FileIs (playAll fs (wrs base xs)) (allF (base ++ xs))
  | base, [], fs, h => by rw [List.append_nil]; exact h
  | base, x :: xs, fs, h => by
    have h1 : FileIs (made fs (.wr ⟨#[108, 111, 103]⟩ (allF base).length ⟨(frameL x).toArray⟩)) (allF (base ++ [x])) := Or.inr (by rw [h.wrote, allF_append, allF_one])
    have := wrs_play (base ++ [x]) xs h1
    rw [List.append_assoc] at this
    exact this
/-- A disk between a sync and a crash: what is safe (base), what was appended since (xs). -/
structure Bg (d : Dk) (base xs : List (List UInt8)) : Prop where
  safe : FileIs d.safe (allF base)
  wait : d.wait = wrs base xs
  now : FileIs d.now (allF (base ++ xs))
  play : d.now = playAll d.safe d.wait
  small : ∀ x ∈ base ++ xs, x.length ≤ 500
  few : (base ++ xs).length ≤ 400
theorem frames_small : ∀ (l : List (List UInt8)), (∀ x ∈ l, x.length ≤ 500) → (allF l).length ≤ 510 * l.length
  | [], _ => Nat.le_refl _
  | x :: l, h => by
    have e : allF (x :: l) = frameL x ++ allF l := by unfold allF; rw [List.flatMap_cons]
    have h1 := frames_small l (fun y hy => h y (List.mem_cons_of_mem _ hy))
    have h2 := h x List.mem_cons_self
    rw [e, List.length_append, frameL_len, List.length_cons]; omega
/-- A text is appended, or the fuse has burnt. -/
theorem Bg.append {d : Dk} {base xs : List (List UInt8)} (h : Bg d base xs) (s : ByteArray) (hs : s.size ≤ 500) (hf : (base ++ xs).length < 400) (hx : xs.length < 100) :
    (d.readyB = true → d.apE ⟨#[108, 111, 103]⟩ s = 0 ∧ Bg (d.apD ⟨#[108, 111, 103]⟩ s) base (xs ++ [s.data.toList])) ∧ (d.readyB = false → d.apE ⟨#[108, 111, 103]⟩ s = 31 ∧ Bg (d.apD ⟨#[108, 111, 103]⟩ s) base xs) := by
  have hl := frames_small _ h.small
  have hfr := frS_len s (by omega)
  have hbad : d.badW ⟨#[108, 111, 103]⟩ ((hasF d.now ⟨#[108, 111, 103]⟩).length : Int) (frS s) = 0 := by
    unfold Dk.badW
    rw [if_neg (by simp [nLg]), if_neg (by omega)]
    have : d.fullW ⟨#[108, 111, 103]⟩ ((hasF d.now ⟨#[108, 111, 103]⟩).length : Int) (frS s) = false := by
      have h1 := h.now.tot
      have h2 := h.now.len
      unfold Dk.fullW Dk.grows
      rw [hfr, h.now.has, Bool.or_eq_false_iff]
      refine ⟨decide_eq_false (by omega), ?_⟩
      rw [Bool.and_eq_false_iff]
      exact Or.inr (decide_eq_false (by omega))
    rw [if_neg (by simp [this])]
  have hw : ¬ 1024 ≤ d.wait.length := by rw [h.wait, wrs_len]; omega
  obtain ⟨r1, r2, r3⟩ := ready_now d
  have hch : (.wr ⟨#[108, 111, 103]⟩ (hasF d.now ⟨#[108, 111, 103]⟩).length (frS s) : Chg) = .wr ⟨#[108, 111, 103]⟩ (allF (base ++ xs)).length ⟨(frameL s.data.toList).toArray⟩ := by
    rw [h.now.has]
    congr 1
    unfold frS
    rw [if_neg (by omega)]
  refine ⟨fun hr => ?_, fun hr => ?_⟩
  · have e1 : d.apE ⟨#[108, 111, 103]⟩ s = 0 := by
      unfold Dk.apE Dk.wrE Dk.doE
      rw [if_neg (by omega), if_pos hbad, if_neg hw, if_pos hr]
    refine ⟨e1, ?_⟩
    have e2 : d.apD ⟨#[108, 111, 103]⟩ s = { d.ready with wait := d.wait ++ [.wr ⟨#[108, 111, 103]⟩ (allF (base ++ xs)).length ⟨(frameL s.data.toList).toArray⟩], now := made d.now (.wr ⟨#[108, 111, 103]⟩ (allF (base ++ xs)).length ⟨(frameL s.data.toList).toArray⟩) } := by
      unfold Dk.apD Dk.wrD Dk.doD
      rw [if_neg (by omega), if_pos hbad, if_neg hw, if_pos hr, Int.toNat_natCast, hch]
    rw [e2]
    refine ⟨by dsimp only; rw [r2]; exact h.safe, ?_, ?_, ?_, fun x hx => ?_, by simp only [List.length_append, List.length_singleton] at hf ⊢; omega⟩
    · dsimp only
      rw [h.wait, wrs_snoc]
    · dsimp only
      refine Or.inr ?_
      have e : allF (base ++ (xs ++ [s.data.toList])) = allF (base ++ xs) ++ frameL s.data.toList := by rw [← List.append_assoc, allF_append, allF_one]
      rw [h.now.wrote, e]
    · dsimp only
      rw [playAll_snoc, r2, ← h.play]
    · rw [← List.append_assoc, List.mem_append, List.mem_singleton] at hx
      rcases hx with hx | rfl
      · exact h.small x hx
      · rw [Array.length_toList]; exact hs
  · have e1 : d.apE ⟨#[108, 111, 103]⟩ s = 31 := by
      unfold Dk.apE Dk.wrE Dk.doE
      rw [if_neg (by omega), if_pos hbad, if_neg hw, if_neg (by simp [hr])]
    have e2 : d.apD ⟨#[108, 111, 103]⟩ s = d.ready := by
      unfold Dk.apD Dk.wrD Dk.doD
      rw [if_neg (by omega), if_pos hbad, if_neg hw, if_neg (by simp [hr])]
    rw [e2]
    exact ⟨e1, by rw [r2]; exact h.safe, by rw [r3]; exact h.wait, by rw [r1]; exact h.now, by rw [r1, r2, r3]; exact h.play, h.small, h.few⟩
/-- A sync: all is safe, or the fuse has burnt. -/
theorem Bg.sync {d : Dk} {base xs : List (List UInt8)} (h : Bg d base xs) : (d.readyB = true → d.syE = 0 ∧ Bg d.syD (base ++ xs) []) ∧ (d.readyB = false → d.syE = 31 ∧ Bg d.syD base xs) := by
  obtain ⟨r1, r2, r3⟩ := ready_now d
  refine ⟨fun hr => ?_, fun hr => ?_⟩
  · unfold Dk.syE Dk.syD
    rw [if_pos hr, if_pos hr]
    refine ⟨rfl, h.now, rfl, by dsimp only; rw [r1, List.append_nil]; exact h.now, by dsimp only; rw [r1]; rfl, by rw [List.append_nil]; exact h.small, by rw [List.append_nil]; exact h.few⟩
  · unfold Dk.syE Dk.syD
    rw [if_neg (by simp [hr]), if_neg (by simp [hr])]
    exact ⟨rfl, by rw [r2]; exact h.safe, by rw [r3]; exact h.wait, by rw [r1]; exact h.now, by rw [r1, r2, r3]; exact h.play, h.small, h.few⟩
theorem Bg.fuse {d : Dk} {base xs : List (List UInt8)} (h : Bg d base xs) (n : Int) (hn : 0 ≤ n) : Dk.fuE n = 0 ∧ Bg (d.fuD n) base xs := by
  unfold Dk.fuE Dk.fuD
  rw [if_neg (by omega), if_neg (by omega)]
  exact ⟨rfl, h.safe, h.wait, h.now, h.play, h.small, h.few⟩
theorem Bg.new : Bg Dk.new [] [] := ⟨Or.inl ⟨rfl, rfl⟩, rfl, Or.inl ⟨rfl, rfl⟩, rfl, by simp, by simp⟩
/-- Behind a crash: a beginning, and perhaps a torn frame behind it. -/
theorem Bg.crash {d : Dk} {base xs : List (List UInt8)} (h : Bg d base xs) (keep t : Int) : ∃ (k : Nat) (r : List UInt8), k ≤ xs.length ∧ FileIs (d.crash keep t).now (allF (base ++ xs.take k) ++ r) ∧ bodyS r = ([], 11) := by
  have hnil : bodyS [] = ([], 11) := by decide
  have hsm : ∀ x ∈ xs, x.length ≤ 500 := fun x hx => h.small x (List.mem_append_right _ hx)
  show ∃ (k : Nat) (r : List UInt8), k ≤ xs.length ∧ FileIs (d.left' keep t) (allF (base ++ xs.take k) ++ r) ∧ bodyS r = ([], 11)
  unfold Dk.left'
  generalize d.kept keep = K
  rw [h.wait, wrs_take]
  have hp := wrs_play base (xs.take K) h.safe
  have htn : ∀ (fs : Fs) (n : ByteArray) (pos : Nat) (b : ByteArray), torn fs t (.wr n pos b) = if t < 0 then fs else made fs (.wr n pos ⟨(b.data.toList.take t.toNat).toArray⟩) := fun _ _ _ _ => rfl
  by_cases hK : K < xs.length
  · rw [wrs_get base xs K hK]
    dsimp only
    rw [htn]
    by_cases ht : t < 0
    · rw [if_pos ht]
      exact ⟨K, [], by omega, by rw [List.append_nil]; exact hp, hnil⟩
    · rw [if_neg ht, hp.wrote]
      dsimp only
      have hx := hsm xs[K] (List.getElem_mem hK)
      by_cases hb : t.toNat < (frameL xs[K]).length
      · refine ⟨K, (frameL xs[K]).take t.toNat, by omega, Or.inr ?_, torn_early xs[K] t.toNat (by omega) (by rw [frameL_len] at hb; exact hb)⟩
        simp
      · refine ⟨K + 1, [], by omega, Or.inr ?_, hnil⟩
        have e : allF (base ++ xs.take (K + 1)) = allF (base ++ xs.take K) ++ frameL xs[K] := by rw [List.take_succ_eq_append_getElem hK, ← List.append_assoc, allF_append, allF_one]
        rw [List.append_nil, e]
        simp only [List.take_of_length_le (by omega : (frameL xs[K]).length ≤ t.toNat)]
  · have : (wrs base xs)[K]? = none := List.getElem?_eq_none (by rw [wrs_len]; omega)
    rw [this]
    dsimp only
    refine ⟨xs.length, [], Nat.le_refl _, ?_, hnil⟩
    rw [List.append_nil, List.take_length]
    rw [List.take_of_length_le (by omega)] at hp ⊢
    exact hp
end Go.Proofs.YtllkkflolijpaaaDoor
