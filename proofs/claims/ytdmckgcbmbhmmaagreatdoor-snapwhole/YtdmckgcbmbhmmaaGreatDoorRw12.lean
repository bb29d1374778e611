/-
  A disk's state, plain: what each call answers and leaves; which changes can be made.
  A disk in memory, and its small functions: isName, takes, size, Waiting, Fuse, New.
-/
import Derived.Test.YtdmckgcbmbhmmaaGreatDoorRw08
import Derived.Test.YtdmckgcbmbhmmaaGreatDoorRw11
import Derived.Deep.QuietTactic
import Derived.BigQuiet
namespace Go.Proofs.YtdmckgcbmbhmmaaGreatDoor

def dnb (c : UInt8) : Bool := (decide ((97 : Int) ≤ (c.toNat : Int)) && decide ((c.toNat : Int) ≤ 122)) || (decide ((48 : Int) ≤ (c.toNat : Int)) && decide ((c.toNat : Int) ≤ 57)) || decide ((c.toNat : Int) = 46)
/-- May a file have this name? -/
def dnm (s : ByteArray) : Bool := decide (1 ≤ s.size) && decide (s.size ≤ 32) && s.data.toList.all dnb
/-- Can a change be made on files, with what room there is? -/
def Fit (fs : Fs) : Chg → Prop
  | .wr n pos d => pos ≤ (hasF fs n).length ∧ (hasF fs n).length + d.size ≤ 524288
  | .ct n len => len ≤ (hasF fs n).length ∧ (hasF fs n).length ≤ 524288
  | _ => True
def Room (fs : Fs) : Prop := (total fs ≤ 262144 ∧ fs.length ≤ 64) ∧ ∀ p ∈ fs, dnm p.1 = true
def Can (fs : Fs) (c : Chg) : Prop := Fit fs c ∧ Room (made fs c)
def playAll : Fs → List Chg → Fs
  | fs, [] => fs
  | fs, c :: cs => playAll (made fs c) cs
def CanAll : Fs → List Chg → Prop
  | _, [] => True
  | fs, c :: cs => Can fs c ∧ CanAll (made fs c) cs
theorem playAll_snoc : ∀ (fs : Fs) (cs : List Chg) (c : Chg), playAll fs (cs ++ [c]) = made (playAll fs cs) c
  | _, [], _ => rfl
  | fs, a :: cs, c => playAll_snoc (made fs a) cs c
theorem canAll_snoc : ∀ {fs : Fs} {cs : List Chg} {c : Chg}, CanAll fs cs → Can (playAll fs cs) c → CanAll fs (cs ++ [c])
  | _, [], _, _, h => ⟨h, trivial⟩
  | _, _ :: _, _, h, k => ⟨h.1, canAll_snoc h.2 k⟩
theorem canAll_take : ∀ {fs : Fs} {cs : List Chg} (k : Nat), CanAll fs cs → CanAll fs (cs.take k)
  | _, [], k, _ => by rw [List.take_nil]; trivial
  | _, _ :: _, 0, _ => trivial
  | _, _ :: _, k + 1, h => ⟨h.1, canAll_take k h.2⟩
theorem canAll_get : ∀ {fs : Fs} {cs : List Chg} (k : Nat) (hk : k < cs.length), CanAll fs cs → Can (playAll fs (cs.take k)) cs[k]
  | _, [], _, h, _ => absurd h (by simp)
  | _, _ :: _, 0, _, h => h.1
  | _, _ :: cs, k + 1, hk, h => canAll_get (cs := cs) k (by simpa using hk) h.2
theorem canAll_room : ∀ {fs : Fs} {cs : List Chg}, Room fs → CanAll fs cs → Room (playAll fs cs)
  | _, [], h, _ => h
  | _, c :: cs, _, k => canAll_room (fs := made _ c) (cs := cs) k.1.2 k.2
/-- What a disk's state always is. -/
structure Inv (d : Dk) : Prop where
  play : playAll d.safe d.wait = d.now
  can : CanAll d.safe d.wait
  room : Room d.safe
  few : d.wait.length ≤ 1024
  left0 : -1 ≤ d.left
  left1 : d.left ≤ 9223372036854775807
theorem Inv.now {d : Dk} (h : Inv d) : Room d.now := by rw [← h.play]; exact canAll_room h.room h.can
def Dk.new : Dk := ⟨[], [], [], -1, false⟩
theorem Inv.new : Inv Dk.new := ⟨rfl, trivial, ⟨⟨by decide, by decide⟩, fun p hp => by cases hp⟩, by decide, by decide, by decide⟩
/-- May a change, or a sync, be made? It takes one of the fuse. -/
def Dk.readyB (d : Dk) : Bool := !(d.down || decide (d.left = 0))
def Dk.ready (d : Dk) : Dk := if d.readyB = true then { d with left := if d.left = -1 then -1 else d.left - 1 } else { d with down := true }
def Dk.doE (d : Dk) : Int := if 1024 ≤ d.wait.length then 32 else if d.readyB = true then 0 else 31
def Dk.doD (d : Dk) (c : Chg) : Dk := if 1024 ≤ d.wait.length then d else if d.readyB = true then { d.ready with wait := d.wait ++ [c], now := made d.now c } else d.ready
theorem ready_now (d : Dk) : d.ready.now = d.now ∧ d.ready.safe = d.safe ∧ d.ready.wait = d.wait := by
  unfold Dk.ready
  split <;> exact ⟨rfl, rfl, rfl⟩
theorem Inv.ready {d : Dk} (h : Inv d) : Inv d.ready := by
  obtain ⟨e1, e2, e3⟩ := ready_now d
  refine ⟨by rw [e1, e2, e3]; exact h.play, by rw [e2, e3]; exact h.can, by rw [e2]; exact h.room, by rw [e3]; exact h.few, ?_, ?_⟩
  · unfold Dk.ready Dk.readyB
    have := h.left0
    split
    · rename_i hr
      dsimp only
      split
      · omega
      · simp at hr; omega
    · exact this
  · unfold Dk.ready
    have h1 := h.left1
    have h0 := h.left0
    split
    · dsimp only; split <;> omega
    · exact h1
theorem Inv.doD {d : Dk} (h : Inv d) {c : Chg} (hc : Can d.now c) : Inv (d.doD c) := by
  unfold Dk.doD
  split
  · exact h
  · split
    · have hr := h.ready
      obtain ⟨e1, e2, e3⟩ := ready_now d
      refine ⟨?_, ?_, hr.room, ?_, hr.left0, hr.left1⟩
      · dsimp only
        rw [playAll_snoc, e2, h.play]
      · dsimp only
        rw [e2]
        exact canAll_snoc h.can (by rw [h.play]; exact hc)
      · dsimp only
        rw [List.length_append, List.length_singleton]; omega
    · exact h.ready
/-- The calls. -/
def Dk.grows (d : Dk) (n : ByteArray) (pos : Int) (s : ByteArray) : Int := max 0 ((s.size : Int) - (((hasF d.now n).length : Int) - pos))
def Dk.fullW (d : Dk) (n : ByteArray) (pos : Int) (s : ByteArray) : Bool := decide (262144 - (total d.now : Int) < d.grows n pos s) || (!(getF d.now n).isSome && decide (d.now.length = 64))
def Dk.badW (d : Dk) (n : ByteArray) (pos : Int) (s : ByteArray) : Int := if dnm n = false then 30 else if pos < 0 ∨ ((hasF d.now n).length : Int) < pos then 1 else if d.fullW n pos s = true then 32 else 0
def Dk.wrE (d : Dk) (n : ByteArray) (pos : Int) (s : ByteArray) : Int := if d.badW n pos s = 0 then d.doE else d.badW n pos s
def Dk.wrD (d : Dk) (n : ByteArray) (pos : Int) (s : ByteArray) : Dk := if d.badW n pos s = 0 then d.doD (.wr n pos.toNat s) else d
def Dk.badN (d : Dk) (n : ByteArray) : Int := if dnm n = false then 30 else if (getF d.now n).isSome = true then 0 else 5
def Dk.badC (d : Dk) (n : ByteArray) (len : Int) : Int := if d.badN n = 0 then (if len < 0 ∨ ((hasF d.now n).length : Int) < len then 1 else 0) else d.badN n
def Dk.ctE (d : Dk) (n : ByteArray) (len : Int) : Int := if d.badC n len = 0 then d.doE else d.badC n len
def Dk.ctD (d : Dk) (n : ByteArray) (len : Int) : Dk := if d.badC n len = 0 then d.doD (.ct n len.toNat) else d
def Dk.badR (d : Dk) (a b : ByteArray) : Int := if dnm a = false ∨ dnm b = false then 30 else d.badN a
def Dk.rnE (d : Dk) (a b : ByteArray) : Int := if d.badR a b = 0 then d.doE else d.badR a b
def Dk.rnD (d : Dk) (a b : ByteArray) : Dk := if d.badR a b = 0 then d.doD (.rn a b) else d
def Dk.rmE (d : Dk) (n : ByteArray) : Int := if d.badN n = 0 then d.doE else d.badN n
def Dk.rmD (d : Dk) (n : ByteArray) : Dk := if d.badN n = 0 then d.doD (.rm n) else d
def Dk.syE (d : Dk) : Int := if d.readyB = true then 0 else 31
def Dk.syD (d : Dk) : Dk := if d.readyB = true then { d.ready with safe := d.now, wait := [] } else d.ready
def Dk.rdE (d : Dk) (n : ByteArray) : Int := d.badN n
def Dk.rdS (d : Dk) (n : ByteArray) : ByteArray := if d.badN n = 0 then ⟨(hasF d.now n).toArray⟩ else ⟨#[]⟩
def Dk.fuE (n : Int) : Int := if n < 0 then 1 else 0
def Dk.fuD (d : Dk) (n : Int) : Dk := if n < 0 then d else { d with left := n }
def Dk.kept (d : Dk) (keep : Int) : Nat := (min (max keep 0) (d.wait.length : Int)).toNat
def Dk.left' (d : Dk) (keep t : Int) : Fs := match d.wait[d.kept keep]? with
  | some c => torn (playAll d.safe (d.wait.take (d.kept keep))) t c
  | none => playAll d.safe (d.wait.take (d.kept keep))
def Dk.crash (d : Dk) (keep t : Int) : Dk := ⟨d.left' keep t, d.left' keep t, [], -1, false⟩
theorem sum_perm {a b : List Nat} (h : a.Perm b) : a.sum = b.sum := h.sum_nat
theorem total_perm {a b : Fs} (h : a.Perm b) : total a = total b := (h.map _).sum_nat
theorem hasF_le {fs : Fs} (n : ByteArray) : (hasF fs n).length ≤ total fs := by
  unfold hasF
  cases h : getF fs n with
  | none => exact Nat.zero_le _
  | some d =>
    have hm := getF_some h
    unfold total
    obtain ⟨a, b, rfl⟩ := List.append_of_mem hm
    rw [List.map_append, List.map_cons, List.sum_append, List.sum_cons]
    dsimp only [Option.getD_some]
    omega
/-- How many bytes are left without one name's. -/
theorem total_without {fs : Fs} (hn : (fs.map (·.1)).Nodup) (n : ByteArray) : total (without fs n) + (hasF fs n).length = total fs := by
  induction fs with
  | nil => rfl
  | cons p fs ih =>
    rw [List.map_cons, List.nodup_cons] at hn
    by_cases he : p.1 = n
    · have h1 : without (p :: fs) n = without fs n := List.filter_cons_of_neg (by simp [he])
      have h2 : without fs n = fs := without_none (fun q hq e => hn.1 (List.mem_map.2 ⟨q, hq, e.trans he.symm⟩))
      have h3 : hasF (p :: fs) n = p.2 := by unfold hasF getF; rw [List.find?_cons_of_pos (by simp [he])]; rfl
      rw [h1, h2, h3]
      unfold total
      rw [List.map_cons, List.sum_cons]; omega
    · have h1 : without (p :: fs) n = p :: without fs n := List.filter_cons_of_pos (by simp [he])
      have h3 : hasF (p :: fs) n = hasF fs n := by unfold hasF getF; rw [List.find?_cons_of_neg (by simp [he])]
      have := ih hn.2
      rw [h1, h3]
      unfold total at *
      rw [List.map_cons, List.sum_cons, List.map_cons, List.sum_cons]; omega
theorem total_with {fs : Fs} (hn : (fs.map (·.1)).Nodup) (n : ByteArray) (d : List UInt8) : total (withF fs n d) + (hasF fs n).length = total fs + d.length := by
  have h1 := total_perm (withF_perm fs n d)
  have h2 := total_without hn n
  have h3 : total ((n, d) :: without fs n) = d.length + total (without fs n) := by unfold total; rw [List.map_cons, List.sum_cons]
  omega
theorem len_without (fs : Fs) (n : ByteArray) : (without fs n).length ≤ fs.length := List.length_filter_le _ _
theorem len_without_some {fs : Fs} {n : ByteArray} (h : (getF fs n).isSome = true) : (without fs n).length + 1 ≤ fs.length := by
  cases hg : getF fs n with
  | none => rw [hg] at h; cases h
  | some d => exact List.length_filter_lt_length_iff_exists.2 ⟨_, getF_some hg, by simp⟩
theorem len_with (fs : Fs) (n : ByteArray) (d : List UInt8) : (withF fs n d).length = (without fs n).length + 1 := by rw [(withF_perm fs n d).length_eq]; rfl
theorem over_len (h : List UInt8) (pos : Nat) (d : List UInt8) (hp : pos ≤ h.length) : (over h pos d).length = max h.length (pos + d.length) := by
  unfold over
  simp only [List.length_append, List.length_take, List.length_drop]
  omega
theorem nodup_without {fs : Fs} (hn : (fs.map (·.1)).Nodup) (n : ByteArray) : ((without fs n).map (·.1)).Nodup := (List.Sublist.map _ List.filter_sublist).nodup hn
theorem getF_without {fs : Fs} (n : ByteArray) : getF (without fs n) n = none := getF_none fun h => by
  obtain ⟨p, hp, he⟩ := List.mem_map.1 h
  have := (List.mem_filter.1 hp).2
  simp [he] at this
theorem names_without {fs : Fs} (h : ∀ p ∈ fs, dnm p.1 = true) (n : ByteArray) : ∀ p ∈ without fs n, dnm p.1 = true := fun p hp => h p (List.mem_filter.1 hp).1
theorem names_with {fs : Fs} (h : ∀ p ∈ fs, dnm p.1 = true) {n : ByteArray} (hn : dnm n = true) (d : List UInt8) : ∀ p ∈ withF fs n d, dnm p.1 = true := fun p hp => by
  have := (withF_perm fs n d).mem_iff.1 hp
  rw [List.mem_cons] at this
  rcases this with rfl | hp
  · exact hn
  · exact names_without h n p hp
/-- Where a call is not refused, its change can be made. -/
theorem can_wr {d : Dk} {n : ByteArray} {pos : Int} {s : ByteArray} (hr : Room d.now) (hn : (d.now.map (·.1)).Nodup) (h : d.badW n pos s = 0) : Can d.now (.wr n pos.toNat s) ∧ 0 ≤ pos ∧ pos ≤ ((hasF d.now n).length : Int) := by
  unfold Dk.badW at h
  split at h
  · cases h
  · rename_i hdn
    split at h
    · cases h
    · rename_i hp
      split at h
      · cases h
      · rename_i hf
        have hl := hasF_le (fs := d.now) n
        have hsl : s.data.toList.length = s.size := Array.length_toList
        simp only [Dk.fullW, Bool.or_eq_true, Bool.and_eq_true, Bool.not_eq_true', decide_eq_true_eq, not_or, not_and, Int.not_lt] at hf hp
        obtain ⟨hf1, hf2⟩ := hf
        unfold Dk.grows at hf1
        obtain ⟨⟨hr1, hr2⟩, hr3⟩ := hr
        have h2 := total_with hn n (over (hasF d.now n) pos.toNat s.data.toList)
        have h3 := over_len (hasF d.now n) pos.toNat s.data.toList (by omega)
        rw [hsl] at h3
        have h4 := Int.le_trans (Int.le_max_right 0 _) hf1
        have h5 := Int.le_trans (Int.le_max_left 0 _) hf1
        clear hf1
        have h6 : (over (hasF d.now n) pos.toNat s.data.toList).length = (hasF d.now n).length ∨ (over (hasF d.now n) pos.toNat s.data.toList).length = pos.toNat + s.size := by
          rw [h3]
          rcases Nat.le_total (hasF d.now n).length (pos.toNat + s.size) with h | h
          · exact Or.inr (Nat.max_eq_right h)
          · exact Or.inl (Nat.max_eq_left h)
        clear h3
        refine ⟨⟨⟨by omega, by omega⟩, ⟨?_, ?_⟩, names_with hr3 (by simpa using hdn) _⟩, by omega, by omega⟩
        · show total (withF _ _ _) ≤ _
          omega
        · show (withF _ _ _).length ≤ _
          rw [len_with]
          cases hg : (getF d.now n).isSome with
          | true => have := len_without_some hg; omega
          | false => have := hf2 hg; have := len_without d.now n; omega
theorem can_ct {d : Dk} {n : ByteArray} {len : Int} (hr : Room d.now) (hn : (d.now.map (·.1)).Nodup) (h : d.badC n len = 0) : Can d.now (.ct n len.toNat) ∧ 0 ≤ len ∧ len ≤ ((hasF d.now n).length : Int) := by
  unfold Dk.badC at h
  split at h
  · rename_i hb
    split at h
    · cases h
    · rename_i hp
      have hg : (getF d.now n).isSome = true := by
        unfold Dk.badN at hb
        split at hb
        · cases hb
        · split at hb
          · assumption
          · cases hb
      have hdn : dnm n = true := by
        unfold Dk.badN at hb
        split at hb
        · cases hb
        · rename_i h1; simpa using h1
      have hl := hasF_le (fs := d.now) n
      obtain ⟨⟨hr1, hr2⟩, hr3⟩ := hr
      have h2 := total_with hn n ((hasF d.now n).take len.toNat)
      rw [List.length_take] at h2
      refine ⟨⟨⟨by omega, by omega⟩, ⟨?_, ?_⟩, names_with hr3 hdn _⟩, by omega, by omega⟩
      · show total (withF _ _ _) ≤ _
        omega
      · show (withF _ _ _).length ≤ _
        rw [len_with]
        have := len_without_some hg; omega
  · rename_i hb; exact absurd h hb
theorem badN_some {d : Dk} {n : ByteArray} (h : d.badN n = 0) : dnm n = true ∧ (getF d.now n).isSome = true := by
  unfold Dk.badN at h
  split at h
  · cases h
  · rename_i h1
    split at h
    · rename_i h2; exact ⟨by simpa using h1, h2⟩
    · cases h
theorem can_rm {d : Dk} {n : ByteArray} (hr : Room d.now) (hn : (d.now.map (·.1)).Nodup) : Can d.now (.rm n) := by
  have h1 := total_without hn n
  have h2 := len_without d.now n
  exact ⟨trivial, ⟨by show total (without _ _) ≤ _; have := hr.1.1; omega, by show (without _ _).length ≤ _; have := hr.1.2; omega⟩, names_without hr.2 n⟩
theorem can_rn {d : Dk} {a b : ByteArray} (hr : Room d.now) (hn : (d.now.map (·.1)).Nodup) (hg : (getF d.now a).isSome = true) (hb : dnm b = true) : Can d.now (.rn a b) := by
  have h1 := total_without hn a
  have h2 := total_with (nodup_without hn a) b (hasF d.now a)
  have h3 := len_without_some hg
  have h4 := len_without (without d.now a) b
  refine ⟨trivial, ⟨?_, ?_⟩, names_with (names_without hr.2 a) hb _⟩
  · show total (withF _ _ _) ≤ _
    have := hr.1.1; omega
  · show (withF _ _ _).length ≤ _
    rw [len_with]; have := hr.1.2; omega
end Go.Proofs.YtdmckgcbmbhmmaaGreatDoor
namespace Go.Proofs.YtdmckgcbmbhmmaaGreatDoor
open Go.RowKit

theorem apply_any (c : Chg) (b : Nat) (fs : Fs) (L : List Nat) (w : World) (h : FilesAt w b fs L) (hf : Fit fs c) :
    Calls Tryz.prog 82 #[.map (some b), chV c] w fun e w' => e = .returned (.tuple #[]) ∧ Made w b (made fs c) L w' := by
  cases c with
  | wr n pos d => exact apply_wr n pos d b fs L w h hf.1 (by have := hf.2; omega)
  | ct n len => exact apply_ct n len b fs L w h hf.1 (by have := hf.2; omega)
  | rn a c => exact apply_rn a c b fs L w h
  | rm n => exact apply_rm n b fs L w h
/-- Changes that wait lie in a row of their own. -/
def WaitsAt (w : World) (v : Value) (cs : List Chg) : Prop := w.ownsRow 0 88 1 v cs.length (cs.map chV)
theorem WaitsAt.kp {F : List Nat} {w w' : World} {v : Value} {l : List Chg} (h : WaitsAt w v l) (hk : Kp F w w') (hF : ∀ k, v.ownBlock = some k → k ∉ F) : WaitsAt w' v l := by
  obtain ⟨h1, h2 | ⟨g, cp, cur, rfl, hb, hh, r⟩⟩ := h
  · exact ⟨h1, Or.inl h2⟩
  · exact ⟨h1, Or.inr ⟨g, cp, cur, rfl, hb, (hk.block g (Array.getElem?_eq_some_iff.1 hh).1 (hF g rfl)).trans hh, r⟩⟩
theorem WaitsAt.block {w : World} {v : Value} {l : List Chg} (h : WaitsAt w v l) {k : Nat} (hk : v.ownBlock = some k) : ∃ cur, w.heap[k]? = some (.cells cur 88 (0, 0)) := by
  obtain ⟨_, ⟨rfl, h0⟩ | ⟨g, cp, cur, rfl, _, hh, _⟩⟩ := h
  · simp [Value.ownBlock] at hk
  · simp [Value.ownBlock] at hk
    subst hk
    exact ⟨cur, hh⟩
theorem WaitsAt.form {w : World} {v : Value} {l : List Chg} (h : WaitsAt w v l) : ∃ ad cap, v = .slice ad l.length cap ∧ l.length ≤ cap ∧ cap ≤ maxLen := by
  obtain ⟨_, ⟨rfl, h0⟩ | ⟨g, cp, cur, rfl, _, _, hn, hm, _⟩⟩ := h
  · exact ⟨_, _, by rw [h0], by omega, by simp⟩
  · exact ⟨_, _, rfl, hn, hm⟩
theorem WaitsAt.nil (w : World) : WaitsAt w nilS [] := World.ownsRow_nil _ _ _ _
def dkC (bs bn : Nat) (wv : Value) (left : Int) (down : Bool) : Array Value := #[.map (some bs), .map (some bn), wv, .int .i64 left, .bool down]
/-- A disk's parts. -/
structure DkAt (w : World) (p bs bn : Nat) (wv : Value) (Ls Ln : List Nat) (d : Dk) : Prop where
  box : CBox p (dkC bs bn wv d.left d.down) 58 w
  safe : FilesAt w bs d.safe Ls
  now : FilesAt w bn d.now Ln
  wait : WaitsAt w wv d.wait
  ne : bs ≠ bn
  dis : ∀ k ∈ Ls, k ∉ Ln
def foot (p bs bn : Nat) (wv : Value) (Ls Ln : List Nat) : List Nat := p :: bs :: bn :: (wv.ownBlock.toList ++ (Ls ++ Ln))
/-- A disk lies there, with these blocks. -/
def DiskAt (w : World) (p : Nat) (d : Dk) (F : List Nat) : Prop := ∃ bs bn wv Ls Ln, DkAt w p bs bn wv Ls Ln d ∧ F = foot p bs bn wv Ls Ln ∧ Inv d
/-- What a call leaves. -/
def Did (w : World) (F : List Nat) (p : Nat) (d : Dk) (w' : World) : Prop := ∃ F', DiskAt w' p d F' ∧ Kp F w w' ∧ ∀ k ∈ F', k ∈ F ∨ w.heap.size ≤ k
section
variable {w w' : World} {p bs bn : Nat} {wv : Value} {Ls Ln : List Nat} {d : Dk} {F : List Nat}
theorem DkAt.froz (h : DkAt w p bs bn wv Ls Ln d) (i : Nat) : w.frozen? ⟨p, i, none⟩ = false := by
  have := h.box
  unfold CBox at this
  simp [World.frozen?, this]
theorem DkAt.cells (h : DkAt w p bs bn wv Ls Ln d) : w.cell? ⟨p, 0, none⟩ = some (.map (some bs)) ∧ w.cell? ⟨p, 1, none⟩ = some (.map (some bn)) ∧ w.cell? ⟨p, 2, none⟩ = some wv ∧ w.cell? ⟨p, 3, none⟩ = some (.int .i64 d.left) ∧ w.cell? ⟨p, 4, none⟩ = some (.bool d.down) :=
  ⟨h.box.cell rfl, h.box.cell rfl, h.box.cell rfl, h.box.cell rfl, h.box.cell rfl⟩
theorem DkAt.frozs (h : DkAt w p bs bn wv Ls Ln d) : w.frozen? ⟨p, 0, none⟩ = false ∧ w.frozen? ⟨p, 1, none⟩ = false ∧ w.frozen? ⟨p, 2, none⟩ = false ∧ w.frozen? ⟨p, 3, none⟩ = false ∧ w.frozen? ⟨p, 4, none⟩ = false :=
  ⟨h.froz 0, h.froz 1, h.froz 2, h.froz 3, h.froz 4⟩
theorem DkAt.lt (h : DkAt w p bs bn wv Ls Ln d) : p < w.heap.size := (Array.getElem?_eq_some_iff.1 h.box).1
/-- The parts lie apart. -/
theorem DkAt.pm (h : DkAt w p bs bn wv Ls Ln d) : p ≠ bs ∧ p ≠ bn ∧ (∀ k, wv.ownBlock = some k → k ≠ p ∧ k ≠ bs ∧ k ≠ bn ∧ k ∉ Ls ∧ k ∉ Ln) ∧ p ∉ Ls ∧ p ∉ Ln ∧ bs ∉ Ls ∧ bs ∉ Ln ∧ bn ∉ Ls ∧ bn ∉ Ln := by
  have hb : w.heap[p]? = some (.cells (dkC bs bn wv d.left d.down) 58 (0, 0)) := h.box
  obtain ⟨ls, cs, ms, _⟩ := h.safe
  obtain ⟨ln, cn, mn, _⟩ := h.now
  have rows : ∀ L b fs, FilesAt w b fs L → ∀ k ∈ L, ∃ cur, w.heap[k]? = some (.cells cur 5 (0, 0)) := fun L b fs hf k hk => (hf.rows hk).2
  have r1 := rows _ _ _ h.safe
  have r2 := rows _ _ _ h.now
  have mapno : ∀ L : List Nat, (∀ k ∈ L, ∃ cur, w.heap[k]? = some (.cells cur 5 (0, 0))) → ∀ b l c, MapIs w b l c → b ∉ L := fun L hL b l c hm hb => by
    obtain ⟨cur, hc⟩ := hL b hb
    rw [hm.here] at hc
    cases hc
  have boxno : ∀ L : List Nat, (∀ k ∈ L, ∃ cur, w.heap[k]? = some (.cells cur 5 (0, 0))) → p ∉ L := fun L hL hp => by
    obtain ⟨cur, hc⟩ := hL p hp
    rw [hb] at hc
    simp at hc
  refine ⟨?_, ?_, fun k hk => ?_, boxno _ r1, boxno _ r2, mapno _ r1 _ _ _ ms, mapno _ r2 _ _ _ ms, mapno _ r1 _ _ _ mn, mapno _ r2 _ _ _ mn⟩
  · rintro rfl; rw [ms.here] at hb; cases hb
  · rintro rfl; rw [mn.here] at hb; cases hb
  · obtain ⟨cur, hw⟩ := h.wait.block hk
    refine ⟨?_, ?_, ?_, fun hm => ?_, fun hm => ?_⟩
    · rintro rfl; rw [hb] at hw; simp at hw
    · rintro rfl; rw [ms.here] at hw; cases hw
    · rintro rfl; rw [mn.here] at hw; cases hw
    · obtain ⟨c2, h2⟩ := r1 k hm
      rw [hw] at h2
      simp at h2
    · obtain ⟨c2, h2⟩ := r2 k hm
      rw [hw] at h2
      simp at h2
theorem DkAt.kp (h : DkAt w p bs bn wv Ls Ln d) (hk : Kp F w w') (hF : ∀ k ∈ foot p bs bn wv Ls Ln, k ∉ F) : DkAt w' p bs bn wv Ls Ln d := by
  unfold foot at hF
  refine ⟨h.box.kp hk (hF p (by simp)), h.safe.kp hk (hF bs (by simp)) (fun k hm => hF k (by simp [hm])), h.now.kp hk (hF bn (by simp)) (fun k hm => hF k (by simp [hm])), h.wait.kp hk (fun k hm => hF k (by simp [hm])), h.ne, h.dis⟩
theorem foot_lt (h : DkAt w p bs bn wv Ls Ln d) : ∀ k ∈ foot p bs bn wv Ls Ln, k < w.heap.size := by
  intro k hk
  unfold foot at hk
  simp only [List.mem_cons, List.mem_append, Option.mem_toList] at hk
  rcases hk with rfl | rfl | rfl | hk | hk | hk
  · exact h.lt
  · exact h.safe.lt
  · exact h.now.lt
  · exact (World.ownsRow.lt h.wait k hk).2
  · exact (h.safe.rows hk).1
  · exact (h.now.rows hk).1
theorem DiskAt.lt (h : DiskAt w p d F) : ∀ k ∈ F, k < w.heap.size := by
  obtain ⟨bs, bn, wv, Ls, Ln, ha, rfl, _⟩ := h
  exact foot_lt ha
theorem DiskAt.kp {G : List Nat} (h : DiskAt w p d F) (hk : Kp G w w') (hF : ∀ k ∈ F, k ∉ G) : DiskAt w' p d F := by
  obtain ⟨bs, bn, wv, Ls, Ln, ha, rfl, hi⟩ := h
  exact ⟨bs, bn, wv, Ls, Ln, ha.kp hk hF, rfl, hi⟩
theorem DiskAt.inv (h : DiskAt w p d F) : Inv d := let ⟨_, _, _, _, _, _, _, hi⟩ := h; hi
theorem DiskAt.nodup (h : DiskAt w p d F) : (d.now.map (·.1)).Nodup := let ⟨_, _, _, _, _, ha, _, _⟩ := h; ha.now.nodup
/-- A cell of the box is set. -/
theorem kp_set (w : World) (p i : Nat) (v : Value) : Kp [p] w (w.setCell ⟨p, i, none⟩ v) := ⟨rfl, rfl, rfl, by simp [World.setCell], fun k _ hk => Below.heap_setCell _ _ _ _ (fun e => hk (by simp [e]))⟩
theorem DkAt.setBox {wv' : Value} {l' : Int} {dn' : Bool} (h : DkAt w p bs bn wv Ls Ln d) (hk : Kp [p] w w') (hb : CBox p (dkC bs bn wv' l' dn') 58 w') (hw : wv' = wv) : DkAt w' p bs bn wv Ls Ln { d with left := l', down := dn' } := by
  subst hw
  obtain ⟨q1, q2, q3, q4, q5, q6, q7, q8, q9⟩ := h.pm
  have nn : ∀ k, k ≠ p → k ∉ [p] := fun k hk hm => hk (by simpa using hm)
  exact ⟨hb, h.safe.kp hk (nn _ q1.symm) (fun k hm => nn k (fun e => q4 (by rw [← e]; exact hm))), h.now.kp hk (nn _ q2.symm) (fun k hm => nn k (fun e => q5 (by rw [← e]; exact hm))), h.wait.kp hk (fun k hm => nn k (q3 k hm).1), h.ne, h.dis⟩
theorem Did.of (h : DkAt w' p bs bn wv Ls Ln d) (hi : Inv d) (hk : Kp F w w') (hF : ∀ k ∈ foot p bs bn wv Ls Ln, k ∈ F ∨ w.heap.size ≤ k) : Did w F p d w' := ⟨_, ⟨bs, bn, wv, Ls, Ln, h, rfl, hi⟩, hk, hF⟩
theorem DiskAt.did (h : DiskAt w p d F) : Did w F p d w := ⟨F, h, Kp.refl _ _, fun _ hk => Or.inl hk⟩
theorem DiskAt.did' (h : DiskAt w p d F) (hk : Kp [] w w') : Did w F p d w' := ⟨F, h.kp hk (by simp), hk.mono (by simp), fun _ hk => Or.inl hk⟩
end
set_option maxHeartbeats 400000 in
theorem takes_any (p : Nat) (d : Dk) (F : List Nat) (w : World) (h : DiskAt w p d F) :
    Calls Tryz.prog 80 #[.pointer (some ⟨p, 0, none⟩)] w fun e w' => e = .returned (.bool d.readyB) ∧ Did w F p d.ready w' := by
  have hi := h.inv.ready
  have hl0 := h.inv.left0
  have hl1 := h.inv.left1
  obtain ⟨bs, bn, wv, Ls, Ln, ha, rfl, _⟩ := h
  have hc := ha.cells
  have hf := ha.frozs
  have hfoot : ∀ k ∈ foot p bs bn wv Ls Ln, k ∈ foot p bs bn wv Ls Ln ∨ w.heap.size ≤ k := fun _ hk => Or.inl hk
  have hpf : ∀ x ∈ [p], x ∈ foot p bs bn wv Ls Ln := by unfold foot; simp
  obtain ⟨sf, nw, wt, left, down⟩ := d
  dsimp only at hc hl0 hl1
  by_cases h0 : left = 0
  · subst h0
    have e1 : (Dk.mk sf nw wt 0 down).readyB = false := by simp [Dk.readyB]
    have e2 : (Dk.mk sf nw wt 0 down).ready = ⟨sf, nw, wt, 0, true⟩ := by simp [Dk.ready, e1]
    rw [e2] at hi ⊢
    rw [e1]
    have hkp := kp_set w p 4 (.bool true)
    have hbox := ha.box.set 4 (.bool true)
    have hD := ha.setBox hkp (wv' := wv) (l' := 0) (dn' := true) hbox rfl
    have HD := hide (Did.of hD hi (hkp.mono hpf) hfoot)
    clear hD hbox hi e1 e2 ha hfoot hpf hkp
    go_enter Tryz.func80, Tryz.ntmps80
    go_wp2
    go_ret
    exact ⟨rfl, unhide HD⟩
  · have g0 : (left == 0) = false := beq_eq_false_iff_ne.2 h0
    cases down with
    | true =>
      have e1 : (Dk.mk sf nw wt left true).readyB = false := by simp [Dk.readyB]
      have e2 : (Dk.mk sf nw wt left true).ready = ⟨sf, nw, wt, left, true⟩ := by simp [Dk.ready, e1]
      rw [e2] at hi ⊢
      rw [e1]
      have HD := hide (Did.of ha hi (Kp.refl _ _) hfoot)
      clear hi e1 e2 ha hfoot hpf h0
      go_enter Tryz.func80, Tryz.ntmps80
      go_wp2
      go_ret
      exact ⟨rfl, unhide HD⟩
    | false =>
      have e1 : (Dk.mk sf nw wt left false).readyB = true := by simp [Dk.readyB, h0]
      by_cases hm : left = -1
      · subst hm
        have e2 : (Dk.mk sf nw wt (-1) false).ready = ⟨sf, nw, wt, -1, false⟩ := by simp [Dk.ready, e1]
        rw [e2] at hi ⊢
        rw [e1]
        have HD := hide (Did.of ha hi (Kp.refl _ _) hfoot)
        clear hi e1 e2 ha hfoot hpf h0
        go_enter Tryz.func80, Tryz.ntmps80
        go_wp2
        go_ret
        exact ⟨rfl, unhide HD⟩
      · have e2 : (Dk.mk sf nw wt left false).ready = ⟨sf, nw, wt, left - 1, false⟩ := by simp [Dk.ready, e1, hm]
        have gm : (left != -1) = true := by rw [bne_iff_ne]; exact hm
        rw [e2] at hi ⊢
        rw [e1]
        have hkp := kp_set w p 3 (.int .i64 (left - 1))
        have hbox := ha.box.set 3 (.int .i64 (left - 1))
        have hD := ha.setBox hkp (wv' := wv) (l' := left - 1) (dn' := false) hbox rfl
        have HD := hide (Did.of hD hi (hkp.mono hpf) hfoot)
        clear hi e1 e2 ha hfoot hpf hkp hbox hD h0 hm
        go_enter Tryz.func80, Tryz.ntmps80
        go_wp2
        go_ret
        exact ⟨rfl, unhide HD⟩
end Go.Proofs.YtdmckgcbmbhmmaaGreatDoor
