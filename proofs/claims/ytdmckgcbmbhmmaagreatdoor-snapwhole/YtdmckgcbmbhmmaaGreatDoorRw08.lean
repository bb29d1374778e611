/-
  Plain facts on frames: a frame that ends early is none; nor is one in which one byte behind the number is another one; a frame is found wherever it stands.
  Plain facts on files, of no program: names and bytes, changes, what a change makes of files; lists of entries that are the same files in another order.
-/
import Derived.Test.YtdmckgcbmbhmmaaGreatDoorRw07
import Derived.Test.YtdmckgcbmbhmmaaGreatDoorRw01
import Derived.Lib.Small
import Derived.Lib.Bytealg
namespace Go.Proofs.YtdmckgcbmbhmmaaGreatDoor
open Go.RowKit

theorem frame_take2 (b : List UInt8) : ∃ r, frameL b = 87 :: 70 :: r ∧ r.length = b.length + 8 := by
  refine ⟨w4 b.length ++ w4 (sumOf (headL b.length ++ b)) ++ b, ?_, ?_⟩
  · unfold frameL headL; simp
  · rw [List.length_append, List.length_append]; show 4 + 4 + b.length = _; omega
theorem frame_drop2 (b : List UInt8) : (frameL b).drop 2 = w4 b.length ++ (w4 (sumOf (headL b.length ++ b)) ++ b) := by
  unfold frameL headL; simp
theorem frame_drop6 (b : List UInt8) : (frameL b).drop 6 = w4 (sumOf (headL b.length ++ b)) ++ b := by
  unfold frameL headL w4; simp
theorem frame_drop10 (b : List UInt8) : (frameL b).drop 10 = b := by
  unfold frameL headL w4; simp
theorem frame_take6 (b : List UInt8) : (frameL b).take 6 = headL b.length := by
  unfold frameL headL w4; simp
theorem take4_unw4 (l : List UInt8) : unw4 l = unw4 (l.take 4) := by
  match l with
  | [] => rfl
  | [_] => rfl
  | [_, _] => rfl
  | [_, _, _] => rfl
  | _ :: _ :: _ :: _ :: _ => rfl
theorem hasPre (r : List UInt8) : Lib.hasPrefix (87 :: 70 :: r) [87, 70] = true := by
  unfold Lib.hasPrefix; simp [List.isPrefixOf]
/-- A frame that ends early. -/
theorem torn_early (b : List UInt8) (k : Nat) (hb : b.length ≤ 65536) (hk : k < b.length + 10) : bodyS ((frameL b).take k) = ([], 11) := by
  obtain ⟨r, e, hr⟩ := frame_take2 b
  have hl : ((frameL b).take k).length = k := by rw [List.length_take, frameL_len]; omega
  unfold bodyS
  by_cases h2 : k < 2
  · rw [if_pos]
    refine ⟨by omega, ?_⟩
    rw [e]
    match k, h2 with
    | 0, _ => rfl
    | 1, _ => rfl
  · obtain ⟨j, rfl⟩ : ∃ j, k = j + 2 := ⟨k - 2, by omega⟩
    have e2 : (frameL b).take (j + 2) = 87 :: 70 :: r.take j := by rw [e]; rfl
    have hp : Lib.hasPrefix ((frameL b).take (j + 2)) [87, 70] = true := by rw [e2]; exact hasPre _
    rw [if_neg (fun h => by omega), if_neg (by rw [hp]; simp)]
    by_cases h10 : j + 2 < 10
    · rw [if_pos (by omega)]
    · rw [if_neg (by omega)]
      have hn : unw4 (((frameL b).take (j + 2)).drop 2) = b.length := by
        rw [List.drop_take, frame_drop2, take4_unw4, List.take_take, show min 4 (j + 2 - 2) = 4 by omega, ← take4_unw4]
        exact unw4_w4 _ _ (by omega)
      rw [hn, if_neg (by omega), if_pos]
      rw [List.length_drop, hl]; omega
theorem w4_inj_one (a : List UInt8) (x y : UInt8) (r : List UInt8) (hne : x ≠ y) (hl : a.length < 4) : unw4 (a ++ x :: r) ≠ unw4 (a ++ y :: r) ∨ (a ++ x :: r).length < 4 := by
  by_cases hs : (a ++ x :: r).length < 4
  · exact Or.inr hs
  · refine Or.inl fun h => hne ?_
    apply UInt8.toNat_inj.1
    have hx := x.toNat_lt; have hy := y.toNat_lt
    match a, hl with
    | [], _ =>
      match r, hs, h with
      | [], hs, _ => simp at hs
      | [_], hs, _ => simp at hs
      | [_, _], hs, _ => simp at hs
      | _ :: _ :: _ :: _, _, h => simp only [List.nil_append, unw4] at h; omega
    | [_], _ =>
      match r, hs, h with
      | [], hs, _ => simp at hs
      | [_], hs, _ => simp at hs
      | _ :: _ :: _, _, h => simp only [List.cons_append, List.nil_append, unw4] at h; omega
    | [_, _], _ =>
      match r, hs, h with
      | [], hs, _ => simp at hs
      | _ :: _, _, h => simp only [List.cons_append, List.nil_append, unw4] at h; omega
    | [_, _, _], _ => simp only [List.cons_append, List.nil_append, unw4] at h; omega
    | _ :: _ :: _ :: _ :: _, hl => simp at hl; omega
/-- A frame in which one byte behind the number is another one. -/
theorem torn_byte (b : List UInt8) (k : Nat) (c : UInt8) (hb : b.length ≤ 65536) (h6 : 6 ≤ k) (hk : k < b.length + 10) (hc : (frameL b)[k]? ≠ some c) : bodyS ((frameL b).set k c) = ([], 10) := by
  obtain ⟨r, e, hr⟩ := frame_take2 b
  obtain ⟨j, rfl⟩ : ∃ j, k = j + 2 := ⟨k - 2, by omega⟩
  have e2 : (frameL b).set (j + 2) c = 87 :: 70 :: r.set j c := by rw [e]; rfl
  have hl : ((frameL b).set (j + 2) c).length = b.length + 10 := by rw [List.length_set, frameL_len]
  have hp : Lib.hasPrefix ((frameL b).set (j + 2) c) [87, 70] = true := by rw [e2]; exact hasPre _
  have hd2 : ((frameL b).set (j + 2) c).drop 2 = ((frameL b).drop 2).set j c := by rw [List.drop_set, if_neg (by omega)]; rfl
  have hn : unw4 (((frameL b).set (j + 2) c).drop 2) = b.length := by
    rw [hd2, take4_unw4, List.take_set_of_le (by omega), ← take4_unw4, frame_drop2]
    exact unw4_w4 _ _ (by omega)
  have ht6 : ((frameL b).set (j + 2) c).take 6 = headL b.length := by rw [List.take_set_of_le (by omega), frame_take6]
  have hsum := sumOf_lt (headL b.length ++ b)
  unfold bodyS
  rw [if_neg (fun h => by omega), if_neg (by rw [hp]; simp), if_neg (by omega), hn, if_neg (by omega), if_neg (by rw [List.length_drop, hl]; omega), if_pos]
  rw [ht6]
  by_cases h10 : j + 2 < 10
  · have hd10 : ((frameL b).set (j + 2) c).drop 10 = b := by rw [List.drop_set, if_pos (by omega), frame_drop10]
    have hd6 : ((frameL b).set (j + 2) c).drop 6 = (w4 (sumOf (headL b.length ++ b)) ++ b).set (j - 4) c := by rw [List.drop_set, if_neg (by omega), frame_drop6]; congr 1
    rw [hd10, List.take_length, hd6]
    have hlen : (w4 (sumOf (headL b.length ++ b)) ++ b).length = b.length + 4 := by rw [List.length_append]; show 4 + b.length = _; omega
    have hget : (w4 (sumOf (headL b.length ++ b)) ++ b)[j - 4]? ≠ some c := by
      rw [← frame_drop6, List.getElem?_drop, show 6 + (j - 4) = j + 2 by omega]; exact hc
    have hun := unw4_w4 (sumOf (headL b.length ++ b)) b hsum
    generalize w4 (sumOf (headL b.length ++ b)) ++ b = L at *
    have hj : j - 4 < L.length := by omega
    rw [← hun]
    have es : L = L.take (j - 4) ++ L[j - 4] :: L.drop (j - 4 + 1) := by rw [← List.drop_eq_getElem_cons hj, List.take_append_drop]
    rw [List.set_eq_take_append_cons_drop, if_pos hj]
    have hne : L[j - 4] ≠ c := fun h => hget (by rw [List.getElem?_eq_getElem hj, h])
    rcases w4_inj_one (L.take (j - 4)) L[j - 4] c (L.drop (j - 4 + 1)) hne (by rw [List.length_take]; omega) with h | h
    · rw [← es] at h; exact h
    · rw [← es] at h; omega
  · have hd6 : unw4 (((frameL b).set (j + 2) c).drop 6) = sumOf (headL b.length ++ b) := by
      rw [List.drop_set, if_neg (by omega), frame_drop6, take4_unw4, List.take_set_of_le (by omega), ← take4_unw4]
      exact unw4_w4 _ _ hsum
    have hd10 : ((frameL b).set (j + 2) c).drop 10 = b.set (j - 8) c := by rw [List.drop_set, if_neg (by omega), frame_drop10]; congr 1
    have hget : b[j - 8]? ≠ some c := by
      have : b[j - 8]? = (frameL b)[j + 2]? := by rw [← frame_drop10 b, List.getElem?_drop, frame_drop10, show 10 + (j - 8) = j + 2 by omega]
      rw [this]; exact hc
    rw [hd6, hd10, List.take_of_length_le (by rw [List.length_set]; omega)]
    have hj : j - 8 < b.length := by omega
    have es : b = b.take (j - 8) ++ b[j - 8] :: b.drop (j - 8 + 1) := by rw [← List.drop_eq_getElem_cons hj, List.take_append_drop]
    have hne : b[j - 8] ≠ c := fun h => hget (by rw [List.getElem?_eq_getElem hj, h])
    intro h
    have h := sumOf_inj h
    rw [List.set_eq_take_append_cons_drop, if_pos hj, ← List.append_assoc] at h
    refine sumL_byte (s := 4294967295) (headL b.length ++ b.take (j - 8)) (b.drop (j - 8 + 1)) (by omega) hne ?_
    rw [h, List.append_assoc, ← es]
end Go.Proofs.YtdmckgcbmbhmmaaGreatDoor
namespace Go.Proofs.YtdmckgcbmbhmmaaGreatDoor

/-- Files: names and bytes. -/
abbrev Fs := List (ByteArray × List UInt8)
/-- A change. -/
inductive Chg where
  | wr (n : ByteArray) (pos : Nat) (d : ByteArray)
  | ct (n : ByteArray) (len : Nat)
  | rn (a b : ByteArray)
  | rm (n : ByteArray)
def getF (fs : Fs) (n : ByteArray) : Option (List UInt8) := (fs.find? fun p => decide (p.1 = n)).map (·.2)
def hasF (fs : Fs) (n : ByteArray) : List UInt8 := (getF fs n).getD []
def without (fs : Fs) (n : ByteArray) : Fs := fs.filter fun p => decide (p.1 ≠ n)
/-- Does a name stand ahead of another one? -/
def nlt (a b : ByteArray) : Bool := decide (Lib.compareBytes a.data.toList b.data.toList < 0)
def withF (fs : Fs) (n : ByteArray) (d : List UInt8) : Fs := (without fs n).takeWhile (fun p => nlt p.1 n) ++ (n, d) :: (without fs n).dropWhile (fun p => nlt p.1 n)
/-- Bytes laid over others from a place on. -/
def over (h : List UInt8) (pos : Nat) (d : List UInt8) : List UInt8 := h.take pos ++ d ++ h.drop (pos + d.length)
def made (fs : Fs) : Chg → Fs
  | .wr n pos d => withF fs n (over (hasF fs n) pos d.data.toList)
  | .ct n len => withF fs n ((hasF fs n).take len)
  | .rn a b => withF (without fs a) b (hasF fs a)
  | .rm n => without fs n
def total (fs : Fs) : Nat := (fs.map fun p => p.2.length).sum
/-- What a crash leaves of a change. -/
def torn (fs : Fs) (t : Int) : Chg → Fs
  | .wr n pos d => if t < 0 then fs else made fs (.wr n pos ⟨(d.data.toList.take t.toNat).toArray⟩)
  | _ => fs
/-- A disk. -/
structure Dk where
  safe : Fs
  now : Fs
  wait : List Chg
  left : Int
  down : Bool
/-- An entry: a name, its bytes, the slice that holds them, its stamp. -/
structure Ent where
  nm : ByteArray
  has : List UInt8
  v : Value
  born : Nat
def Ent.entry (x : Ent) : MapEntry := ⟨.string x.nm, x.v, x.born⟩
def Ent.p (x : Ent) : ByteArray × List UInt8 := (x.nm, x.has)
def findE (l : List Ent) (s : ByteArray) : Option Ent := l.find? fun x => decide (x.nm = s)
def dropE (l : List Ent) (s : ByteArray) : List Ent := l.filter fun x => decide (x.nm ≠ s)
def putE (l : List Ent) (s : ByteArray) (h : List UInt8) (v : Value) (clock : Nat) : List Ent :=
  match findE l s with
  | some _ => l.map fun x => if x.nm = s then { x with has := h, v := v } else x
  | none => l ++ [⟨s, h, v, clock⟩]

theorem findE_some {l : List Ent} {s : ByteArray} {x : Ent} (h : findE l s = some x) : x ∈ l ∧ x.nm = s :=
  ⟨List.mem_of_find?_eq_some h, by have := List.find?_some h; simpa using this⟩
theorem findE_none {l : List Ent} {s : ByteArray} (h : findE l s = none) : ∀ x ∈ l, x.nm ≠ s := fun x hx => by
  have := List.find?_eq_none.1 h x hx
  simpa using this
/-- Of entries with unlike names just one has a name. -/
theorem nm_inj : ∀ {l : List Ent}, (l.map Ent.nm).Nodup → ∀ {x y : Ent}, x ∈ l → y ∈ l → x.nm = y.nm → x = y
  | [], _, x, _, h, _, _ => by simp at h
  | a :: l, hn, x, y, hx, hy, he => by
    rw [List.map_cons, List.nodup_cons] at hn
    rw [List.mem_cons] at hx hy
    rcases hx with rfl | hx <;> rcases hy with rfl | hy
    · rfl
    · exact absurd (List.mem_map.2 ⟨y, hy, he.symm⟩) hn.1
    · exact absurd (List.mem_map.2 ⟨x, hx, he⟩) hn.1
    · exact nm_inj hn.2 hx hy he
theorem getF_mem : ∀ {fs : Fs} {n : ByteArray} {d : List UInt8}, (fs.map (·.1)).Nodup → (n, d) ∈ fs → getF fs n = some d
  | [], _, _, _, h => by simp at h
  | (a, b) :: fs, n, d, hn, h => by
    rw [List.map_cons, List.nodup_cons] at hn
    unfold getF
    by_cases he : a = n
    · subst he
      rw [List.find?_cons_of_pos (by simp)]
      rw [List.mem_cons] at h
      rcases h with h | h
      · injection h with _ h2; simp [h2]
      · exact absurd (List.mem_map.2 ⟨_, h, rfl⟩) hn.1
    · rw [List.find?_cons_of_neg (by simpa using he)]
      rw [List.mem_cons] at h
      rcases h with h | h
      · injection h with h1 _; exact absurd h1.symm he
      · exact getF_mem hn.2 h
theorem getF_none {fs : Fs} {n : ByteArray} (h : n ∉ fs.map (·.1)) : getF fs n = none := by
  unfold getF
  rw [List.find?_eq_none.2 (fun p hp => by
    simp only [decide_eq_true_eq]
    exact fun e => h (List.mem_map.2 ⟨p, hp, e⟩))]
  rfl
theorem getF_some {fs : Fs} {n : ByteArray} {d : List UInt8} (h : getF fs n = some d) : (n, d) ∈ fs := by
  unfold getF at h
  cases hf : fs.find? (fun p => decide (p.1 = n)) with
  | none => rw [hf] at h; cases h
  | some q =>
    rw [hf] at h
    have h1 := List.mem_of_find?_eq_some hf
    have h2 : q.1 = n := by have := List.find?_some hf; simpa using this
    have h3 : q.2 = d := by simpa using h
    rw [← h2, ← h3]; exact h1
section
variable {l : List Ent} {fs : Fs} {s : ByteArray} {h : List UInt8} {v : Value} {clock : Nat}
theorem names_perm (hp : (l.map Ent.p).Perm fs) (hn : (l.map Ent.nm).Nodup) : (fs.map (·.1)).Nodup := by
  have e : l.map Ent.nm = (l.map Ent.p).map (·.1) := by rw [List.map_map]; rfl
  rw [e] at hn
  exact (hp.map _).nodup_iff.1 hn
theorem findE_get (hp : (l.map Ent.p).Perm fs) (hn : (l.map Ent.nm).Nodup) : getF fs s = (findE l s).map Ent.has := by
  cases hf : findE l s with
  | none =>
    refine getF_none fun hm => ?_
    obtain ⟨p, hp1, hp2⟩ := List.mem_map.1 hm
    obtain ⟨x, hx, rfl⟩ := List.mem_map.1 (hp.mem_iff.2 hp1)
    exact findE_none hf x hx hp2
  | some x =>
    obtain ⟨hx, rfl⟩ := findE_some hf
    exact getF_mem (names_perm hp hn) (hp.mem_iff.1 (List.mem_map.2 ⟨x, hx, rfl⟩))
theorem dropE_p : (dropE l s).map Ent.p = without (l.map Ent.p) s := by
  unfold dropE without
  rw [List.filter_map]; rfl
theorem without_perm {a b : Fs} (hp : a.Perm b) : (without a s).Perm (without b s) := hp.filter _
theorem dropE_perm (hp : (l.map Ent.p).Perm fs) : ((dropE l s).map Ent.p).Perm (without fs s) := by
  rw [dropE_p]; exact without_perm hp
theorem takeDrop_perm (p : ByteArray × List UInt8 → Bool) (x : ByteArray × List UInt8) (l : Fs) : (l.takeWhile p ++ x :: l.dropWhile p).Perm (x :: l) := by
  have : l = l.takeWhile p ++ l.dropWhile p := (List.takeWhile_append_dropWhile).symm
  rw (config := { occs := .pos [3] }) [this]
  exact List.perm_middle
theorem withF_perm (fs : Fs) (n : ByteArray) (d : List UInt8) : (withF fs n d).Perm ((n, d) :: without fs n) := takeDrop_perm _ _ _
theorem split_nm {l : List Ent} (hn : (l.map Ent.nm).Nodup) {x : Ent} (hx : x ∈ l) : ∃ a b, l = a ++ x :: b ∧ (∀ y ∈ a, y.nm ≠ x.nm) ∧ (∀ y ∈ b, y.nm ≠ x.nm) := by
  obtain ⟨a, b, rfl⟩ := List.append_of_mem hx
  refine ⟨a, b, rfl, fun y hy e => ?_, fun y hy e => ?_⟩
  · rw [List.map_append, List.map_cons, List.nodup_append] at hn
    exact hn.2.2 y.nm (List.mem_map.2 ⟨y, hy, rfl⟩) x.nm (by simp) e
  · rw [List.map_append, List.map_cons, List.nodup_append, List.nodup_cons] at hn
    exact hn.2.1.1 (List.mem_map.2 ⟨y, hy, e⟩)
theorem without_none {a : Fs} {s : ByteArray} (h : ∀ p ∈ a, p.1 ≠ s) : without a s = a := List.filter_eq_self.2 (fun p hp => by simpa using h p hp)
theorem without_append (a b : Fs) (s : ByteArray) : without (a ++ b) s = without a s ++ without b s := List.filter_append ..
theorem putE_none {l : List Ent} {s : ByteArray} (hf : findE l s = none) (h : List UInt8) (v : Value) (clock : Nat) : putE l s h v clock = l ++ [⟨s, h, v, clock⟩] := by unfold putE; rw [hf]
theorem putE_some {a b : List Ent} {x : Ent} (ha : ∀ y ∈ a, y.nm ≠ x.nm) (hb : ∀ y ∈ b, y.nm ≠ x.nm) (h : List UInt8) (v : Value) (clock : Nat) : putE (a ++ x :: b) x.nm h v clock = a ++ ⟨x.nm, h, v, x.born⟩ :: b := by
  have hf : findE (a ++ x :: b) x.nm = some x := by
    unfold findE
    rw [List.find?_append, List.find?_eq_none.2 (fun y hy => by simpa using ha y hy)]
    simp
  have m : ∀ c : List Ent, (∀ y ∈ c, y.nm ≠ x.nm) → (c.map fun y => if y.nm = x.nm then { y with has := h, v := v } else y) = c := fun c hc => by
    induction c with
    | nil => rfl
    | cons y c ih => rw [List.map_cons, if_neg (hc y (by simp)), ih (fun z hz => hc z (by simp [hz]))]
  unfold putE
  rw [hf]
  dsimp only
  rw [List.map_append, List.map_cons, m a ha, m b hb, if_pos rfl]
theorem putE_perm {l : List Ent} {s : ByteArray} {h : List UInt8} {v : Value} {clock : Nat} (hn : (l.map Ent.nm).Nodup) : ((putE l s h v clock).map Ent.p).Perm ((s, h) :: without (l.map Ent.p) s) := by
  cases hf : findE l s with
  | none =>
    rw [putE_none hf, without_none (fun p hp => by
      obtain ⟨x, hx, rfl⟩ := List.mem_map.1 hp
      exact findE_none hf x hx)]
    simp only [List.map_append, List.map_cons, List.map_nil]
    exact List.perm_append_singleton _ _
  | some x0 =>
    obtain ⟨hx, rfl⟩ := findE_some hf
    obtain ⟨a, b, rfl, ha, hb⟩ := split_nm hn hx
    have na : ∀ c : List Ent, (∀ y ∈ c, y.nm ≠ x0.nm) → without (c.map Ent.p) x0.nm = c.map Ent.p := fun c hc => without_none (fun p hp => by
      obtain ⟨y, hy, rfl⟩ := List.mem_map.1 hp
      exact hc y hy)
    rw [putE_some ha hb, List.map_append, List.map_append, without_append, List.map_cons, List.map_cons, na a ha]
    have e : without (Ent.p x0 :: b.map Ent.p) x0.nm = b.map Ent.p := by
      unfold without
      rw [List.filter_cons_of_neg (by simp [Ent.p])]
      exact na b hb
    rw [e]
    exact List.perm_middle
theorem putE_files {l : List Ent} {fs : Fs} {s : ByteArray} {h : List UInt8} {v : Value} {clock : Nat} (hp : (l.map Ent.p).Perm fs) (hn : (l.map Ent.nm).Nodup) : ((putE l s h v clock).map Ent.p).Perm (withF fs s h) :=
  (putE_perm hn).trans (((without_perm hp).cons _).trans (withF_perm fs s h).symm)
theorem putE_mem {l : List Ent} {s : ByteArray} {h : List UInt8} {v : Value} {clock : Nat} (hn : (l.map Ent.nm).Nodup) {y : Ent} (hy : y ∈ putE l s h v clock) : (y ∈ l ∧ y.nm ≠ s) ∨ (y.nm = s ∧ y.has = h ∧ y.v = v) := by
  cases hf : findE l s with
  | none =>
    rw [putE_none hf, List.mem_append, List.mem_singleton] at hy
    rcases hy with hy | rfl
    · exact Or.inl ⟨hy, findE_none hf y hy⟩
    · exact Or.inr ⟨rfl, rfl, rfl⟩
  | some x0 =>
    obtain ⟨hx, rfl⟩ := findE_some hf
    obtain ⟨a, b, rfl, ha, hb⟩ := split_nm hn hx
    rw [putE_some ha hb, List.mem_append, List.mem_cons] at hy
    rcases hy with hy | rfl | hy
    · exact Or.inl ⟨by simp [hy], ha y hy⟩
    · exact Or.inr ⟨rfl, rfl, rfl⟩
    · exact Or.inl ⟨by simp [hy], hb y hy⟩
theorem putE_nm {l : List Ent} {s : ByteArray} {h : List UInt8} {v : Value} {clock : Nat} (hn : (l.map Ent.nm).Nodup) : ((putE l s h v clock).map Ent.nm).Nodup := by
  cases hf : findE l s with
  | none =>
    rw [putE_none hf, List.map_append, List.nodup_append]
    refine ⟨hn, by simp, fun a ha b hb => ?_⟩
    obtain ⟨x, hx, rfl⟩ := List.mem_map.1 ha
    simp only [List.map_cons, List.map_nil, List.mem_singleton] at hb
    rw [hb]; exact findE_none hf x hx
  | some x0 =>
    obtain ⟨hx, rfl⟩ := findE_some hf
    obtain ⟨a, b, rfl, ha, hb⟩ := split_nm hn hx
    rw [putE_some ha hb]
    simpa using hn
/-- The blocks of the entries' slices. -/
def blE (l : List Ent) : List Nat := l.filterMap fun x => x.v.ownBlock
theorem blE_mem {l : List Ent} {x : Ent} {k : Nat} (hx : x ∈ l) (hk : x.v.ownBlock = some k) : k ∈ blE l := List.mem_filterMap.2 ⟨x, hx, hk⟩
theorem blE_append (a b : List Ent) : blE (a ++ b) = blE a ++ blE b := List.filterMap_append
theorem blE_cons (x : Ent) (b : List Ent) : blE (x :: b) = x.v.ownBlock.toList ++ blE b := by
  unfold blE
  cases h : x.v.ownBlock <;> simp [h]
theorem toList_or {o q : Option Nat} {n : Nat} {k : Nat} (h : o = q ∨ o = some n) (hk : k ∈ o.toList) : k ∈ q.toList ∨ k = n := by
  rcases h with rfl | rfl
  · exact Or.inl hk
  · simp at hk; exact Or.inr hk
/-- The blocks behind a store: the old ones, or another one. -/
theorem putE_bl {l : List Ent} {s : ByteArray} {h : List UInt8} {v : Value} {clock : Nat} (hn : (l.map Ent.nm).Nodup) (hb : (blE l).Nodup)
    (hv : v.ownBlock = ((findE l s).bind fun x => x.v.ownBlock) ∨ (∀ g, v.ownBlock = some g → g ∉ blE l)) :
    (blE (putE l s h v clock)).Nodup ∧ ∀ k ∈ blE (putE l s h v clock), k ∈ blE l ∨ v.ownBlock = some k := by
  have key : ∀ (a b : List Ent) (o : Option Nat), (blE a ++ (o.toList ++ blE b)).Nodup → ∀ q : Option Nat, (q = o ∨ (∀ g, q = some g → g ∉ blE a ++ (o.toList ++ blE b))) → (blE a ++ (q.toList ++ blE b)).Nodup := by
    intro a b o h1 q hq
    have h3 : (blE a ++ blE b).Nodup := by
      rw [List.nodup_append] at h1 ⊢
      exact ⟨h1.1, (List.nodup_append.1 h1.2.1).2.1, fun x hx y hy => h1.2.2 x hx y (by simp [hy])⟩
    rcases hq with rfl | hq
    · exact h1
    · cases q with
      | none => simpa using h3
      | some g =>
        simp only [Option.toList_some, List.singleton_append]
        refine (List.perm_middle.nodup_iff).2 (List.nodup_cons.2 ⟨fun hm => hq g rfl ?_, h3⟩)
        rw [List.mem_append] at hm ⊢
        rcases hm with hm | hm <;> simp [hm]
  cases hf : findE l s with
  | none =>
    rw [putE_none hf, blE_append, blE_cons]
    rw [hf] at hv
    have := key l [] none (by simpa [blE] using hb) v.ownBlock (by simpa [blE] using hv)
    refine ⟨this, fun k hk => ?_⟩
    rw [List.mem_append] at hk
    rcases hk with hk | hk
    · exact Or.inl hk
    · right; simpa [blE] using hk
  | some x0 =>
    obtain ⟨hx, rfl⟩ := findE_some hf
    obtain ⟨a, b, rfl, ha, hb'⟩ := split_nm hn hx
    rw [hf] at hv
    rw [putE_some ha hb', blE_append, blE_cons]
    rw [blE_append, blE_cons] at hb hv ⊢
    refine ⟨key a b _ hb v.ownBlock (by simpa using hv), fun k hk => ?_⟩
    simp only [List.mem_append, Option.mem_toList] at hk ⊢
    rcases hk with hk | hk | hk
    · exact Or.inl (Or.inl hk)
    · exact Or.inr hk
    · exact Or.inl (Or.inr (Or.inr hk))
theorem blE_inj : ∀ {l : List Ent}, (blE l).Nodup → ∀ {x y : Ent} {k : Nat}, x ∈ l → y ∈ l → x.v.ownBlock = some k → y.v.ownBlock = some k → x = y
  | [], _, x, _, _, h, _, _, _ => by simp at h
  | a :: l, hn, x, y, k, hx, hy, ex, ey => by
    rw [blE_cons, List.nodup_append] at hn
    rw [List.mem_cons] at hx hy
    rcases hx with rfl | hx <;> rcases hy with rfl | hy
    · rfl
    · exact absurd rfl (hn.2.2 k (by simp [ex]) k (blE_mem hy ey))
    · exact absurd rfl (hn.2.2 k (by simp [ey]) k (blE_mem hx ex))
    · exact blE_inj hn.2.1 hx hy ex ey
theorem dropE_bl {l : List Ent} {s : ByteArray} (hb : (blE l).Nodup) : (blE (dropE l s)).Nodup ∧ ∀ k ∈ blE (dropE l s), k ∈ blE l := by
  have hs : (blE (dropE l s)).Sublist (blE l) := List.Sublist.filterMap _ List.filter_sublist
  exact ⟨hs.nodup hb, fun k hk => hs.subset hk⟩
theorem dropE_nm {l : List Ent} {s : ByteArray} (hn : (l.map Ent.nm).Nodup) : ((dropE l s).map Ent.nm).Nodup := (List.Sublist.map _ List.filter_sublist).nodup hn
end
end Go.Proofs.YtdmckgcbmbhmmaaGreatDoor
