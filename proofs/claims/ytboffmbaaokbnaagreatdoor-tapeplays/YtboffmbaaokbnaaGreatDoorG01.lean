/-
  Plain facts on worlds: what a row of bytes that the call itself made holds, and what stays as it was while such rows grow. Of no program.
  Plain facts on files, of no program: names and bytes, changes, what a change makes of files; lists of entries that are the same files in another order.
-/
import Derived.WalkKit
import Derived.WalkSpells
import Derived.Lib.AppendStr
import Derived.Lib.Small
import Derived.Lib.Bytealg
namespace Go.Proofs.YtboffmbaaokbnaaGreatDoor
open Go.RowKit

theorem hide {p : Prop} (h : p) : Hid p := h
theorem unhide {p : Prop} (h : Hid p) : p := h
theorem ret_int {k : IntKind} {a b : Int} (h : a = b) : Ending.returned (.int k a) = .returned (.int k b) := by rw [h]

theorem ret_bool {a b : Bool} (h : a = b) : Ending.returned (.bool a) = .returned (.bool b) := by rw [h]

/-- What stays: all blocks below B, and all that are no rows of the element type e. -/
structure Fr (B e : Nat) (w w' : World) : Prop where
  below : Below B w w'
  other : ∀ k, k < w.heap.size → (∀ cur f, w.heap[k]? ≠ some (.cells cur e f)) → w'.heap[k]? = w.heap[k]?
theorem Fr.refl (B e : Nat) (w : World) : Fr B e w w := ⟨Below.refl _ _, fun _ _ _ => rfl⟩
theorem Fr.trans {B e : Nat} {a b c : World} (h : Fr B e a b) (k : Fr B e b c) : Fr B e a c :=
  ⟨h.below.trans k.below, fun j hj hn => by
    have e1 := h.other j hj hn
    rw [k.other j (by have := h.below.size; omega) (fun cur f => by rw [e1]; exact hn cur f), e1]⟩
theorem Fr.mono {B B' e : Nat} {a b : World} (h : Fr B e a b) (hB : B' ≤ B) : Fr B' e a b := ⟨h.below.mono hB, h.other⟩
theorem Fr.drew {B e : Nat} {a w : World} (h : Fr B e a w) : Fr B e a w.drew := ⟨h.below.drew, h.other⟩
theorem Fr.alloc {B e : Nat} {a w : World} (h : Fr B e a w) (hB : B ≤ w.heap.size) (o : Obj) : Fr B e a (w.alloc o) :=
  ⟨h.below.alloc hB o, fun k hk hn => by rw [Below.heap_alloc _ _ _ (by have := h.below.size; omega)]; exact h.other k hk hn⟩
theorem Fr.grown {B e size n : Nat} {a w w' : World} {v : Value} {xs : List Value} (h : Fr B e a w) (ho : w.ownsRow B e size v n xs) (hg : w.grownBy w' v.ownBlock) (hB : B ≤ w.heap.size) : Fr B e a w' :=
  ⟨h.below.grown hg hB (fun k hk => (ho.lt k hk).1), fun k hk hn => by
    have e1 := h.other k hk hn
    rw [← e1]
    refine hg.block k (by have := h.below.size; omega) fun hv => ?_
    obtain ⟨_, ⟨rfl, _⟩ | ⟨g, cap, cur, rfl, _, hh, _⟩⟩ := ho
    · simp [Value.ownBlock] at hv
    · simp [Value.ownBlock] at hv
      subst hv
      exact hn cur (0, 0) (by rw [← e1]; exact hh)⟩
theorem Fr.size {B e : Nat} {a w : World} (h : Fr B e a w) : a.heap.size ≤ w.heap.size := h.below.size
/-- A block that is no row of that type is there still. -/
theorem Fr.keep {B e k : Nat} {a w : World} (h : Fr B e a w) {cur : Array Value} {t : TypeId} {f : Nat × Nat} (hb : a.heap[k]? = some (.cells cur t f)) (ht : t ≠ e) : w.heap[k]? = some (.cells cur t f) := by
  have hk : k < a.heap.size := by
    rcases Nat.lt_or_ge k a.heap.size with h1 | h1
    · exact h1
    · rw [Array.getElem?_eq_none h1] at hb; cases hb
  rw [h.other k hk (fun c g hc => by rw [hb] at hc; simp at hc; exact ht hc.2.1)]; exact hb

/-- append to a row of the call's own, as one step of a statement whose order is drawn. -/
theorem step_append_own {P : Program} {ops : Array Oper} {o : Oper} {a : Act} {w : World} {K : Act → World → Prop} {Q : Exit → Act → World → Prop} {E : Prop}
    (hg : o.guard = none) (s x : Operand) (t : TypeId) (hop : o.op = Op.call { callee := Callee.builtin Builtin.append, args := #[s, x], argTypes := #[t, t] })
    (base : Nat) (e : TypeId) (i : TypeInfo) (z : Value) (size bytes : Nat) (h1 : P.underlying t = some (.slice e)) (h2 : P.info? e = some i) (h3 : i.zero = some z) (h4 : i.size = size) (h5 : i.bytes = bytes) (h6 : z.cells.size = size) (h7 : 0 < size)
    (v : Value) (n : Nat) (xs : List Value) (hs : a.eval s = v) (hown : w.ownsRow base e size v n xs)
    (ad : Addr) (m c : Nat) (news : List Value) (hx : a.eval x = .slice (some ad) m c) (hn : news.length = m * size) (hc : ∀ j u, news[j]? = some u → w.cell? (ad.add j) = some u) (h1c : ∀ u ∈ news, u.oneCell' = true)
    (b1 : n + m ≤ maxLen) (b2 : (n + m) * bytes ≤ 140737488355328) (hb : base ≤ w.heap.size)
    (hK : ∀ v' w', w'.ownsRow base e size v' (n + m) (xs ++ news) → w.grownBy w' v.ownBlock → K (a.put o.dst v') w') :
    if Region.wanted o (yielded ops a.tmps) = true then Oper.wp P o a w K Q else E := by
  have hw : Region.wanted o (yielded ops a.tmps) = true := by simp [Region.wanted, hg]
  rw [if_pos hw]
  obtain ⟨v', w', hrun, r1, r2, _⟩ := run_append_own (P := P) w base t o.type e i z size bytes h1 h2 h3 h4 h5 h6 h7 v n xs hown ad m c news hn hc h1c b1 b2 hb
  unfold Oper.wp
  simp [execOp, hop, resolve, invoke, builtin, hs, hx, hrun, Result.andThen]
  exact hK v' w' r1 r2

/-- Bytes as cells. -/
def byteC (l : List UInt8) : List Value := l.map fun b => .int .u8 (b.toNat : Int)
theorem byteC_append (a b : List UInt8) : byteC (a ++ b) = byteC a ++ byteC b := by unfold byteC; exact List.map_append
theorem byteC_length (a : List UInt8) : (byteC a).length = a.length := by unfold byteC; exact List.length_map ..
theorem byteC_str (s : ByteArray) : Lib.strCells s = byteC s.data.toList := by
  unfold Lib.strCells byteC; rfl
theorem byteC_one (n : Nat) (h : n < 256) : [Value.int .u8 (n : Int)] = byteC [UInt8.ofNat n] := by
  unfold byteC; simp [Nat.mod_eq_of_lt h]
end Go.Proofs.YtboffmbaaokbnaaGreatDoor
namespace Go.Proofs.YtboffmbaaokbnaaGreatDoor

/-- Files: names and bytes. -/
abbrev Fs := List (ByteArray × List UInt8)
/-- A change. -/
inductive Chg where
  | wr (n : ByteArray) (pos : Nat) (d : ByteArray)
  | ct (n : ByteArray) (len : Nat)
  | rn (a b : ByteArray)
  | rm (n : ByteArray)
def getF (fs : Fs) (n : ByteArray) : Option (List UInt8) := (fs.find? fun p => decide (p.1 = n)).map (·.2)
def hasF (fs : Fs) (n : ByteArray) : List UInt8 := (getF fs n).getD []
def without (fs : Fs) (n : ByteArray) : Fs := fs.filter fun p => decide (p.1 ≠ n)
/-- Does a name stand ahead of another one? -/
def nlt (a b : ByteArray) : Bool := decide (Lib.compareBytes a.data.toList b.data.toList < 0)
def withF (fs : Fs) (n : ByteArray) (d : List UInt8) : Fs := (without fs n).takeWhile (fun p => nlt p.1 n) ++ (n, d) :: (without fs n).dropWhile (fun p => nlt p.1 n)
/-- Bytes laid over others from a place on. -/
def over (h : List UInt8) (pos : Nat) (d : List UInt8) : List UInt8 := h.take pos ++ d ++ h.drop (pos + d.length)
def made (fs : Fs) : Chg → Fs
  | .wr n pos d => withF fs n (over (hasF fs n) pos d.data.toList)
  | .ct n len => withF fs n ((hasF fs n).take len)
  | .rn a b => withF (without fs a) b (hasF fs a)
  | .rm n => without fs n
def total (fs : Fs) : Nat := (fs.map fun p => p.2.length).sum
/-- What a crash leaves of a change. -/
def torn (fs : Fs) (t : Int) : Chg → Fs
  | .wr n pos d => if t < 0 then fs else made fs (.wr n pos ⟨(d.data.toList.take t.toNat).toArray⟩)
  | _ => fs
/-- A disk. -/
structure Dk where
  safe : Fs
  now : Fs
  wait : List Chg
  left : Int
  down : Bool
/-- An entry: a name, its bytes, the slice that holds them, its stamp. -/
structure Ent where
  nm : ByteArray
  has : List UInt8
  v : Value
  born : Nat
def Ent.entry (x : Ent) : MapEntry := ⟨.string x.nm, x.v, x.born⟩
def Ent.p (x : Ent) : ByteArray × List UInt8 := (x.nm, x.has)
def findE (l : List Ent) (s : ByteArray) : Option Ent := l.find? fun x => decide (x.nm = s)
def dropE (l : List Ent) (s : ByteArray) : List Ent := l.filter fun x => decide (x.nm ≠ s)
def putE (l : List Ent) (s : ByteArray) (h : List UInt8) (v : Value) (clock : Nat) : List Ent :=
  match findE l s with
  | some _ => l.map fun x => if x.nm = s then { x with has := h, v := v } else x
  | none => l ++ [⟨s, h, v, clock⟩]

theorem findE_some {l : List Ent} {s : ByteArray} {x : Ent} (h : findE l s = some x) : x ∈ l ∧ x.nm = s :=
  ⟨List.mem_of_find?_eq_some h, by have := List.find?_some h; simpa using this⟩
theorem findE_none {l : List Ent} {s : ByteArray} (h : findE l s = none) : ∀ x ∈ l, x.nm ≠ s := fun x hx => by
  have := List.find?_eq_none.1 h x hx
  simpa using this
/-- Of entries with unlike names just one has a name. -/
theorem nm_inj : ∀ {l : List Ent}, (l.map Ent.nm).Nodup → ∀ {x y : Ent}, x ∈ l → y ∈ l → x.nm = y.nm → x = y
  | [], _, x, _, h, _, _ => by simp at h
  | a :: l, hn, x, y, hx, hy, he => by
    rw [List.map_cons, List.nodup_cons] at hn
    rw [List.mem_cons] at hx hy
    rcases hx with rfl | hx <;> rcases hy with rfl | hy
    · rfl
    · exact absurd (List.mem_map.2 ⟨y, hy, he.symm⟩) hn.1
    · exact absurd (List.mem_map.2 ⟨x, hx, he⟩) hn.1
    · exact nm_inj hn.2 hx hy he
theorem getF_mem : ∀ {fs : Fs} {n : ByteArray} {d : List UInt8}, (fs.map (·.1)).Nodup → (n, d) ∈ fs → getF fs n = some d
  | [], _, _, _, h => by simp at h
  | (a, b) :: fs, n, d, hn, h => by
    rw [List.map_cons, List.nodup_cons] at hn
    unfold getF
    by_cases he : a = n
    · subst he
      rw [List.find?_cons_of_pos (by simp)]
      rw [List.mem_cons] at h
      rcases h with h | h
      · injection h with _ h2; simp [h2]
      · exact absurd (List.mem_map.2 ⟨_, h, rfl⟩) hn.1
    · rw [List.find?_cons_of_neg (by simpa using he)]
      rw [List.mem_cons] at h
      rcases h with h | h
      · injection h with h1 _; exact absurd h1.symm he
      · exact getF_mem hn.2 h
theorem getF_none {fs : Fs} {n : ByteArray} (h : n ∉ fs.map (·.1)) : getF fs n = none := by
  unfold getF
  rw [List.find?_eq_none.2 (fun p hp => by
    simp only [decide_eq_true_eq]
    exact fun e => h (List.mem_map.2 ⟨p, hp, e⟩))]
  rfl
theorem getF_some {fs : Fs} {n : ByteArray} {d : List UInt8} (h : getF fs n = some d) : (n, d) ∈ fs := by
  unfold getF at h
  cases hf : fs.find? (fun p => decide (p.1 = n)) with
  | none => rw [hf] at h; cases h
  | some q =>
    rw [hf] at h
    have h1 := List.mem_of_find?_eq_some hf
    have h2 : q.1 = n := by have := List.find?_some hf; simpa using this
    have h3 : q.2 = d := by simpa using h
    rw [← h2, ← h3]; exact h1
section
variable {l : List Ent} {fs : Fs} {s : ByteArray} {h : List UInt8} {v : Value} {clock : Nat}
theorem names_perm (hp : (l.map Ent.p).Perm fs) (hn : (l.map Ent.nm).Nodup) : (fs.map (·.1)).Nodup := by
  have e : l.map Ent.nm = (l.map Ent.p).map (·.1) := by rw [List.map_map]; rfl
  rw [e] at hn
  exact (hp.map _).nodup_iff.1 hn
theorem findE_get (hp : (l.map Ent.p).Perm fs) (hn : (l.map Ent.nm).Nodup) : getF fs s = (findE l s).map Ent.has := by
  cases hf : findE l s with
  | none =>
    refine getF_none fun hm => ?_
    obtain ⟨p, hp1, hp2⟩ := List.mem_map.1 hm
    obtain ⟨x, hx, rfl⟩ := List.mem_map.1 (hp.mem_iff.2 hp1)
    exact findE_none hf x hx hp2
  | some x =>
    obtain ⟨hx, rfl⟩ := findE_some hf
    exact getF_mem (names_perm hp hn) (hp.mem_iff.1 (List.mem_map.2 ⟨x, hx, rfl⟩))
theorem dropE_p : (dropE l s).map Ent.p = without (l.map Ent.p) s := by
  unfold dropE without
  rw [List.filter_map]; rfl
theorem without_perm {a b : Fs} (hp : a.Perm b) : (without a s).Perm (without b s) := hp.filter _
theorem dropE_perm (hp : (l.map Ent.p).Perm fs) : ((dropE l s).map Ent.p).Perm (without fs s) := by
  rw [dropE_p]; exact without_perm hp
theorem takeDrop_perm (p : ByteArray × List UInt8 → Bool) (x : ByteArray × List UInt8) (l : Fs) : (l.takeWhile p ++ x :: l.dropWhile p).Perm (x :: l) := by
  have : l = l.takeWhile p ++ l.dropWhile p := (List.takeWhile_append_dropWhile).symm
  rw (config := { occs := .pos [3] }) [this]
  exact List.perm_middle
theorem withF_perm (fs : Fs) (n : ByteArray) (d : List UInt8) : (withF fs n d).Perm ((n, d) :: without fs n) := takeDrop_perm _ _ _
theorem split_nm {l : List Ent} (hn : (l.map Ent.nm).Nodup) {x : Ent} (hx : x ∈ l) : ∃ a b, l = a ++ x :: b ∧ (∀ y ∈ a, y.nm ≠ x.nm) ∧ (∀ y ∈ b, y.nm ≠ x.nm) := by
  obtain ⟨a, b, rfl⟩ := List.append_of_mem hx
  refine ⟨a, b, rfl, fun y hy e => ?_, fun y hy e => ?_⟩
  · rw [List.map_append, List.map_cons, List.nodup_append] at hn
    exact hn.2.2 y.nm (List.mem_map.2 ⟨y, hy, rfl⟩) x.nm (by simp) e
  · rw [List.map_append, List.map_cons, List.nodup_append, List.nodup_cons] at hn
    exact hn.2.1.1 (List.mem_map.2 ⟨y, hy, e⟩)
theorem without_none {a : Fs} {s : ByteArray} (h : ∀ p ∈ a, p.1 ≠ s) : without a s = a := List.filter_eq_self.2 (fun p hp => by simpa using h p hp)
theorem without_append (a b : Fs) (s : ByteArray) : without (a ++ b) s = without a s ++ without b s := List.filter_append ..
theorem putE_none {l : List Ent} {s : ByteArray} (hf : findE l s = none) (h : List UInt8) (v : Value) (clock : Nat) : putE l s h v clock = l ++ [⟨s, h, v, clock⟩] := by unfold putE; rw [hf]
theorem putE_some {a b : List Ent} {x : Ent} (ha : ∀ y ∈ a, y.nm ≠ x.nm) (hb : ∀ y ∈ b, y.nm ≠ x.nm) (h : List UInt8) (v : Value) (clock : Nat) : putE (a ++ x :: b) x.nm h v clock = a ++ ⟨x.nm, h, v, x.born⟩ :: b := by
  have hf : findE (a ++ x :: b) x.nm = some x := by
    unfold findE
    rw [List.find?_append, List.find?_eq_none.2 (fun y hy => by simpa using ha y hy)]
    simp
  have m : ∀ c : List Ent, (∀ y ∈ c, y.nm ≠ x.nm) → (c.map fun y => if y.nm = x.nm then { y with has := h, v := v } else y) = c := fun c hc => by
    induction c with
    | nil => rfl
    | cons y c ih => rw [List.map_cons, if_neg (hc y (by simp)), ih (fun z hz => hc z (by simp [hz]))]
  unfold putE
  rw [hf]
  dsimp only
  rw [List.map_append, List.map_cons, m a ha, m b hb, if_pos rfl]
theorem putE_perm {l : List Ent} {s : ByteArray} {h : List UInt8} {v : Value} {clock : Nat} (hn : (l.map Ent.nm).Nodup) : ((putE l s h v clock).map Ent.p).Perm ((s, h) :: without (l.map Ent.p) s) := by
  cases hf : findE l s with
  | none =>
    rw [putE_none hf, without_none (fun p hp => by
      obtain ⟨x, hx, rfl⟩ := List.mem_map.1 hp
      exact findE_none hf x hx)]
    simp only [List.map_append, List.map_cons, List.map_nil]
    exact List.perm_append_singleton _ _
  | some x0 =>
    obtain ⟨hx, rfl⟩ := findE_some hf
    obtain ⟨a, b, rfl, ha, hb⟩ := split_nm hn hx
    have na : ∀ c : List Ent, (∀ y ∈ c, y.nm ≠ x0.nm) → without (c.map Ent.p) x0.nm = c.map Ent.p := fun c hc => without_none (fun p hp => by
      obtain ⟨y, hy, rfl⟩ := List.mem_map.1 hp
      exact hc y hy)
    rw [putE_some ha hb, List.map_append, List.map_append, without_append, List.map_cons, List.map_cons, na a ha]
    have e : without (Ent.p x0 :: b.map Ent.p) x0.nm = b.map Ent.p := by
      unfold without
      rw [List.filter_cons_of_neg (by simp [Ent.p])]
      exact na b hb
    rw [e]
    exact List.perm_middle
theorem putE_files {l : List Ent} {fs : Fs} {s : ByteArray} {h : List UInt8} {v : Value} {clock : Nat} (hp : (l.map Ent.p).Perm fs) (hn : (l.map Ent.nm).Nodup) : ((putE l s h v clock).map Ent.p).Perm (withF fs s h) :=
  (putE_perm hn).trans (((without_perm hp).cons _).trans (withF_perm fs s h).symm)
theorem putE_mem {l : List Ent} {s : ByteArray} {h : List UInt8} {v : Value} {clock : Nat} (hn : (l.map Ent.nm).Nodup) {y : Ent} (hy : y ∈ putE l s h v clock) : (y ∈ l ∧ y.nm ≠ s) ∨ (y.nm = s ∧ y.has = h ∧ y.v = v) := by
  cases hf : findE l s with
  | none =>
    rw [putE_none hf, List.mem_append, List.mem_singleton] at hy
    rcases hy with hy | rfl
    · exact Or.inl ⟨hy, findE_none hf y hy⟩
    · exact Or.inr ⟨rfl, rfl, rfl⟩
  | some x0 =>
    obtain ⟨hx, rfl⟩ := findE_some hf
    obtain ⟨a, b, rfl, ha, hb⟩ := split_nm hn hx
    rw [putE_some ha hb, List.mem_append, List.mem_cons] at hy
    rcases hy with hy | rfl | hy
    · exact Or.inl ⟨by simp [hy], ha y hy⟩
    · exact Or.inr ⟨rfl, rfl, rfl⟩
    · exact Or.inl ⟨by simp [hy], hb y hy⟩
theorem putE_nm {l : List Ent} {s : ByteArray} {h : List UInt8} {v : Value} {clock : Nat} (hn : (l.map Ent.nm).Nodup) : ((putE l s h v clock).map Ent.nm).Nodup := by
  cases hf : findE l s with
  | none =>
    rw [putE_none hf, List.map_append, List.nodup_append]
    refine ⟨hn, by simp, fun a ha b hb => ?_⟩
    obtain ⟨x, hx, rfl⟩ := List.mem_map.1 ha
    simp only [List.map_cons, List.map_nil, List.mem_singleton] at hb
    rw [hb]; exact findE_none hf x hx
  | some x0 =>
    obtain ⟨hx, rfl⟩ := findE_some hf
    obtain ⟨a, b, rfl, ha, hb⟩ := split_nm hn hx
    rw [putE_some ha hb]
    simpa using hn
/-- The blocks of the entries' slices. -/
def blE (l : List Ent) : List Nat := l.filterMap fun x => x.v.ownBlock
theorem blE_mem {l : List Ent} {x : Ent} {k : Nat} (hx : x ∈ l) (hk : x.v.ownBlock = some k) : k ∈ blE l := List.mem_filterMap.2 ⟨x, hx, hk⟩
theorem blE_append (a b : List Ent) : blE (a ++ b) = blE a ++ blE b := List.filterMap_append
theorem blE_cons (x : Ent) (b : List Ent) : blE (x :: b) = x.v.ownBlock.toList ++ blE b := by
  unfold blE
  cases h : x.v.ownBlock <;> simp [h]
theorem toList_or {o q : Option Nat} {n : Nat} {k : Nat} (h : o = q ∨ o = some n) (hk : k ∈ o.toList) : k ∈ q.toList ∨ k = n := by
  rcases h with rfl | rfl
  · exact Or.inl hk
  · simp at hk; exact Or.inr hk
/-- The blocks behind a store: the old ones, or another one. -/
theorem putE_bl {l : List Ent} {s : ByteArray} {h : List UInt8} {v : Value} {clock : Nat} (hn : (l.map Ent.nm).Nodup) (hb : (blE l).Nodup)
    (hv : v.ownBlock = ((findE l s).bind fun x => x.v.ownBlock) ∨ (∀ g, v.ownBlock = some g → g ∉ blE l)) :
    (blE (putE l s h v clock)).Nodup ∧ ∀ k ∈ blE (putE l s h v clock), k ∈ blE l ∨ v.ownBlock = some k := by
  have key : ∀ (a b : List Ent) (o : Option Nat), (blE a ++ (o.toList ++ blE b)).Nodup → ∀ q : Option Nat, (q = o ∨ (∀ g, q = some g → g ∉ blE a ++ (o.toList ++ blE b))) → (blE a ++ (q.toList ++ blE b)).Nodup := by
    intro a b o h1 q hq
    have h3 : (blE a ++ blE b).Nodup := by
      rw [List.nodup_append] at h1 ⊢
      exact ⟨h1.1, (List.nodup_append.1 h1.2.1).2.1, fun x hx y hy => h1.2.2 x hx y (by simp [hy])⟩
    rcases hq with rfl | hq
    · exact h1
    · cases q with
      | none => simpa using h3
      | some g =>
        simp only [Option.toList_some, List.singleton_append]
        refine (List.perm_middle.nodup_iff).2 (List.nodup_cons.2 ⟨fun hm => hq g rfl ?_, h3⟩)
        rw [List.mem_append] at hm ⊢
        rcases hm with hm | hm <;> simp [hm]
  cases hf : findE l s with
  | none =>
    rw [putE_none hf, blE_append, blE_cons]
    rw [hf] at hv
    have := key l [] none (by simpa [blE] using hb) v.ownBlock (by simpa [blE] using hv)
    refine ⟨this, fun k hk => ?_⟩
    rw [List.mem_append] at hk
    rcases hk with hk | hk
    · exact Or.inl hk
    · right; simpa [blE] using hk
  | some x0 =>
    obtain ⟨hx, rfl⟩ := findE_some hf
    obtain ⟨a, b, rfl, ha, hb'⟩ := split_nm hn hx
    rw [hf] at hv
    rw [putE_some ha hb', blE_append, blE_cons]
    rw [blE_append, blE_cons] at hb hv ⊢
    refine ⟨key a b _ hb v.ownBlock (by simpa using hv), fun k hk => ?_⟩
    simp only [List.mem_append, Option.mem_toList] at hk ⊢
    rcases hk with hk | hk | hk
    · exact Or.inl (Or.inl hk)
    · exact Or.inr hk
    · exact Or.inl (Or.inr (Or.inr hk))
theorem blE_inj : ∀ {l : List Ent}, (blE l).Nodup → ∀ {x y : Ent} {k : Nat}, x ∈ l → y ∈ l → x.v.ownBlock = some k → y.v.ownBlock = some k → x = y
  | [], _, x, _, _, h, _, _, _ => by simp at h
  | a :: l, hn, x, y, k, hx, hy, ex, ey => by
    rw [blE_cons, List.nodup_append] at hn
    rw [List.mem_cons] at hx hy
    rcases hx with rfl | hx <;> rcases hy with rfl | hy
    · rfl
    · exact absurd rfl (hn.2.2 k (by simp [ex]) k (blE_mem hy ey))
    · exact absurd rfl (hn.2.2 k (by simp [ey]) k (blE_mem hx ex))
    · exact blE_inj hn.2.1 hx hy ex ey
theorem dropE_bl {l : List Ent} {s : ByteArray} (hb : (blE l).Nodup) : (blE (dropE l s)).Nodup ∧ ∀ k ∈ blE (dropE l s), k ∈ blE l := by
  have hs : (blE (dropE l s)).Sublist (blE l) := List.Sublist.filterMap _ List.filter_sublist
  exact ⟨hs.nodup hb, fun k hk => hs.subset hk⟩
theorem dropE_nm {l : List Ent} {s : ByteArray} (hn : (l.map Ent.nm).Nodup) : ((dropE l s).map Ent.nm).Nodup := (List.Sublist.map _ List.filter_sublist).nodup hn
end
end Go.Proofs.YtboffmbaaokbnaaGreatDoor
