/-
  Plain facts on worlds: what a row of bytes that the call itself made holds, and what stays as it was while such rows grow. Of no program.
  Nets, plainly: packets on their way, what each call answers and what it leaves. Of no program.
  Plain facts on worlds: what stays but for some blocks, a block of cells, append to a row of the call's own and where the new row lies. Of no program.
  append to a row of the call's own, of cells that lie anywhere: what it gives, and where the new row lies. Of no program.
-/
import Derived.WalkKit
import Derived.WalkSpells
import Derived.Lib.AppendStr
import Derived.WalkLawsBesides
import Derived.Deep.AppendLies
import Derived.Laws.AppendOwnNone
namespace Go.Proofs.Ytledoopfffhigaa
open Go.RowKit

theorem hide {p : Prop} (h : p) : Hid p := h
theorem unhide {p : Prop} (h : Hid p) : p := h
theorem ret_int {k : IntKind} {a b : Int} (h : a = b) : Ending.returned (.int k a) = .returned (.int k b) := by rw [h]

theorem ret_bool {a b : Bool} (h : a = b) : Ending.returned (.bool a) = .returned (.bool b) := by rw [h]

/-- What stays: all blocks below B, and all that are no rows of the element type e. -/
structure Fr (B e : Nat) (w w' : World) : Prop where
  below : Below B w w'
  other : ∀ k, k < w.heap.size → (∀ cur f, w.heap[k]? ≠ some (.cells cur e f)) → w'.heap[k]? = w.heap[k]?
theorem Fr.refl (B e : Nat) (w : World) : Fr B e w w := ⟨Below.refl _ _, fun _ _ _ => rfl⟩
theorem Fr.trans {B e : Nat} {a b c : World} (h : Fr B e a b) (k : Fr B e b c) : Fr B e a c :=
  ⟨h.below.trans k.below, fun j hj hn => by
    have e1 := h.other j hj hn
    rw [k.other j (by have := h.below.size; omega) (fun cur f => by rw [e1]; exact hn cur f), e1]⟩
theorem Fr.mono {B B' e : Nat} {a b : World} (h : Fr B e a b) (hB : B' ≤ B) : Fr B' e a b := ⟨h.below.mono hB, h.other⟩
theorem Fr.drew {B e : Nat} {a w : World} (h : Fr B e a w) : Fr B e a w.drew := ⟨h.below.drew, h.other⟩
theorem Fr.alloc {B e : Nat} {a w : World} (h : Fr B e a w) (hB : B ≤ w.heap.size) (o : Obj) : Fr B e a (w.alloc o) :=
  ⟨h.below.alloc hB o, fun k hk hn => by rw [Below.heap_alloc _ _ _ (by have := h.below.size; omega)]; exact h.other k hk hn⟩
theorem Fr.grown {B e size n : Nat} {a w w' : World} {v : Value} {xs : List Value} (h : Fr B e a w) (ho : w.ownsRow B e size v n xs) (hg : w.grownBy w' v.ownBlock) (hB : B ≤ w.heap.size) : Fr B e a w' :=
  ⟨h.below.grown hg hB (fun k hk => (ho.lt k hk).1), fun k hk hn => by
    have e1 := h.other k hk hn
    rw [← e1]
    refine hg.block k (by have := h.below.size; omega) fun hv => ?_
    obtain ⟨_, ⟨rfl, _⟩ | ⟨g, cap, cur, rfl, _, hh, _⟩⟩ := ho
    · simp [Value.ownBlock] at hv
    · simp [Value.ownBlock] at hv
      subst hv
      exact hn cur (0, 0) (by rw [← e1]; exact hh)⟩
theorem Fr.size {B e : Nat} {a w : World} (h : Fr B e a w) : a.heap.size ≤ w.heap.size := h.below.size
/-- A block that is no row of that type is there still. -/
theorem Fr.keep {B e k : Nat} {a w : World} (h : Fr B e a w) {cur : Array Value} {t : TypeId} {f : Nat × Nat} (hb : a.heap[k]? = some (.cells cur t f)) (ht : t ≠ e) : w.heap[k]? = some (.cells cur t f) := by
  have hk : k < a.heap.size := by
    rcases Nat.lt_or_ge k a.heap.size with h1 | h1
    · exact h1
    · rw [Array.getElem?_eq_none h1] at hb; cases hb
  rw [h.other k hk (fun c g hc => by rw [hb] at hc; simp at hc; exact ht hc.2.1)]; exact hb

/-- append to a row of the call's own, as one step of a statement whose order is drawn. -/
theorem step_append_own {P : Program} {ops : Array Oper} {o : Oper} {a : Act} {w : World} {K : Act → World → Prop} {Q : Exit → Act → World → Prop} {E : Prop}
    (hg : o.guard = none) (s x : Operand) (t : TypeId) (hop : o.op = Op.call { callee := Callee.builtin Builtin.append, args := #[s, x], argTypes := #[t, t] })
    (base : Nat) (e : TypeId) (i : TypeInfo) (z : Value) (size bytes : Nat) (h1 : P.underlying t = some (.slice e)) (h2 : P.info? e = some i) (h3 : i.zero = some z) (h4 : i.size = size) (h5 : i.bytes = bytes) (h6 : z.cells.size = size) (h7 : 0 < size)
    (v : Value) (n : Nat) (xs : List Value) (hs : a.eval s = v) (hown : w.ownsRow base e size v n xs)
    (ad : Addr) (m c : Nat) (news : List Value) (hx : a.eval x = .slice (some ad) m c) (hn : news.length = m * size) (hc : ∀ j u, news[j]? = some u → w.cell? (ad.add j) = some u) (h1c : ∀ u ∈ news, u.oneCell' = true)
    (b1 : n + m ≤ maxLen) (b2 : (n + m) * bytes ≤ 140737488355328) (hb : base ≤ w.heap.size)
    (hK : ∀ v' w', w'.ownsRow base e size v' (n + m) (xs ++ news) → w.grownBy w' v.ownBlock → K (a.put o.dst v') w') :
    if Region.wanted o (yielded ops a.tmps) = true then Oper.wp P o a w K Q else E := by
  have hw : Region.wanted o (yielded ops a.tmps) = true := by simp [Region.wanted, hg]
  rw [if_pos hw]
  obtain ⟨v', w', hrun, r1, r2, _⟩ := run_append_own (P := P) w base t o.type e i z size bytes h1 h2 h3 h4 h5 h6 h7 v n xs hown ad m c news hn hc h1c b1 b2 hb
  unfold Oper.wp
  simp [execOp, hop, resolve, invoke, builtin, hs, hx, hrun, Result.andThen]
  exact hK v' w' r1 r2

/-- Bytes as cells. -/
def byteC (l : List UInt8) : List Value := l.map fun b => .int .u8 (b.toNat : Int)
theorem byteC_append (a b : List UInt8) : byteC (a ++ b) = byteC a ++ byteC b := by unfold byteC; exact List.map_append
theorem byteC_length (a : List UInt8) : (byteC a).length = a.length := by unfold byteC; exact List.length_map ..
theorem byteC_str (s : ByteArray) : Lib.strCells s = byteC s.data.toList := by
  unfold Lib.strCells byteC; rfl
theorem byteC_one (n : Nat) (h : n < 256) : [Value.int .u8 (n : Int)] = byteC [UInt8.ofNat n] := by
  unfold byteC; simp [Nat.mod_eq_of_lt h]
end Go.Proofs.Ytledoopfffhigaa
namespace Go.Proofs.Ytledoopfffhigaa.Nt
open Go.RowKit

/-- A packet: its sender and its bytes. -/
structure Pk where
  fr : Int
  b : ByteArray
/-- A net: of each node what is on its way to it; four counts. -/
structure St where
  ws : List (List Pk)
  c : Nat → Int
/-- One of the counts set. -/
def up (c : Nat → Int) (k : Nat) (x : Int) : Nat → Int := fun i => if i = k then x else c i
def zero : Nat → Int := fun _ => 0
def hasN (n : Nat) (x : Int) : Bool := decide (0 ≤ x ∧ x < (n : Int))
/-- What is on its way to a node. -/
def row (s : St) (t : Int) : List Pk := s.ws[t.toNat]?.getD []
/-- A node's packets set, a count raised. -/
def put (s : St) (t : Int) (l : List Pk) (k : Nat) (n : Int) : St := ⟨s.ws.set t.toNat l, up s.c k (s.c k + n)⟩
def fiE (s : St) (t i : Int) : Int := if hasN s.ws.length t then (if hasN (row s t).length i then 0 else 5) else 180
def seE (s : St) (f t : Int) (b : ByteArray) : Int := if hasN s.ws.length f && hasN s.ws.length t then (if 65536 < b.size ∨ (row s t).length = 4096 then 2 else 0) else 180
def seS (s : St) (f t : Int) (b : ByteArray) : St := if seE s f t b = 0 then put s t (row s t ++ [⟨f, b⟩]) 0 1 else s
def wyE (s : St) (t : Int) : Int := if hasN s.ws.length t then 0 else 180
def wyN (s : St) (t : Int) : Int := if hasN s.ws.length t then ((row s t).length : Int) else 0
def nth (s : St) (t i : Int) : Pk := (row s t)[i.toNat]?.getD ⟨0, ⟨#[]⟩⟩
def taF (s : St) (t i : Int) : Int := if fiE s t i = 0 then (nth s t i).fr else 0
def taB (s : St) (t i : Int) : ByteArray := if fiE s t i = 0 then (nth s t i).b else ⟨#[]⟩
def off (s : St) (t i : Int) (k : Nat) : St := if fiE s t i = 0 then put s t ((row s t).eraseIdx i.toNat) k 1 else s
def coE (s : St) (t i : Int) : Int := if fiE s t i = 0 then (if (row s t).length = 4096 then 2 else 0) else fiE s t i
def coS (s : St) (t i : Int) : St := if coE s t i = 0 then put s t (row s t ++ [nth s t i]) 2 1 else s
/-- How many packets are on their way. -/
def tot : List (List Pk) → Nat
  | [] => 0
  | l :: r => l.length + tot r
/-- What is left of all ways from the k-th on, if a node is cleared. -/
def clr (x : Int) : Nat → List (List Pk) → List (List Pk)
  | _, [] => []
  | k, l :: r => (if (k : Int) = x then [] else l.filter fun p => decide (p.fr ≠ x)) :: clr x (k + 1) r
def clN (s : St) (x : Int) : Int := if hasN s.ws.length x then ((tot s.ws : Int) - (tot (clr x 0 s.ws) : Int)) else 0
def clS (s : St) (x : Int) : St := if hasN s.ws.length x then ⟨clr x 0 s.ws, up s.c 1 (s.c 1 + clN s x)⟩ else s

theorem hasN_iff {n : Nat} {x : Int} : hasN n x = true ↔ 0 ≤ x ∧ x < (n : Int) := by unfold hasN; exact decide_eq_true_iff
theorem hasN_nat {n : Nat} {x : Int} (h : hasN n x = true) : ∃ m : Nat, x = (m : Int) ∧ m < n := by
  have := hasN_iff.1 h
  exact ⟨x.toNat, by omega, by omega⟩
theorem hasN_of {n m : Nat} (h : m < n) : hasN n (m : Int) = true := hasN_iff.2 (by omega)
theorem row_at {s : St} {m : Nat} (h : m < s.ws.length) : row s (m : Int) = s.ws[m] := by unfold row; rw [Int.toNat_natCast, List.getElem?_eq_getElem h]; rfl

/-- What holds of nets. -/
structure Ok (M : Int) (s : St) : Prop where
  pos : 1 ≤ s.ws.length
  few : s.ws.length ≤ 17
  lim : ∀ l ∈ s.ws, l.length ≤ 4096
  sm : ∀ l ∈ s.ws, ∀ p ∈ l, p.b.size ≤ 65536 ∧ 0 ≤ p.fr ∧ p.fr < 17
  lo : ∀ k, 0 ≤ s.c k
  hi : ∀ k, s.c k ≤ M
theorem Ok.mono {M M' : Int} {s : St} (h : Ok M s) (hm : M ≤ M') : Ok M' s := ⟨h.pos, h.few, h.lim, h.sm, h.lo, fun k => Int.le_trans (h.hi k) hm⟩
theorem tot_le : ∀ (ws : List (List Pk)), (∀ l ∈ ws, l.length ≤ 4096) → tot ws ≤ ws.length * 4096
  | [], _ => Nat.zero_le _
  | l :: r, h => by
    have h1 := h l (List.mem_cons_self ..)
    have h2 := tot_le r (fun x hx => h x (List.mem_cons_of_mem _ hx))
    unfold tot
    rw [List.length_cons]
    omega
theorem clr_len (x : Int) : ∀ (k : Nat) (ws : List (List Pk)), (clr x k ws).length = ws.length
  | _, [] => rfl
  | k, l :: r => by unfold clr; rw [List.length_cons, List.length_cons, clr_len x (k + 1) r]
theorem clr_tot (x : Int) : ∀ (k : Nat) (ws : List (List Pk)), tot (clr x k ws) ≤ tot ws
  | _, [] => Nat.le_refl _
  | k, l :: r => by
    have h := clr_tot x (k + 1) r
    unfold clr tot
    split
    · simp; omega
    · have := List.length_filter_le (fun p : Pk => decide (p.fr ≠ x)) l
      omega
theorem clr_get (x : Int) : ∀ (k : Nat) (ws : List (List Pk)) (i : Nat) (l : List Pk), ws[i]? = some l → (clr x k ws)[i]? = some (if ((k + i : Nat) : Int) = x then [] else l.filter fun p => decide (p.fr ≠ x))
  | _, [], i, l, h => by simp at h
  | k, a :: r, 0, l, h => by
    simp at h
    subst h
    unfold clr
    simp
  | k, a :: r, i + 1, l, h => by
    unfold clr
    rw [List.getElem?_cons_succ] at h ⊢
    rw [clr_get x (k + 1) r i l h, show k + 1 + i = k + (i + 1) by omega]
theorem clr_mem {x : Int} {k : Nat} {ws : List (List Pk)} {l : List Pk} (h : l ∈ clr x k ws) : ∃ l0 ∈ ws, (∀ p ∈ l, p ∈ l0) ∧ l.length ≤ l0.length := by
  obtain ⟨i, hi⟩ := List.getElem?_of_mem h
  have hl : i < ws.length := by rw [← clr_len x k ws]; exact (List.getElem?_eq_some_iff.1 hi).1
  rw [clr_get x k ws i ws[i] (List.getElem?_eq_getElem hl)] at hi
  injection hi with hi
  refine ⟨ws[i], List.getElem_mem hl, ?_, ?_⟩
  · intro p hp
    rw [← hi] at hp
    split at hp
    · cases hp
    · exact (List.mem_filter.1 hp).1
  · rw [← hi]
    split
    · exact Nat.zero_le _
    · exact List.length_filter_le _ _
theorem clr_fr {x : Int} {k : Nat} {ws : List (List Pk)} {l : List Pk} (h : l ∈ clr x k ws) : ∀ p ∈ l, p.fr ≠ x := by
  obtain ⟨i, hi⟩ := List.getElem?_of_mem h
  have hl : i < ws.length := by rw [← clr_len x k ws]; exact (List.getElem?_eq_some_iff.1 hi).1
  rw [clr_get x k ws i ws[i] (List.getElem?_eq_getElem hl)] at hi
  injection hi with hi
  intro p hp
  rw [← hi] at hp
  split at hp
  · cases hp
  · simpa using (List.mem_filter.1 hp).2
theorem tot_set : ∀ (ws : List (List Pk)) (i : Nat) (l l' : List Pk), ws[i]? = some l → tot (ws.set i l') + l.length = tot ws + l'.length
  | [], i, l, l', h => by simp at h
  | a :: r, 0, l, l', h => by simp at h; subst h; simp [tot]; omega
  | a :: r, i + 1, l, l', h => by
    rw [List.getElem?_cons_succ] at h
    have := tot_set r i l l' h
    rw [List.set_cons_succ]
    unfold tot
    omega
theorem Ok.row {M : Int} {s : St} (h : Ok M s) (t : Int) : (row s t).length ≤ 4096 ∧ ∀ p ∈ Nt.row s t, p.b.size ≤ 65536 ∧ 0 ≤ p.fr ∧ p.fr < 17 := by
  unfold Nt.row
  cases e : s.ws[t.toNat]? with
  | none => exact ⟨Nat.zero_le _, fun p hp => by cases hp⟩
  | some l => exact ⟨h.lim l (List.mem_of_getElem? e), h.sm l (List.mem_of_getElem? e)⟩
theorem up_le {c : Nat → Int} {M : Int} {k : Nat} {x : Int} (h : ∀ i, c i ≤ M) (hx : x ≤ M) : ∀ i, up c k x i ≤ M := fun i => by unfold up; split; exact hx; exact h i
theorem up_ge {c : Nat → Int} {M : Int} {k : Nat} {x : Int} (h : ∀ i, M ≤ c i) (hx : M ≤ x) : ∀ i, M ≤ up c k x i := fun i => by unfold up; split; exact hx; exact h i
theorem Ok.put {M : Int} {s : St} (h : Ok M s) (t : Int) (l : List Pk) (k : Nat) (hl : l.length ≤ 4096) (hs : ∀ p ∈ l, p.b.size ≤ 65536 ∧ 0 ≤ p.fr ∧ p.fr < 17) : Ok (M + 1) (put s t l k 1) := by
  have hk := h.hi k
  have hk0 := h.lo k
  refine ⟨?_, ?_, ?_, ?_, up_ge h.lo (by omega), up_le (fun i => Int.le_trans (h.hi i) (by omega)) (by omega)⟩
  · unfold Nt.put; rw [List.length_set]; exact h.pos
  · unfold Nt.put; rw [List.length_set]; exact h.few
  · intro l' hl'
    rcases List.mem_or_eq_of_mem_set hl' with h1 | h1
    · exact h.lim l' h1
    · subst h1; exact hl
  · intro l' hl'
    rcases List.mem_or_eq_of_mem_set hl' with h1 | h1
    · exact h.sm l' h1
    · subst h1; exact hs
theorem Ok.see {M : Int} {s : St} (h : Ok M s) (f t : Int) (b : ByteArray) : Ok (M + 1) (seS s f t b) := by
  unfold seS
  split
  · rename_i he
    unfold seE at he
    split at he
    · rename_i hh
      rw [Bool.and_eq_true] at hh
      have hf := hasN_iff.1 hh.1
      have hfew := h.few
      split at he
      · cases he
      · rename_i hn
        obtain ⟨r1, r2⟩ := h.row t
        refine h.put t _ 0 (by rw [List.length_append]; simp; omega) (fun p hp => ?_)
        rcases List.mem_append.1 hp with hp | hp
        · exact r2 p hp
        · rw [List.mem_singleton] at hp
          subst hp
          exact ⟨by simp; omega, hf.1, by simp; omega⟩
    · cases he
  · exact h.mono (by omega)
theorem Ok.off {M : Int} {s : St} (h : Ok M s) (t i : Int) (k : Nat) : Ok (M + 1) (off s t i k) := by
  unfold Nt.off
  split
  · obtain ⟨r1, r2⟩ := h.row t
    exact h.put t _ k (by have := List.length_eraseIdx_le (Nt.row s t) i.toNat; omega) (fun p hp => r2 p (List.mem_of_mem_eraseIdx hp))
  · exact h.mono (by omega)
theorem nth_mem {s : St} {t i : Int} (h : fiE s t i = 0) : nth s t i ∈ row s t ∧ ∃ m : Nat, i = (m : Int) ∧ ∃ hm : m < (row s t).length, nth s t i = (row s t)[m] := by
  unfold fiE at h
  split at h
  · split at h
    · rename_i h2
      obtain ⟨m, rfl, hm⟩ := hasN_nat h2
      have : nth s t (m : Int) = (row s t)[m] := by unfold nth; rw [Int.toNat_natCast, List.getElem?_eq_getElem hm]; rfl
      exact ⟨by rw [this]; exact List.getElem_mem hm, m, rfl, hm, this⟩
    · cases h
  · cases h
theorem coE_fi {s : St} {t i : Int} (h : coE s t i = 0) : fiE s t i = 0 ∧ ¬ (row s t).length = 4096 := by
  unfold coE at h
  split at h
  · rename_i h1
    split at h
    · cases h
    · rename_i h2
      exact ⟨h1, h2⟩
  · rename_i h1
    exact absurd h h1
theorem Ok.co {M : Int} {s : St} (h : Ok M s) (t i : Int) : Ok (M + 1) (coS s t i) := by
  unfold coS
  split
  · rename_i he
    obtain ⟨h1, h2⟩ := coE_fi he
    obtain ⟨r1, r2⟩ := h.row t
    refine h.put t _ 2 (by rw [List.length_append]; simp; omega) (fun p hp => ?_)
    rcases List.mem_append.1 hp with hp | hp
    · exact r2 p hp
    · rw [List.mem_singleton] at hp
      subst hp
      exact r2 _ (nth_mem h1).1
  · exact h.mono (by omega)
theorem clN_bd {M : Int} {s : St} (h : Ok M s) (x : Int) : 0 ≤ clN s x ∧ clN s x ≤ 69632 := by
  have h1 := clr_tot x 0 s.ws
  have h2 := tot_le s.ws h.lim
  have h3 := h.few
  have h4 : s.ws.length * 4096 ≤ 69632 := by omega
  unfold clN
  split <;> omega
theorem Ok.cl {M : Int} {s : St} (h : Ok M s) (x : Int) : Ok (M + 69632) (clS s x) := by
  have hb := clN_bd h x
  have hk := h.hi 1
  have hk0 := h.lo 1
  unfold clS
  split
  · refine ⟨by rw [clr_len]; exact h.pos, by rw [clr_len]; exact h.few, ?_, ?_, up_ge h.lo (by omega), up_le (fun i => Int.le_trans (h.hi i) (by omega)) (by omega)⟩
    · intro l hl
      obtain ⟨l0, h0, _, hle⟩ := clr_mem hl
      exact Nat.le_trans hle (h.lim l0 h0)
    · intro l hl p hp
      obtain ⟨l0, h0, hm, _⟩ := clr_mem hl
      exact h.sm l0 h0 p (hm p hp)
  · exact h.mono (by omega)
/-- A net with nothing on its way. -/
def new (n : Nat) : St := ⟨List.replicate n [], zero⟩
theorem Ok.new (n : Nat) (h1 : 1 ≤ n) (h2 : n ≤ 17) : Ok 0 (new n) :=
  ⟨by unfold Nt.new; simpa using h1, by unfold Nt.new; simpa using h2, fun l hl => (by rw [List.eq_of_mem_replicate hl]; exact Nat.zero_le _), fun l hl p hp => (by rw [List.eq_of_mem_replicate hl] at hp; cases hp), fun k => Int.le_refl 0, fun k => Int.le_refl 0⟩
end Go.Proofs.Ytledoopfffhigaa.Nt
namespace Go.Proofs.Ytledoopfffhigaa
open Go.RowKit

/-- What stays: all blocks but some. -/
structure Kp (F : List Nat) (w w' : World) : Prop where
  os : w'.os = w.os
  tape : w'.tape = w.tape
  output : w'.output = w.output
  size : w.heap.size ≤ w'.heap.size
  block : ∀ k, k < w.heap.size → k ∉ F → w'.heap[k]? = w.heap[k]?
theorem Kp.refl (F : List Nat) (w : World) : Kp F w w := ⟨rfl, rfl, rfl, Nat.le_refl _, fun _ _ _ => rfl⟩
theorem Kp.trans {F G : List Nat} {a b c : World} (h : Kp F a b) (k : Kp G b c) (hG : ∀ x ∈ G, x ∈ F ∨ a.heap.size ≤ x) : Kp F a c :=
  ⟨k.os.trans h.os, k.tape.trans h.tape, k.output.trans h.output, Nat.le_trans h.size k.size, fun i hi hn =>
    (k.block i (Nat.lt_of_lt_of_le hi h.size) (fun hm => (hG i hm).elim hn (fun h1 => by omega))).trans (h.block i hi hn)⟩
theorem Kp.mono {F G : List Nat} {a b : World} (h : Kp F a b) (hG : ∀ x ∈ F, x ∈ G) : Kp G a b := ⟨h.os, h.tape, h.output, h.size, fun i hi hn => h.block i hi (fun hm => hn (hG i hm))⟩
theorem Kp.of {w w' : World} {row : Option Nat} (h : w.grownBy w' row) : Kp row.toList w w' := ⟨h.os, h.tape, h.output, h.size, fun i hi hn => h.block i hi (fun e => hn (by rw [← e]; simp))⟩
theorem Kp.alloc (w : World) (o : Obj) : Kp [] w (w.alloc o) := Kp.of (World.grownBy_alloc w o none)
theorem Kp.drew (w : World) : Kp [] w w.drew := ⟨rfl, rfl, rfl, Nat.le_refl _, fun _ _ _ => rfl⟩
theorem Kp.below {F : List Nat} {B : Nat} {w w' : World} (h : Kp F w w') (hB : B ≤ w.heap.size) (hF : ∀ k ∈ F, B ≤ k) : Below B w w' :=
  ⟨h.os, h.tape, h.output, h.size, fun k hk => h.block k (by omega) (fun hm => by have := hF k hm; omega)⟩
theorem Kp.ofBelow {w w' : World} (h : Below w.heap.size w w') : Kp [] w w' := ⟨h.os, h.tape, h.output, h.size, fun k hk _ => h.block k hk⟩
theorem Kp.cell {F : List Nat} {w w' : World} (h : Kp F w w') {p : Addr} {v : Value} (hc : w.cell? p = some v) (hp : p.block ∉ F) : w'.cell? p = some v :=
  (World.cell?_of_block (h.block p.block (World.block_lt_of_cell? w p hc) hp)).trans hc
/-- The box of a change lies there. -/
def CBox (g : Nat) (cs : Array Value) (t : TypeId) (w : World) : Prop := w.heap[g]? = some (.cells cs t (0, 0))
theorem CBox.cell {g : Nat} {cs : Array Value} {t : TypeId} {w : World} (h : CBox g cs t w) {i : Nat} {v : Value} (hv : cs[i]? = some v) : w.cell? ⟨g, i, none⟩ = some v := by
  unfold CBox at h
  simp [World.cell?, h, hv]
theorem CBox.kp {g : Nat} {cs : Array Value} {t : TypeId} {w w' : World} {F : List Nat} (h : CBox g cs t w) (hk : Kp F w w') (hF : g ∉ F) : CBox g cs t w' := (hk.block g (Array.getElem?_eq_some_iff.1 h).1 hF).trans h
theorem CBox.new (w : World) (cs : Array Value) (t : TypeId) : CBox w.heap.size cs t (w.alloc (.cells cs t)) := heap_alloc_new w _
theorem CBox.set {g : Nat} {cs : Array Value} {t : TypeId} {w : World} (h : CBox g cs t w) (i : Nat) (v : Value) : CBox g (cs.setIfInBounds i v) t (w.setCell ⟨g, i, none⟩ v) := by
  unfold CBox at *
  unfold World.setCell
  simp [h, Array.getElem?_modify]
theorem CBox.froz {g : Nat} {cs : Array Value} {t : TypeId} {w : World} (h : CBox g cs t w) (i : Nat) : w.frozen? ⟨g, i, none⟩ = false := by
  unfold CBox at h
  simp [World.frozen?, h]
theorem Kp.set (w : World) (p i : Nat) (v : Value) : Kp [p] w (w.setCell ⟨p, i, none⟩ v) :=
  ⟨rfl, rfl, rfl, by simp [World.setCell], fun k _ hn => Below.heap_setCell _ _ _ _ (by simpa using hn)⟩
theorem Kp.drewQ (w : World) (n : Nat) : Kp [] w (w.drewN n) := ⟨rfl, rfl, rfl, Nat.le_refl _, fun _ _ _ => rfl⟩
/-- append to a row of the call's own, as one step of a statement whose order is drawn; where the new row lies. -/
theorem step_append_lies {P : Program} {ops : Array Oper} {o : Oper} {a : Act} {w : World} {K : Act → World → Prop} {Q : Exit → Act → World → Prop} {E : Prop}
    (hg : o.guard = none) (s x : Operand) (t : TypeId) (hop : o.op = Op.call { callee := Callee.builtin Builtin.append, args := #[s, x], argTypes := #[t, t] })
    (base : Nat) (e : TypeId) (i : TypeInfo) (z : Value) (size bytes : Nat) (h1 : P.underlying t = some (.slice e)) (h2 : P.info? e = some i) (h3 : i.zero = some z) (h4 : i.size = size) (h5 : i.bytes = bytes) (h6 : z.cells.size = size) (h7 : 0 < size)
    (v : Value) (n : Nat) (xs : List Value) (hs : a.eval s = v) (hown : w.ownsRow base e size v n xs)
    (ad : Addr) (m c : Nat) (news : List Value) (hx : a.eval x = .slice (some ad) m c) (hn : news.length = m * size) (hc : ∀ j u, news[j]? = some u → w.cell? (ad.add j) = some u) (h1c : ∀ u ∈ news, u.oneCell' = true) (hm : 0 < m)
    (b1 : n + m ≤ maxLen) (b2 : (n + m) * bytes ≤ 140737488355328) (hb : base ≤ w.heap.size)
    (hK : ∀ g cap w', w'.ownsRow base e size (.slice (some ⟨g, 0, none⟩) (n + m) cap) (n + m) (xs ++ news) → w.grownBy w' v.ownBlock → (v.ownBlock = some g ∨ g = w.heap.size) → K (a.put o.dst (.slice (some ⟨g, 0, none⟩) (n + m) cap)) w') :
    if Region.wanted o (yielded ops a.tmps) = true then Oper.wp P o a w K Q else E := by
  have hw : Region.wanted o (yielded ops a.tmps) = true := by simp [Region.wanted, hg]
  rw [if_pos hw]
  obtain ⟨g, cap, w', hrun, r1, r2, r3, _⟩ := run_append_lies (P := P) (w := w) t o.type base e i z size bytes h1 h2 h3 h4 h5 h6 h7 v n xs hown ad m c news hn hc h1c hm b1 b2 hb _ rfl
  unfold Oper.wp
  simp [execOp, hop, resolve, invoke, builtin, hs, hx, hrun, Result.andThen]
  exact hK g cap w' r1 r2 r3
theorem one_new (w : World) (x : Value) (t : TypeId) : ∀ (j : Nat) (u : Value), [x][j]? = some u → (w.alloc (.cells #[x] t)).cell? ((⟨w.heap.size, 0, none⟩ : Addr).add j) = some u := fun j u hj => by
  match j, hj with
  | 0, hj =>
    simp at hj
    subst hj
    exact (CBox.new w #[x] t).cell rfl
end Go.Proofs.Ytledoopfffhigaa
namespace Go.Proofs.Ytledoopfffhigaa
open Go.RowKit

theorem run_app_any {P : Program} {w : World} (t ty e : TypeId) (i : TypeInfo) (z : Value) (size bytes : Nat) (h1 : P.underlying t = some (.slice e)) (h2 : P.info? e = some i) (h3 : i.zero = some z) (h4 : i.size = size) (h5 : i.bytes = bytes) (h6 : z.cells.size = size) (h7 : 0 < size)
    {g2 n2 cap2 : Nat} {xs : List Value} (ho : w.ownsRow 0 e size (.slice (some ⟨g2, 0, none⟩) n2 cap2) n2 xs)
    (ad : Option Addr) (m c : Nat) (news : List Value) (hn : news.length = m * size) (hnone : ad = none → m = 0 ∧ c = 0) (hsp : ∀ a, ad = some a → a.spot = none) (hc : ∀ a, ad = some a → ∀ j u, news[j]? = some u → w.cell? (a.add j) = some u) (h1c : ∀ u ∈ news, u.oneCell' = true)
    (b1 : n2 + m ≤ maxLen) (b2 : (n2 + m) * bytes ≤ 140737488355328) :
    ∃ g cap w', (Builtin.append_ #[t, t] ty #[.slice (some ⟨g2, 0, none⟩) n2 cap2, .slice ad m c]).run P w = .ok (.slice (some ⟨g, 0, none⟩) (n2 + m) cap) w' ∧ w'.ownsRow 0 e size (.slice (some ⟨g, 0, none⟩) (n2 + m) cap) (n2 + m) (xs ++ news) ∧ w.grownBy w' (some g2) ∧ (g = g2 ∨ g = w.heap.size) := by
  have hcp : n2 ≤ cap2 := by
    obtain ⟨_, ⟨e, _⟩ | ⟨g, cp, cur, e, _, _, hn, _⟩⟩ := id ho
    · cases e
    · injection e with _ e2 e3; omega
  cases ad with
  | none =>
    obtain ⟨rfl, rfl⟩ := hnone rfl
    obtain rfl : news = [] := List.eq_nil_of_length_eq_zero (by omega)
    exact ⟨g2, cap2, w, by simpa using run_append_owned_none (P := P) (w := w) 0 t ty e i size h1 h2 _ _ _ ho, by simpa using ho, World.grownBy.refl _ _, Or.inl rfl⟩
  | some a =>
    obtain ⟨b, off, spot⟩ := a
    obtain rfl : spot = none := hsp _ rfl
    rcases Nat.eq_zero_or_pos m with h0 | hpos
    · subst h0
      obtain rfl : news = [] := List.eq_nil_of_length_eq_zero (by omega)
      have := run_append_room_cells (P := P) (w := w) t ty e i h1 h2 g2 0 n2 cap2 ⟨b, off, none⟩ 0 c [] (by simp) (fun j u hj => by simp at hj) (fun u hu => by cases hu) (by omega) (fun j hj => absurd hj (by simp)) (fun j hj => absurd hj (by simp))
      exact ⟨g2, cap2, w, by simpa [World.setCells] using this, by simpa using ho, World.grownBy.refl _ _, Or.inl rfl⟩
    · obtain ⟨g3, cap3, w', hr, r1, r2, r3, _⟩ := run_append_lies (P := P) (w := w) t ty 0 e i z size bytes h1 h2 h3 h4 h5 h6 h7 _ _ _ ho ⟨b, off, none⟩ m c news hn (hc _ rfl) h1c hpos b1 b2 (Nat.zero_le _) _ rfl
      refine ⟨g3, cap3, w', hr, r1, r2, ?_⟩
      rcases r3 with r3 | r3
      · exact Or.inl (by simpa [Value.ownBlock] using r3.symm)
      · exact Or.inr r3
/-- The same, as one step of a statement whose order is drawn. -/
theorem step_app_any {P : Program} {ops : Array Oper} {o : Oper} {a : Act} {w : World} {K : Act → World → Prop} {Q : Exit → Act → World → Prop} {E : Prop}
    (hg : o.guard = none) (s x : Operand) (t : TypeId) (hop : o.op = Op.call { callee := Callee.builtin Builtin.append, args := #[s, x], argTypes := #[t, t] })
    (e : TypeId) (i : TypeInfo) (z : Value) (size bytes : Nat) (h1 : P.underlying t = some (.slice e)) (h2 : P.info? e = some i) (h3 : i.zero = some z) (h4 : i.size = size) (h5 : i.bytes = bytes) (h6 : z.cells.size = size) (h7 : 0 < size)
    {g2 n2 cap2 : Nat} {xs : List Value} (hs : a.eval s = .slice (some ⟨g2, 0, none⟩) n2 cap2) (ho : w.ownsRow 0 e size (.slice (some ⟨g2, 0, none⟩) n2 cap2) n2 xs)
    (ad : Option Addr) (m c : Nat) (news : List Value) (hx : a.eval x = .slice ad m c) (hn : news.length = m * size) (hnone : ad = none → m = 0 ∧ c = 0) (hsp : ∀ a, ad = some a → a.spot = none) (hc : ∀ a, ad = some a → ∀ j u, news[j]? = some u → w.cell? (a.add j) = some u) (h1c : ∀ u ∈ news, u.oneCell' = true)
    (b1 : n2 + m ≤ maxLen) (b2 : (n2 + m) * bytes ≤ 140737488355328) (N : Nat) (hN : n2 + m = N)
    (hK : ∀ g cap w', w'.ownsRow 0 e size (.slice (some ⟨g, 0, none⟩) N cap) N (xs ++ news) → w.grownBy w' (some g2) → (g = g2 ∨ g = w.heap.size) → K (a.put o.dst (.slice (some ⟨g, 0, none⟩) N cap)) w') :
    if Region.wanted o (yielded ops a.tmps) = true then Oper.wp P o a w K Q else E := by
  subst hN
  have hw : Region.wanted o (yielded ops a.tmps) = true := by simp [Region.wanted, hg]
  rw [if_pos hw]
  obtain ⟨g, cap, w', hrun, r1, r2, r3⟩ := run_app_any (P := P) (w := w) t o.type e i z size bytes h1 h2 h3 h4 h5 h6 h7 ho ad m c news hn hnone hsp hc h1c b1 b2
  unfold Oper.wp
  simp [execOp, hop, resolve, invoke, builtin, hs, hx, hrun, Result.andThen]
  exact hK g cap w' r1 r2 r3
/-- append, by its run. -/
theorem wpList_app_run {P : Program} {ops : Array Oper} {rest : List Oper} {o : Oper} {a : Act} {w w' : World} {Q : Exit → Act → World → Prop} {v u1 u2 : Value} (hgd : o.guard = none) (s x : Operand) (t : TypeId)
    (ho : o.op = .call { callee := .builtin .append, args := #[s, x], argTypes := #[t, t] }) (hs : a.eval s = u1) (hx : a.eval x = u2) (hr : (Builtin.append_ #[t, t] o.type #[u1, u2]).run P w = .ok v w')
    (h : wpList P ops Q rest (a.put o.dst v) w') : wpList P ops Q (o :: rest) a w :=
  wpList_plain hgd fun _ hK => by
    unfold Oper.wp
    simp [execOp, ho, resolve, invoke, builtin, hs, hx, hr, Result.andThen]
    exact hK _ _ h
/-- What stays while a row of the call's own grows. -/
theorem kp_gr {wx W w5 : World} {g2 : Nat} (hk : Kp [] wx W) (hg : W.grownBy w5 (some g2)) (hle : wx.heap.size ≤ g2) : Kp [] wx w5 := hk.trans (Kp.of hg) (by simp; omega)
end Go.Proofs.Ytledoopfffhigaa
