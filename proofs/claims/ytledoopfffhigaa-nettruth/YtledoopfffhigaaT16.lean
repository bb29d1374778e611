/-
  Maps of counts, keyed by a sender, a node and bytes.
  NetTruth, plainly: what is taken was sent; what was sent and copied is on its way, lost or taken. And the world that it plays in.
-/
import Derived.Test.YtledoopfffhigaaT15
import Derived.Maps.OwnSet
import Derived.WideKeyRuns
import Derived.WideKeyEntry
namespace Go.Proofs.Ytledoopfffhigaa
open Go.RowKit Nt
open Go.ChangeMaps (setBlock)

/-- A key. -/
structure K3 where
  f : Int
  t : Int
  b : ByteArray
def keyV (k : K3) : Value := .agg #[.int .i64 k.f, .int .i64 k.t, .string k.b]
def kE (x y : K3) : Bool := x.f == y.f && (x.t == y.t && x.b.toList == y.b.toList)
theorem kE_iff (x y : K3) : kE x y = true ↔ x = y := by
  obtain ⟨f, t, b⟩ := x
  obtain ⟨f', t', b'⟩ := y
  unfold kE
  simp only [Bool.and_eq_true, beq_iff_eq, K3.mk.injEq]
  constructor
  · rintro ⟨h1, h2, h3⟩
    refine ⟨h1, h2, ?_⟩
    rw [ByteArray.toList_eq, ByteArray.toList_eq] at h3
    exact ByteArray.ext (Array.toList_inj.1 h3)
  · rintro ⟨rfl, rfl, rfl⟩
    exact ⟨rfl, rfl, rfl⟩
theorem eqK (d : Nat) (a b : K3) (w : World) : (Op.equalIn (d + 2) 49 (keyV a) (keyV b)).run Try.prog w = .ok (kE a b) w := by
  obtain ⟨f, t, s⟩ := a
  obtain ⟨f', t', s'⟩ := b
  have hi := fun (a b : Int) (w : World) => run_equalIn_int (P := Try.prog) w d 3 .i64 .i64 a b Try.underlying3
  have hs := fun (a b : ByteArray) (w : World) => run_equalIn_string (P := Try.prog) w d 9 a b Try.underlying9
  unfold Op.equalIn keyV kE
  simp only [Sem.run_bind, run_underlying Try.underlying49, Result.andThen_ok]
  simp [part, Try.sizeOf3, Try.sizeOf9, go_sem, hi, hs, ByteArray.toList_eq]
  by_cases h0 : f = f' <;> by_cases h1 : t = t' <;> by_cases h2 : s.data = s'.data <;> simp [h0, h1, h2]
set_option maxRecDepth 100000 in
theorem chkK (x : K3) (c : Bool) (w : World) : (Instr.checkKey c 10000 49 (keyV x)).run Try.prog w = .ok () w := by
  unfold Instr.checkKey
  simp only [Sem.run_bind, run_underlying Try.underlying49, Result.andThen_ok]
  have hi : ∀ (n : Nat) (a : Int), (Instr.checkKey c (n + 1) 3 (.int .i64 a)).run Try.prog w = .ok () w := fun n a => MapKept.run_checkKey Try.underlying3 (by simp [MapKept.IsKey]) c n
  have hs : ∀ (n : Nat) (a : ByteArray), (Instr.checkKey c (n + 1) 9 (.string a)).run Try.prog w = .ok () w := fun n a => MapKept.run_checkKey Try.underlying9 (by simp [MapKept.IsKey]) c n
  simp [keyV, part, Try.sizeOf3, Try.sizeOf9, go_sem, hi 9998, hs 9998]
theorem same_k (n : K3) : Instr.sameBits 10000 (keyV n) (keyV n) = true := by
  simp [Instr.sameBits, keyV]
  exact (MapKept.bytes_beq _ _).2 rfl
/-- An entry. -/
structure Ce where
  k : K3
  v : Int
  bn : Nat
def Ce.entry (e : Ce) : MapEntry := ⟨keyV e.k, .int .i64 e.v, e.bn⟩
def valC (l : List Ce) (k : K3) : Int := match l.find? (fun e => kE k e.k) with | some e => e.v | none => 0
/-- A map with these counts lies there. -/
structure MapC (w : World) (b : Nat) (l : List Ce) (clock : Nat) : Prop where
  here : ∃ es : Array MapEntry, w.heap[b]? = some (.map es clock) ∧ es.toList = l.map Ce.entry
  born : (l.map Ce.bn).Nodup
  old : ∀ x ∈ l, x.bn < clock
theorem MapC.of {w w' : World} {b : Nat} {l : List Ce} {clock : Nat} (h : MapC w b l clock) (he : ∀ o, w.heap[b]? = some o → w'.heap[b]? = some o) : MapC w' b l clock := by
  obtain ⟨es, h1, h2⟩ := h.here
  exact ⟨⟨es, he _ h1, h2⟩, h.born, h.old⟩
def CtF (w : World) (b : Nat) (c : K3 → Int) : Prop := ∃ l clock, MapC w b l clock ∧ ∀ k, valC l k = c k
theorem CtF.new (w : World) : CtF (w.alloc (.map #[] 0)) w.heap.size (fun _ => 0) := ⟨[], 0, ⟨⟨#[], heap_alloc_new w _, rfl⟩, by simp, by simp⟩, fun _ => rfl⟩
theorem CtF.lt {w : World} {b : Nat} {c : K3 → Int} (h : CtF w b c) : b < w.heap.size := let ⟨_, _, h1, _⟩ := h; let ⟨_, h2, _⟩ := h1.here; (Array.getElem?_eq_some_iff.1 h2).1
theorem CtF.kp {F : List Nat} {w w' : World} {b : Nat} {c : K3 → Int} (h : CtF w b c) (hk : Kp F w w') (hF : b ∉ F) : CtF w' b c := by
  have hlt := h.lt
  obtain ⟨l, cl, h1, h2⟩ := h
  exact ⟨l, cl, h1.of (fun o ho => (hk.block b hlt hF).trans ho), h2⟩
theorem CtF.ks {B : Nat} {T : List Nat} {w w' : World} {b : Nat} {c : K3 → Int} (h : CtF w b c) (hk : Ks B T w w') : CtF w' b c := by
  have hlt := h.lt
  obtain ⟨l, cl, h1, h2⟩ := h
  obtain ⟨es, h3, _⟩ := h1.here
  refine ⟨l, cl, h1.of (fun o ho => (hk.block b hlt (Or.inr fun cur t f hc => ?_)).trans ho), h2⟩
  rw [h3] at hc
  cases hc
theorem modify_mid {α : Type} (f : α → α) (x : α) (r : List α) : ∀ a : List α, (a ++ x :: r).modify a.length f = a ++ f x :: r
  | [] => rfl
  | b :: s => by simp [List.modify_succ_cons, modify_mid f x r s]
theorem ask_c (n : K3) (w : World) : ∀ (l : List Ce) (i : Nat), ((∀ e ∈ l, kE n e.k = false) ∧ (Instr.findAsking 49 (keyV n) (l.map Ce.entry) i).run Try.prog w = .ok none w) ∨ ∃ a x r, l = a ++ x :: r ∧ x.k = n ∧ (∀ e ∈ a, kE n e.k = false) ∧ (Instr.findAsking 49 (keyV n) (l.map Ce.entry) i).run Try.prog w = .ok (some (i + a.length, .int .i64 x.v)) w
  | [], i => Or.inl ⟨fun e he => (by cases he), (by simp [Instr.findAsking])⟩
  | e :: r, i => by
    have := eqK 9998 n e.k w
    cases hq : kE n e.k with
    | true =>
      rw [hq] at this
      refine Or.inr ⟨[], e, r, rfl, ((kE_iff _ _).1 hq).symm, (fun x hx => by cases hx), ?_⟩
      rw [List.map_cons]
      simp [Instr.findAsking, Ce.entry, Op.equal, Op.maxDepth, this, Result.andThen]
    | false =>
      rw [hq] at this
      rcases ask_c n w r (i + 1) with ⟨h1, h2⟩ | ⟨a, x, s, h1, h2, h3, h4⟩
      · refine Or.inl ⟨fun y hy => ?_, ?_⟩
        · rcases List.mem_cons.1 hy with rfl | hy
          · exact hq
          · exact h1 y hy
        · rw [List.map_cons]
          simp [Instr.findAsking, Ce.entry, Op.equal, Op.maxDepth, this, Result.andThen]
          exact h2
      · refine Or.inr ⟨e :: a, x, s, by rw [h1]; rfl, h2, fun y hy => ?_, ?_⟩
        · rcases List.mem_cons.1 hy with rfl | hy
          · exact hq
          · exact h3 y hy
        · rw [List.map_cons, List.length_cons, show i + (a.length + 1) = i + 1 + a.length by omega]
          simp [Instr.findAsking, Ce.entry, Op.equal, Op.maxDepth, this, Result.andThen]
          exact h4
theorem valC_no {l : List Ce} {n : K3} (h : ∀ e ∈ l, kE n e.k = false) : valC l n = 0 := by
  unfold valC
  rw [List.find?_eq_none.2 (fun e he => by simpa using h e he)]
theorem valC_yes {a r : List Ce} {x : Ce} (h : ∀ e ∈ a, kE x.k e.k = false) : valC (a ++ x :: r) x.k = x.v := by
  unfold valC
  rw [List.find?_append, List.find?_eq_none.2 (fun e he => by simpa using h e he)]
  simp [(kE_iff x.k x.k).2 rfl]
/-- A look-up. -/
theorem CtF.look {w : World} {b : Nat} {c : K3 → Int} (h : CtF w b c) (n : K3) : (Instr.lookup 46 (.map (some b)) (.agg #[.int .i64 n.f, .int .i64 n.t, .string n.b]) false).run Try.prog w = .ok (.int .i64 (c n)) w := by
  obtain ⟨l, cl, h1, h2⟩ := h
  obtain ⟨es, h3, h4⟩ := h1.here
  have hz : (zeroValue 3).run Try.prog w = .ok (.int .i64 0) w := by kernel_rfl
  have hf := run_findKey_eq (P := Try.prog) w (k := 49) (by rw [Try.underlying49]) (keyV n) es.toList
  rw [h4] at hf
  show (Instr.lookup 46 (.map (some b)) (keyV n) false).run Try.prog w = _
  rw [← h2 n]
  rcases ask_c n w l 0 with ⟨e, hj⟩ | ⟨a, x, r, e, rfl, hn, hj⟩
  · rw [valC_no e]
    simp [Instr.lookup, run_underlying Try.underlying46, MapKept.run_getObj_map h3, chkK, h4, hf, hj, hz, Result.andThen]
  · have hv : valC l x.k = x.v := by rw [e]; exact valC_yes hn
    rw [hv]
    simp [Instr.lookup, run_underlying Try.underlying46, MapKept.run_getObj_map h3, chkK, h4, hf, hj, Result.andThen]
/-- One count set. -/
def upC (c : K3 → Int) (k : K3) (v : Int) : K3 → Int := fun x => if kE k x then v else c x
theorem set_blk {w : World} {b : Nat} (o : Obj) : Kp [b] w (setBlock w b o) := by
  refine ⟨rfl, rfl, rfl, by simp [setBlock], fun k _ hk => ?_⟩
  have : b ≠ k := fun e => hk (by simp [e])
  unfold setBlock
  simp [this]
theorem valC_set {a r : List Ce} {x : Ce} (h : ∀ e ∈ a, kE x.k e.k = false) (v : Int) (k : K3) : valC (a ++ { x with v := v } :: r) k = if kE x.k k then v else valC (a ++ x :: r) k := by
  by_cases hk : kE x.k k = true
  · rw [if_pos hk]
    obtain rfl := (kE_iff _ _).1 hk
    exact valC_yes (x := { x with v := v }) h
  · rw [if_neg hk]
    have hk2 : kE k x.k = false := by
      cases hh : kE k x.k with
      | false => rfl
      | true => exact absurd ((kE_iff _ _).2 ((kE_iff _ _).1 hh).symm) hk
    unfold valC
    rw [List.find?_append, List.find?_append, List.find?_cons_of_neg (by simpa using hk2), List.find?_cons_of_neg (by simpa using hk2)]
theorem valC_snoc {l : List Ce} {n : K3} (h : ∀ e ∈ l, kE n e.k = false) (v : Int) (bn : Nat) (k : K3) : valC (l ++ [⟨n, v, bn⟩]) k = if kE n k then v else valC l k := by
  by_cases hk : kE n k = true
  · rw [if_pos hk]
    obtain rfl := (kE_iff _ _).1 hk
    exact valC_yes (x := ⟨n, v, bn⟩) (r := []) h
  · rw [if_neg hk]
    have hk2 : kE k n = false := by
      cases hh : kE k n with
      | false => rfl
      | true => exact absurd ((kE_iff _ _).2 ((kE_iff _ _).1 hh).symm) hk
    unfold valC
    rw [List.find?_append, List.find?_cons_of_neg (by simpa using hk2)]
    simp
/-- A new value put in, by the entry's stamp. -/
theorem store_at {w : World} {b : Nat} {a r : List Ce} {x : Ce} {clock : Nat} (h : MapC w b (a ++ x :: r) clock) (v : Int) :
    ∃ w2, (Instr.entryStore 46 (.map (some b)) (goInt (x.bn : Int)) (.int .i64 v)).run Try.prog w = .ok () w2 ∧ MapC w2 b (a ++ ({ x with v := v } : Ce) :: r) clock ∧ Kp [b] w w2 := by
  obtain ⟨es, h3, h4⟩ := h.here
  have hidx : es.findIdx? (fun e => ((e.born : Nat) : Int) == ((x.bn : Nat) : Int)) = some a.length := by
    rw [WideElems.findIdx_arr, h4]
    refine WideElems.findIdx_born (l := (a ++ x :: r).map Ce.entry) (e0 := x.entry) ?_ (by simp)
    rw [List.map_map]
    exact h.born
  have hl : (es.modify a.length (fun e => { e with val := .int .i64 v })).toList = (a ++ ({ x with v := v } : Ce) :: r).map Ce.entry := by
    rw [Array.toList_modify, h4, List.map_append, List.map_cons]
    have := modify_mid (fun e : MapEntry => { e with val := .int .i64 v }) x.entry (r.map Ce.entry) (a.map Ce.entry)
    rw [List.length_map] at this
    rw [this, List.map_append, List.map_cons]
    rfl
  refine ⟨setBlock w b (.map (es.modify a.length (fun e => { e with val := .int .i64 v })) clock), ?_, ⟨⟨_, (MapKept.heap_set h3).1, hl⟩, ?_, ?_⟩, set_blk _⟩
  · simp [Instr.entryStore, MapKept.run_getObj_map h3, asInt, asIntOf, goInt, hidx, MapKept.run_setObj_map _ h3, Result.andThen, setBlock]
  · have := h.born
    simpa using this
  · intro y hy
    rcases List.mem_append.1 hy with hy | hy
    · exact h.old y (List.mem_append.2 (Or.inl hy))
    · rcases List.mem_cons.1 hy with rfl | hy
      · exact h.old x (by simp)
      · exact h.old y (by simp [hy])
/-- m[k] as an entry, then a store into it. -/
theorem CtF.entry {w : World} {b : Nat} {c : K3 → Int} (h : CtF w b c) (n : K3) : ∃ (v0 : Value) (st : Nat) (w1 : World), (Instr.mapEntry 46 (.map (some b)) (.agg #[.int .i64 n.f, .int .i64 n.t, .string n.b])).run Try.prog w = .ok (.tuple #[v0, goInt (st : Int)]) w1 ∧ CtF w1 b c ∧ Kp [b] w w1 ∧
    ∀ v, ∃ w2, (Instr.entryStore 46 (.map (some b)) (goInt (st : Int)) (.int .i64 v)).run Try.prog w1 = .ok () w2 ∧ CtF w2 b (upC c n v) ∧ Kp [b] w1 w2 := by
  obtain ⟨l, cl, h1, h2⟩ := h
  obtain ⟨es, h3, h4⟩ := h1.here
  have hz : (zeroValue 3).run Try.prog w = .ok (.int .i64 0) w := by kernel_rfl
  have hf := run_findKey_eq (P := Try.prog) w (k := 49) (by rw [Try.underlying49]) (keyV n) es.toList
  rw [h4] at hf
  show ∃ (v0 : Value) (st : Nat) (w1 : World), (Instr.mapEntry 46 (.map (some b)) (keyV n)).run Try.prog w = .ok (.tuple #[v0, goInt (st : Int)]) w1 ∧ _
  rcases ask_c n w l 0 with ⟨e, hj⟩ | ⟨a, x, r, hle, rfl, hn, hj⟩
  · have hl : (es.push ⟨keyV n, .int .i64 0, cl⟩).toList = (l ++ [(⟨n, 0, cl⟩ : Ce)]).map Ce.entry := by rw [Array.toList_push, h4, List.map_append]; rfl
    have hM : MapC (setBlock w b (.map (es.push ⟨keyV n, .int .i64 0, cl⟩) (cl + 1))) b (l ++ [(⟨n, 0, cl⟩ : Ce)]) (cl + 1) := by
      refine ⟨⟨_, (MapKept.heap_set h3).1, hl⟩, ?_, ?_⟩
      · rw [List.map_append]
        refine List.nodup_append.2 ⟨h1.born, by simp, fun p hp q hq e1 => ?_⟩
        simp only [List.map_cons, List.map_nil, List.mem_singleton] at hq
        obtain ⟨y, hy, rfl⟩ := List.mem_map.1 hp
        have := h1.old y hy
        omega
      · intro y hy
        rcases List.mem_append.1 hy with hy | hy
        · have := h1.old y hy; omega
        · rw [List.mem_singleton] at hy; subst hy; exact Nat.lt_succ_self _
    refine ⟨.int .i64 0, cl, _, ?_, ⟨_, _, hM, fun k => ?_⟩, set_blk _, fun v => ?_⟩
    · simp [Instr.mapEntry, run_underlying Try.underlying46, MapKept.run_getObj_map h3, chkK, h4, hf, hj, hz, MapKept.run_setObj_map _ h3, Result.andThen, setBlock]
    · rw [valC_snoc e, h2]
      split
      · rename_i hk
        obtain rfl := (kE_iff _ _).1 hk
        rw [← h2, valC_no e]
      · rfl
    · obtain ⟨w2, s1, s2, s3⟩ := store_at (a := l) (x := ⟨n, 0, cl⟩) (r := []) hM v
      refine ⟨w2, s1, ⟨_, _, s2, fun k => ?_⟩, s3⟩
      show valC (l ++ [(⟨n, v, cl⟩ : Ce)]) k = _
      rw [valC_snoc e, h2]
      rfl
  · have hl : (es.modify a.length (fun e => { e with key := keyV x.k })).toList = l.map Ce.entry := by
      rw [Array.toList_modify, h4, hle, List.map_append, List.map_cons]
      have := modify_mid (fun e : MapEntry => { e with key := keyV x.k }) x.entry (r.map Ce.entry) (a.map Ce.entry)
      rw [List.length_map] at this
      rw [this]
      rfl
    have hat : es[a.length]? = some x.entry := by
      rw [← Array.getElem?_toList, h4, hle]
      simp
    have hM : MapC (setBlock w b (.map (es.modify a.length (fun e => { e with key := keyV x.k })) cl)) b l cl := ⟨⟨_, (MapKept.heap_set h3).1, hl⟩, h1.born, h1.old⟩
    rw [Nat.zero_add] at hj
    refine ⟨.int .i64 x.v, x.bn, _, ?_, ⟨_, _, hM, h2⟩, set_blk _, fun v => ?_⟩
    · simp [Instr.mapEntry, run_underlying Try.underlying46, MapKept.run_getObj_map h3, chkK, h4, hf, hj, hat, Ce.entry, Instr.keyThatStays, same_k, MapKept.run_setObj_map _ h3, Result.andThen, setBlock]
    · obtain ⟨w2, s1, s2, s3⟩ := store_at (by rw [hle] at hM; exact hM) v
      refine ⟨w2, s1, ⟨_, _, s2, fun k => ?_⟩, s3⟩
      rw [valC_set hn, ← hle, h2]
      rfl
end Go.Proofs.Ytledoopfffhigaa
namespace Go.Proofs.Ytledoopfffhigaa
open Go.RowKit Nt

/-- How many like this are among these. -/
def cnt (k : K3) (l : List Pk) : Nat := l.countP fun p => kE k ⟨p.fr, k.t, p.b⟩
/-- What holds of what was sent and taken. -/
structure Tru (s : St) (sn tk : K3 → Int) (cp N : Int) : Prop where
  len : s.ws.length = 3
  cons : s.c 0 + s.c 2 = (tot s.ws : Int) + s.c 1 + s.c 3
  cc : s.c 2 = cp
  inv : ∀ (f : Int) (m : Nat) (b : ByteArray), tk ⟨f, m, b⟩ + (cnt ⟨f, m, b⟩ (row s (m : Int)) : Int) ≤ sn ⟨f, m, b⟩ + cp
  pos : ∀ (m : Nat) (p : Pk), p ∈ row s (m : Int) → 0 < sn ⟨p.fr, m, p.b⟩
  s0 : ∀ k, 0 ≤ sn k ∧ sn k ≤ N
  t0 : ∀ k, 0 ≤ tk k ∧ tk k ≤ N
  c0 : 0 ≤ cp ∧ cp ≤ N
theorem Tru.mono {s : St} {sn tk : K3 → Int} {cp N N' : Int} (h : Tru s sn tk cp N) (hN : N ≤ N') : Tru s sn tk cp N' :=
  ⟨h.len, h.cons, h.cc, h.inv, h.pos, fun k => ⟨(h.s0 k).1, Int.le_trans (h.s0 k).2 hN⟩, fun k => ⟨(h.t0 k).1, Int.le_trans (h.t0 k).2 hN⟩, h.c0.1, Int.le_trans h.c0.2 hN⟩
theorem Tru.start : Tru (new 3) (fun _ => 0) (fun _ => 0) 0 0 := by
  have hr : ∀ m : Nat, row (new 3) (m : Int) = [] := fun m => by
    unfold row new
    rw [Int.toNat_natCast]
    match m with
    | 0 => rfl
    | 1 => rfl
    | 2 => rfl
    | m + 3 => rfl
  refine ⟨rfl, rfl, rfl, fun f m b => (by rw [hr]; exact Int.le_refl 0), fun m p hp => (by rw [hr] at hp; cases hp), fun _ => ⟨Int.le_refl _, Int.le_refl _⟩, fun _ => ⟨Int.le_refl _, Int.le_refl _⟩, Int.le_refl _, Int.le_refl _⟩
theorem row_put {s : St} {t : Nat} (ht : t < s.ws.length) (l : List Pk) (k : Nat) (n : Int) (m : Nat) : row (put s (t : Int) l k n) (m : Int) = if t = m then l else row s (m : Int) := by
  unfold row put
  rw [Int.toNat_natCast, Int.toNat_natCast, List.getElem?_set]
  by_cases h : t = m
  · rw [if_pos h, if_pos h, if_pos ht]; rfl
  · rw [if_neg h, if_neg h]
theorem tot_put {s : St} {t : Nat} (ht : t < s.ws.length) (l : List Pk) (k : Nat) (n : Int) : (tot (put s (t : Int) l k n).ws : Int) + ((row s (t : Int)).length : Int) = (tot s.ws : Int) + (l.length : Int) := by
  have := tot_set s.ws t s.ws[t] l (List.getElem?_eq_getElem ht)
  rw [row_at ht]
  unfold put
  rw [Int.toNat_natCast]
  show ((tot (s.ws.set t l) : Nat) : Int) + _ = _
  omega
open Classical in
theorem upC_at (c : K3 → Int) (k : K3) (v : Int) (x : K3) : upC c k v x = if k = x then v else c x := by
  unfold upC
  by_cases h : k = x
  · rw [if_pos ((kE_iff _ _).2 h), if_pos h]
  · rw [if_neg (fun e => h ((kE_iff _ _).1 e)), if_neg h]
open Classical in
theorem cnt_one (k : K3) (p : Pk) : cnt k [p] = if k = ⟨p.fr, k.t, p.b⟩ then 1 else 0 := by
  unfold cnt
  rw [List.countP_cons, List.countP_nil]
  by_cases h : k = ⟨p.fr, k.t, p.b⟩
  · rw [if_pos ((kE_iff _ _).2 h), if_pos h]
  · rw [if_neg (fun e => h ((kE_iff _ _).1 e)), if_neg h]
theorem cnt_app (k : K3) (a b : List Pk) : cnt k (a ++ b) = cnt k a + cnt k b := by unfold cnt; exact List.countP_append ..
theorem cnt_erase (k : K3) (l : List Pk) (i : Nat) (hi : i < l.length) : cnt k (l.eraseIdx i) + cnt k [l[i]] = cnt k l := by
  have e : l = l.take i ++ l[i] :: l.drop (i + 1) := by rw [← List.drop_eq_getElem_cons hi, List.take_append_drop]
  rw [List.eraseIdx_eq_take_drop_succ]
  have h2 : cnt k l = cnt k (l.take i) + cnt k (l[i] :: l.drop (i + 1)) := by
    rw [← cnt_app, ← e]
  have h3 : cnt k (l[i] :: l.drop (i + 1)) = cnt k [l[i]] + cnt k (l.drop (i + 1)) := by rw [← cnt_app]; rfl
  rw [cnt_app]
  omega
theorem Tru.send {s : St} {sn tk : K3 → Int} {cp N : Int} (h : Tru s sn tk cp N) (f : Int) (t : Nat) (b : ByteArray) (he : seE s f (t : Int) b = 0) : Tru (seS s f (t : Int) b) (upC sn ⟨f, t, b⟩ (sn ⟨f, t, b⟩ + 1)) tk cp (N + 1) := by
  have ht : t < s.ws.length := by
    unfold seE at he
    split at he
    · rename_i hh
      rw [Bool.and_eq_true] at hh
      have := hasN_iff.1 hh.2
      omega
    · cases he
  unfold seS
  rw [if_pos he]
  have htp := tot_put ht (row s (t : Int) ++ [⟨f, b⟩]) 0 1
  rw [List.length_append] at htp
  have hcs := h.cons
  refine ⟨?_, ?_, ?_, fun f' m b' => ?_, fun m p hp => ?_, fun k => ?_, fun k => ⟨(h.t0 k).1, Int.le_trans (h.t0 k).2 (by omega)⟩, h.c0.1, Int.le_trans h.c0.2 (by omega)⟩
  · unfold put; rw [List.length_set]; exact h.len
  · show up s.c 0 (s.c 0 + 1) 0 + up s.c 0 (s.c 0 + 1) 2 = _ + up s.c 0 (s.c 0 + 1) 1 + up s.c 0 (s.c 0 + 1) 3
    simp [up] at htp ⊢
    omega
  · show up s.c 0 (s.c 0 + 1) 2 = cp
    simpa [up] using h.cc
  · have hi := h.inv f' m b'
    rw [row_put ht, upC_at]
    by_cases hm : t = m
    · subst hm
      rw [if_pos rfl, cnt_app, cnt_one]
      by_cases hk : (⟨f, t, b⟩ : K3) = ⟨f', t, b'⟩
      · rw [if_pos hk]
        rw [if_pos (by rw [← hk])]
        rw [← hk] at hi ⊢
        omega
      · rw [if_neg hk, if_neg (fun e => hk e.symm)]
        omega
    · rw [if_neg hm, if_neg (fun e => by injection e with _ e; exact hm (by exact_mod_cast e))]
      exact hi
  · rw [row_put ht] at hp
    rw [upC_at]
    split
    · rename_i hk
      have := (h.s0 ⟨f, t, b⟩).1
      omega
    · rename_i hk
      split at hp
      · rename_i hm
        subst hm
        rcases List.mem_append.1 hp with hp | hp
        · exact h.pos t p hp
        · rw [List.mem_singleton] at hp
          subst hp
          exact absurd rfl hk
      · exact h.pos m p hp
  · rw [upC_at]
    have h1 := h.s0 k
    have h2 := h.s0 ⟨f, t, b⟩
    split <;> omega
theorem Tru.off_ {s : St} {sn tk : K3 → Int} {cp N : Int} (h : Tru s sn tk cp N) (t : Nat) (i : Int) (k : Nat) (hk : k = 1 ∨ k = 3) (he : fiE s (t : Int) i = 0) :
    ∃ p : Pk, nth s (t : Int) i = p ∧ p ∈ row s (t : Int) ∧ ∀ tk' : K3 → Int, (tk' = tk ∨ tk' = upC tk ⟨p.fr, t, p.b⟩ (tk ⟨p.fr, t, p.b⟩ + 1)) → Tru (off s (t : Int) i k) sn tk' cp (N + 1) := by
  obtain ⟨hmem, j, rfl, hj, hnj⟩ := nth_mem he
  have ht : t < s.ws.length := by
    unfold fiE at he
    split at he
    · rename_i hh
      have := hasN_iff.1 hh
      omega
    · cases he
  refine ⟨_, rfl, hmem, fun tk' htk => ?_⟩
  unfold off
  rw [if_pos he, Int.toNat_natCast]
  have htp := tot_put ht ((row s (t : Int)).eraseIdx j) k 1
  rw [List.length_eraseIdx_of_lt hj] at htp
  have hcs := h.cons
  have hlow : ∀ x, tk x ≤ tk' x ∧ 0 ≤ tk' x ∧ tk' x ≤ N + 1 := fun x => by
    have h1 := h.t0 x
    rcases htk with rfl | rfl
    · omega
    · rw [upC_at]
      split
      · rename_i hx
        subst hx
        omega
      · omega
  refine ⟨?_, ?_, ?_, fun f' m b' => ?_, fun m p hp => ?_, fun x => ⟨(h.s0 x).1, Int.le_trans (h.s0 x).2 (by omega)⟩, fun x => (hlow x).2, h.c0.1, Int.le_trans h.c0.2 (by omega)⟩
  · unfold put; rw [List.length_set]; exact h.len
  · show up s.c k (s.c k + 1) 0 + up s.c k (s.c k + 1) 2 = _ + up s.c k (s.c k + 1) 1 + up s.c k (s.c k + 1) 3
    rcases hk with rfl | rfl
    · simp [up] at htp ⊢
      omega
    · simp [up] at htp ⊢
      omega
  · show up s.c k (s.c k + 1) 2 = cp
    rcases hk with rfl | rfl <;> simpa [up] using h.cc
  · have hi := h.inv f' m b'
    rw [row_put ht]
    by_cases hm : t = m
    · subst hm
      rw [if_pos rfl]
      have hce := cnt_erase ⟨f', t, b'⟩ (row s (t : Int)) j hj
      rw [cnt_one, ← hnj] at hce
      rcases htk with rfl | rfl
      · omega
      · rw [upC_at]
        by_cases hx : (⟨(nth s (t : Int) (j : Int)).fr, t, (nth s (t : Int) (j : Int)).b⟩ : K3) = ⟨f', t, b'⟩
        · rw [if_pos hx]
          rw [if_pos (by rw [← hx])] at hce
          rw [← hx] at hi hce ⊢
          omega
        · rw [if_neg hx]
          omega
    · rw [if_neg hm]
      rcases htk with rfl | rfl
      · exact hi
      · rw [upC_at, if_neg (fun e => by injection e with _ e; exact hm (by exact_mod_cast e))]
        exact hi
  · rw [row_put ht] at hp
    split at hp
    · rename_i hm
      subst hm
      exact h.pos t p (List.mem_of_mem_eraseIdx hp)
    · exact h.pos m p hp
theorem Tru.took {s : St} {sn tk : K3 → Int} {cp N : Int} (h : Tru s sn tk cp N) {t : Nat} {p : Pk} (hp : p ∈ row s (t : Int)) : 0 < sn ⟨p.fr, t, p.b⟩ ∧ tk ⟨p.fr, t, p.b⟩ + 1 ≤ sn ⟨p.fr, t, p.b⟩ + cp := by
  refine ⟨h.pos t p hp, ?_⟩
  have hi := h.inv p.fr t p.b
  have : 0 < cnt ⟨p.fr, t, p.b⟩ (row s (t : Int)) := by
    unfold cnt
    exact List.countP_pos_iff.2 ⟨p, hp, (kE_iff _ _).2 rfl⟩
  omega
theorem Tru.copy {s : St} {sn tk : K3 → Int} {cp N : Int} (h : Tru s sn tk cp N) (t : Nat) (i : Int) (he : coE s (t : Int) i = 0) : Tru (coS s (t : Int) i) sn tk (cp + 1) (N + 1) := by
  obtain ⟨hfi, _⟩ := coE_fi he
  obtain ⟨hmem, _⟩ := nth_mem hfi
  have ht : t < s.ws.length := by
    unfold fiE at hfi
    split at hfi
    · rename_i hh
      have := hasN_iff.1 hh
      omega
    · cases hfi
  unfold coS
  rw [if_pos he]
  have htp := tot_put ht (row s (t : Int) ++ [nth s (t : Int) i]) 2 1
  rw [List.length_append] at htp
  have hcs := h.cons
  have hcc := h.cc
  refine ⟨?_, ?_, ?_, fun f' m b' => ?_, fun m p hp => ?_, fun x => ⟨(h.s0 x).1, Int.le_trans (h.s0 x).2 (by omega)⟩, fun x => ⟨(h.t0 x).1, Int.le_trans (h.t0 x).2 (by omega)⟩, by have := h.c0.1; omega, by have := h.c0.2; omega⟩
  · unfold put; rw [List.length_set]; exact h.len
  · show up s.c 2 (s.c 2 + 1) 0 + up s.c 2 (s.c 2 + 1) 2 = _ + up s.c 2 (s.c 2 + 1) 1 + up s.c 2 (s.c 2 + 1) 3
    simp [up] at htp ⊢
    omega
  · show up s.c 2 (s.c 2 + 1) 2 = cp + 1
    simp [up]
    omega
  · have hi := h.inv f' m b'
    rw [row_put ht]
    by_cases hm : t = m
    · subst hm
      rw [if_pos rfl, cnt_app, cnt_one]
      split <;> omega
    · rw [if_neg hm]
      omega
  · rw [row_put ht] at hp
    split at hp
    · rename_i hm
      subst hm
      rcases List.mem_append.1 hp with hp | hp
      · exact h.pos t p hp
      · rw [List.mem_singleton] at hp
        subst hp
        exact h.pos t _ hmem
    · exact h.pos m p hp
theorem Tru.clear {s : St} {sn tk : K3 → Int} {cp N : Int} (h : Tru s sn tk cp N) (x : Int) : Tru (clS s x) sn tk cp (N + 1) := by
  unfold clS
  split
  · rename_i hx
    have hct := clr_tot x 0 s.ws
    have hcs := h.cons
    have hcl : clN s x = (tot s.ws : Int) - (tot (clr x 0 s.ws) : Int) := by unfold clN; rw [if_pos hx]
    have hrow : ∀ m : Nat, ((row ⟨clr x 0 s.ws, up s.c 1 (s.c 1 + clN s x)⟩ (m : Int)).Sublist (row s (m : Int))) := fun m => by
      unfold row
      rw [Int.toNat_natCast]
      show ((clr x 0 s.ws)[m]?.getD []).Sublist (s.ws[m]?.getD [])
      cases hw : s.ws[m]? with
      | none =>
        have : m ≥ s.ws.length := by
          rcases Nat.lt_or_ge m s.ws.length with h1 | h1
          · rw [List.getElem?_eq_getElem h1] at hw; cases hw
          · exact h1
        rw [List.getElem?_eq_none (by rw [clr_len]; exact this)]
        exact List.Sublist.refl _
      | some l =>
        rw [clr_get x 0 s.ws m l hw]
        show (if _ then [] else _).Sublist l
        split
        · exact List.nil_sublist _
        · exact List.filter_sublist
    refine ⟨by show (clr x 0 s.ws).length = 3; rw [clr_len]; exact h.len, ?_, ?_, fun f' m b' => ?_, fun m p hp => h.pos m p ((hrow m).subset hp), fun k => ⟨(h.s0 k).1, Int.le_trans (h.s0 k).2 (by omega)⟩, fun k => ⟨(h.t0 k).1, Int.le_trans (h.t0 k).2 (by omega)⟩, h.c0.1, Int.le_trans h.c0.2 (by omega)⟩
    · show up s.c 1 (s.c 1 + clN s x) 0 + up s.c 1 (s.c 1 + clN s x) 2 = (tot (clr x 0 s.ws) : Int) + up s.c 1 (s.c 1 + clN s x) 1 + up s.c 1 (s.c 1 + clN s x) 3
      simp [up]
      omega
    · show up s.c 1 (s.c 1 + clN s x) 2 = cp
      simpa [up] using h.cc
    · have hi := h.inv f' m b'
      have : cnt ⟨f', m, b'⟩ (row ⟨clr x 0 s.ws, up s.c 1 (s.c 1 + clN s x)⟩ (m : Int)) ≤ cnt ⟨f', m, b'⟩ (row s (m : Int)) := (hrow m).countP_le
      omega
  · exact h.mono (by omega)
/-- The world that it plays in. -/
structure Tw (w0 : World) (b bs bt : Nat) (s : St) (sn tk : K3 → Int) (wr : World) : Prop where
  nt : NtAt w0.heap.size wr b s
  ms : CtF wr bs sn
  mt : CtF wr bt tk
  ne : bs ≠ bt
  ls : w0.heap.size ≤ bs
  lt : w0.heap.size ≤ bt
  bel : Below w0.heap.size w0 wr
theorem Tw.net {w0 : World} {b bs bt : Nat} {s s' : St} {sn tk : K3 → Int} {wr w' : World} (h : Tw w0 b bs bt s sn tk wr) (h1 : NtAt w0.heap.size w' b s') (hk : Ks w0.heap.size ntT wr w') : Tw w0 b bs bt s' sn tk w' :=
  ⟨h1, h.ms.ks hk, h.mt.ks hk, h.ne, h.ls, h.lt, h.bel.trans (hk.below h.bel.size)⟩
theorem Tw.al {w0 : World} {b bs bt : Nat} {s : St} {sn tk : K3 → Int} {wr w' : World} (h : Tw w0 b bs bt s sn tk wr) (hk : Kp [] wr w') : Tw w0 b bs bt s sn tk w' := by
  obtain ⟨q, vs, h1, h2⟩ := h.nt
  exact ⟨(nt_same h1 h2 hk).1, h.ms.kp hk (by simp), h.mt.kp hk (by simp), h.ne, h.ls, h.lt, h.bel.trans (hk.below h.bel.size (by simp))⟩
theorem NtAt.map {B : Nat} {w w' : World} {b m : Nat} {s : St} {c : K3 → Int} (h : NtAt B w b s) (hm : CtF w m c) (hk : Kp [m] w w') : NtAt B w' b s := by
  obtain ⟨q, vs, h1, h2⟩ := h
  obtain ⟨l, cl, h3, _⟩ := hm
  obtain ⟨es, h4, _⟩ := h3.here
  refine ⟨q, vs, h1.kp hk (fun k hk1 hm => ?_), h2⟩
  rw [List.mem_singleton] at hm
  subst hm
  obtain ⟨cur, t, f, e, _⟩ := h1.ty k hk1
  rw [h4] at e
  cases e
theorem Tw.incS {w0 : World} {b bs bt : Nat} {s : St} {sn sn' tk : K3 → Int} {wr w' : World} (h : Tw w0 b bs bt s sn tk wr) (h1 : CtF w' bs sn') (hk : Kp [bs] wr w') : Tw w0 b bs bt s sn' tk w' :=
  ⟨h.nt.map h.ms hk, h1, h.mt.kp hk (by simpa using fun e => h.ne e.symm), h.ne, h.ls, h.lt, h.bel.trans (hk.below h.bel.size (by simpa using h.ls))⟩
theorem Tw.incT {w0 : World} {b bs bt : Nat} {s : St} {sn tk tk' : K3 → Int} {wr w' : World} (h : Tw w0 b bs bt s sn tk wr) (h1 : CtF w' bt tk') (hk : Kp [bt] wr w') : Tw w0 b bs bt s sn tk' w' :=
  ⟨h.nt.map h.mt hk, h.ms.kp hk (by simpa using h.ne), h1, h.ne, h.ls, h.lt, h.bel.trans (hk.below h.bel.size (by simpa using h.lt))⟩
end Go.Proofs.Ytledoopfffhigaa
