/-
  GateAligned: how its rows and boxes lie, beside the gate.
  A drawn statement: what is held may be made stronger as it goes.
-/
import Derived.Test.YtcgmoadahdkbbaaGa09
import Derived.Test.YtcgmoadahdkbbaaGa10
import Derived.Deep.RegionHeld
namespace Go.Proofs.Ytcgmoadahdkbbaa
open Go.RowKit Gt Cr

/-- The blocks: of the gate's pointer, told, channels, out, in; of out's row, in's row, barriers' row. -/
structure Bk where
  q5 : Nat
  q11 : Nat
  q2 : Nat
  q8 : Nat
  q7 : Nat
  go : Nat
  gi : Nat
  gb : Nat
def rowN (n : Nat) (f : Nat → Nat) : Array Value := ((List.range n).map fun c => Value.int .i64 (f c : Int)).toArray
def rowV (n : Nat) (f : Nat → Value) : Array Value := ((List.range n).map f).toArray
theorem rowN_at (n : Nat) (f : Nat → Nat) {c : Nat} (h : c < n) : (rowN n f)[c]? = some (.int .i64 (f c : Int)) := by
  unfold rowN
  simp [h]
theorem rowV_at (n : Nat) (f : Nat → Value) {c : Nat} (h : c < n) : (rowV n f)[c]? = some (f c) := by
  unfold rowV
  simp [h]
theorem rowN_set {n : Nat} {f f' : Nat → Nat} {c : Nat} (h : ∀ j, j < n → j ≠ c → f' j = f j) : (rowN n f).setIfInBounds c (.int .i64 (f' c : Int)) = rowN n f' := by
  refine Array.ext_getElem? fun j => ?_
  rw [Array.getElem?_setIfInBounds]
  unfold rowN
  by_cases hj : j < n
  · by_cases e : c = j
    · subst e; simp [hj]
    · rw [if_neg e]; simp [hj, h j hj (fun x => e x.symm)]
  · by_cases e : c = j
    · subst e; simp [hj]
    · rw [if_neg e]; simp [hj]
theorem rowV_set {n : Nat} {f f' : Nat → Value} {c : Nat} (h : ∀ j, j < n → j ≠ c → f' j = f j) : (rowV n f).setIfInBounds c (f' c) = rowV n f' := by
  refine Array.ext_getElem? fun j => ?_
  rw [Array.getElem?_setIfInBounds]
  unfold rowV
  by_cases hj : j < n
  · by_cases e : c = j
    · subst e; simp [hj]
    · rw [if_neg e]; simp [hj, h j hj (fun x => e x.symm)]
  · by_cases e : c = j
    · subst e; simp [hj]
    · rw [if_neg e]; simp [hj]
def inC (l : List Nat) : List Value := l.map fun m : Nat => Value.int .i64 (m : Int)
theorem inC_len (l : List Nat) : (inC l).length = l.length := List.length_map ..
/-- A row of numbers of the call's own, at or behind B. -/
def IR (B : Nat) (W : World) (v : Value) (l : List Nat) : Prop := W.ownsRow B 3 1 v l.length (inC l)
theorem IR.form {B : Nat} {W : World} {v : Value} {l : List Nat} (h : IR B W v l) : (v = .slice none 0 0 ∧ l = []) ∨ ∃ g cap, v = .slice (some ⟨g, 0, none⟩) l.length cap ∧ B ≤ g ∧ ∀ j (hj : j < l.length), W.cell? ⟨g, j, none⟩ = some (.int .i64 (l[j] : Int)) := by
  obtain ⟨_, ⟨rfl, h0⟩ | ⟨g, cp, cur, rfl, hb, _⟩⟩ := id h
  · exact Or.inl ⟨rfl, List.eq_nil_of_length_eq_zero h0⟩
  · refine Or.inr ⟨g, cp, rfl, hb, fun j hj => ?_⟩
    have := World.ownsRow.cells h (g := g) rfl j (.int .i64 (l[j] : Int)) (by unfold inC; simp [hj])
    rw [Go.WideShapes.add_plain, Nat.zero_add] at this
    exact this
theorem IR.slice {B : Nat} {W : World} {v : Value} {l : List Nat} (h : IR B W v l) : ∃ ad cap, v = .slice ad l.length cap := by
  rcases h.form with ⟨rfl, rfl⟩ | ⟨g, cap, rfl, _⟩
  · exact ⟨_, _, rfl⟩
  · exact ⟨_, _, rfl⟩
theorem IR.block {B : Nat} {W : World} {v : Value} {l : List Nat} (h : IR B W v l) {k : Nat} (hk : v.ownBlock = some k) : B ≤ k ∧ k < W.heap.size := by
  obtain ⟨_, ⟨rfl, h0⟩ | ⟨g, cp, cur, rfl, hb, hh, _⟩⟩ := h
  · cases hk
  · simp [Value.ownBlock] at hk
    subst hk
    exact ⟨hb, (Array.getElem?_eq_some_iff.1 hh).1⟩
theorem IR.kp {F : List Nat} {B : Nat} {W W' : World} {v : Value} {l : List Nat} (h : IR B W v l) (hk : Kp F W W') (hF : ∀ k, v.ownBlock = some k → k ∉ F) : IR B W' v l := by
  obtain ⟨h1, h2 | ⟨g, cp, cur, rfl, hb, hh, r⟩⟩ := h
  · exact ⟨h1, Or.inl h2⟩
  · exact ⟨h1, Or.inr ⟨g, cp, cur, rfl, hb, (hk.block g (Array.getElem?_eq_some_iff.1 hh).1 (hF g rfl)).trans hh, r⟩⟩
theorem IR.ko {P : Obj → Bool} {B B' : Nat} {W W' : World} {v : Value} {l : List Nat} (h : IR B W v l) (hk : Ko P B' W W') (hP : ∀ cs, P (.cells cs 3 (0, 0)) = false) : IR B W' v l := by
  obtain ⟨h1, h2 | ⟨g, cp, cur, rfl, hb, hh, r⟩⟩ := h
  · exact ⟨h1, Or.inl h2⟩
  · exact ⟨h1, Or.inr ⟨g, cp, cur, rfl, hb, hk.block g _ hh (Or.inr (hP _)), r⟩⟩
/-- Which blocks there are, and that none is another. -/
structure BkOk (K : Bk) (B0 Bq : Nat) : Prop where
  lo : B0 ≤ K.q5 ∧ B0 ≤ K.q11 ∧ B0 ≤ K.q2 ∧ B0 ≤ K.q8 ∧ B0 ≤ K.q7 ∧ B0 ≤ K.go ∧ B0 ≤ K.gi ∧ B0 ≤ K.gb
  hi : K.q5 < Bq ∧ K.q11 < Bq ∧ K.q2 < Bq ∧ K.q8 < Bq ∧ K.q7 < Bq ∧ K.go < Bq ∧ K.gi < Bq ∧ K.gb < Bq
  ne : K.q11 ≠ K.q2 ∧ K.q11 ≠ K.go ∧ K.q11 ≠ K.gb ∧ K.q2 ≠ K.go ∧ K.q2 ≠ K.gb ∧ K.go ≠ K.gb ∧ K.q8 ≠ K.gi
  ty : K.q5 ≠ K.q11 ∧ K.q5 ≠ K.go ∧ K.q5 ≠ K.gi ∧ K.q5 ≠ K.gb ∧ K.q8 ≠ K.q11 ∧ K.q8 ≠ K.go ∧ K.q8 ≠ K.gb ∧ K.q7 ≠ K.q11 ∧ K.q7 ≠ K.go ∧ K.q7 ≠ K.gi ∧ K.q7 ≠ K.gb ∧ K.gi ≠ K.q11 ∧ K.gi ≠ K.go ∧ K.gi ≠ K.gb ∧ K.gi ≠ K.q2
/-- All that GateAligned has. -/
structure Md (w0 W : World) (K : Bk) (b L n : Nat) (G : Gt) (I : Nat → List Nat) (O Z : Nat → Nat) (told : Nat) (vs : Nat → Value) (Bq : Nat) : Prop where
  gt : GtAt w0.heap.size W b L G
  kp : Kp [] w0 W
  b5 : CBox K.q5 #[.pointer (some ⟨b, 0, none⟩)] 25 W
  b11 : CBox K.q11 #[.int .i64 (told : Int)] 3 W
  b2 : CBox K.q2 #[.int .i64 (n : Int)] 3 W
  b8 : CBox K.q8 #[.slice (some ⟨K.go, 0, none⟩) n n] 42 W
  b7 : CBox K.q7 #[.slice (some ⟨K.gi, 0, none⟩) n n] 41 W
  bo : CBox K.go (rowN n O) 3 W
  bb : CBox K.gb (rowN n Z) 3 W
  bi : CBox K.gi (rowV n vs) 42 W
  ir : ∀ c, c < n → IR Bq W (vs c) (I c)
  dv : ∀ c d, c < n → d < n → c ≠ d → ∀ g, (vs c).ownBlock = some g → (vs d).ownBlock ≠ some g
  bk : BkOk K w0.heap.size Bq
/-- The objects of numbers, and of rows of them. -/
def iO : Obj → Bool
  | .cells _ t _ => t == 3 || t == 42
  | _ => false
theorem gt_not_i : ∀ o, gtO o = true → iO o = false := by
  intro o h
  cases o with
  | cells c t f =>
    unfold gtO at h
    unfold iO
    simp only [Bool.or_eq_true, beq_iff_eq] at h
    rcases h with ((rfl | rfl) | rfl) | rfl <;> rfl
  | _ => cases h
section
variable {w0 W W' : World} {K : Bk} {b L n : Nat} {G : Gt} {I : Nat → List Nat} {O Z : Nat → Nat} {told : Nat} {vs : Nat → Value} {Bq : Nat}
theorem Md.quiet (h : Md w0 W K b L n G I O Z told vs Bq) (k : Kp [] W W') : Md w0 W' K b L n G I O Z told vs Bq :=
  ⟨h.gt.kp k, h.kp.trans k (by simp), h.b5.kp k (by simp), h.b11.kp k (by simp), h.b2.kp k (by simp), h.b8.kp k (by simp), h.b7.kp k (by simp), h.bo.kp k (by simp), h.bb.kp k (by simp), h.bi.kp k (by simp), fun c hc => (h.ir c hc).kp k (by simp), h.dv, h.bk⟩
theorem Md.gate {G' : Gt} (h : Md w0 W K b L n G I O Z told vs Bq) (a : GtAt w0.heap.size W' b L G') (k : Ko gtO w0.heap.size W W') : Md w0 W' K b L n G' I O Z told vs Bq :=
  ⟨a, kp_ko h.kp k, h.b5.ko k (Or.inr rfl), h.b11.ko k (Or.inr rfl), h.b2.ko k (Or.inr rfl), h.b8.ko k (Or.inr rfl), h.b7.ko k (Or.inr rfl), h.bo.ko k (Or.inr rfl), h.bb.ko k (Or.inr rfl), h.bi.ko k (Or.inr rfl), fun c hc => (h.ir c hc).ko k (fun _ => rfl), h.dv, h.bk⟩
/-- What a cell written over in one of its blocks leaves of the gate. -/
theorem md_gt {x i : Nat} {v : Value} {cs : Array Value} {t : TypeId} (h : Md w0 W K b L n G I O Z told vs Bq) (hx : CBox x cs t W) (ht : t = 3 ∨ t = 42) (hlo : w0.heap.size ≤ x) : GtAt w0.heap.size (W.setCell ⟨x, i, none⟩ v) b L G ∧ Kp [] w0 (W.setCell ⟨x, i, none⟩ v) := by
  have ks := Kp.set W x i v
  refine ⟨h.gt.ko (P := iO) (B := w0.heap.size) (B' := 0) (Ko.of ks (fun y hy _ => ?_)) (Or.inr gt_not_i), h.kp.trans ks (fun y hy => Or.inr (by simp at hy; subst hy; exact hlo))⟩
  simp only [List.mem_singleton] at hy
  subst hy
  exact ⟨Nat.zero_le _, _, hx, by rcases ht with rfl | rfl <;> rfl⟩
theorem ir_ne {x : Nat} (h : Md w0 W K b L n G I O Z told vs Bq) (hx : x < Bq) {c : Nat} (hc : c < n) : ∀ k, (vs c).ownBlock = some k → k ∉ [x] := fun k hk => by
  have := (h.ir c hc).block hk
  simp
  omega
theorem Md.told' (h : Md w0 W K b L n G I O Z told vs Bq) : Md w0 (W.setCell ⟨K.q11, 0, none⟩ (.int .i64 ((told : Int) + 1))) K b L n G I O Z (told + 1) vs Bq := by
  have ks := Kp.set W K.q11 0 (.int .i64 ((told : Int) + 1))
  obtain ⟨l1, l2, l3, l4, l5, l6, l7, l8⟩ := h.bk.lo
  obtain ⟨m1, m2, m3, m4, m5, m6, m7, m8⟩ := h.bk.hi
  obtain ⟨n1, n2, n3, n4, n5, n6, n7⟩ := h.bk.ne
  obtain ⟨t1, t2, t3, t4, t5, t6, t7, t8, t9, t10, t11, t12, t13, t14, t15⟩ := h.bk.ty
  obtain ⟨g1, g2⟩ := md_gt (i := 0) (v := .int .i64 ((told : Int) + 1)) h h.b11 (Or.inl rfl) l2
  exact ⟨g1, g2, h.b5.kp ks (by simpa using t1), h.b11.set 0 _, h.b2.kp ks (by simpa using n1.symm), h.b8.kp ks (by simpa using t5), h.b7.kp ks (by simpa using t8), h.bo.kp ks (by simpa using n2.symm), h.bb.kp ks (by simpa using n3.symm), h.bi.kp ks (by simpa using t12), fun c hc => (h.ir c hc).kp ks (ir_ne h m2 hc), h.dv, h.bk⟩
theorem Md.out' {O' : Nat → Nat} {c : Nat} (h : Md w0 W K b L n G I O Z told vs Bq) (h1 : ∀ j, j < n → j ≠ c → O' j = O j) (h2 : O' c = O c + 1) : Md w0 (W.setCell ⟨K.go, c, none⟩ (.int .i64 ((O c : Int) + 1))) K b L n G I O' Z told vs Bq := by
  have ks := Kp.set W K.go c (.int .i64 ((O c : Int) + 1))
  obtain ⟨l1, l2, l3, l4, l5, l6, l7, l8⟩ := h.bk.lo
  obtain ⟨m1, m2, m3, m4, m5, m6, m7, m8⟩ := h.bk.hi
  obtain ⟨n1, n2, n3, n4, n5, n6, n7⟩ := h.bk.ne
  obtain ⟨t1, t2, t3, t4, t5, t6, t7, t8, t9, t10, t11, t12, t13, t14, t15⟩ := h.bk.ty
  obtain ⟨g1, g2⟩ := md_gt (i := c) (v := .int .i64 ((O c : Int) + 1)) h h.bo (Or.inl rfl) l6
  refine ⟨g1, g2, h.b5.kp ks (by simpa using t2), h.b11.kp ks (by simpa using n2), h.b2.kp ks (by simpa using n4), h.b8.kp ks (by simpa using t6), h.b7.kp ks (by simpa using t9), ?_, h.bb.kp ks (by simpa using n6.symm), h.bi.kp ks (by simpa using t13), fun c hc => (h.ir c hc).kp ks (ir_ne h m6 hc), h.dv, h.bk⟩
  have := h.bo.set c (.int .i64 ((O c : Int) + 1))
  rw [show ((O c : Int) + 1) = ((O' c : Nat) : Int) by rw [h2]; rfl, rowN_set h1] at this
  rw [show ((O c : Int) + 1) = ((O' c : Nat) : Int) by rw [h2]; rfl]
  exact this
theorem Md.bar' {Z' : Nat → Nat} {c : Nat} (h : Md w0 W K b L n G I O Z told vs Bq) (h1 : ∀ j, j < n → j ≠ c → Z' j = Z j) (h2 : Z' c = Z c + 1) : Md w0 (W.setCell ⟨K.gb, c, none⟩ (.int .i64 ((Z c : Int) + 1))) K b L n G I O Z' told vs Bq := by
  have ks := Kp.set W K.gb c (.int .i64 ((Z c : Int) + 1))
  obtain ⟨l1, l2, l3, l4, l5, l6, l7, l8⟩ := h.bk.lo
  obtain ⟨m1, m2, m3, m4, m5, m6, m7, m8⟩ := h.bk.hi
  obtain ⟨n1, n2, n3, n4, n5, n6, n7⟩ := h.bk.ne
  obtain ⟨t1, t2, t3, t4, t5, t6, t7, t8, t9, t10, t11, t12, t13, t14, t15⟩ := h.bk.ty
  obtain ⟨g1, g2⟩ := md_gt (i := c) (v := .int .i64 ((Z c : Int) + 1)) h h.bb (Or.inl rfl) l8
  refine ⟨g1, g2, h.b5.kp ks (by simpa using t4), h.b11.kp ks (by simpa using n3), h.b2.kp ks (by simpa using n5), h.b8.kp ks (by simpa using t7), h.b7.kp ks (by simpa using t11), h.bo.kp ks (by simpa using n6), ?_, h.bi.kp ks (by simpa using t14), fun c hc => (h.ir c hc).kp ks (ir_ne h m8 hc), h.dv, h.bk⟩
  have := h.bb.set c (.int .i64 ((Z c : Int) + 1))
  rw [show ((Z c : Int) + 1) = ((Z' c : Nat) : Int) by rw [h2]; rfl, rowN_set h1] at this
  rw [show ((Z c : Int) + 1) = ((Z' c : Nat) : Int) by rw [h2]; rfl]
  exact this
theorem ir_ty {B : Nat} {W : World} {v : Value} {l : List Nat} (h : IR B W v l) {k : Nat} (hk : v.ownBlock = some k) : ∃ cur, CBox k cur 3 W := by
  obtain ⟨_, ⟨rfl, h0⟩ | ⟨g, cp, cur, rfl, hb, hh, _⟩⟩ := h
  · cases hk
  · simp [Value.ownBlock] at hk
    subst hk
    exact ⟨cur, hh⟩
/-- A number put behind a channel's. -/
theorem Md.push {w9 : World} {c m g9 cap9 : Nat} (h : Md w0 W K b L n G I O Z told vs Bq) (hc : c < n) (hB : Bq ≤ W.heap.size)
    (ho : IR Bq w9 (.slice (some ⟨g9, 0, none⟩) ((I c).length + 1) cap9) (I c ++ [m])) (hg : W.grownBy w9 (vs c).ownBlock) (hat : (vs c).ownBlock = some g9 ∨ g9 = W.heap.size) :
    w9.cell? ⟨K.gi, c, none⟩ = some (vs c) ∧ w9.frozen? ⟨K.gi, c, none⟩ = false ∧ Md w0 (w9.setCell ⟨K.gi, c, none⟩ (.slice (some ⟨g9, 0, none⟩) ((I c).length + 1) cap9)) K b L n G (upI I c m) O Z told (fun j => if j = c then .slice (some ⟨g9, 0, none⟩) ((I c).length + 1) cap9 else vs j) Bq := by
  have kg := Kp.of hg
  obtain ⟨l1, l2, l3, l4, l5, l6, l7, l8⟩ := h.bk.lo
  obtain ⟨m1, m2, m3, m4, m5, m6, m7, m8⟩ := h.bk.hi
  obtain ⟨t1, t2, t3, t4, t5, t6, t7, t8, t9, t10, t11, t12, t13, t14, t15⟩ := h.bk.ty
  have hBw : w0.heap.size ≤ Bq := by omega
  have nk : ∀ x, x < Bq → x ∉ (vs c).ownBlock.toList := fun x hx hm => by
    have := (h.ir c hc).block (k := x) (by simpa using hm)
    omega
  have gt9 : GtAt w0.heap.size w9 b L G := h.gt.ko (P := iO) (B := w0.heap.size) (B' := 0) (Ko.of kg (fun y hy _ => by
    obtain ⟨cur, hcu⟩ := ir_ty (h.ir c hc) (k := y) (by simpa using hy)
    exact ⟨Nat.zero_le _, _, hcu, rfl⟩)) (Or.inr gt_not_i)
  have kp9 : Kp [] w0 w9 := h.kp.trans kg (fun y hy => Or.inr (by
    have := (h.ir c hc).block (k := y) (by simpa using hy)
    omega))
  have h9 : ∀ d, d < n → d ≠ c → IR Bq w9 (vs d) (I d) := fun d hd hne => (h.ir d hd).kp kg (fun k hk hm => h.dv d c hd hc hne k hk (by simpa using hm))
  have bi9 := h.bi.kp kg (nk _ m7)
  have hg9 : Bq ≤ g9 := by
    rcases hat with e | e
    · exact ((h.ir c hc).block e).1
    · omega
  have ks := Kp.set w9 K.gi c (.slice (some ⟨g9, 0, none⟩) ((I c).length + 1) cap9)
  have hown : (Value.slice (some ⟨g9, 0, none⟩) ((I c).length + 1) cap9).ownBlock = some g9 := rfl
  refine ⟨bi9.cell (rowV_at n vs hc), bi9.froz _, ?_⟩
  refine ⟨gt9.ko (P := iO) (B := w0.heap.size) (B' := 0) (Ko.of ks (fun y hy _ => ?_)) (Or.inr gt_not_i), kp9.trans ks (fun y hy => Or.inr (by simp at hy; subst hy; exact l7)), (h.b5.kp kg (nk _ m1)).kp ks (by simpa using t3), (h.b11.kp kg (nk _ m2)).kp ks (by simpa using t12.symm), (h.b2.kp kg (nk _ m3)).kp ks (by simpa using t15.symm), (h.b8.kp kg (nk _ m4)).kp ks (by simpa using h.bk.ne.2.2.2.2.2.2), (h.b7.kp kg (nk _ m5)).kp ks (by simpa using t10), (h.bo.kp kg (nk _ m6)).kp ks (by simpa using t13.symm), (h.bb.kp kg (nk _ m8)).kp ks (by simpa using t14.symm), ?_, fun d hd => ?_, fun d e hd he hne g hgd => ?_, h.bk⟩
  · simp only [List.mem_singleton] at hy
    subst hy
    exact ⟨Nat.zero_le _, _, bi9, rfl⟩
  · have := bi9.set c (.slice (some ⟨g9, 0, none⟩) ((I c).length + 1) cap9)
    have e := rowV_set (n := n) (f := vs) (f' := fun j => if j = c then .slice (some ⟨g9, 0, none⟩) ((I c).length + 1) cap9 else vs j) (c := c) (fun j _ hj => if_neg hj)
    (try dsimp only at e)
    rw [if_pos rfl] at e
    rw [e] at this
    exact this
  · (try dsimp only)
    unfold upI
    by_cases e : d = c
    · subst e
      rw [if_pos rfl, if_pos rfl]
      exact ho.kp ks (fun k hk => by
        rw [hown] at hk
        injection hk with hk
        subst hk
        simp
        omega)
    · rw [if_neg e, if_neg e]
      exact (h9 d hd e).kp ks (fun k hk => by
        have := (h9 d hd e).block hk
        simp
        omega)
  · (try dsimp only at hgd ⊢)
    have key : ∀ d, d < n → d ≠ c → (vs d).ownBlock ≠ some g9 := fun d hd hne hx => by
      rcases hat with e | e
      · exact h.dv d c hd hc hne g9 hx e
      · have := (h.ir d hd).block hx
        omega
    by_cases e1 : d = c
    · subst e1
      rw [if_pos rfl, hown] at hgd
      rw [if_neg (fun x => hne x.symm)]
      injection hgd with hgd
      subst hgd
      exact key e he (fun x => hne x.symm)
    · rw [if_neg e1] at hgd
      by_cases e2 : e = c
      · subst e2
        rw [if_pos rfl, hown]
        intro hx
        injection hx with hx
        subst hx
        exact key d hd e1 hgd
      · rw [if_neg e2]
        exact h.dv d e hd he hne g hgd
end
end Go.Proofs.Ytcgmoadahdkbbaa
namespace Go.HeldUp
open Go

/-- What is held may be made stronger. -/
theorem wpAnyH_up {P : Program} {md : Region.Mode} {ops : Array Oper} {Q : Exit → Act → World → Prop} {S S' : World → Prop} (h : ∀ w, S' w → S w) :
    ∀ (fuel : Nat) (listed : Array Bool) (a : Act) (w : World), wpAnyH P md ops Q S' fuel listed a w → wpAnyH P md ops Q S fuel listed a w
  | 0, _, _, _, x => x
  | fuel + 1, _, _, _, x => ⟨x.1, fun i hi => wpOp_mono (fun a' w' h' => ⟨h w' h'.1, wpAnyH_up h fuel _ a' w' h'.2⟩) (x.2 i hi)⟩
end Go.HeldUp
