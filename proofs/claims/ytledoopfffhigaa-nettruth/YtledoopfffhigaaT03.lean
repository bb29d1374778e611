/-
  A statement whose order is drawn, and whose last operation (a store) waits for all others: what is read ahead of it may be taken first, though the store changes what was read. Of no program.
  A net: a packet put behind all others on their way.
-/
import Derived.WalkKit
import Derived.OrdersHeld
import Derived.Test.YtledoopfffhigaaT02
import Derived.Deep.DeepCutAuto
namespace Go.Proofs.Ytledoopfffhigaa
open Go.RowKit

section
variable {P : Program} {ops : Array Oper} {Q : Exit → Act → World → Prop} {md : Region.Mode} {S : World → Prop} {late : Nat}
/-- As wpAnyH; behind the late operation the condition is not asked for. -/
def wpAnyL (P : Program) (md : Region.Mode) (ops : Array Oper) (Q : Exit → Act → World → Prop) (S : World → Prop) (late : Nat) : Nat → Array Bool → Act → World → Prop
  | 0, listed, a, w => Region.ready md ops listed = [] ∧ Q .normal a w
  | fuel + 1, listed, a, w =>
    (Region.ready md ops listed = [] → Q .normal a w) ∧
    ∀ i ∈ Region.ready md ops listed, wpOp P ops Q i (fun a' w' => (i = late ∨ S w') ∧ wpAnyL P md ops Q S late fuel (listed.setIfInBounds i true) a' w') a w
theorem wpAny_of_late : ∀ (fuel : Nat) (listed : Array Bool) (a : Act) (w : World), wpAnyL P md ops Q S late fuel listed a w → wpAny P md ops Q fuel listed a w
  | 0, _, _, _, h => h
  | fuel + 1, _, _, _, h => ⟨h.1, fun i hi => wpOp_mono (fun a' w' h' => wpAny_of_late fuel _ a' w' h'.2) (h.2 i hi)⟩
/-- Does the late operation wait for number i? -/
def waits (md : Region.Mode) (ops : Array Oper) (late i : Nat) : Bool := match ops[late]? with
  | some o => o.after.any fun e => Region.binds md e && e.on == i
  | none => false
theorem waits_spec {i : Nat} {o : Oper} (ho : ops[late]? = some o) (h : waits md ops late i = true) : ∃ e ∈ o.after, Region.binds md e = true ∧ e.on = i := by
  unfold waits at h
  rw [ho] at h
  simp only [Array.any_eq_true] at h
  obtain ⟨j, hj, hb⟩ := h
  rw [Bool.and_eq_true, beq_iff_eq] at hb
  exact ⟨_, Array.getElem_mem hj, hb.1, hb.2⟩
theorem wpAnyL_first {i : Nat} {oi : Oper} {v : Value} (hi : ops[i]? = some oi) (hw : waits md ops late i = true) (hsel : ∀ (j : Nat) (o : Oper) cs b, ops[j]? = some o → o.op ≠ .select cs b)
    (hQ : ∀ c a w, Q (.panic c) (a.put oi.dst v) w → Q (.panic c) a w) :
    ∀ (fuel : Nat) (listed : Array Bool) (a : Act) (w : World),
      (∀ j oj, ops[j]? = some oj → j ≠ i → listed.getD j true = false → (∀ e ∈ oj.after, Region.binds md e = true → e.on ≠ i) → oi.apart ops oj = true) →
      i ∈ Region.ready md ops listed → YieldsIf P ops S oi v a → S w →
      wpAnyL P md ops Q S late fuel (listed.setIfInBounds i true) (a.put oi.dst v) w → wpAnyL P md ops Q S late (fuel + 1) listed a w := by
  intro fuel
  induction fuel with
  | zero =>
    intro listed a w _ hr hy hS H
    refine ⟨fun h => (by rw [h] at hr; cases hr), fun j hj => ?_⟩
    by_cases hji : j = i
    · subst hji; exact hy.wpOp hi hS ⟨Or.inr hS, H⟩
    · have := ready_mono hj hji
      rw [H.1] at this
      cases this
  | succ fuel ih =>
    intro listed a w hfree hr hy hS H
    refine ⟨fun h => (by rw [h] at hr; cases hr), fun j hj => ?_⟩
    by_cases hji : j = i
    · subst hji; exact hy.wpOp hi hS ⟨Or.inr hS, H⟩
    · have h1 := H.2 j (ready_mono hj hji)
      obtain ⟨hjun, oj, hoj, hall⟩ := mem_ready.1 hj
      have hnot : ∀ e ∈ oj.after, Region.binds md e = true → e.on ≠ i := fun e he hb heq => by
        have h1 := hall e he hb
        have h0 := (mem_ready.1 hr).1
        rw [heq] at h1
        rcases Nat.lt_or_ge i listed.size with h' | h'
        · simp [h'] at h0 h1; rw [h0] at h1; cases h1
        · simp [Array.getElem?_eq_none h'] at h1
      have hjl : j ≠ late := by
        rintro rfl
        obtain ⟨e, he, hb, hon⟩ := waits_spec hoj hw
        exact hnot e he hb hon
      have h1' : wpOp P ops Q j (fun a' w' => S w' ∧ wpAnyL P md ops Q S late fuel ((listed.setIfInBounds i true).setIfInBounds j true) a' w') (a.put oi.dst v) w := wpOp_mono (fun a' w' h => ⟨h.1.resolve_left hjl, h.2⟩) h1
      have h2 := wpOp_putIf hoj (hfree j oj hoj hji hjun hnot) (fun cs b => hsel i oi cs b hi) (fun cs b => hsel j oj cs b hoj) hQ hy h1'
      have hfree' : ∀ k ok, ops[k]? = some ok → k ≠ i → (listed.setIfInBounds j true).getD k true = false →
          (∀ e ∈ ok.after, Region.binds md e = true → e.on ≠ i) → oi.apart ops ok = true := fun k ok hk hki hun hno => by
        refine hfree k ok hk hki ?_ hno
        by_cases hjk : j = k
        · subst hjk; exact hjun
        · rw [getD_set_ne true hjk] at hun; exact hun
      refine wpOp_mono (fun a' w' h3 => ⟨Or.inr h3.2.1, ih (listed.setIfInBounds j true) a' w' hfree' (ready_mono hr (Ne.symm hji)) h3.1 h3.2.1 ?_⟩) h2
      rw [Array.setIfInBounds_comm _ _ hji]
      exact h3.2.2
/-- Take number i first. -/
theorem wpAnyL_take {i : Nat} {oi : Oper} {v : Value} {fuel : Nat} {listed : Array Bool} {a : Act} {w : World} (hi : ops[i]? = some oi)
    (hw : waits md ops late i = true) (hs : Region.noSelect ops = true) (hf : Region.free md ops listed i = true) (hr : (Region.ready md ops listed).contains i = true)
    (hQ : ∀ c a w, Q (.panic c) (a.put oi.dst v) w → Q (.panic c) a w) (hy : YieldsIf P ops S oi v a) (hS : S w)
    (h : wpAnyL P md ops Q S late fuel (listed.setIfInBounds i true) (a.put oi.dst v) w) : wpAnyL P md ops Q S late (fuel + 1) listed a w :=
  wpAnyL_first hi hw (Region.noSelect_spec hs) hQ fuel listed a w (Region.free_spec hi hf) (by simpa using hr) hy hS h
/-- Just one may come up. -/
theorem wpAnyL_one {i : Nat} {o : Oper} {fuel : Nat} {listed : Array Bool} {a : Act} {w : World} (ho : ops[i]? = some o) (hr : Region.ready md ops listed = [i])
    (h : ∀ K : Act → World → Prop, (∀ a' w', (i = late ∨ S w') → wpAnyL P md ops Q S late fuel (listed.setIfInBounds i true) a' w' → K a' w') → if Region.wanted o (yielded ops a.tmps) = true then Oper.wp P o a w K Q else K (a.put o.dst undef) w) : wpAnyL P md ops Q S late (fuel + 1) listed a w := by
  refine ⟨fun h0 => (by rw [hr] at h0; cases h0), fun j hj => ?_⟩
  rw [hr, List.mem_singleton] at hj
  subst hj
  have := h (fun a' w' => (j = late ∨ S w') ∧ wpAnyL P md ops Q S late fuel (listed.setIfInBounds j true) a' w') (fun a' w' h1 h2 => ⟨h1, h2⟩)
  unfold wpOp
  rw [ho]
  dsimp only
  split
  · rename_i hc
    rw [if_pos hc] at this
    exact Or.inl this
  · rename_i hc
    rw [if_neg hc] at this
    exact this
/-- One of two may come up. -/
theorem wpAnyL_two {i j : Nat} {o o' : Oper} {fuel : Nat} {listed : Array Bool} {a : Act} {w : World} (ho : ops[i]? = some o) (ho' : ops[j]? = some o') (hr : Region.ready md ops listed = [i, j])
    (h : ∀ K : Act → World → Prop, (∀ a' w', (i = late ∨ S w') → wpAnyL P md ops Q S late fuel (listed.setIfInBounds i true) a' w' → K a' w') → if Region.wanted o (yielded ops a.tmps) = true then Oper.wp P o a w K Q else K (a.put o.dst undef) w)
    (h' : ∀ K : Act → World → Prop, (∀ a' w', (j = late ∨ S w') → wpAnyL P md ops Q S late fuel (listed.setIfInBounds j true) a' w' → K a' w') → if Region.wanted o' (yielded ops a.tmps) = true then Oper.wp P o' a w K Q else K (a.put o'.dst undef) w) : wpAnyL P md ops Q S late (fuel + 1) listed a w := by
  have one : ∀ (n : Nat) (x : Oper), ops[n]? = some x → (∀ K : Act → World → Prop, (∀ a' w', (n = late ∨ S w') → wpAnyL P md ops Q S late fuel (listed.setIfInBounds n true) a' w' → K a' w') → if Region.wanted x (yielded ops a.tmps) = true then Oper.wp P x a w K Q else K (a.put x.dst undef) w) → wpOp P ops Q n (fun a' w' => (n = late ∨ S w') ∧ wpAnyL P md ops Q S late fuel (listed.setIfInBounds n true) a' w') a w := fun n x hx hh => by
    have := hh (fun a' w' => (n = late ∨ S w') ∧ wpAnyL P md ops Q S late fuel (listed.setIfInBounds n true) a' w') (fun a' w' h1 h2 => ⟨h1, h2⟩)
    unfold wpOp
    rw [hx]
    dsimp only
    split
    · rename_i hc
      rw [if_pos hc] at this
      exact Or.inl this
    · rename_i hc
      rw [if_neg hc] at this
      exact this
  refine ⟨fun h0 => (by rw [hr] at h0; cases h0), fun n hn => ?_⟩
  rw [hr] at hn
  rcases List.mem_cons.1 hn with rfl | hn
  · exact one _ _ ho h
  · rw [List.mem_singleton] at hn
    subst hn
    exact one _ _ ho' h'
theorem wpAnyL_done {listed : Array Bool} {a : Act} {w : World} (hr : Region.ready md ops listed = []) (h : Q .normal a w) : ∀ fuel, wpAnyL P md ops Q S late fuel listed a w
  | 0 => ⟨hr, h⟩
  | _ + 1 => ⟨fun _ => h, by rw [hr]; simp⟩
theorem wp_region_late (S : World → Prop) (late : Nat) {id : Nat} {a : Act} {w : World} (hm : P.follows .mixedOrders = true)
    (h : wpAnyL P .any ops Q S late ops.size (Array.replicate ops.size false) a w.drew) : (Code.region id ops true).wp P Q a w := wp_region_any hm (wpAny_of_late _ _ _ _ h)
end
end Go.Proofs.Ytledoopfffhigaa
namespace Go.Proofs.Ytledoopfffhigaa
open Go.RowKit Nt

set_option maxHeartbeats 4000000 in
set_option maxRecDepth 100000 in
theorem wput_any (q t : Nat) (cs : Array Value) (ad : Option Addr) (cap : Nat) (l : List Pk) (p : Pk) (w : World) (hrow : CBox q cs 68 w) (hct : cs[t]? = some (.slice ad l.length cap)) (hr : PkRow w (.slice ad l.length cap) l) (hl : l.length < 4096) :
    Calls Try.prog 28 #[.pointer (some ⟨q, t, none⟩), .agg (pkA p)] w fun e w' => (∃ v, e = .returned v) ∧ WayTo w q t (.slice ad l.length cap) (l ++ [p]) w' := by
  obtain ⟨i0, hi0, hz0, hz1, hz2⟩ := info_parts info_pk
  have hqk : ∀ k, (Value.slice ad l.length cap).ownBlock = some k → k ≠ q := fun k hk e => by
    obtain ⟨cur, hc⟩ := hr.block hk
    subst e
    unfold CBox at hrow
    rw [hc] at hrow
    injection hrow with e; injection e with _ e; exact absurd e (by decide)
  obtain ⟨V, hV⟩ : ∃ V, V = (w.alloc (.cells (pkA p) 72)).drew := ⟨_, rfl⟩
  have hk0 : Kp [] w V := by rw [hV]; exact (Kp.alloc _ _).trans (Kp.drew _) (by simp)
  have hb0 : CBox w.heap.size (pkA p) 72 V := by rw [hV]; exact (CBox.new w _ _).kp (Kp.drew _) (by simp)
  have hk1 := Kp.alloc V (.cells (pkA p) 72)
  have hk01 := hk0.trans hk1 (by simp)
  have cel : ∀ W, Kp (Value.slice ad l.length cap).ownBlock.toList V W → W.cell? ⟨q, t, none⟩ = some (.slice ad l.length cap) ∧ W.cell? ⟨w.heap.size, 0, none⟩ = some (.int .i64 p.fr) ∧ W.cell? ⟨w.heap.size, 1, none⟩ = some (.string p.b) := fun W hk => by
    have hq : q ∉ (Value.slice ad l.length cap).ownBlock.toList := fun hm => hqk q (by simpa using hm) rfl
    have hw : w.heap.size ∉ (Value.slice ad l.length cap).ownBlock.toList := fun hm => by
      have := hr.lt (k := w.heap.size) (by simpa using hm)
      omega
    exact ⟨((hrow.kp hk0 (by simp)).kp hk hq).cell hct, (hb0.kp hk hw).cell rfl, (hb0.kp hk hw).cell rfl⟩
  have a0 := cel V (Kp.refl _ _)
  have a1 := cel (V.alloc (.cells (pkA p) 72)) (hk1.mono (by simp))
  have own1 := hr.kp hk01 (by simp)
  have SRC : Hid (∀ j u, (pkA p).toList[j]? = some u → (V.alloc (.cells (pkA p) 72)).cell? ((⟨V.heap.size, 0, none⟩ : Addr).add j) = some u) := hide (fun j u hj => by
    rw [Go.WideShapes.add_plain, Nat.zero_add]
    exact (CBox.new V _ _).cell (by simpa using hj))
  have OWN : Hid ((V.alloc (.cells (pkA p) 72)).ownsRow 0 72 2 (.slice ad l.length cap) l.length (pkC l)) := hide own1
  have hgk : ∀ {W w9 : World} {F : List Nat}, Kp F W w9 → True := fun _ => trivial
  have CEL : Hid (∀ w9, (V.alloc (.cells (pkA p) 72)).grownBy w9 (Value.slice ad l.length cap).ownBlock → w9.cell? ⟨q, t, none⟩ = some (.slice ad l.length cap) ∧ w9.cell? ⟨w.heap.size, 0, none⟩ = some (.int .i64 p.fr) ∧ w9.cell? ⟨w.heap.size, 1, none⟩ = some (.string p.b)) := hide (fun w9 hg => cel w9 ((hk1.mono (by simp)).trans (Kp.of hg) (fun x hx => Or.inl hx)))
  have FRZ : Hid (∀ w9, (V.alloc (.cells (pkA p) 72)).grownBy w9 (Value.slice ad l.length cap).ownBlock → w9.frozen? ⟨q, t, none⟩ = false) := hide (fun w9 hg => ((hrow.kp hk01 (by simp)).kp (Kp.of hg) (fun hm => hqk q (by simpa using hm) rfl)).froz _)
  have FIN : Hid (∀ g9 cap9 w9, w9.ownsRow 0 72 2 (.slice (some ⟨g9, 0, none⟩) (l.length + 1) cap9) (l.length + 1) (pkC l ++ (pkA p).toList) → (V.alloc (.cells (pkA p) 72)).grownBy w9 (Value.slice ad l.length cap).ownBlock → ((Value.slice ad l.length cap).ownBlock = some g9 ∨ g9 = (V.alloc (.cells (pkA p) 72)).heap.size) → WayTo w q t (.slice ad l.length cap) (l ++ [p]) (w9.setCell ⟨q, t, none⟩ (.slice (some ⟨g9, 0, none⟩) (l.length + 1) cap9))) := hide (fun g9 cap9 w9 ho hg hat => by
    refine ⟨w9, .slice (some ⟨g9, 0, none⟩) (l.length + 1) cap9, (hk01.mono (by simp)).trans (Kp.of hg) (fun x hx => Or.inl hx), ?_, ?_, [], (fun _ hx => by cases hx), Kp.refl _ _⟩
    · unfold PkRow
      rw [List.length_append, pkC_append, pkC_one]
      exact ho
    · rcases hat with h | h
      · exact Or.inl (by rw [h]; rfl)
      · exact Or.inr (Or.inr ⟨g9, rfl, by have := hk01.size; omega⟩))
  clear cel own1 hgk hk0 hk1 hk01 hb0 hqk hrow hct hr
  generalize pkC l = xs at *
  generalize hm : l.length = m at *
  obtain ⟨fr, b⟩ := p
  clear hm
  unfold pkA at *
  dsimp only at *
  go_enter Try.func28, Try.ntmps28
  go_upto_region 1 with fail
  refine wp_region_late (fun W => W.cell? ⟨q, t, none⟩ = some (.slice ad m cap) ∧ W.cell? ⟨w.heap.size, 0, none⟩ = some (.int .i64 fr) ∧ W.cell? ⟨w.heap.size, 1, none⟩ = some (.string b)) 8 (by kernel_rfl) ?_
  rw [← hV]
  clear hV
  show wpAnyL _ _ _ _ _ _ 9 (Array.replicate 9 false) _ _
  refine wpAnyL_take (i := 0) (oi := { dst := some 4, op := Op.move (Operand.tmp 0), type := 85, pos := "way.go:21", after := #[], guard := none }) (v := ?_) rfl (by kernel_rfl) (by kernel_rfl) (by kernel_rfl) (by kernel_rfl) (fun _ _ _ h => h) (Or.inl ⟨by rfl, ?_⟩) a0 ?_
  rotate_left 1
  · intro w0 hSw
    (try dsimp only at hSw)
    go_simp
    (try with_reducible rfl)
  try simp only [Act.put, List.setIfInBounds_toArray, List.set_cons_zero, List.set_cons_succ]
  refine wpAnyL_take (i := 1) (oi := { dst := some 5, op := Op.move (Operand.tmp 0), type := 85, pos := "way.go:21", after := #[], guard := none }) (v := ?_) rfl (by kernel_rfl) (by kernel_rfl) (by kernel_rfl) (by kernel_rfl) (fun _ _ _ h => h) (Or.inl ⟨by rfl, ?_⟩) a0 ?_
  rotate_left 1
  · intro w0 hSw
    (try dsimp only at hSw)
    go_simp
    (try with_reducible rfl)
  try simp only [Act.put, List.setIfInBounds_toArray, List.set_cons_zero, List.set_cons_succ]
  refine wpAnyL_take (i := 2) (oi := { dst := some 6, op := Op.nilCheck (Operand.tmp 5), type := 0, pos := "way.go:21", after := #[{ on := 1, ground := Ground.data }], guard := none }) (v := ?_) rfl (by kernel_rfl) (by kernel_rfl) (by kernel_rfl) (by kernel_rfl) (fun _ _ _ h => h) (Or.inl ⟨by rfl, ?_⟩) a0 ?_
  rotate_left 1
  · intro w0 hSw
    (try dsimp only at hSw)
    go_simp
    (try with_reducible rfl)
  try simp only [Act.put, List.setIfInBounds_toArray, List.set_cons_zero, List.set_cons_succ]
  refine wpAnyL_take (i := 3) (oi := { dst := some 7, op := Op.load 68 (Operand.tmp 6), type := 68, pos := "way.go:21", after := #[{ on := 2, ground := Ground.data }], guard := none }) (v := ?_) rfl (by kernel_rfl) (by kernel_rfl) (by kernel_rfl) (by kernel_rfl) (fun _ _ _ h => h) (Or.inl ⟨by rfl, ?_⟩) a0 ?_
  rotate_left 1
  · intro w0 hSw
    (try dsimp only at hSw)
    go_simp
    (try with_reducible rfl)
  try simp only [Act.put, List.setIfInBounds_toArray, List.set_cons_zero, List.set_cons_succ]
  refine wpAnyL_take (i := 4) (oi := { dst := some 8, op := Op.load 72 (Operand.tmp 3), type := 72, pos := "way.go:21", after := #[], guard := none }) (v := ?_) rfl (by kernel_rfl) (by kernel_rfl) (by kernel_rfl) (by kernel_rfl) (fun _ _ _ h => h) (Or.inl ⟨by rfl, ?_⟩) a0 ?_
  rotate_left 1
  · intro w0 hSw
    (try dsimp only at hSw)
    go_simp
    (try with_reducible rfl)
  try simp only [Act.put, List.setIfInBounds_toArray, List.set_cons_zero, List.set_cons_succ]
  refine wpAnyL_one (i := 5) (o := { dst := some 9, op := Op.buildSlice 68 1 #[(0, Operand.tmp 8)], type := 68, pos := "way.go:21", after := #[{ on := 4, ground := Ground.data }], guard := none }) rfl (by kernel_rfl) (fun K hK => ?_)
  go_simp
  refine hK _ _ (Or.inr a1) ?_
  clear hK K
  try simp only [Act.put, List.setIfInBounds_toArray, List.set_cons_zero, List.set_cons_succ]
  refine wpAnyL_one (i := 6) (o := { dst := some 10, op := Op.call { callee := Callee.builtin Builtin.append, args := #[Operand.tmp 7, Operand.tmp 9], argTypes := #[68, 68] }, type := 68, pos := "way.go:21", after := #[{ on := 3, ground := Ground.data }, { on := 5, ground := Ground.data }], guard := none }) rfl (by kernel_rfl) (fun K hK => ?_)
  refine step_append_lies rfl (.tmp 7) (.tmp 9) 68 rfl 0 72 i0 _ 2 24 Try.underlying68 hi0 hz0 hz1 hz2 rfl (by decide) _ m xs rfl (unhide OWN) ⟨V.heap.size, 0, none⟩ 1 1 [.int .i64 fr, .string b] rfl rfl (unhide SRC) (fun u hu => by simp at hu; rcases hu with rfl | rfl <;> rfl) (by decide) (by unfold maxLen; omega) (by omega) (Nat.zero_le _) ?_
  intro g9 cap9 w9 own9 gr9 at9
  have a9 := unhide CEL w9 gr9
  have f9 := unhide FRZ w9 gr9
  have FN := hide (unhide FIN g9 cap9 w9 own9 gr9 at9)
  refine hK _ _ (Or.inr a9) ?_
  clear hK K
  try simp only [Act.put, List.setIfInBounds_toArray, List.set_cons_zero, List.set_cons_succ]
  refine wpAnyL_one (i := 7) (o := { dst := some 11, op := Op.nilCheck (Operand.tmp 4), type := 0, pos := "way.go:21", after := #[{ on := 0, ground := Ground.data }, { on := 0, ground := Ground.phase }, { on := 1, ground := Ground.phase }, { on := 2, ground := Ground.phase }, { on := 3, ground := Ground.phase }, { on := 4, ground := Ground.phase }, { on := 5, ground := Ground.phase }, { on := 6, ground := Ground.phase }], guard := none }) rfl (by kernel_rfl) (fun K hK => ?_)
  go_simp
  refine hK _ _ (Or.inr a9) ?_
  clear hK K
  try simp only [Act.put, List.setIfInBounds_toArray, List.set_cons_zero, List.set_cons_succ]
  refine wpAnyL_one (i := 8) (o := { dst := none, op := Op.store 68 (Operand.tmp 11) (Operand.tmp 10), type := 0, pos := "way.go:21", after := #[{ on := 7, ground := Ground.data }, { on := 6, ground := Ground.data }, { on := 6, ground := Ground.chain }, { on := 0, ground := Ground.phase }, { on := 1, ground := Ground.phase }, { on := 2, ground := Ground.phase }, { on := 3, ground := Ground.phase }, { on := 4, ground := Ground.phase }, { on := 5, ground := Ground.phase }, { on := 6, ground := Ground.phase }], guard := none }) rfl (by kernel_rfl) (fun K hK => ?_)
  go_simp
  refine hK _ _ (Or.inl rfl) ?_
  clear hK K
  try simp only [Act.put, List.setIfInBounds_toArray, List.set_cons_zero, List.set_cons_succ]
  refine wpAnyL_done (by kernel_rfl) ?_ _
  go_wp2
  go_end0
  exact ⟨⟨_, rfl⟩, unhide FN⟩
end Go.Proofs.Ytledoopfffhigaa
