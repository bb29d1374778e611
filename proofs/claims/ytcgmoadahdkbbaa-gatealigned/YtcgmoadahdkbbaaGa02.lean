/-
  How a store lies; a ring's rows, its room, its first text.
  A ring: a text put behind the last one; the first one taken off.
  A statement whose order is drawn, and whose last operation (a store) waits for all others: what is read ahead of it may be taken first, though the store changes what was read. Of no program.
  A statement whose order is drawn, and whose last operation waits for all others, be it through others: what is read ahead of it may be taken first. Of no program.
-/
import Derived.Test.YtcgmoadahdkbbaaChecked
import Derived.Test.YtcgmoadahdkbbaaGa01
import Derived.BigQuiet
import Derived.Deep.RegionHeld3
import Derived.WalkKit
import Derived.OrdersHeld
namespace Go.Proofs.Ytcgmoadahdkbbaa
open Go.RowKit Cr

/-- A store lies there: a block of 260 cells: 256 texts, the size, the first one's row, how many, what is owed. -/
structure CrV (w : World) (b : Nat) (cs : Array Value) (f : Nat) (s : Sto) : Prop where
  box : CBox b cs 102 w
  sz : cs.size = 260
  c0 : cs[256]? = some (.int .i64 (s.cap : Int))
  c1 : cs[257]? = some (.int .i64 (f : Int))
  c2 : cs[258]? = some (.int .i64 (s.q.length : Int))
  c3 : cs[259]? = some (.int .i64 (s.owed : Int))
  fi : f < s.cap
  tx : ∀ i (h : i < s.q.length), cs[(f + i) % s.cap]? = some (.string s.q[i])
  ok : s.Ok
/-- A store of the call's own lies there. -/
def CrAt (w : World) (b : Nat) (s : Sto) : Prop := ∃ cs f, CrV w b cs f s
theorem CrV.kp {w w' : World} {b : Nat} {cs : Array Value} {f : Nat} {s : Sto} {F : List Nat} (h : CrV w b cs f s) (hk : Kp F w w') (hF : b ∉ F) : CrV w' b cs f s :=
  { h with box := h.box.kp hk hF }
theorem CrAt.kp {w w' : World} {b : Nat} {s : Sto} {F : List Nat} (h : CrAt w b s) (hk : Kp F w w') (hF : b ∉ F) : CrAt w' b s := by
  obtain ⟨cs, f, h⟩ := h
  exact ⟨cs, f, h.kp hk hF⟩
theorem CrAt.lt {w : World} {b : Nat} {s : Sto} (h : CrAt w b s) : b < w.heap.size := by
  obtain ⟨cs, f, h⟩ := h
  exact (Array.getElem?_eq_some_iff.1 h.box).1
theorem arr_len : Try.prog.arrayLen 98 = 256 := by kernel_rfl
theorem arr_und : Try.prog.underlying 98 = some (.array (Try.prog.arrayLen 98) (Try.prog.elem 98)) := by kernel_rfl
theorem arr_size (w : World) : (sizeOf (Try.prog.elem 98)).run Try.prog w = .ok 1 w := by kernel_rfl
/-- The array's first rows, sliced by three numbers. -/
theorem rows_run (b cap : Nat) (h1 : cap ≤ 256) (W : World) : (Instr.sliceAt 98 (.pointer (some ⟨b, 0, none⟩)) none (some (.int .i64 (cap : Int))) (some (.int .i64 (cap : Int)))).run Try.prog W = .ok (.slice (some ⟨b, 0, none⟩) cap cap) W := by
  have h3 : (cap : Int) ≤ ((Try.prog.arrayLen 98 : Nat) : Int) := by rw [arr_len]; omega
  rw [run_sliceAt_array_hm W 98 ⟨b, 0, none⟩ arr_und .i64 .i64 (cap : Int) (cap : Int) (by omega) (Int.le_refl _) h3, arr_size]
  show Result.ok (slicedAt ⟨b, 0, none⟩ 0 (cap : Int).toNat (cap : Int).toNat 1) W = _
  unfold slicedAt
  rw [Int.toNat_natCast, Nat.sub_zero, Nat.zero_mul]
  congr 3
  split <;> rfl
theorem cRows_any (b cap : Nat) (w : World) (hc : w.cell? ⟨b, 256, none⟩ = some (.int .i64 (cap : Int))) (h1 : cap ≤ 256) :
    Calls Try.prog 48 #[.pointer (some ⟨b, 0, none⟩)] w fun e w' => e = .returned (.slice (some ⟨b, 0, none⟩) cap cap) ∧ ∃ n, w' = w.drewN n := by
  have SL := rows_run b cap h1
  go_enter Try.func48, Try.ntmps48
  go_wp2
  go_quiet (fail)
  go_wp2
  go_ret
  exact ⟨rfl, _, rfl⟩
theorem cFree_any (b cap n : Nat) (w : World) (hc : w.cell? ⟨b, 256, none⟩ = some (.int .i64 (cap : Int))) (hn : w.cell? ⟨b, 258, none⟩ = some (.int .i64 (n : Int))) (h0 : n ≤ cap) (h1 : cap ≤ 256) :
    Calls Try.prog 43 #[.pointer (some ⟨b, 0, none⟩)] w fun e w' => e = .returned (.int .i64 ((cap : Int) - (n : Int))) ∧ ∃ n, w' = w.drewN n := by
  go_enter Try.func43, Try.ntmps43
  go_wp2
  go_quiet (fail)
  go_wp2
  go_ret
  exact ⟨rfl, _, rfl⟩
end Go.Proofs.Ytcgmoadahdkbbaa
namespace Go.Proofs.Ytcgmoadahdkbbaa
open Go.RowKit Cr

theorem wrap_add {a b : Int} (h0 : 0 ≤ a) (h1 : 0 ≤ b) (ha : a ≤ 4294967296) (hb : b ≤ 4294967296) : IntKind.i64.wrap (a + b) = a + b := by
  simp [IntKind.wrap, IntKind.signed, go_sem]
  omega
set_option maxHeartbeats 1000000 in
theorem cPush_cells (b cap f n g : Nat) (t : ByteArray) (old : Value) (w : World) (hc : w.cell? ⟨b, 256, none⟩ = some (.int .i64 (cap : Int))) (hf : w.cell? ⟨b, 257, none⟩ = some (.int .i64 (f : Int))) (hn : w.cell? ⟨b, 258, none⟩ = some (.int .i64 (n : Int))) (ho : w.cell? ⟨b, g, none⟩ = some old)
    (hz : w.frozen? ⟨b, g, none⟩ = false) (hz2 : w.frozen? ⟨b, 258, none⟩ = false) (hg : ((f : Int) + (n : Int)).tmod (cap : Int) = (g : Int)) (hgc : g < cap) (h1 : cap ≤ 256) (hfc : f < cap) (hnc : n < cap)
    (hS : (w.setCell ⟨b, g, none⟩ (.string t)).cell? ⟨b, 256, none⟩ = some (.int .i64 (cap : Int)) ∧ (w.setCell ⟨b, g, none⟩ (.string t)).cell? ⟨b, 257, none⟩ = some (.int .i64 (f : Int)) ∧ (w.setCell ⟨b, g, none⟩ (.string t)).cell? ⟨b, 258, none⟩ = some (.int .i64 (n : Int))) :
    Calls Try.prog 47 #[.pointer (some ⟨b, 0, none⟩), .string t] w fun e w' => (∃ v, e = .returned v) ∧ ∃ k, w' = ((w.drewN k).setCell ⟨b, g, none⟩ (.string t)).setCell ⟨b, 258, none⟩ (.int .i64 ((n : Int) + 1)) := by
  have RW := hide (fun n => cRows_any b cap (w.drewN n) hc h1)
  have hw : (IntKind.i64.wrap ((f : Int) + (n : Int))).tmod (cap : Int) = (g : Int) := by rw [wrap_add (by omega) (by omega) (by omega) (by omega)]; exact hg
  have hne1 : ¬ (cap : Int) = 0 := by omega
  have hne2 : ¬ cap = 0 := by omega
  have hgi : (g : Int) < (cap : Int) := by omega
  have hg0 : (0 : Int) ≤ (g : Int) := by omega
  clear hg
  go_enter Try.func47, Try.ntmps47
  go_wp2_with fail
  go_region_held3 (fun W => W.cell? ⟨b, 256, none⟩ = some (.int .i64 (cap : Int)) ∧ W.cell? ⟨b, 257, none⟩ = some (.int .i64 (f : Int)) ∧ W.cell? ⟨b, 258, none⟩ = some (.int .i64 (n : Int)))
    (first | exact ⟨hc, hf, hn⟩ | exact hS)
    (first | (go_at_call 48; refine (unhide RW 1).mono ?_; rintro r w1 ⟨rfl, n1, rfl⟩))
  have hn1 := hS.2.2
  go_wp2
  go_end0
  exact ⟨⟨_, rfl⟩, _, rfl⟩
theorem Kp.cellQ (w : World) (n : Nat) (p : Addr) : (w.drewN n).cell? p = w.cell? p := rfl
/-- A text put behind the last one. -/
theorem cPush_any (b : Nat) (s : Sto) (t : ByteArray) (w : World) (h : CrAt w b s) (hr : s.q.length + s.owed < s.cap) :
    Calls Try.prog 47 #[.pointer (some ⟨b, 0, none⟩), .string t] w fun e w' => (∃ v, e = .returned v) ∧ CrAt w' b ⟨s.cap, s.owed, s.q ++ [t]⟩ ∧ Kp [b] w w' := by
  obtain ⟨cs, f, h⟩ := h
  have hi := h.ok.hi
  have lo := h.ok.lo
  have fi := h.fi
  obtain ⟨g, hg⟩ : ∃ g, g = (f + s.q.length) % s.cap := ⟨_, rfl⟩
  have hgc : g < s.cap := by rw [hg]; exact Nat.mod_lt _ lo
  have hgs : g < cs.size := by rw [h.sz]; omega
  have e1 : ∀ j, g ≠ j → (cs.setIfInBounds g (.string t))[j]? = cs[j]? := fun j hj => Array.getElem?_setIfInBounds_ne hj
  have b1 := h.box.set g (.string t)
  refine (cPush_cells b s.cap f s.q.length g t cs[g] w (h.box.cell h.c0) (h.box.cell h.c1) (h.box.cell h.c2) (h.box.cell (Array.getElem?_eq_getElem hgs)) (h.box.froz _) (h.box.froz _) (by rw [← Int.natCast_add, tmod_nat, hg]) hgc hi fi (by omega)
    ⟨b1.cell (by rw [e1 _ (by omega)]; exact h.c0), b1.cell (by rw [e1 _ (by omega)]; exact h.c1), b1.cell (by rw [e1 _ (by omega)]; exact h.c2)⟩).mono ?_
  rintro e w' ⟨he, k, rfl⟩
  have k1 := Kp.drewQ w k
  have b2 := ((h.box.kp k1 (by simp)).set g (.string t)).set 258 (.int .i64 ((s.q.length : Int) + 1))
  refine ⟨he, ⟨_, f, b2, by simp [h.sz], ?_, ?_, ?_, ?_, fi, ?_, ⟨lo, hi, ?_⟩⟩, ((k1.mono (by simp)).trans (Kp.set _ b _ _) (by simp)).trans (Kp.set _ b _ _) (by simp)⟩
  · rw [Array.getElem?_setIfInBounds_ne (by omega), e1 _ (by omega)]; exact h.c0
  · rw [Array.getElem?_setIfInBounds_ne (by omega), e1 _ (by omega)]; exact h.c1
  · rw [Array.getElem?_setIfInBounds_self_of_lt (by simp [h.sz])]
    simp
  · rw [Array.getElem?_setIfInBounds_ne (by omega), e1 _ (by omega)]; exact h.c3
  · intro i hi2
    have hi2 : i < (s.q ++ [t]).length := hi2
    have hm : (f + i) % s.cap < s.cap := Nat.mod_lt _ lo
    show ((cs.setIfInBounds g (.string t)).setIfInBounds 258 _)[(f + i) % s.cap]? = some (.string (s.q ++ [t])[i])
    rw [Array.getElem?_setIfInBounds_ne (by omega)]
    simp only [List.length_append, List.length_singleton] at hi2
    rcases Nat.lt_or_ge i s.q.length with h3 | h3
    · rw [e1 _ (fun e => by have := mod_ne fi (by omega) (by omega) (hg.symm.trans e); omega), h.tx i h3, List.getElem_append_left h3]
    · obtain rfl : i = s.q.length := by omega
      rw [← hg, Array.getElem?_setIfInBounds_self_of_lt hgs]
      simp
  · simp only [List.length_append, List.length_singleton]
    omega
end Go.Proofs.Ytcgmoadahdkbbaa
namespace Go.Proofs.Ytcgmoadahdkbbaa
open Go.RowKit

section
variable {P : Program} {ops : Array Oper} {Q : Exit → Act → World → Prop} {md : Region.Mode} {S : World → Prop} {late : Nat}
/-- As wpAnyH; behind the late operation the condition is not asked for. -/
def wpAnyL (P : Program) (md : Region.Mode) (ops : Array Oper) (Q : Exit → Act → World → Prop) (S : World → Prop) (late : Nat) : Nat → Array Bool → Act → World → Prop
  | 0, listed, a, w => Region.ready md ops listed = [] ∧ Q .normal a w
  | fuel + 1, listed, a, w =>
    (Region.ready md ops listed = [] → Q .normal a w) ∧
    ∀ i ∈ Region.ready md ops listed, wpOp P ops Q i (fun a' w' => (i = late ∨ S w') ∧ wpAnyL P md ops Q S late fuel (listed.setIfInBounds i true) a' w') a w
theorem wpAny_of_late : ∀ (fuel : Nat) (listed : Array Bool) (a : Act) (w : World), wpAnyL P md ops Q S late fuel listed a w → wpAny P md ops Q fuel listed a w
  | 0, _, _, _, h => h
  | fuel + 1, _, _, _, h => ⟨h.1, fun i hi => wpOp_mono (fun a' w' h' => wpAny_of_late fuel _ a' w' h'.2) (h.2 i hi)⟩
/-- Does the late operation wait for number i? -/
def waits (md : Region.Mode) (ops : Array Oper) (late i : Nat) : Bool := match ops[late]? with
  | some o => o.after.any fun e => Region.binds md e && e.on == i
  | none => false
theorem waits_spec {i : Nat} {o : Oper} (ho : ops[late]? = some o) (h : waits md ops late i = true) : ∃ e ∈ o.after, Region.binds md e = true ∧ e.on = i := by
  unfold waits at h
  rw [ho] at h
  simp only [Array.any_eq_true] at h
  obtain ⟨j, hj, hb⟩ := h
  rw [Bool.and_eq_true, beq_iff_eq] at hb
  exact ⟨_, Array.getElem_mem hj, hb.1, hb.2⟩
theorem wpAnyL_first {i : Nat} {oi : Oper} {v : Value} (hi : ops[i]? = some oi) (hw : waits md ops late i = true) (hsel : ∀ (j : Nat) (o : Oper) cs b, ops[j]? = some o → o.op ≠ .select cs b)
    (hQ : ∀ c a w, Q (.panic c) (a.put oi.dst v) w → Q (.panic c) a w) :
    ∀ (fuel : Nat) (listed : Array Bool) (a : Act) (w : World),
      (∀ j oj, ops[j]? = some oj → j ≠ i → listed.getD j true = false → (∀ e ∈ oj.after, Region.binds md e = true → e.on ≠ i) → oi.apart ops oj = true) →
      i ∈ Region.ready md ops listed → YieldsIf P ops S oi v a → S w →
      wpAnyL P md ops Q S late fuel (listed.setIfInBounds i true) (a.put oi.dst v) w → wpAnyL P md ops Q S late (fuel + 1) listed a w := by
  intro fuel
  induction fuel with
  | zero =>
    intro listed a w _ hr hy hS H
    refine ⟨fun h => (by rw [h] at hr; cases hr), fun j hj => ?_⟩
    by_cases hji : j = i
    · subst hji; exact hy.wpOp hi hS ⟨Or.inr hS, H⟩
    · have := ready_mono hj hji
      rw [H.1] at this
      cases this
  | succ fuel ih =>
    intro listed a w hfree hr hy hS H
    refine ⟨fun h => (by rw [h] at hr; cases hr), fun j hj => ?_⟩
    by_cases hji : j = i
    · subst hji; exact hy.wpOp hi hS ⟨Or.inr hS, H⟩
    · have h1 := H.2 j (ready_mono hj hji)
      obtain ⟨hjun, oj, hoj, hall⟩ := mem_ready.1 hj
      have hnot : ∀ e ∈ oj.after, Region.binds md e = true → e.on ≠ i := fun e he hb heq => by
        have h1 := hall e he hb
        have h0 := (mem_ready.1 hr).1
        rw [heq] at h1
        rcases Nat.lt_or_ge i listed.size with h' | h'
        · simp [h'] at h0 h1; rw [h0] at h1; cases h1
        · simp [Array.getElem?_eq_none h'] at h1
      have hjl : j ≠ late := by
        rintro rfl
        obtain ⟨e, he, hb, hon⟩ := waits_spec hoj hw
        exact hnot e he hb hon
      have h1' : wpOp P ops Q j (fun a' w' => S w' ∧ wpAnyL P md ops Q S late fuel ((listed.setIfInBounds i true).setIfInBounds j true) a' w') (a.put oi.dst v) w := wpOp_mono (fun a' w' h => ⟨h.1.resolve_left hjl, h.2⟩) h1
      have h2 := wpOp_putIf hoj (hfree j oj hoj hji hjun hnot) (fun cs b => hsel i oi cs b hi) (fun cs b => hsel j oj cs b hoj) hQ hy h1'
      have hfree' : ∀ k ok, ops[k]? = some ok → k ≠ i → (listed.setIfInBounds j true).getD k true = false →
          (∀ e ∈ ok.after, Region.binds md e = true → e.on ≠ i) → oi.apart ops ok = true := fun k ok hk hki hun hno => by
        refine hfree k ok hk hki ?_ hno
        by_cases hjk : j = k
        · subst hjk; exact hjun
        · rw [getD_set_ne true hjk] at hun; exact hun
      refine wpOp_mono (fun a' w' h3 => ⟨Or.inr h3.2.1, ih (listed.setIfInBounds j true) a' w' hfree' (ready_mono hr (Ne.symm hji)) h3.1 h3.2.1 ?_⟩) h2
      rw [Array.setIfInBounds_comm _ _ hji]
      exact h3.2.2
/-- Take number i first. -/
theorem wpAnyL_take {i : Nat} {oi : Oper} {v : Value} {fuel : Nat} {listed : Array Bool} {a : Act} {w : World} (hi : ops[i]? = some oi)
    (hw : waits md ops late i = true) (hs : Region.noSelect ops = true) (hf : Region.free md ops listed i = true) (hr : (Region.ready md ops listed).contains i = true)
    (hQ : ∀ c a w, Q (.panic c) (a.put oi.dst v) w → Q (.panic c) a w) (hy : YieldsIf P ops S oi v a) (hS : S w)
    (h : wpAnyL P md ops Q S late fuel (listed.setIfInBounds i true) (a.put oi.dst v) w) : wpAnyL P md ops Q S late (fuel + 1) listed a w :=
  wpAnyL_first hi hw (Region.noSelect_spec hs) hQ fuel listed a w (Region.free_spec hi hf) (by simpa using hr) hy hS h
/-- Just one may come up. -/
theorem wpAnyL_one {i : Nat} {o : Oper} {fuel : Nat} {listed : Array Bool} {a : Act} {w : World} (ho : ops[i]? = some o) (hr : Region.ready md ops listed = [i])
    (h : ∀ K : Act → World → Prop, (∀ a' w', (i = late ∨ S w') → wpAnyL P md ops Q S late fuel (listed.setIfInBounds i true) a' w' → K a' w') → if Region.wanted o (yielded ops a.tmps) = true then Oper.wp P o a w K Q else K (a.put o.dst undef) w) : wpAnyL P md ops Q S late (fuel + 1) listed a w := by
  refine ⟨fun h0 => (by rw [hr] at h0; cases h0), fun j hj => ?_⟩
  rw [hr, List.mem_singleton] at hj
  subst hj
  have := h (fun a' w' => (j = late ∨ S w') ∧ wpAnyL P md ops Q S late fuel (listed.setIfInBounds j true) a' w') (fun a' w' h1 h2 => ⟨h1, h2⟩)
  unfold wpOp
  rw [ho]
  dsimp only
  split
  · rename_i hc
    rw [if_pos hc] at this
    exact Or.inl this
  · rename_i hc
    rw [if_neg hc] at this
    exact this
/-- One of two may come up. -/
theorem wpAnyL_two {i j : Nat} {o o' : Oper} {fuel : Nat} {listed : Array Bool} {a : Act} {w : World} (ho : ops[i]? = some o) (ho' : ops[j]? = some o') (hr : Region.ready md ops listed = [i, j])
    (h : ∀ K : Act → World → Prop, (∀ a' w', (i = late ∨ S w') → wpAnyL P md ops Q S late fuel (listed.setIfInBounds i true) a' w' → K a' w') → if Region.wanted o (yielded ops a.tmps) = true then Oper.wp P o a w K Q else K (a.put o.dst undef) w)
    (h' : ∀ K : Act → World → Prop, (∀ a' w', (j = late ∨ S w') → wpAnyL P md ops Q S late fuel (listed.setIfInBounds j true) a' w' → K a' w') → if Region.wanted o' (yielded ops a.tmps) = true then Oper.wp P o' a w K Q else K (a.put o'.dst undef) w) : wpAnyL P md ops Q S late (fuel + 1) listed a w := by
  have one : ∀ (n : Nat) (x : Oper), ops[n]? = some x → (∀ K : Act → World → Prop, (∀ a' w', (n = late ∨ S w') → wpAnyL P md ops Q S late fuel (listed.setIfInBounds n true) a' w' → K a' w') → if Region.wanted x (yielded ops a.tmps) = true then Oper.wp P x a w K Q else K (a.put x.dst undef) w) → wpOp P ops Q n (fun a' w' => (n = late ∨ S w') ∧ wpAnyL P md ops Q S late fuel (listed.setIfInBounds n true) a' w') a w := fun n x hx hh => by
    have := hh (fun a' w' => (n = late ∨ S w') ∧ wpAnyL P md ops Q S late fuel (listed.setIfInBounds n true) a' w') (fun a' w' h1 h2 => ⟨h1, h2⟩)
    unfold wpOp
    rw [hx]
    dsimp only
    split
    · rename_i hc
      rw [if_pos hc] at this
      exact Or.inl this
    · rename_i hc
      rw [if_neg hc] at this
      exact this
  refine ⟨fun h0 => (by rw [hr] at h0; cases h0), fun n hn => ?_⟩
  rw [hr] at hn
  rcases List.mem_cons.1 hn with rfl | hn
  · exact one _ _ ho h
  · rw [List.mem_singleton] at hn
    subst hn
    exact one _ _ ho' h'
theorem wpAnyL_done {listed : Array Bool} {a : Act} {w : World} (hr : Region.ready md ops listed = []) (h : Q .normal a w) : ∀ fuel, wpAnyL P md ops Q S late fuel listed a w
  | 0 => ⟨hr, h⟩
  | _ + 1 => ⟨fun _ => h, by rw [hr]; simp⟩
theorem wp_region_late (S : World → Prop) (late : Nat) {id : Nat} {a : Act} {w : World} (hm : P.follows .mixedOrders = true)
    (h : wpAnyL P .any ops Q S late ops.size (Array.replicate ops.size false) a w.drew) : (Code.region id ops true).wp P Q a w := wp_region_any hm (wpAny_of_late _ _ _ _ h)
end
end Go.Proofs.Ytcgmoadahdkbbaa
namespace Go.Proofs.Ytcgmoadahdkbbaa
open Go.RowKit

section
variable {P : Program} {ops : Array Oper} {Q : Exit → Act → World → Prop} {md : Region.Mode} {S : World → Prop} {late : Nat}
/-- What an operation waits for. -/
def deps (md : Region.Mode) (ops : Array Oper) (j : Nat) : List Nat := match ops[j]? with
  | some o => (o.after.toList.filter (Region.binds md)).map (·.on)
  | none => []
/-- Does it wait for number i, be it through others? -/
def reach (md : Region.Mode) (ops : Array Oper) (i : Nat) : Nat → Nat → Bool
  | 0, _ => false
  | f + 1, j => (deps md ops j).any fun d => d == i || reach md ops i f d
/-- What is listed waits for what is listed. -/
def closed (md : Region.Mode) (ops : Array Oper) (listed : Array Bool) : Bool := (List.range ops.size).all fun j => !(listed.getD j false) || (deps md ops j).all fun d => listed.getD d false
theorem closed_at {listed : Array Bool} (h : closed md ops listed = true) {j : Nat} (hj : listed.getD j false = true) : ∀ d ∈ deps md ops j, listed.getD d false = true := fun d hd => by
  have hlt : j < ops.size := by
    rcases Nat.lt_or_ge j ops.size with h1 | h1
    · exact h1
    · unfold deps at hd
      rw [Array.getElem?_eq_none h1] at hd
      cases hd
  unfold closed at h
  have h1 := List.all_eq_true.1 h j (List.mem_range.2 hlt)
  rw [hj] at h1
  simp only [Bool.not_true, Bool.false_or] at h1
  exact List.all_eq_true.1 h1 d hd
theorem reach_listed {listed : Array Bool} {i : Nat} (h : closed md ops listed = true) : ∀ (f j : Nat), (∀ d ∈ deps md ops j, listed.getD d false = true) → reach md ops i f j = true → listed.getD i false = true
  | 0, _, _, hr => by cases hr
  | f + 1, j, hd, hr => by
    unfold reach at hr
    obtain ⟨d, hdm, he⟩ := List.any_eq_true.1 hr
    rw [Bool.or_eq_true] at he
    rcases he with he | he
    · rw [← beq_iff_eq.1 he]; exact hd d hdm
    · exact reach_listed h f d (closed_at h (hd d hdm)) he
theorem ready_deps {listed : Array Bool} {j : Nat} (hj : j ∈ Region.ready md ops listed) : ∀ d ∈ deps md ops j, listed.getD d false = true := fun d hd => by
  obtain ⟨_, o, ho, hall⟩ := mem_ready.1 hj
  unfold deps at hd
  rw [ho] at hd
  obtain ⟨e, he, rfl⟩ := List.mem_map.1 hd
  obtain ⟨h1, h2⟩ := List.mem_filter.1 he
  exact hall e (Array.mem_toList_iff.1 h1) h2
theorem closed_set {listed : Array Bool} {j : Nat} (h : closed md ops listed = true) (hj : j ∈ Region.ready md ops listed) : closed md ops (listed.setIfInBounds j true) = true := by
  unfold closed
  refine List.all_eq_true.2 fun k _ => ?_
  rw [Bool.or_eq_true]
  by_cases hk : (listed.setIfInBounds j true).getD k false = true
  · refine Or.inr (List.all_eq_true.2 fun d hd => getD_set_true ?_)
    by_cases e : j = k
    · subst e; exact ready_deps hj d hd
    · rw [getD_set_ne false e] at hk
      exact closed_at h hk d hd
  · left
    simp only [Bool.not_eq_true] at hk
    rw [hk]
    rfl
theorem wpAnyL_first3 {i f : Nat} {oi : Oper} {v : Value} (hi : ops[i]? = some oi) (hw : reach md ops i f late = true) (hsel : ∀ (j : Nat) (o : Oper) cs b, ops[j]? = some o → o.op ≠ .select cs b)
    (hQ : ∀ c a w, Q (.panic c) (a.put oi.dst v) w → Q (.panic c) a w) :
    ∀ (fuel : Nat) (listed : Array Bool) (a : Act) (w : World), closed md ops listed = true →
      (∀ j oj, ops[j]? = some oj → j ≠ i → listed.getD j true = false → (∀ e ∈ oj.after, Region.binds md e = true → e.on ≠ i) → oi.apart ops oj = true) →
      i ∈ Region.ready md ops listed → YieldsIf P ops S oi v a → S w →
      wpAnyL P md ops Q S late fuel (listed.setIfInBounds i true) (a.put oi.dst v) w → wpAnyL P md ops Q S late (fuel + 1) listed a w := by
  intro fuel
  induction fuel with
  | zero =>
    intro listed a w _ _ hr hy hS H
    refine ⟨fun h => (by rw [h] at hr; cases hr), fun j hj => ?_⟩
    by_cases hji : j = i
    · subst hji; exact hy.wpOp hi hS ⟨Or.inr hS, H⟩
    · have := ready_mono hj hji
      rw [H.1] at this
      cases this
  | succ fuel ih =>
    intro listed a w hcl hfree hr hy hS H
    refine ⟨fun h => (by rw [h] at hr; cases hr), fun j hj => ?_⟩
    by_cases hji : j = i
    · subst hji; exact hy.wpOp hi hS ⟨Or.inr hS, H⟩
    · have h1 := H.2 j (ready_mono hj hji)
      obtain ⟨hjun, oj, hoj, hall⟩ := mem_ready.1 hj
      have hiun : listed.getD i false ≠ true := fun h1 => by
        have h0 := (mem_ready.1 hr).1
        rcases Nat.lt_or_ge i listed.size with h' | h'
        · simp [h'] at h0 h1; rw [h0] at h1; cases h1
        · simp [Array.getElem?_eq_none h'] at h1
      have hnot : ∀ e ∈ oj.after, Region.binds md e = true → e.on ≠ i := fun e he hb heq => hiun (by rw [← heq]; exact hall e he hb)
      have hjl : j ≠ late := by
        rintro rfl
        exact hiun (reach_listed hcl f _ (ready_deps hj) hw)
      have h1' : wpOp P ops Q j (fun a' w' => S w' ∧ wpAnyL P md ops Q S late fuel ((listed.setIfInBounds i true).setIfInBounds j true) a' w') (a.put oi.dst v) w := wpOp_mono (fun a' w' h => ⟨h.1.resolve_left hjl, h.2⟩) h1
      have h2 := wpOp_putIf hoj (hfree j oj hoj hji hjun hnot) (fun cs b => hsel i oi cs b hi) (fun cs b => hsel j oj cs b hoj) hQ hy h1'
      have hfree' : ∀ k ok, ops[k]? = some ok → k ≠ i → (listed.setIfInBounds j true).getD k true = false →
          (∀ e ∈ ok.after, Region.binds md e = true → e.on ≠ i) → oi.apart ops ok = true := fun k ok hk hki hun hno => by
        refine hfree k ok hk hki ?_ hno
        by_cases hjk : j = k
        · subst hjk; exact hjun
        · rw [getD_set_ne true hjk] at hun; exact hun
      refine wpOp_mono (fun a' w' h3 => ⟨Or.inr h3.2.1, ih (listed.setIfInBounds j true) a' w' (closed_set hcl hj) hfree' (ready_mono hr (Ne.symm hji)) h3.1 h3.2.1 ?_⟩) h2
      rw [Array.setIfInBounds_comm _ _ hji]
      exact h3.2.2
/-- Take number i first. -/
theorem wpAnyL_take3 {i : Nat} {oi : Oper} {v : Value} {fuel : Nat} {listed : Array Bool} {a : Act} {w : World} (hi : ops[i]? = some oi)
    (hw : (reach md ops i ops.size late && closed md ops listed) = true) (hs : Region.noSelect ops = true) (hf : Region.free md ops listed i = true) (hr : (Region.ready md ops listed).contains i = true)
    (hQ : ∀ c a w, Q (.panic c) (a.put oi.dst v) w → Q (.panic c) a w) (hy : YieldsIf P ops S oi v a) (hS : S w)
    (h : wpAnyL P md ops Q S late fuel (listed.setIfInBounds i true) (a.put oi.dst v) w) : wpAnyL P md ops Q S late (fuel + 1) listed a w := by
  rw [Bool.and_eq_true] at hw
  exact wpAnyL_first3 hi hw.1 (Region.noSelect_spec hs) hQ fuel listed a w hw.2 (Region.free_spec hi hf) (by simpa using hr) hy hS h
end
end Go.Proofs.Ytcgmoadahdkbbaa
