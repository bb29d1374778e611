/-
  Gates: Blocked: of each channel whether it is blocked.
  The document's gate: New, Blocked.
-/
import Derived.Test.YtcgmoadahdkbbaaGp07
import Derived.Laws.MakeOwn
import Derived.Test.YtcgmoadahdkbbaaGp11
namespace Go.Proofs.Ytcgmoadahdkbbaa
open Go.RowKit Gt Cr

theorem info_bo : (Try.prog.info? 4).map (fun i => (i.zero, i.size, i.bytes)) = some (some (.bool false), 1, 1) := by kernel_rfl
/-- The first of these marks, in a row of as many as there are channels. -/
def blC (f : Nat → Bool) (n k : Nat) : List Value := (List.range n).map fun j => .bool (decide (j < k) && f j)
theorem blC_len (f : Nat → Bool) (n k : Nat) : (blC f n k).length = n := by unfold blC; simp
theorem blC_zero (f : Nat → Bool) (n : Nat) : blC f n 0 = List.replicate n (.bool false) := by
  refine List.ext_getElem (by simp [blC]) fun i h1 h2 => ?_
  simp [blC]
theorem blC_set (f : Nat → Bool) {n k : Nat} (_h : k < n) : (blC f n k).set k (.bool (f k)) = blC f n (k + 1) := by
  refine List.ext_getElem (by simp [blC]) fun i h1 h2 => ?_
  rw [List.getElem_set]
  split
  · rename_i e
    subst e
    simp [blC]
  · rename_i e
    simp only [blC, List.getElem_map, List.getElem_range]
    by_cases h3 : i < k
    · rw [decide_eq_true h3, decide_eq_true (by omega)]
    · rw [decide_eq_false h3, decide_eq_false (by omega)]
theorem blC_at (f : Nat → Bool) {n k j : Nat} (h : j < n) (hk : j < k) : (blC f n k)[j]? = some (.bool (f j)) := by
  rw [List.getElem?_eq_getElem (by rw [blC_len]; exact h)]
  simp [blC, hk]
theorem mk_bo (n : Nat) (hn : n ≤ 100000) (W : World) : (Instr.makeSlice 35 (.int .i64 (n : Int)) (.int .i64 (n : Int))).run Try.prog W = .ok (.slice (some ⟨W.heap.size, 0, none⟩) n n) (W.alloc (.cells (Array.replicate n (Value.bool false)) 4)) := by
  obtain ⟨i0, hi, hz0, hz1, hz2⟩ := info_parts info_bo
  have h := run_make (P := Try.prog) W 35 4 i0 (.bool false) Try.underlying35 hi hz0 .i64 .i64 (n : Int) (n : Int) (by omega) (by omega) (by rw [hz2]; omega) (by omega)
  rw [hz1] at h
  simp only [Int.toNat_natCast, Nat.mul_one] at h
  rw [h]
  have e : madeCells (Value.bool false).cells n = Array.replicate n (Value.bool false) := by
    apply Array.ext'
    rw [Array.toList_replicate]
    exact toList_madeCells_one (Value.bool false) n
  rw [e]
/-- A row of marks of the call's own. -/
def BlRow (w0 w : World) (v : Value) (n : Nat) (f : Nat → Bool) : Prop := ∃ g, v = .slice (some ⟨g, 0, none⟩) n n ∧ w0.heap.size ≤ g ∧ CBox g (blC f n n).toArray 4 w
theorem BlRow.kp {w0 w w' : World} {v : Value} {n : Nat} {f : Nat → Bool} (h : BlRow w0 w v n f) (hk : Kp [] w w') : BlRow w0 w' v n f := by
  obtain ⟨g, e, h1, h2⟩ := h
  exact ⟨g, e, h1, h2.kp hk (by simp)⟩
set_option maxHeartbeats 4000000 in
set_option maxRecDepth 100000 in
theorem gBlocked_any (B b L : Nat) (G : Gt) (w : World) (h : GtAt B w b L G) :
    Calls Try.prog 10 #[.pointer (some ⟨b, 0, none⟩)] w fun e w' => ∃ v, e = .returned v ∧ BlRow w w' v G.n (fun k => (G.ch k).blk) ∧ Kp [] w w' := by
  obtain ⟨cs, rs, vs, hv, hl⟩ := h
  have c0 := hv.lines.1
  have hn1 := hv.ok.n1
  have HW := hide (fun wr (k1 : Kp [] w wr) => (hv.kp k1).lines.1)
  have BK := hide (fun wr (k1 : Kp [] w wr) k (hk : k < G.n) => gBlk_any (hv.kp k1) hk)
  clear hv hl
  generalize hf : (fun k => (G.ch k).blk) = f at *
  have BK : Hid (∀ wr, Kp [] w wr → ∀ k, k < G.n → Calls Try.prog 25 #[.pointer (some ⟨L, k * 3, none⟩)] wr fun e w' => e = .returned (.bool (f k)) ∧ w' = wr) := hide (fun wr k1 k hk => by
    have := unhide BK wr k1 k hk
    rw [← hf]
    exact this)
  clear hf
  generalize G.n = n at *
  have mb := mk_bo n (by omega)
  have KB : Hid (Kp [] w (w.alloc (.cells (Array.replicate n (Value.bool false)) 4))) := hide (Kp.alloc _ _)
  have CB : Hid (CBox w.heap.size (blC f n 0).toArray 4 (w.alloc (.cells (Array.replicate n (Value.bool false)) 4))) := hide (by rw [blC_zero, List.toArray_replicate]; exact CBox.new w _ _)
  have c0' := unhide HW _ (unhide KB)
  go_enter Try.func10, Try.ntmps10
  go_upto_region 2 with fail
  generalize w.alloc (.cells (Array.replicate n (Value.bool false)) 4) = W0 at *
  generalize hgb : w.heap.size = gb at *
  have HGB := hide hgb
  clear hgb mb c0
  go_wp2
  go_loopw [16] (fun i wr => ∃ k : Nat, k ≤ n ∧ i = .int .i64 (k : Int) ∧ Hid (Kp [] w wr ∧ CBox gb (blC f n k).toArray 4 wr)) (fun i _ => n - (intOf i).toNat)
  case atStart => exact ⟨0, Nat.zero_le _, rfl, hide ⟨unhide KB, unhide CB⟩⟩
  case round =>
    obtain ⟨k, hk, rfl, HR⟩ := hrel
    by_cases hlt : k < n
    · have hli : (k : Int) < (n : Int) := by omega
      have BK2 := hide (unhide BK wr (unhide HR).1 k hlt)
      have d0 := unhide HW wr (unhide HR).1
      have d1 : wr.cell? ⟨gb, k, none⟩ = some ((blC f n k)[k]'(by rw [blC_len]; exact hlt)) := (unhide HR).2.cell (by simp [blC_len, hlt])
      have d2 := (unhide HR).2.froz k
      have HN : Hid (Kp [] w (wr.setCell ⟨gb, k, none⟩ (.bool (f k))) ∧ CBox gb (blC f n (k + 1)).toArray 4 (wr.setCell ⟨gb, k, none⟩ (.bool (f k)))) := hide (by
        refine ⟨(unhide HR).1.trans (Kp.set _ _ _ _) (fun x hx => Or.inr (by simp at hx; subst hx; rw [← unhide HGB]; exact Nat.le_refl _)), ?_⟩
        have := (unhide HR).2.set k (.bool (f k))
        rw [List.setIfInBounds_toArray, blC_set f hlt] at this
        exact this)
      generalize (blC f n k)[k]'(by rw [blC_len]; exact hlt) = old at *
      go_wp2_with fail
      refine (unhide BK2).mono ?_
      rintro r w2 ⟨rfl, rfl⟩
      go_wp2
      go_roundw
      case rel => exact ⟨k + 1, by omega, by go_num, HN⟩
      case measure => simp [intOf]; omega
    · obtain rfl : k = n := by omega
      go_wp2
      go_ret
      exact ⟨_, rfl, ⟨gb, rfl, by rw [← unhide HGB]; exact Nat.le_refl _, (unhide HR).2⟩, (unhide HR).1⟩
end Go.Proofs.Ytcgmoadahdkbbaa
namespace Go.Proofs.Ytcgmoadahdkbbaa
open Go.RowKit Gt Cr

theorem info_rch : (Try.prog.info? 67).map (fun i => (i.zero, i.size, i.bytes)) = some (some (.agg #[.int .i64 0, .int .i64 0, .slice none 0 0, .int .i64 0]), 4, 48) := by kernel_rfl
theorem mk_rch (n : Nat) (hn : n ≤ 64) : ∃ Z : Array Value, Z.size = n * 4 ∧ ∀ W : World, (Instr.makeSlice 62 (.int .i64 (n : Int)) (.int .i64 (n : Int))).run Try.prog W = .ok (.slice (some ⟨W.heap.size, 0, none⟩) n n) (W.alloc (.cells Z 67)) := by
  obtain ⟨i0, hi, hz0, hz1, hz2⟩ := info_parts info_rch
  refine ⟨madeCells (Value.agg #[.int .i64 0, .int .i64 0, .slice none 0 0, .int .i64 0]).cells (n * 4), size_madeCells _ _, fun W => ?_⟩
  have h := run_make (P := Try.prog) W 62 67 i0 (.agg #[.int .i64 0, .int .i64 0, .slice none 0 0, .int .i64 0]) Try.underlying62 hi hz0 .i64 .i64 (n : Int) (n : Int) (by omega) (by omega) (by rw [hz2]; omega) (by omega)
  rw [hz1] at h
  simp only [Int.toNat_natCast] at h
  rw [h]
/-- The first k channels stand there. -/
structure RnS (w wr : World) (n k cap first : Nat) (cs : Array Value) : Prop where
  box : CBox (w.heap.size + 1) #[.slice (some ⟨w.heap.size, 0, none⟩) n n, .int .i64 0] 64 wr
  lb : CBox w.heap.size cs 67 wr
  sz : cs.size = n * 4
  c0 : ∀ j, j < k → cs[j * 4]? = some (.int .i64 (cap : Int)) ∧ cs[j * 4 + 1]? = some (.int .i64 0) ∧ cs[j * 4 + 2]? = some (.slice none 0 0) ∧ cs[j * 4 + 3]? = some (.int .i64 (first : Int))
  kp : Kp [] w wr
def rnW (W : World) (L k : Nat) (cap first : Nat) : World := (((W.setCell ⟨L, k * 4, none⟩ (.int .i64 (cap : Int))).setCell ⟨L, k * 4 + 1, none⟩ (.int .i64 0)).setCell ⟨L, k * 4 + 2, none⟩ (.slice none 0 0)).setCell ⟨L, k * 4 + 3, none⟩ (.int .i64 (first : Int))
theorem RnS.next {w wr : World} {n k cap first : Nat} {cs : Array Value} (h : RnS w wr n k cap first cs) (hk : k < n) : ∃ cs', RnS w (rnW wr w.heap.size k cap first) n (k + 1) cap first cs' := by
  have hsz : ∀ i, i < 4 → k * 4 + i < cs.size := fun i hi => by rw [h.sz]; omega
  have b4 := (((h.lb.set (k * 4) (.int .i64 (cap : Int))).set (k * 4 + 1) (.int .i64 0)).set (k * 4 + 2) (.slice none 0 0)).set (k * 4 + 3) (.int .i64 (first : Int))
  have kk : Kp [w.heap.size] wr (rnW wr w.heap.size k cap first) := (((Kp.set wr _ _ _).trans (Kp.set _ _ _ _) (fun _ hx => Or.inl hx)).trans (Kp.set _ _ _ _) (fun _ hx => Or.inl hx)).trans (Kp.set _ _ _ _) (fun _ hx => Or.inl hx)
  refine ⟨_, h.box.kp kk (by simp), b4, by simp [h.sz], fun j hj => ?_, h.kp.trans kk (fun x hx => Or.inr (by simp at hx; subst hx; exact Nat.le_refl _))⟩
  by_cases e : j = k
  · subst e
    refine ⟨?_, ?_, ?_, ?_⟩
    · rw [Array.getElem?_setIfInBounds_ne (by omega), Array.getElem?_setIfInBounds_ne (by omega), Array.getElem?_setIfInBounds_ne (by omega), Array.getElem?_setIfInBounds_self_of_lt (by have := hsz 0 (by omega); simpa using this)]
    · rw [Array.getElem?_setIfInBounds_ne (by omega), Array.getElem?_setIfInBounds_ne (by omega), Array.getElem?_setIfInBounds_self_of_lt (by rw [Array.size_setIfInBounds]; exact hsz 1 (by omega))]
    · rw [Array.getElem?_setIfInBounds_ne (by omega), Array.getElem?_setIfInBounds_self_of_lt (by rw [Array.size_setIfInBounds, Array.size_setIfInBounds]; exact hsz 2 (by omega))]
    · rw [Array.getElem?_setIfInBounds_self_of_lt (by rw [Array.size_setIfInBounds, Array.size_setIfInBounds, Array.size_setIfInBounds]; exact hsz 3 (by omega))]
  · obtain ⟨e0, e1, e2, e3⟩ := h.c0 j (by omega)
    refine ⟨?_, ?_, ?_, ?_⟩
    · rw [Array.getElem?_setIfInBounds_ne (by omega), Array.getElem?_setIfInBounds_ne (by omega), Array.getElem?_setIfInBounds_ne (by omega), Array.getElem?_setIfInBounds_ne (by omega)]; exact e0
    · rw [Array.getElem?_setIfInBounds_ne (by omega), Array.getElem?_setIfInBounds_ne (by omega), Array.getElem?_setIfInBounds_ne (by omega), Array.getElem?_setIfInBounds_ne (by omega)]; exact e1
    · rw [Array.getElem?_setIfInBounds_ne (by omega), Array.getElem?_setIfInBounds_ne (by omega), Array.getElem?_setIfInBounds_ne (by omega), Array.getElem?_setIfInBounds_ne (by omega)]; exact e2
    · rw [Array.getElem?_setIfInBounds_ne (by omega), Array.getElem?_setIfInBounds_ne (by omega), Array.getElem?_setIfInBounds_ne (by omega), Array.getElem?_setIfInBounds_ne (by omega)]; exact e3
theorem RnS.gate {w wr : World} {n cap first : Nat} {cs : Array Value} (h : RnS w wr n n cap first cs) (h0 : 0 < n) (h1 : n ≤ 64) (hc0 : 0 < cap) (hc1 : cap ≤ 256) : RgAt w.heap.size wr (w.heap.size + 1) w.heap.size (gt0 n cap first) :=
  ⟨⟨cs, fun _ => .slice none 0 0, ⟨h.box, h.lb, h.sz, fun k hk => (h.c0 k hk).1, fun k hk => (h.c0 k hk).2.1, fun k hk => (h.c0 k hk).2.2.1, fun k hk => (h.c0 k hk).2.2.2, fun k hk => Or.inl ⟨rfl, rfl⟩⟩, by omega, Nat.le_refl _⟩, ⟨h0, h1, h0, fun k hk => ⟨hc0, hc1, by simp [gt0, Ch.sto]⟩⟩⟩
set_option maxHeartbeats 4000000 in
set_option maxRecDepth 100000 in
theorem rNew_ok (n cap first : Nat) (w : World) (h0 : 0 < n) (h1 : n ≤ 64) (hc0 : 0 < cap) (hc1 : cap ≤ 256) (hf0 : 1 ≤ first) (hf1 : first ≤ 1073741824) :
    Calls Try.prog 8 #[.int .i64 (n : Int), .int .i64 (cap : Int), .int .i64 (first : Int)] w fun e w' => e = .returned (.tuple #[.pointer (some ⟨w.heap.size + 1, 0, none⟩), .int .i64 0]) ∧ RgAt w.heap.size w' (w.heap.size + 1) w.heap.size (gt0 n cap first) ∧ Kp [] w w' := by
  obtain ⟨Z, hZ, mk⟩ := mk_rch n h1
  have mk' := mk w
  have q1 : ¬ (n : Int) < 1 := by omega
  have q2 : ¬ (n : Int) > 64 := by omega
  have q3 : ¬ (cap : Int) < 1 := by omega
  have q4 : ¬ (cap : Int) > 256 := by omega
  have q5 : ¬ (first : Int) < 1 := by omega
  have q6 : ¬ (first : Int) > 1073741824 := by omega
  have H0 : Hid (RnS w ((w.alloc (.cells Z 67)).alloc (.cells #[.slice (some ⟨w.heap.size, 0, none⟩) n n, .int .i64 0] 64)) n 0 cap first Z) := hide ⟨by
    have := CBox.new (w.alloc (.cells Z 67)) #[.slice (some ⟨w.heap.size, 0, none⟩) n n, .int .i64 0] 64
    rw [World.size_alloc] at this
    exact this, (CBox.new w _ _).kp (Kp.alloc _ _) (by simp), hZ, fun j hj => absurd hj (Nat.not_lt_zero j), (Kp.alloc _ _).trans (Kp.alloc _ _) (by simp)⟩
  clear mk
  go_enter Try.func8, Try.ntmps8
  go_wp2
  generalize (w.alloc (.cells Z 67)).alloc (.cells #[.slice (some ⟨w.heap.size, 0, none⟩) n n, .int .i64 0] 64) = W0 at *
  clear q1 q2 q3 q4 q5 q6 mk'
  go_loopw [9] (fun i wr => ∃ k : Nat, k ≤ n ∧ i = .int .i64 (k : Int) ∧ Hid (∃ cs, RnS w wr n k cap first cs)) (fun i _ => n - (intOf i).toNat)
  case atStart => exact ⟨0, Nat.zero_le _, rfl, hide ⟨_, unhide H0⟩⟩
  case round =>
    obtain ⟨k, hk, rfl, HR⟩ := hrel
    by_cases hlt : k < n
    · have hli : (k : Int) < (n : Int) := by omega
      obtain ⟨cs, hR⟩ := unhide HR
      have hs := hR.sz
      have g : ∀ i, i < n * 4 → ∃ v, wr.cell? ⟨w.heap.size, i, none⟩ = some v := fun i hi => ⟨_, hR.lb.cell (Array.getElem?_eq_getElem (by rw [hs]; exact hi))⟩
      obtain ⟨v0, a0⟩ := g (k * 4) (by omega)
      obtain ⟨v1, a1⟩ := g (k * 4 + 1) (by omega)
      obtain ⟨v2, a2⟩ := g (k * 4 + 2) (by omega)
      obtain ⟨v3, a3⟩ := g (k * 4 + 3) (by omega)
      have f0 := hR.lb.froz (k * 4)
      have f1 := hR.lb.froz (k * 4 + 1)
      have f2 := hR.lb.froz (k * 4 + 2)
      have f3 := hR.lb.froz (k * 4 + 3)
      have bx := hR.box.cell (i := 0) (v := .slice (some ⟨w.heap.size, 0, none⟩) n n) rfl
      have HN := hide (hR.next hlt)
      clear hR g HR H0
      go_wp2
      go_roundw
      case rel => exact ⟨k + 1, by omega, by go_num, HN⟩
      case measure => simp [intOf]; omega
    · obtain rfl : k = n := by omega
      have HG : Hid (RgAt w.heap.size wr (w.heap.size + 1) w.heap.size (gt0 k cap first) ∧ Kp [] w wr) := hide (by
        obtain ⟨cs, hR⟩ := unhide HR
        exact ⟨hR.gate h0 h1 hc0 hc1, hR.kp⟩)
      clear HR H0
      go_wp2
      go_ret2
      exact ⟨rfl, unhide HG⟩
theorem rNew_not (n cap first : Int) (w : World) (h : ¬ ((1 ≤ n ∧ n ≤ 64) ∧ (1 ≤ cap ∧ cap ≤ 256) ∧ (1 ≤ first ∧ first ≤ 1073741824))) :
    Calls Try.prog 8 #[.int .i64 n, .int .i64 cap, .int .i64 first] w fun e w' => e = .returned (.tuple #[.pointer none, .int .i64 1]) ∧ w' = w := by
  by_cases a0 : n < 1
  · clear h
    go_enter Try.func8, Try.ntmps8
    go_wp2
    go_ret2
    exact ⟨rfl, rfl⟩
  by_cases a1 : n > 64
  · clear h
    go_enter Try.func8, Try.ntmps8
    go_wp2
    go_ret2
    exact ⟨rfl, rfl⟩
  by_cases a2 : cap < 1
  · clear h
    go_enter Try.func8, Try.ntmps8
    go_wp2
    go_ret2
    exact ⟨rfl, rfl⟩
  by_cases a3 : cap > 256
  · clear h
    go_enter Try.func8, Try.ntmps8
    go_wp2
    go_ret2
    exact ⟨rfl, rfl⟩
  by_cases a4 : first < 1
  · clear h
    go_enter Try.func8, Try.ntmps8
    go_wp2
    go_ret2
    exact ⟨rfl, rfl⟩
  have a9 : first > 1073741824 := by omega
  clear h
  go_enter Try.func8, Try.ntmps8
  go_wp2
  go_ret2
  exact ⟨rfl, rfl⟩
/-- A row of marks that was appended to, one by one. -/
def BqR (B : Nat) (W : World) (v : Value) (f : Nat → Bool) (k : Nat) : Prop := W.ownsRow B 4 1 v k ((List.range k).map fun j => .bool (f j))
theorem bq_form {B : Nat} {W : World} {v : Value} {f : Nat → Bool} {k : Nat} (h : BqR B W v f k) : ∃ ad cap, v = .slice ad k cap := by
  obtain ⟨_, ⟨rfl, h0⟩ | ⟨g, cp, cur, rfl, _⟩⟩ := h
  · exact ⟨none, 0, by rw [h0]⟩
  · exact ⟨_, _, rfl⟩
theorem bq_kp {B : Nat} {W W' : World} {v : Value} {f : Nat → Bool} {k : Nat} (h : BqR B W v f k) (hk : Kp [] W W') : BqR B W' v f k := by
  obtain ⟨h1, h2 | ⟨g', cp, cur, e, hb, hh, r⟩⟩ := h
  · exact ⟨h1, Or.inl h2⟩
  · exact ⟨h1, Or.inr ⟨g', cp, cur, e, hb, (hk.block g' (Array.getElem?_eq_some_iff.1 hh).1 (by simp)).trans hh, r⟩⟩
theorem bq_snoc (f : Nat → Bool) (k : Nat) : ((List.range (k + 1)).map fun j => Value.bool (f j)) = ((List.range k).map fun j => Value.bool (f j)) ++ [.bool (f k)] := by
  rw [List.range_succ, List.map_append]
  rfl
theorem bq_len (f : Nat → Bool) (k : Nat) : ((List.range k).map fun j => Value.bool (f j)).length = k := by simp
theorem bq_cell {B : Nat} {W : World} {g n cap : Nat} {f : Nat → Bool} {k : Nat} (h : BqR B W (.slice (some ⟨g, 0, none⟩) n cap) f k) {j : Nat} (hj : j < k) : W.cell? ⟨g, j, none⟩ = some (.bool (f j)) := by
  have := World.ownsRow.cells h (g := g) rfl j (.bool (f j)) (by simp [hj])
  rw [Go.WideShapes.add_plain, Nat.zero_add] at this
  exact this
theorem kp_own' {B : Nat} {w W W' : World} {v : Value} {f : Nat → Bool} {k : Nat} (hk : Kp [] w W) (h : BqR B W v f k) (hB : w.heap.size ≤ B) (hg : W.grownBy W' v.ownBlock) : Kp [] w W' := hk.trans (Kp.of hg) (fun x hx => Or.inr (by
  obtain ⟨_, ⟨rfl, _⟩ | ⟨g', cp, cur, rfl, hb, _⟩⟩ := h
  · cases hx
  · simp [Value.ownBlock] at hx
    subst hx
    omega))
set_option maxHeartbeats 8000000 in
set_option maxRecDepth 100000 in
theorem rBlocked_any (B b L : Nat) (G : Gt) (w : World) (h : RgAt B w b L G) :
    Calls Try.prog 11 #[.pointer (some ⟨b, 0, none⟩)] w fun e w' => ∃ v, e = .returned v ∧ BqR w.heap.size w' v (fun k => (G.ch k).blk) G.n ∧ Kp [] w w' := by
  have HL := hide (fun wr (k1 : Kp [] w wr) => (h.1.kp k1).lines.1)
  have HQ : Hid (∀ wr, Kp [] w wr → ∀ k, k < G.n → ((G.ch k).blk = false ∧ ∃ ad cap, wr.cell? ⟨L, k * 4 + 2, none⟩ = some (.slice ad 0 cap)) ∨ (∃ g off m cap, wr.cell? ⟨L, k * 4 + 2, none⟩ = some (.slice (some ⟨g, off, none⟩) m cap) ∧ 0 < m ∧ wr.cell? ⟨g, off + 1, none⟩ = some (.int .i64 ((G.ch k).hd.n : Int)) ∧ (G.ch k).blk = decide (0 < (G.ch k).hd.n))) := hide (fun wr k1 k hk => by
    obtain ⟨_, _, _, v, b2, hrq0⟩ := (h.1.kp k1).at hk
    have hrq : RqQ wr v (G.ch k).q := hrq0
    by_cases hq : 0 < (G.ch k).q.length
    · obtain ⟨g, off, cap, rfl, _, _, _, d1, _⟩ := rq_tail hrq hq
      exact Or.inr ⟨g, off, _, cap, b2, hq, d1, by rw [Ch.blk_eq, decide_eq_true hq, Bool.true_and]⟩
    · have h0 : (G.ch k).q.length = 0 := by omega
      obtain ⟨ad, cap, rfl⟩ := hrq.slice
      rw [h0] at b2
      exact Or.inl ⟨Ch.blk_zero h0, ad, cap, b2⟩)
  have hn1 := h.2.n1
  obtain ⟨i0, hi0, hz0, hz1, hz2⟩ := info_parts info_bo
  clear h
  generalize hf : (fun k => (G.ch k).blk) = f at *
  have hf' : ∀ k, (G.ch k).blk = f k := fun k => by rw [← hf]
  clear hf
  simp only [hf'] at HQ
  generalize G.n = n at *
  have H0 : Hid (BqR w.heap.size w (.slice none 0 0) f 0 ∧ Kp [] w w) := hide ⟨World.ownsRow_nil _ _ _ _, Kp.refl _ _⟩
  clear hf'
  go_enter Try.func11, Try.ntmps11
  go_wp2
  go_loopw [3, 4] (fun v i wr => ∃ k : Nat, k ≤ n ∧ i = .int .i64 (k : Int) ∧ (∃ ad cap, v = .slice ad k cap) ∧ Hid (BqR w.heap.size wr v f k ∧ Kp [] w wr)) (fun _ i _ => n - (intOf i).toNat)
  case atStart => exact ⟨0, Nat.zero_le _, rfl, ⟨_, _, rfl⟩, H0⟩
  case round =>
    obtain ⟨k, hk, rfl, ⟨ad, cap, rfl⟩, HR⟩ := hrel
    clear H0
    have d0 := unhide HL wr (unhide HR).2
    by_cases hlt : k < n
    · have hli : (k : Int) < (n : Int) := by omega
      have hsz := (unhide HR).2.size
      rcases unhide HQ wr (unhide HR).2 k hlt with ⟨hb, ad', cap', b2⟩ | ⟨g, off, m, cap', b2, hm, d1, hb⟩
      · have AP : Hid (BqR w.heap.size (wr.alloc (.cells #[.bool false] 4)) (.slice ad k cap) f k ∧ Kp [] w (wr.alloc (.cells #[.bool false] 4))) := hide ⟨bq_kp (unhide HR).1 (Kp.alloc _ _), (unhide HR).2.trans (Kp.alloc _ _) (by simp)⟩
        have NBX := CBox.new wr #[.bool false] 4
        have HNX := hide NBX
        clear NBX
        go_wp2_with (at_builtin; refine wpList_append_lies _ rfl _ _ 35 rfl w.heap.size 4 i0 (.bool false) 1 1 Try.underlying35 hi0 hz0 hz1 hz2 rfl (by decide) (.slice ad k cap) k ((List.range k).map fun j => .bool (f j)) rfl (unhide AP).1 ⟨wr.heap.size, 0, none⟩ 1 1 [.bool false] rfl rfl (fun j u hj => by rw [Go.WideShapes.add_plain, Nat.zero_add]; exact (unhide HNX).cell (by simpa using hj)) (by intro u hu; simp at hu; subst hu; rfl) (by omega) (by unfold maxLen; omega) (by omega) (by simp; omega) _ rfl ?_; intro g6 cap6 w6 hown6 hgr6 hat6 hlt6; have HN : Hid (BqR w.heap.size w6 (.slice (some ⟨g6, 0, none⟩) (k + 1) cap6) f (k + 1) ∧ Kp [] w w6) := hide ⟨by (unfold BqR; rw [bq_snoc, hb]; exact hown6), kp_own' (unhide AP).2 (unhide AP).1 (Nat.le_refl _) hgr6⟩; clear hown6 hgr6 hat6 hlt6)
        go_roundw
        case rel => exact ⟨k + 1, by omega, by go_num, ⟨_, _, rfl⟩, HN⟩
        case measure => simp [intOf]; omega
      · have hmi : (0 : Int) < (m : Int) := by omega
        by_cases hp : 0 < (G.ch k).hd.n
        · rw [decide_eq_true hp] at hb
          have hpi : (0 : Int) < ((G.ch k).hd.n : Int) := by omega
          generalize (G.ch k).hd.n = hn' at *
          have AP : Hid (BqR w.heap.size (wr.alloc (.cells #[.bool true] 4)) (.slice ad k cap) f k ∧ Kp [] w (wr.alloc (.cells #[.bool true] 4))) := hide ⟨bq_kp (unhide HR).1 (Kp.alloc _ _), (unhide HR).2.trans (Kp.alloc _ _) (by simp)⟩
          have NBX := CBox.new wr #[.bool true] 4
          have HNX := hide NBX
          clear NBX
          go_wp2_with (at_builtin; refine wpList_append_lies _ rfl _ _ 35 rfl w.heap.size 4 i0 (.bool false) 1 1 Try.underlying35 hi0 hz0 hz1 hz2 rfl (by decide) (.slice ad k cap) k ((List.range k).map fun j => .bool (f j)) rfl (unhide AP).1 ⟨wr.heap.size, 0, none⟩ 1 1 [.bool true] rfl rfl (fun j u hj => by rw [Go.WideShapes.add_plain, Nat.zero_add]; exact (unhide HNX).cell (by simpa using hj)) (by intro u hu; simp at hu; subst hu; rfl) (by omega) (by unfold maxLen; omega) (by omega) (by simp; omega) _ rfl ?_; intro g6 cap6 w6 hown6 hgr6 hat6 hlt6; have HN : Hid (BqR w.heap.size w6 (.slice (some ⟨g6, 0, none⟩) (k + 1) cap6) f (k + 1) ∧ Kp [] w w6) := hide ⟨by (unfold BqR; rw [bq_snoc, hb]; exact hown6), kp_own' (unhide AP).2 (unhide AP).1 (Nat.le_refl _) hgr6⟩; clear hown6 hgr6 hat6 hlt6)
          go_roundw
          case rel => exact ⟨k + 1, by omega, by go_num, ⟨_, _, rfl⟩, HN⟩
          case measure => simp [intOf]; omega
        · rw [decide_eq_false hp] at hb
          have hpi : ¬ (0 : Int) < ((G.ch k).hd.n : Int) := by omega
          generalize (G.ch k).hd.n = hn' at *
          have AP : Hid (BqR w.heap.size (wr.alloc (.cells #[.bool false] 4)) (.slice ad k cap) f k ∧ Kp [] w (wr.alloc (.cells #[.bool false] 4))) := hide ⟨bq_kp (unhide HR).1 (Kp.alloc _ _), (unhide HR).2.trans (Kp.alloc _ _) (by simp)⟩
          have NBX := CBox.new wr #[.bool false] 4
          have HNX := hide NBX
          clear NBX
          go_wp2_with (at_builtin; refine wpList_append_lies _ rfl _ _ 35 rfl w.heap.size 4 i0 (.bool false) 1 1 Try.underlying35 hi0 hz0 hz1 hz2 rfl (by decide) (.slice ad k cap) k ((List.range k).map fun j => .bool (f j)) rfl (unhide AP).1 ⟨wr.heap.size, 0, none⟩ 1 1 [.bool false] rfl rfl (fun j u hj => by rw [Go.WideShapes.add_plain, Nat.zero_add]; exact (unhide HNX).cell (by simpa using hj)) (by intro u hu; simp at hu; subst hu; rfl) (by omega) (by unfold maxLen; omega) (by omega) (by simp; omega) _ rfl ?_; intro g6 cap6 w6 hown6 hgr6 hat6 hlt6; have HN : Hid (BqR w.heap.size w6 (.slice (some ⟨g6, 0, none⟩) (k + 1) cap6) f (k + 1) ∧ Kp [] w w6) := hide ⟨by (unfold BqR; rw [bq_snoc, hb]; exact hown6), kp_own' (unhide AP).2 (unhide AP).1 (Nat.le_refl _) hgr6⟩; clear hown6 hgr6 hat6 hlt6)
          go_roundw
          case rel => exact ⟨k + 1, by omega, by go_num, ⟨_, _, rfl⟩, HN⟩
          case measure => simp [intOf]; omega
    · obtain rfl : k = n := by omega
      go_wp2
      go_ret
      exact ⟨_, rfl, unhide HR⟩
end Go.Proofs.Ytcgmoadahdkbbaa
