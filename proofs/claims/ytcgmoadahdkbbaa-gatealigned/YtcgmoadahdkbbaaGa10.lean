/-
  Gates: a gate is begun.
  Gates of a call's own; the chapter's example; a number from 0 to n - 1.
-/
import Derived.Test.YtcgmoadahdkbbaaGa05
import Derived.Laws.MakeOwn
import Derived.Deep.DeepCutAuto
import Derived.Test.YtcgmoadahdkbbaaGa09
namespace Go.Proofs.Ytcgmoadahdkbbaa
open Go.RowKit Gt Cr

theorem info_ln : (Try.prog.info? 71).map (fun i => (i.zero, i.size, i.bytes)) = some (some (.agg #[.pointer none, .slice none 0 0, .int .i64 0]), 3, 40) := by kernel_rfl
theorem mk_ln (n : Nat) (hn : n ≤ 64) : ∃ Z : Array Value, Z.size = n * 3 ∧ ∀ W : World, (Instr.makeSlice 57 (.int .i64 (n : Int)) (.int .i64 (n : Int))).run Try.prog W = .ok (.slice (some ⟨W.heap.size, 0, none⟩) n n) (W.alloc (.cells Z 71)) := by
  obtain ⟨i0, hi, hz0, hz1, hz2⟩ := info_parts info_ln
  refine ⟨madeCells (Value.agg #[.pointer none, .slice none 0 0, .int .i64 0]).cells (n * 3), size_madeCells _ _, fun W => ?_⟩
  have h := run_make (P := Try.prog) W 57 71 i0 (.agg #[.pointer none, .slice none 0 0, .int .i64 0]) Try.underlying57 hi hz0 .i64 .i64 (n : Int) (n : Int) (by omega) (by omega) (by rw [hz2]; omega) (by omega)
  rw [hz1] at h
  simp only [Int.toNat_natCast] at h
  rw [h]
/-- The first k lines stand there. -/
structure NlS (w wr : World) (n k cap first : Nat) (cs : Array Value) (rs : Nat → Nat) : Prop where
  lb : CBox w.heap.size cs 71 wr
  sz : cs.size = n * 3
  c0 : ∀ j, j < k → cs[j * 3]? = some (.pointer (some ⟨rs j, 0, none⟩))
  c1 : ∀ j, j < k → cs[j * 3 + 1]? = some (.slice none 0 0)
  c2 : ∀ j, j < k → cs[j * 3 + 2]? = some (.int .i64 (first : Int))
  rm : ∀ j, j < k → CrAt wr (rs j) ⟨cap, 0, []⟩
  dr : ∀ i j, i < k → j < k → i ≠ j → rs i ≠ rs j
  lo : ∀ j, j < k → w.heap.size < rs j
  kp : Kp [] w wr
theorem NlS.start (w : World) (n cap first : Nat) {Z : Array Value} (hZ : Z.size = n * 3) : NlS w (w.alloc (.cells Z 71)) n 0 cap first Z (fun _ => 0) :=
  ⟨CBox.new w _ _, hZ, fun j hj => absurd hj (Nat.not_lt_zero j), fun j hj => absurd hj (Nat.not_lt_zero j), fun j hj => absurd hj (Nat.not_lt_zero j), fun j hj => absurd hj (Nat.not_lt_zero j), fun j _ hj => absurd hj (Nat.not_lt_zero j), fun j hj => absurd hj (Nat.not_lt_zero j), Kp.alloc _ _⟩
/-- The world behind one line more. -/
def nlW (w1 : World) (L k r : Nat) (first : Nat) : World := ((w1.setCell ⟨L, k * 3, none⟩ (.pointer (some ⟨r, 0, none⟩))).setCell ⟨L, k * 3 + 1, none⟩ (.slice none 0 0)).setCell ⟨L, k * 3 + 2, none⟩ (.int .i64 (first : Int))
theorem NlS.next {w wr w1 : World} {n k cap first : Nat} {cs : Array Value} {rs : Nat → Nat} (h : NlS w wr n k cap first cs rs) (hk : k < n) (h1 : CrAt w1 wr.heap.size ⟨cap, 0, []⟩) (k1 : Kp [] wr w1) :
    ∃ cs' rs', NlS w (nlW w1 w.heap.size k wr.heap.size first) n (k + 1) cap first cs' rs' := by
  have hLs : w.heap.size < wr.heap.size := (Array.getElem?_eq_some_iff.1 h.lb).1
  have hsz : ∀ i, i < 3 → k * 3 + i < cs.size := fun i hi => by rw [h.sz]; omega
  have b3 := (((h.lb.kp k1 (by simp)).set (k * 3) (.pointer (some ⟨wr.heap.size, 0, none⟩))).set (k * 3 + 1) (.slice none 0 0)).set (k * 3 + 2) (.int .i64 (first : Int))
  have kk : Kp [w.heap.size] w1 (nlW w1 w.heap.size k wr.heap.size first) := ((Kp.set w1 _ _ _).trans (Kp.set _ _ _ _) (fun _ hx => Or.inl hx)).trans (Kp.set _ _ _ _) (fun _ hx => Or.inl hx)
  have old : ∀ j, j < k → ∀ i, i < 3 → (((cs.setIfInBounds (k * 3) (.pointer (some ⟨wr.heap.size, 0, none⟩))).setIfInBounds (k * 3 + 1) (.slice none 0 0)).setIfInBounds (k * 3 + 2) (.int .i64 (first : Int)))[j * 3 + i]? = cs[j * 3 + i]? := fun j hj i hi => by
    rw [Array.getElem?_setIfInBounds_ne (by omega), Array.getElem?_setIfInBounds_ne (by omega), Array.getElem?_setIfInBounds_ne (by omega)]
  refine ⟨_, fun j => if j = k then wr.heap.size else rs j, b3, by simp [h.sz], ?_, ?_, ?_, ?_, ?_, ?_, ?_⟩
  · intro j hj
    by_cases e : j = k
    · subst e
      rw [if_pos rfl, Array.getElem?_setIfInBounds_ne (by omega), Array.getElem?_setIfInBounds_ne (by omega), Array.getElem?_setIfInBounds_self_of_lt (by have := hsz 0 (by omega); simpa using this)]
    · rw [if_neg e]
      exact (old j (by omega) 0 (by omega)).trans (h.c0 j (by omega))
  · intro j hj
    by_cases e : j = k
    · subst e
      rw [Array.getElem?_setIfInBounds_ne (by omega), Array.getElem?_setIfInBounds_self_of_lt (by rw [Array.size_setIfInBounds]; exact hsz 1 (by omega))]
    · exact (old j (by omega) 1 (by omega)).trans (h.c1 j (by omega))
  · intro j hj
    by_cases e : j = k
    · subst e
      rw [Array.getElem?_setIfInBounds_self_of_lt (by rw [Array.size_setIfInBounds, Array.size_setIfInBounds]; exact hsz 2 (by omega))]
    · exact (old j (by omega) 2 (by omega)).trans (h.c2 j (by omega))
  · intro j hj
    by_cases e : j = k
    · subst e
      rw [if_pos rfl]
      exact h1.kp kk (by simp; omega)
    · rw [if_neg e]
      have := h.lo j (by omega)
      exact ((h.rm j (by omega)).kp k1 (by simp)).kp kk (by simp; omega)
  · intro i j hi hj hne
    have lt : ∀ x, x < k → rs x < wr.heap.size := fun x hx => (h.rm x hx).lt
    by_cases e : i = k
    · subst e
      rw [if_pos rfl, if_neg (fun e => hne e.symm)]
      have := lt j (by omega)
      omega
    · rw [if_neg e]
      by_cases e2 : j = k
      · subst e2
        rw [if_pos rfl]
        have := lt i (by omega)
        omega
      · rw [if_neg e2]
        exact h.dr i j (by omega) (by omega) hne
  · intro j hj
    by_cases e : j = k
    · subst e
      rw [if_pos rfl]
      exact hLs
    · rw [if_neg e]
      exact h.lo j (by omega)
  · exact (h.kp.trans k1 (by simp)).trans kk (fun x hx => Or.inr (by simp at hx; subst hx; exact Nat.le_refl _))
theorem NlS.gate {w wr : World} {n cap first : Nat} {cs : Array Value} {rs : Nat → Nat} (h : NlS w wr n n cap first cs rs) (h0 : 0 < n) (h1 : n ≤ 64) (hc0 : 0 < cap) (hc1 : cap ≤ 256) :
    GtAt w.heap.size (wr.alloc (.cells #[.slice (some ⟨w.heap.size, 0, none⟩) n n, .int .i64 0] 61)) wr.heap.size w.heap.size (gt0 n cap first) ∧ Kp [] w (wr.alloc (.cells #[.slice (some ⟨w.heap.size, 0, none⟩) n n, .int .i64 0] 61)) := by
  have ka := Kp.alloc wr (.cells #[.slice (some ⟨w.heap.size, 0, none⟩) n n, .int .i64 0] 61)
  have hok : (gt0 n cap first).Ok := ⟨h0, h1, h0, fun k hk => ⟨hc0, hc1, by simp [gt0, Ch.sto]⟩⟩
  refine ⟨⟨cs, rs, fun _ => .slice none 0 0, ⟨CBox.new wr _ _, h.lb.kp ka (by simp), h.sz, h.c0, h.c1, h.c2, fun k hk => (h.rm k hk).kp ka (by simp), fun k hk => ItRow.nil _, h.dr, fun _ _ _ _ _ g hg => (by cases hg), hok⟩, ⟨h.kp.size, Nat.le_refl _, fun k hk => Nat.le_of_lt (h.lo k hk), fun k hk g hg => (by cases hg)⟩⟩, h.kp.trans ka (by simp)⟩
set_option maxHeartbeats 4000000 in
set_option maxRecDepth 100000 in
theorem newLines_ok (n cap first : Nat) (w : World) (_h0 : 0 < n) (h1 : n ≤ 64) (hc0 : 0 < cap) (hc1 : cap ≤ 256) :
    Calls Try.prog 20 #[.int .i64 (n : Int), .int .i64 (cap : Int), .int .i64 (first : Int)] w fun e w' => e = .returned (.tuple #[.slice (some ⟨w.heap.size, 0, none⟩) n n, .int .i64 0]) ∧ ∃ cs rs, NlS w w' n n cap first cs rs := by
  obtain ⟨Z, hZ, mk⟩ := mk_ln n h1
  have mk' := mk w
  have NS := hide (fun W => newStore_ok cap W hc0 hc1)
  have H0 := hide (NlS.start w n cap first hZ)
  clear mk
  go_enter Try.func20, Try.ntmps20
  go_wp2
  generalize w.alloc (.cells Z 71) = W0 at *
  go_loopw [16] (fun i wr => ∃ k : Nat, k ≤ n ∧ i = .int .i64 (k : Int) ∧ Hid (∃ cs rs, NlS w wr n k cap first cs rs)) (fun i _ => n - (intOf i).toNat)
  case atStart => exact ⟨0, Nat.zero_le _, rfl, hide ⟨_, _, unhide H0⟩⟩
  case round =>
    obtain ⟨k, hk, rfl, HR⟩ := hrel
    by_cases hlt : k < n
    · have hli : (k : Int) < (n : Int) := by omega
      obtain ⟨cs, rs, hR⟩ := unhide HR
      have HB : Hid (∀ w1, Kp [] wr w1 → (∃ v, w1.cell? ⟨w.heap.size, k * 3, none⟩ = some v) ∧ (∃ v, w1.cell? ⟨w.heap.size, k * 3 + 1, none⟩ = some v) ∧ (∃ v, w1.cell? ⟨w.heap.size, k * 3 + 2, none⟩ = some v) ∧ w1.frozen? ⟨w.heap.size, k * 3, none⟩ = false ∧ w1.frozen? ⟨w.heap.size, k * 3 + 1, none⟩ = false ∧ w1.frozen? ⟨w.heap.size, k * 3 + 2, none⟩ = false) := hide (fun w1 k1 => by
        have hb := hR.lb.kp k1 (by simp)
        have hs := hR.sz
        have g : ∀ i, i < n * 3 → ∃ v, w1.cell? ⟨w.heap.size, i, none⟩ = some v := fun i hi => ⟨_, hb.cell (Array.getElem?_eq_getElem (by rw [hs]; exact hi))⟩
        exact ⟨g _ (by omega), g _ (by omega), g _ (by omega), hb.froz _, hb.froz _, hb.froz _⟩)
      have HN := hide (fun w1 a b => hR.next (w1 := w1) hlt a b)
      clear hR
      generalize hL : w.heap.size = L at *
      have HL := hide hL
      clear hL
      go_wp2_with fail
      refine (unhide NS _).mono ?_
      rintro r w1 ⟨rfl, h2, h3⟩
      obtain ⟨⟨v0, a0⟩, ⟨v1, a1⟩, ⟨v2, a2⟩, f0, f1, f2⟩ := unhide HB w1 h3
      have HN2 := hide (unhide HN w1 h2 h3)
      clear h2 h3 HN HB NS
      go_wp2
      go_roundw
      case rel => exact ⟨k + 1, by omega, by go_num, HN2⟩
      case measure => simp [intOf]; omega
    · obtain rfl : k = n := by omega
      go_wp2
      go_ret2
      exact ⟨rfl, unhide HR⟩
set_option maxHeartbeats 4000000 in
set_option maxRecDepth 100000 in
theorem newLines_not (n : Nat) (cap first : Int) (w : World) (h0 : 0 < n) (h1 : n ≤ 64) (hc : ¬ (1 ≤ cap ∧ cap ≤ 256)) :
    Calls Try.prog 20 #[.int .i64 (n : Int), .int .i64 cap, .int .i64 first] w fun e w' => e = .returned (.tuple #[.slice none 0 0, .int .i64 1]) ∧ Kp [] w w' := by
  obtain ⟨Z, hZ, mk⟩ := mk_ln n h1
  have mk' := mk w
  have NS := hide (fun W => newStore_not cap W hc)
  have H0 := hide (Kp.alloc w (.cells Z 71))
  have hni : (0 : Int) < (n : Int) := by omega
  clear mk hc
  go_enter Try.func20, Try.ntmps20
  go_wp2
  generalize w.alloc (.cells Z 71) = W0 at *
  go_loopw [16] (fun i wr => i = .int .i64 0 ∧ wr = W0) (fun _ _ => 0)
  case atStart => exact ⟨rfl, rfl⟩
  case round =>
    obtain ⟨rfl, rfl⟩ := hrel
    go_wp2_with fail
    refine (unhide NS _).mono ?_
    rintro r w1 ⟨rfl, rfl⟩
    go_wp2
    go_ret2
    exact ⟨rfl, unhide H0⟩
set_option maxHeartbeats 2000000 in
theorem newGate_ok (n cap first : Nat) (w : World) (h0 : 0 < n) (h1 : n ≤ 64) (hc0 : 0 < cap) (hc1 : cap ≤ 256) (hf0 : 1 ≤ first) (hf1 : first ≤ 1073741824) :
    Calls Try.prog 7 #[.int .i64 (n : Int), .int .i64 (cap : Int), .int .i64 (first : Int)] w fun e w' => ∃ b, e = .returned (.tuple #[.pointer (some ⟨b, 0, none⟩), .int .i64 0]) ∧ GtAt w.heap.size w' b w.heap.size (gt0 n cap first) ∧ Kp [] w w' := by
  have NL := hide (newLines_ok n cap first w h0 h1 hc0 hc1)
  have a1 : ¬ (n : Int) < 1 := by omega
  have a2 : ¬ (n : Int) > 64 := by omega
  have a3 : ¬ (first : Int) < 1 := by omega
  have a4 : ¬ (first : Int) > 1073741824 := by omega
  go_enter Try.func7, Try.ntmps7
  go_wp2_with fail
  refine (unhide NL).mono ?_
  rintro r w1 ⟨rfl, cs, rs, h2⟩
  have H2 := hide (h2.gate h0 h1 hc0 hc1)
  clear h2 NL
  go_wp2
  go_ret2
  exact ⟨_, rfl, (unhide H2).1, (unhide H2).2⟩
set_option maxHeartbeats 2000000 in
theorem newGate_not (n cap first : Int) (w : World) (h : ¬ ((1 ≤ n ∧ n ≤ 64) ∧ (1 ≤ cap ∧ cap ≤ 256) ∧ (1 ≤ first ∧ first ≤ 1073741824))) :
    Calls Try.prog 7 #[.int .i64 n, .int .i64 cap, .int .i64 first] w fun e w' => e = .returned (.tuple #[.pointer none, .int .i64 1]) ∧ Kp [] w w' := by
  by_cases a1 : n < 1
  · clear h
    go_enter Try.func7, Try.ntmps7
    go_wp2
    go_ret2
    exact ⟨rfl, Kp.refl _ _⟩
  by_cases a2 : n > 64
  · clear h
    go_enter Try.func7, Try.ntmps7
    go_wp2
    go_ret2
    exact ⟨rfl, Kp.refl _ _⟩
  by_cases a3 : first < 1
  · clear h
    go_enter Try.func7, Try.ntmps7
    go_wp2
    go_ret2
    exact ⟨rfl, Kp.refl _ _⟩
  by_cases a4 : first > 1073741824
  · clear h
    go_enter Try.func7, Try.ntmps7
    go_wp2
    go_ret2
    exact ⟨rfl, Kp.refl _ _⟩
  have hc : ¬ (1 ≤ cap ∧ cap ≤ 256) := by omega
  obtain ⟨m, rfl⟩ : ∃ m : Nat, n = (m : Int) := ⟨n.toNat, by omega⟩
  have NL := hide (newLines_not m cap first w (by omega) (by omega) hc)
  clear h
  go_enter Try.func7, Try.ntmps7
  go_wp2_with fail
  refine (unhide NL).mono ?_
  rintro r w1 ⟨rfl, h2⟩
  have H2 := hide h2
  clear h2 NL
  go_wp2
  go_ret2
  exact ⟨rfl, unhide H2⟩
end Go.Proofs.Ytcgmoadahdkbbaa
namespace Go.Proofs.Ytcgmoadahdkbbaa
open Go.RowKit Gt Cr

set_option maxHeartbeats 400000 in
theorem gAmong_any (x n : Int) (w : World) (hn : 0 < n) (hn1 : n ≤ 1099511627776) :
    Calls Try.prog 13 #[.int .i64 x, .int .i64 n] w fun e w' => e = .returned (.int .i64 (x % n)) ∧ w' = w := by
  have hne : (n == 0) = false := beq_eq_false_iff_ne.2 (by omega)
  have e1 := among_eq x n hn
  have b1 : -n < x.tmod n := Int.lt_tmod_of_pos x hn
  have b2 : x.tmod n < n := Int.tmod_lt_of_pos x hn
  go_enter Try.func13, Try.ntmps13
  go_wp2
  go_ret
  exact ⟨rfl, rfl⟩
theorem kp_ko {P : Obj → Bool} {w W W' : World} (h : Kp [] w W) (k : Ko P w.heap.size W W') : Kp [] w W' := by
  have hb := k.below h.size
  exact ⟨hb.os.trans h.os, hb.tape.trans h.tape, hb.output.trans h.output, Nat.le_trans h.size hb.size, fun g hg hF => (hb.block g hg).trans (h.block g hg hF)⟩
theorem CBox.ko {P : Obj → Bool} {B : Nat} {w w' : World} {b : Nat} {cs : Array Value} {t : TypeId} (h : CBox b cs t w) (k : Ko P B w w') (hP : b < B ∨ P (.cells cs t (0, 0)) = false) : CBox b cs t w' := k.block b _ h hP
/-- A gate of the call's own. -/
structure Wk (w W : World) (b L : Nat) (G : Gt) : Prop where
  gt : GtAt w.heap.size W b L G
  kp : Kp [] w W
theorem Wk.quiet {w W W' : World} {b L : Nat} {G : Gt} (h : Wk w W b L G) (k : Kp [] W W') : Wk w W' b L G := ⟨h.gt.kp k, h.kp.trans k (by simp)⟩
theorem Wk.step {w W W' : World} {b L : Nat} {G G' : Gt} (h : Wk w W b L G) (a : GtAt w.heap.size W' b L G') (k : Ko gtO w.heap.size W W') : Wk w W' b L G' := ⟨a, kp_ko h.kp k⟩
section
variable {w W : World} {b L : Nat} {G : Gt}
theorem Wk.give (h : Wk w W b L G) (c most : Int) {n : Nat} {e0 : Int} (hn : G.gvN c most = n) (he : G.gvE c most = e0) : Calls Try.prog 16 #[.pointer (some ⟨b, 0, none⟩), .int .i64 c, .int .i64 most] W fun e W' => e = .returned (.tuple #[.int .i64 (n : Int), .int .i64 e0]) ∧ Wk w W' b L (G.gvS c most) ∧ Ko gtO w.heap.size W W' := by
  subst hn he
  exact (gGive_any _ b L G c most W h.gt).mono fun _ _ ⟨h1, h2, h3⟩ => ⟨h1, h.step h2 h3, h3⟩
theorem Wk.text (h : Wk w W b L G) (c : Int) (t : ByteArray) (ht : t.size ≤ 9223372036854775807) {e0 : Int} (he : G.txE c t = e0) : Calls Try.prog 17 #[.pointer (some ⟨b, 0, none⟩), .int .i64 c, .string t] W fun e W' => e = .returned (.int .i64 e0) ∧ Wk w W' b L (G.txS c t) ∧ Ko gtO w.heap.size W W' := by
  subst he
  exact (gText_any _ b L G c t W h.gt ht).mono fun _ _ ⟨h1, h2, h3⟩ => ⟨h1, h.step h2 h3, h3⟩
theorem Wk.bar (h : Wk w W b L G) (c n : Int) (hn : ∀ k, k < G.n → (G.ch k).next ≤ 4611686018427387904) {e0 : Int} (he : G.baE c n = e0) : Calls Try.prog 18 #[.pointer (some ⟨b, 0, none⟩), .int .i64 c, .int .i64 n] W fun e W' => e = .returned (.int .i64 e0) ∧ Wk w W' b L (G.baS c n) ∧ Ko gtO w.heap.size W W' := by
  subst he
  exact (gBarrier_any _ b L G c n W h.gt hn).mono fun _ _ ⟨h1, h2, h3⟩ => ⟨h1, h.step h2 h3, h3⟩
theorem Wk.pull (h : Wk w W b L G) {c e0 : Int} {t : ByteArray} {m : Nat} (hc : G.plC = c) (ht : G.plT = t) (hm : G.plB = m) (he : G.plE = e0) : Calls Try.prog 15 #[.pointer (some ⟨b, 0, none⟩)] W fun e W' => e = .returned (.tuple #[.int .i64 c, .string t, .int .i64 (m : Int), .int .i64 e0]) ∧ Wk w W' b L G.plS ∧ Ko gtO w.heap.size W W' := by
  subst hc ht hm he
  exact (gPull_any _ b L G W h.gt).mono fun _ _ ⟨h1, h2, h3⟩ => ⟨h1, h.step h2 h3, h3⟩
end
/-- The gates of the example. -/
def wg (k : Nat) : Gt := match k with
  | 0 => gt0 2 9 1
  | 1 => (gt0 2 9 1).gvS 0 9
  | 2 => ((gt0 2 9 1).gvS 0 9).gvS 1 9
  | 3 => (((gt0 2 9 1).gvS 0 9).gvS 1 9).txS 0 ⟨#[97]⟩
  | 4 => ((((gt0 2 9 1).gvS 0 9).gvS 1 9).txS 0 ⟨#[97]⟩).baS 0 1
  | 5 => (((((gt0 2 9 1).gvS 0 9).gvS 1 9).txS 0 ⟨#[97]⟩).baS 0 1).txS 0 ⟨#[98]⟩
  | 6 => ((((((gt0 2 9 1).gvS 0 9).gvS 1 9).txS 0 ⟨#[97]⟩).baS 0 1).txS 0 ⟨#[98]⟩).txS 1 ⟨#[99]⟩
  | 7 => (((((((gt0 2 9 1).gvS 0 9).gvS 1 9).txS 0 ⟨#[97]⟩).baS 0 1).txS 0 ⟨#[98]⟩).txS 1 ⟨#[99]⟩).txS 1 ⟨#[100]⟩
  | _ => ((((((((gt0 2 9 1).gvS 0 9).gvS 1 9).txS 0 ⟨#[97]⟩).baS 0 1).txS 0 ⟨#[98]⟩).txS 1 ⟨#[99]⟩).txS 1 ⟨#[100]⟩).baS 1 1
def wp (k : Nat) : Gt := match k with
  | 0 => wg 8
  | 1 => (wg 8).plS
  | 2 => (wg 8).plS.plS
  | 3 => (wg 8).plS.plS.plS
  | 4 => (wg 8).plS.plS.plS.plS
  | _ => (wg 8).plS.plS.plS.plS.plS
theorem wg_next (k : Nat) (hk : k < 9) : ∀ j, j < (wg k).n → ((wg k).ch j).next ≤ 4611686018427387904 := by
  have h : ∀ i : Fin 9, (wg i.val).n = 2 ∧ ((wg i.val).ch 0).next ≤ 2 ∧ ((wg i.val).ch 1).next ≤ 2 := by decide
  intro j hj
  obtain ⟨h1, h2, h3⟩ := h ⟨k, hk⟩
  dsimp only at h1 h2 h3
  match j, (by omega : j < 2) with
  | 0, _ => omega
  | 1, _ => omega
/-- The example's row of what is pulled. -/
def wkC : Array Value := #[.int .i64 0, .string ⟨#[97]⟩, .int .i64 0, .int .i64 1, .string ⟨#[99]⟩, .int .i64 0, .int .i64 1, .string ⟨#[100]⟩, .int .i64 0, .int .i64 (-1), .string ⟨#[]⟩, .int .i64 1, .int .i64 0, .string ⟨#[98]⟩, .int .i64 0]
end Go.Proofs.Ytcgmoadahdkbbaa
