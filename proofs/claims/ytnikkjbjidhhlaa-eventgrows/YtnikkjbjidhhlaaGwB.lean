/-
  EventGrows: two matches in the making, side by side.
-/
import Derived.Test.YtnikkjbjidhhlaaGwA
namespace Go.Proofs.Ytnikkjbjidhhlaa
open Go.RowKit

structure TwS (w W : World) (gm gl : Nat) (k : ByteArray) (vm vl : Value) (ms ls : List Value) (pm pl : List (List Int)) : Prop where
  kp : Kp [] w W
  sm : Side W gm k vm ms pm
  sl : Side W gl k vl ls pl
  ne : gm ≠ gl
  om : ∀ b ∈ sideF gm vm, w.heap.size ≤ b
  ol : ∀ b ∈ sideF gl vl, w.heap.size ≤ b
  ap : ∀ b, vm.ownBlock = some b → vl.ownBlock ≠ some b
section
variable {w W : World} {gm gl : Nat} {k : ByteArray} {vm vl : Value} {ms ls : List Value} {pm pl : List (List Int)}
theorem TwS.swap (h : TwS w W gm gl k vm vl ms ls pm pl) : TwS w W gl gm k vl vm ls ms pl pm :=
  ⟨h.kp, h.sl, h.sm, fun e => h.ne e.symm, h.ol, h.om, fun b h1 h2 => h.ap b h2 h1⟩
theorem TwS.on (h : TwS w W gm gl k vm vl ms ls pm pl) {W' : World} (hk : Kp [] W W') : TwS w W' gm gl k vm vl ms ls pm pl :=
  ⟨h.kp.trans hk (by simp), h.sm.kp hk, h.sl.kp hk, h.ne, h.om, h.ol, h.ap⟩
theorem TwS.push (h : TwS w W gm gl k vm vl ms ls pm pl) {r : Value} {p : List Int} (hr : IRo W r p) {w7 : World} {g7 cap7 : Nat}
    (hown : w7.ownsRow 0 34 1 (.slice (some ⟨g7, 0, none⟩) (ms.length + 1) cap7) (ms.length + 1) (ms ++ [r])) (hgr : (W.alloc (.cells #[r] 34)).grownBy w7 vm.ownBlock) (hat : vm.ownBlock = some g7 ∨ g7 = (W.alloc (.cells #[r] 34)).heap.size) :
    TwS w (w7.setCell ⟨gm, 1, none⟩ (.slice (some ⟨g7, 0, none⟩) (ms.length + 1) cap7)) gm gl k (.slice (some ⟨g7, 0, none⟩) (ms.length + 1) cap7) vl (ms ++ [r]) ls (pm ++ [p]) pl ∧ w7.cell? ⟨gm, 1, none⟩ = some vm ∧ w7.frozen? ⟨gm, 1, none⟩ = false ∧ W.heap.size ≤ (w7.setCell ⟨gm, 1, none⟩ (.slice (some ⟨g7, 0, none⟩) (ms.length + 1) cap7)).heap.size := by
  obtain ⟨s7, k7, c7, f7⟩ := h.sm.push hr hown hgr hat
  have hs := h.kp.size
  refine ⟨⟨h.kp.trans k7 (fun x hx => Or.inr (h.om x hx)), s7, h.sl.kpT k7 ?_ ?_ h.sm.noI, h.ne, ?_, h.ol, ?_⟩, c7, f7, k7.size⟩
  · intro hm
    rcases List.mem_cons.1 hm with e | hm
    · exact h.ne e.symm
    · exact h.sl.apart h.sm (by simpa using hm : vm.ownBlock = some gl) rfl
  · intro b hb hm
    rcases List.mem_cons.1 hm with e | hm
    · exact h.sm.apart h.sl hb e
    · exact h.ap b (by simpa using hm) hb
  · intro b hb
    rcases List.mem_cons.1 hb with e | hb
    · rw [e]; exact h.om gm List.mem_cons_self
    · have e : b = g7 := by simpa [Value.ownBlock] using hb
      subst e
      rcases hat with e | e
      · exact h.om _ (List.mem_cons_of_mem _ (by rw [e]; simp))
      · rw [e]; simp; omega
  · intro b hb hv
    have e : g7 = b := by simpa [Value.ownBlock] using hb
    subst e
    rcases hat with e | e
    · exact h.ap _ e hv
    · obtain ⟨cur, hc⟩ := h.sl.row.block hv
      have := (Array.getElem?_eq_some_iff.1 hc).1
      rw [e] at this
      simp at this
      omega
end
/-- The last row's block is none of the others'. -/
def LaS (w W : World) (ms ls : List Value) : Prop := (∀ v ∈ ms ++ ls, ∀ b, v.ownBlock = some b → w.heap.size ≤ b ∧ b < W.heap.size) ∧ ∀ (A : List Value) (r : Value), ms = A ++ [r] → ∀ b, r.ownBlock = some b → ∀ v ∈ A ++ ls, v.ownBlock ≠ some b
theorem LaS.nil (w W : World) : LaS w W [] [] := ⟨fun v hv => by simp at hv, fun A r e => by simp at e⟩
theorem LaS.on {w W W' : World} {ms ls : List Value} (h : LaS w W ms ls) (hs : W.heap.size ≤ W'.heap.size) : LaS w W' ms ls := ⟨fun v hv b hb => ⟨(h.1 v hv b hb).1, Nat.lt_of_lt_of_le (h.1 v hv b hb).2 hs⟩, h.2⟩
theorem LaS.more {w W W' : World} {ms ls : List Value} (h : LaS w W ms ls) (hw : w.heap.size ≤ W.heap.size) (hs : W.heap.size ≤ W'.heap.size) {r : Value} (hr : ∀ b, r.ownBlock = some b → W.heap.size ≤ b ∧ b < W'.heap.size) : LaS w W' (ms ++ [r]) ls := by
  refine ⟨fun v hv b hb => ?_, fun A r' e b hb v hv hvb => ?_⟩
  · rcases List.mem_append.1 hv with hv | hv
    · rcases List.mem_append.1 hv with hv | hv
      · have := h.1 v (List.mem_append.2 (Or.inl hv)) b hb; omega
      · rw [List.mem_singleton] at hv
        subst hv
        have := hr b hb; omega
    · have := h.1 v (List.mem_append.2 (Or.inr hv)) b hb; omega
  · obtain ⟨e1, e2⟩ := List.append_inj' e rfl
    simp at e2
    subst e1 e2
    have h1 := hr b hb
    have h2 := h.1 v hv b hvb
    omega
theorem LaS.later {w W W' : World} {ms ls : List Value} (h : LaS w W ms ls) (hw : w.heap.size ≤ W.heap.size) (hs : W.heap.size ≤ W'.heap.size) {x : Value} (hx : ∀ b, x.ownBlock = some b → W.heap.size ≤ b ∧ b < W'.heap.size) : LaS w W' ms (ls ++ [x]) := by
  refine ⟨fun v hv b hb => ?_, fun A r e b hb v hv hvb => ?_⟩
  · rw [← List.append_assoc] at hv
    rcases List.mem_append.1 hv with hv | hv
    · have := h.1 v hv b hb; omega
    · rw [List.mem_singleton] at hv
      subst hv
      have := hx b hb; omega
  · rw [← List.append_assoc] at hv
    rcases List.mem_append.1 hv with hv | hv
    · exact h.2 A r e b hb v hv hvb
    · rw [List.mem_singleton] at hv
      subst hv
      have h1 := hx b hvb
      have h2 := h.1 r (by rw [e]; simp) b hb
      omega
/-- The state of the loop. -/
structure GwS (w W : World) (gm gl : Nat) (k : ByteArray) (vm vl : Value) (ms ls : List Value) (pm pl : List (List Int)) : Prop where
  tw : TwS w W gm gl k vm vl ms ls pm pl
  la : LaS w W ms ls
theorem Side.form {w : World} {g : Nat} {k : ByteArray} {v : Value} {vs : List Value} {ps : List (List Int)} (h : Side w g k v vs ps) : ∃ a c, v = .slice a vs.length c := by
  obtain ⟨h0, ⟨rfl, h1⟩ | ⟨g', cap, cur, rfl, hg, hh, h2, h3, h4, h5⟩⟩ := h.row
  · exact ⟨none, 0, by rw [h1]⟩
  · exact ⟨_, _, rfl⟩
/-- Both begin without stages. -/
theorem GwS.start (w : World) (k : ByteArray) (gm gl : Nat) (h : gm = w.heap.size ∧ gl = w.heap.size + 1 ∨ gm = w.heap.size + 1 ∧ gl = w.heap.size) :
    GwS w ((w.alloc (.cells #[.string k, .slice none 0 0] 28)).alloc (.cells #[.string k, .slice none 0 0] 28)).drew gm gl k (.slice none 0 0) (.slice none 0 0) [] [] [] [] := by
  have b1 := (CBox.new w #[.string k, .slice none 0 0] 28).kp (Kp.alloc (w.alloc (.cells #[.string k, .slice none 0 0] 28)) (.cells #[.string k, .slice none 0 0] 28)) (by simp)
  have b2 := CBox.new (w.alloc (.cells #[.string k, .slice none 0 0] 28)) #[.string k, .slice none 0 0] 28
  rw [show (w.alloc (.cells #[.string k, .slice none 0 0] 28)).heap.size = w.heap.size + 1 by simp] at b2
  have hk : Kp [] w ((w.alloc (.cells #[.string k, .slice none 0 0] 28)).alloc (.cells #[.string k, .slice none 0 0] 28)).drew := ((Kp.alloc _ _).trans (Kp.alloc _ _) (by simp)).trans (Kp.drew _) (by simp)
  generalize hW : (w.alloc (.cells #[.string k, .slice none 0 0] 28)).alloc (.cells #[.string k, .slice none 0 0] 28) = W at *
  have v0 : ∀ W : World, VRo W (.slice none 0 0) [] := fun W => ⟨rfl, Or.inl ⟨rfl, rfl⟩⟩
  have sd : ∀ g, g = w.heap.size ∨ g = w.heap.size + 1 → Side W.drew g k (.slice none 0 0) [] [] := fun g hg => by
    refine ⟨?_, v0 _, RowsI.nil _⟩
    rcases hg with e | e
    · rw [e]; exact b1
    · rw [e]; exact b2
  refine ⟨⟨hk, sd gm (by omega), sd gl (by omega), by omega, ?_, ?_, fun b hb => by cases hb⟩, LaS.nil _ _⟩
  · intro b hb
    simp [sideF, Value.ownBlock] at hb
    omega
  · intro b hb
    simp [sideF, Value.ownBlock] at hb
    omega
section
variable {w W : World} {gm gl : Nat} {k : ByteArray} {va la : Option Addr} {vc lc : Nat} {ms ls : List Value} {pm pl : List (List Int)}
/-- What region 10 reads, wherever it stands. -/
theorem GwS.reads (h : GwS w W gm gl k (.slice va ms.length vc) (.slice la ls.length lc) ms ls pm pl) (W' : World) (hk : Kp [] W W') : W'.cell? ⟨gm, 1, none⟩ = some (.slice va ms.length vc) ∧ W'.cell? ⟨gl, 1, none⟩ = some (.slice la ls.length lc) ∧ W'.ownsRow 0 34 1 (.slice va ms.length vc) ms.length ms ∧ W'.ownsRow 0 34 1 (.slice la ls.length lc) ls.length ls := by
  have t := h.tw.on hk
  exact ⟨t.sm.box.cell rfl, t.sl.box.cell rfl, t.sm.row, t.sl.row⟩
theorem GwS.more (h : GwS w W gm gl k (.slice va ms.length vc) (.slice la ls.length lc) ms ls pm pl) {W5 : World} (hk5 : Kp [] W W5) {r : Value} {p : List Int} (hr : IRo W5 r p) (hrb : ∀ b, r.ownBlock = some b → W.heap.size ≤ b) {w7 : World} {g7 cap7 : Nat}
    (hown : w7.ownsRow 0 34 1 (.slice (some ⟨g7, 0, none⟩) (ms.length + 1) cap7) (ms.length + 1) (ms ++ [r])) (hgr : (W5.alloc (.cells #[r] 34)).grownBy w7 (Value.slice va ms.length vc).ownBlock) (hat : (Value.slice va ms.length vc).ownBlock = some g7 ∨ g7 = (W5.alloc (.cells #[r] 34)).heap.size) :
    GwS w (w7.setCell ⟨gm, 1, none⟩ (.slice (some ⟨g7, 0, none⟩) (ms.length + 1) cap7)) gm gl k (.slice (some ⟨g7, 0, none⟩) (ms ++ [r]).length cap7) (.slice la ls.length lc) (ms ++ [r]) ls (pm ++ [p]) pl ∧ w7.cell? ⟨gm, 1, none⟩ = some (.slice va ms.length vc) ∧ w7.frozen? ⟨gm, 1, none⟩ = false := by
  obtain ⟨t7, c7, f7, s7⟩ := (h.tw.on hk5).push hr hown hgr hat
  refine ⟨⟨?_, h.la.more h.tw.kp.size (Nat.le_trans hk5.size s7) (fun b hb => ⟨hrb b hb, Nat.lt_of_lt_of_le (hr.lt hb) s7⟩)⟩, c7, f7⟩
  rw [List.length_append]
  exact t7
theorem GwS.later (h : GwS w W gm gl k (.slice va ms.length vc) (.slice la ls.length lc) ms ls pm pl) {W5 : World} (hk5 : Kp [] W W5) {r : Value} {p : List Int} (hr : IRo W5 r p) (hrb : ∀ b, r.ownBlock = some b → W.heap.size ≤ b) {w7 : World} {g7 cap7 : Nat}
    (hown : w7.ownsRow 0 34 1 (.slice (some ⟨g7, 0, none⟩) (ls.length + 1) cap7) (ls.length + 1) (ls ++ [r])) (hgr : (W5.alloc (.cells #[r] 34)).grownBy w7 (Value.slice la ls.length lc).ownBlock) (hat : (Value.slice la ls.length lc).ownBlock = some g7 ∨ g7 = (W5.alloc (.cells #[r] 34)).heap.size) :
    GwS w (w7.setCell ⟨gl, 1, none⟩ (.slice (some ⟨g7, 0, none⟩) (ls.length + 1) cap7)) gm gl k (.slice va ms.length vc) (.slice (some ⟨g7, 0, none⟩) (ls ++ [r]).length cap7) ms (ls ++ [r]) pm (pl ++ [p]) ∧ w7.cell? ⟨gl, 1, none⟩ = some (.slice la ls.length lc) ∧ w7.frozen? ⟨gl, 1, none⟩ = false := by
  obtain ⟨t7, c7, f7, s7⟩ := (h.tw.on hk5).swap.push hr hown hgr hat
  refine ⟨⟨?_, h.la.later h.tw.kp.size (Nat.le_trans hk5.size s7) (fun b hb => ⟨hrb b hb, Nat.lt_of_lt_of_le (hr.lt hb) s7⟩)⟩, c7, f7⟩
  rw [List.length_append]
  exact t7.swap
end
end Go.Proofs.Ytnikkjbjidhhlaa
