/-
  cloneOf: the same event; what was there stays.
-/
import Derived.Test.YtnikkjbjidhhlaaEv0
import Derived.Test.YtnikkjbjidhhlaaRow0
import Derived.Test.YtnikkjbjidhhlaaKp0
import Derived.Deep.RegionHeld3
import Derived.Deep.RegionLaw
namespace Go.Proofs.Ytnikkjbjidhhlaa
open Go.RowKit

/-- The texts of an event are small. -/
def Ev.sm (e : Ev) : Prop := e.k.size ≤ 256 ∧ e.t.size ≤ 256 ∧ e.x.size ≤ 256
/-- While an event is cloned: its box, and that of the answer. -/
structure ClS (w : World) (e : Ev) (W : World) : Prop where
  kp : Kp [] w W
  bx : CBox w.heap.size e.c 45 W
  an : CBox (w.heap.size + 1) #[.string ⟨#[]⟩, .string ⟨#[]⟩, .int .i64 0, .int .i64 0, .int .i64 0, .int .i64 0, .string ⟨#[]⟩] 45 W
theorem ClS.drew {w : World} {e : Ev} {W : World} (h : ClS w e W) : ClS w e W.drew := ⟨h.kp.trans (Kp.drew _) (by simp), h.bx, h.an⟩
theorem ClS.next {w : World} {e : Ev} {W W' : World} (h : ClS w e W) (hk : Kp [] W W') : ClS w e W' := ⟨h.kp.trans hk (by simp), h.bx.kp hk (by simp), h.an.kp hk (by simp)⟩
theorem ClS.cells {w : World} {e : Ev} {W : World} (h : ClS w e W) : (W.cell? ⟨w.heap.size, 0, none⟩ = some (.string e.k) ∧ W.cell? ⟨w.heap.size, 1, none⟩ = some (.string e.t) ∧ W.cell? ⟨w.heap.size, 6, none⟩ = some (.string e.x)) ∧ W.frozen? ⟨w.heap.size, 0, none⟩ = false ∧ W.frozen? ⟨w.heap.size, 1, none⟩ = false ∧ W.frozen? ⟨w.heap.size, 6, none⟩ = false := ⟨⟨h.bx.cell rfl, h.bx.cell rfl, h.bx.cell rfl⟩, h.bx.froz 0, h.bx.froz 1, h.bx.froz 6⟩
theorem CBox.same {g : Nat} {cs : Array Value} {t : TypeId} {w : World} (h : CBox g cs t w) {i : Nat} {v : Value} (hv : cs[i]? = some v) : CBox g cs t (w.setCell ⟨g, i, none⟩ v) := by
  have := h.set i v
  have e : cs.setIfInBounds i v = cs := by
    apply Array.ext_getElem?
    intro j
    rw [Array.getElem?_setIfInBounds]
    by_cases hj : i = j
    · subst hj
      have := (Array.getElem?_eq_some_iff.1 hv).1
      simp [this]
      rw [Array.getElem?_eq_some_iff] at hv
      exact hv.2.symm
    · simp [hj]
  rw [e] at this
  exact this
theorem ClS.set {w : World} {e : Ev} {W : World} (h : ClS w e W) {i : Nat} {v : Value} (hv : e.c[i]? = some v) : ClS w e (W.setCell ⟨w.heap.size, i, none⟩ v) :=
  ⟨(h.kp.mono (G := [w.heap.size]) (by simp)).trans (Kp.set W _ i v) (by simp) |> fun k => ⟨k.os, k.tape, k.output, k.size, fun j hj _ => k.block j hj (by simp; omega)⟩, h.bx.same hv, h.an.kp (Kp.set W _ i v) (by simp)⟩
theorem ClS.all {w : World} {e : Ev} {W : World} (h : ClS w e W) : W.cell? ⟨w.heap.size, 0, none⟩ = some (.string e.k) ∧ W.cell? ⟨w.heap.size, 1, none⟩ = some (.string e.t) ∧ W.cell? ⟨w.heap.size, 2, none⟩ = some (.int .i64 e.n0) ∧ W.cell? ⟨w.heap.size, 3, none⟩ = some (.int .i64 e.n1) ∧ W.cell? ⟨w.heap.size, 4, none⟩ = some (.int .i64 e.n2) ∧ W.cell? ⟨w.heap.size, 5, none⟩ = some (.int .i64 e.n3) ∧ W.cell? ⟨w.heap.size, 6, none⟩ = some (.string e.x) := ⟨h.bx.cell rfl, h.bx.cell rfl, h.bx.cell rfl, h.bx.cell rfl, h.bx.cell rfl, h.bx.cell rfl, h.bx.cell rfl⟩
theorem ClS.ans {w : World} {e : Ev} {W : World} (h : ClS w e W) : (W.cell? ⟨w.heap.size + 1, 0, none⟩ = some (.string ⟨#[]⟩) ∧ W.cell? ⟨w.heap.size + 1, 1, none⟩ = some (.string ⟨#[]⟩) ∧ W.cell? ⟨w.heap.size + 1, 2, none⟩ = some (.int .i64 0) ∧ W.cell? ⟨w.heap.size + 1, 3, none⟩ = some (.int .i64 0) ∧ W.cell? ⟨w.heap.size + 1, 4, none⟩ = some (.int .i64 0) ∧ W.cell? ⟨w.heap.size + 1, 5, none⟩ = some (.int .i64 0) ∧ W.cell? ⟨w.heap.size + 1, 6, none⟩ = some (.string ⟨#[]⟩)) ∧
    W.frozen? ⟨w.heap.size + 1, 0, none⟩ = false ∧ W.frozen? ⟨w.heap.size + 1, 1, none⟩ = false ∧ W.frozen? ⟨w.heap.size + 1, 2, none⟩ = false ∧ W.frozen? ⟨w.heap.size + 1, 3, none⟩ = false ∧ W.frozen? ⟨w.heap.size + 1, 4, none⟩ = false ∧ W.frozen? ⟨w.heap.size + 1, 5, none⟩ = false ∧ W.frozen? ⟨w.heap.size + 1, 6, none⟩ = false :=
  ⟨⟨h.an.cell rfl, h.an.cell rfl, h.an.cell rfl, h.an.cell rfl, h.an.cell rfl, h.an.cell rfl, h.an.cell rfl⟩, h.an.froz 0, h.an.froz 1, h.an.froz 2, h.an.froz 3, h.an.froz 4, h.an.froz 5, h.an.froz 6⟩
theorem Kp.new {F : List Nat} {w W W' : World} {g : Nat} (h : Kp F w W) (hk : Kp [g] W W') (hg : w.heap.size ≤ g) : Kp F w W' := h.trans hk (fun x hx => Or.inr (by simp at hx; omega))
theorem Kp.set7 {F : List Nat} {w W : World} (h : Kp F w W) (g : Nat) (hg : w.heap.size ≤ g) (a b c d e f i : Value) : Kp F w (((((((W.setCell ⟨g, 0, none⟩ a).setCell ⟨g, 1, none⟩ b).setCell ⟨g, 2, none⟩ c).setCell ⟨g, 3, none⟩ d).setCell ⟨g, 4, none⟩ e).setCell ⟨g, 5, none⟩ f).setCell ⟨g, 6, none⟩ i) :=
  ((((((h.new (Kp.set _ g 0 _) hg).new (Kp.set _ g 1 _) hg).new (Kp.set _ g 2 _) hg).new (Kp.set _ g 3 _) hg).new (Kp.set _ g 4 _) hg).new (Kp.set _ g 5 _) hg).new (Kp.set _ g 6 _) hg
set_option maxHeartbeats 1000000 in
set_option maxRecDepth 100000 in
theorem cloneOf_any (e : Ev) (w : World) (hok : e.sm) :
    Calls Try.prog 42 #[.agg e.c] w fun r w' => r = .returned (.agg e.c) ∧ Kp [] w w' := by
  have s0 : ClS w e ((w.alloc (.cells e.c 45)).alloc (.cells #[.string ⟨#[]⟩, .string ⟨#[]⟩, .int .i64 0, .int .i64 0, .int .i64 0, .int .i64 0, .string ⟨#[]⟩] 45)) := by
    refine ⟨(Kp.alloc _ _).trans (Kp.alloc _ _) (by simp), (CBox.new w _ _).kp (Kp.alloc _ _) (by simp), ?_⟩
    have := CBox.new (w.alloc (.cells e.c 45)) #[.string ⟨#[]⟩, .string ⟨#[]⟩, .int .i64 0, .int .i64 0, .int .i64 0, .int .i64 0, .string ⟨#[]⟩] 45
    rw [show (w.alloc (.cells e.c 45)).heap.size = w.heap.size + 1 by simp] at this
    exact this
  have CK := hide (fun W (h : ClS w e W) => (clone_any e.k W (by have := hok.1; omega)).mono (fun r w' (hh : _ ∧ _) => (⟨hh.1, h.next (Kp.ofBelow hh.2)⟩ : r = .returned (.string e.k) ∧ ClS w e w')))
  have CT := hide (fun W (h : ClS w e W) => (clone_any e.t W (by have := hok.2.1; omega)).mono (fun r w' (hh : _ ∧ _) => (⟨hh.1, h.next (Kp.ofBelow hh.2)⟩ : r = .returned (.string e.t) ∧ ClS w e w')))
  have CX := hide (fun W (h : ClS w e W) => (clone_any e.x W (by have := hok.2.2; omega)).mono (fun r w' (hh : _ ∧ _) => (⟨hh.1, h.next (Kp.ofBelow hh.2)⟩ : r = .returned (.string e.x) ∧ ClS w e w')))
  clear hok
  go_enter Try.func42, Try.ntmps42
  go_wp2_with fail
  generalize (w.alloc (.cells e.c 45)).alloc (.cells #[.string ⟨#[]⟩, .string ⟨#[]⟩, .int .i64 0, .int .i64 0, .int .i64 0, .int .i64 0, .string ⟨#[]⟩] 45) = W0 at *
  have t0 := s0.drew
  have c0 := t0.cells
  have T0 := hide t0
  clear t0 s0
  go_region_held3 (fun W => (W.cell? ⟨w.heap.size, 0, none⟩ = some (.string e.k) ∧ W.cell? ⟨w.heap.size, 1, none⟩ = some (.string e.t) ∧ W.cell? ⟨w.heap.size, 6, none⟩ = some (.string e.x)) ∧ W.frozen? ⟨w.heap.size, 0, none⟩ = false ∧ W.frozen? ⟨w.heap.size, 1, none⟩ = false ∧ W.frozen? ⟨w.heap.size, 6, none⟩ = false)
    (first | with_reducible exact c0 | with_reducible exact c1 | with_reducible exact c2 | with_reducible exact c3 | with_reducible exact ((unhide T3).set rfl).cells | with_reducible exact (((unhide T3).set rfl).set rfl).cells | with_reducible exact ((((unhide T3).set rfl).set rfl).set rfl).cells)
    (first
      | (go_at_call 50; refine (unhide CX w2 (unhide T2)).mono ?_; rintro r w3 ⟨rfl, t3⟩; have c3 := t3.cells; have T3 := hide t3; clear t3)
      | (go_at_call 50; refine (unhide CT w1 (unhide T1)).mono ?_; rintro r w2 ⟨rfl, t2⟩; have c2 := t2.cells; have T2 := hide t2; clear t2)
      | (go_at_call 50; refine (unhide CK W0.drew (unhide T0)).mono ?_; rintro r w1 ⟨rfl, t1⟩; have c1 := t1.cells; have T1 := hide t1; clear t1))
  have t6 := (((unhide T3).set (i := 0) (v := .string e.k) rfl).set (i := 1) (v := .string e.t) rfl).set (i := 6) (v := .string e.x) rfl
  clear c0 c1 c2 c3 T0 T1 T2 T3 CK CT CX
  generalize ((w3.setCell ⟨w.heap.size, 0, none⟩ (.string e.k)).setCell ⟨w.heap.size, 1, none⟩ (.string e.t)).setCell ⟨w.heap.size, 6, none⟩ (.string e.x) = W6 at *
  have ca := t6.all
  have cb := t6.ans
  have T6 := hide t6
  clear t6
  rename_i hHeld
  clear hHeld
  go_wp2_with fail
  have b7 : CBox (w.heap.size + 1) e.c 45 (((((((W6.setCell ⟨w.heap.size + 1, 0, none⟩ (.string e.k)).setCell ⟨w.heap.size + 1, 1, none⟩ (.string e.t)).setCell ⟨w.heap.size + 1, 2, none⟩ (.int .i64 e.n0)).setCell ⟨w.heap.size + 1, 3, none⟩ (.int .i64 e.n1)).setCell ⟨w.heap.size + 1, 4, none⟩ (.int .i64 e.n2)).setCell ⟨w.heap.size + 1, 5, none⟩ (.int .i64 e.n3)).setCell ⟨w.heap.size + 1, 6, none⟩ (.string e.x)) := (((((((unhide T6).an.set 0 _).set 1 _).set 2 _).set 3 _).set 4 _).set 5 _).set 6 _
  have k7 := (unhide T6).kp.set7 (w.heap.size + 1) (by omega) (.string e.k) (.string e.t) (.int .i64 e.n0) (.int .i64 e.n1) (.int .i64 e.n2) (.int .i64 e.n3) (.string e.x)
  clear T6 ca cb
  generalize (((((((W6.setCell ⟨w.heap.size + 1, 0, none⟩ (.string e.k)).setCell ⟨w.heap.size + 1, 1, none⟩ (.string e.t)).setCell ⟨w.heap.size + 1, 2, none⟩ (.int .i64 e.n0)).setCell ⟨w.heap.size + 1, 3, none⟩ (.int .i64 e.n1)).setCell ⟨w.heap.size + 1, 4, none⟩ (.int .i64 e.n2)).setCell ⟨w.heap.size + 1, 5, none⟩ (.int .i64 e.n3)).setCell ⟨w.heap.size + 1, 6, none⟩ (.string e.x)) = W7 at *
  have d0 : W7.cell? ⟨w.heap.size + 1, 0, none⟩ = some (.string e.k) := b7.cell rfl
  have d1 : W7.cell? ⟨w.heap.size + 1, 1, none⟩ = some (.string e.t) := b7.cell rfl
  have d2 : W7.cell? ⟨w.heap.size + 1, 2, none⟩ = some (.int .i64 e.n0) := b7.cell rfl
  have d3 : W7.cell? ⟨w.heap.size + 1, 3, none⟩ = some (.int .i64 e.n1) := b7.cell rfl
  have d4 : W7.cell? ⟨w.heap.size + 1, 4, none⟩ = some (.int .i64 e.n2) := b7.cell rfl
  have d5 : W7.cell? ⟨w.heap.size + 1, 5, none⟩ = some (.int .i64 e.n3) := b7.cell rfl
  have d6 : W7.cell? ⟨w.heap.size + 1, 6, none⟩ = some (.string e.x) := b7.cell rfl
  exact bodyPost_ret (v := .agg e.c) (by simp [results, Try.results42, go_sem, Ev.c, d0, d1, d2, d3, d4, d5, d6]) rfl ⟨rfl, k7⟩
end Go.Proofs.Ytnikkjbjidhhlaa
