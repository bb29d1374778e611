/-
  EventOrder: whatever the two matches, the law returns true; nothing that was there has changed.
-/
import Derived.Test.YtijckimjcogfjaaRefO
import Derived.Test.YtijckimjcogfjaaEvW
namespace Go.Proofs.Ytijckimjcogfjaa
open Go.RowKit

theorem CmpS.start (w : World) (k1 : ByteArray) (a1 : Option Addr) (n1 c1 : Nat) (k2 : ByteArray) (a2 : Option Addr) (n2 c2 : Nat) :
    CmpS w w.heap.size (w.heap.size + 1) k1 a1 n1 c1 k2 a2 n2 c2 ((w.alloc (.cells #[.string k1, .slice a1 n1 c1] 35)).alloc (.cells #[.string k2, .slice a2 n2 c2] 35)) := by
  refine ⟨((Below.refl _ _).alloc (Nat.le_refl _) _).alloc (by simp) _, MBox.alloc (heap_alloc_new w _) _, ?_⟩
  have := heap_alloc_new (w.alloc (.cells #[.string k1, .slice a1 n1 c1] 35)) (.cells #[.string k2, .slice a2 n2 c2] 35)
  unfold MBox
  simpa using this
theorem CmpS.next {w : World} {g1 g2 : Nat} {k1 : ByteArray} {a1 : Option Addr} {n1 c1 : Nat} {k2 : ByteArray} {a2 : Option Addr} {n2 c2 : Nat} {W W' : World} (h : CmpS w g1 g2 k1 a1 n1 c1 k2 a2 n2 c2 W) (hb : Below W.heap.size W W') : CmpS w g1 g2 k1 a1 n1 c1 k2 a2 n2 c2 W' :=
  ⟨h.bel.trans (hb.mono h.bel.size), h.b1.below hb h.b1.lt, h.b2.below hb h.b2.lt⟩
set_option maxHeartbeats 4000000 in
set_option maxRecDepth 100000 in
theorem refCompare_any (k1 : ByteArray) (a1 : Option Addr) (c1 : Nat) (s1 : List (List Int)) (k2 : ByteArray) (a2 : Option Addr) (c2 : Nat) (s2 : List (List Int)) (w : World) (ok1 : MtOk k1 s1) (ok2 : MtOk k2 s2) (h1 : StagesAt w a1 s1) (h2 : StagesAt w a2 s2) :
    Calls Try.prog 25 #[.agg #[.string k1, .slice a1 s1.length c1], .agg #[.string k2, .slice a2 s2.length c2]] w fun e w' => e = .returned (.tuple #[.int .i64 (cmpV k1 s1 k2 s2), .int .i64 (cmpE k1 s1 k2 s2)]) ∧ Below w.heap.size w w' := by
  have s0 := CmpS.start w k1 a1 s1.length c1 k2 a2 s2.length c2
  have ck1 := fun W (hW : Below w.heap.size w W) => refMayMatch_any k1 a1 c1 s1 W ok1 (h1.below hW (Nat.le_refl _))
  have ck2 := fun W (hW : Below w.heap.size w W) => refMayMatch_any k2 a2 c2 s2 W ok2 (h2.below hW (Nat.le_refl _))
  have od := fun W (hW : Below w.heap.size w W) m1 m2 => refOrder_any k1 a1 c1 s1 k2 a2 c2 s2 W ok1 ok2 m1 m2 (h1.below hW (Nat.le_refl _)) (h2.below hW (Nat.le_refl _))
  clear h1 h2
  unfold cmpV cmpE
  by_cases m1 : mayM k1 s1 = true
  · by_cases m2 : mayM k2 s2 = true
    · rw [if_pos ⟨m1, m2⟩, if_pos ⟨m1, m2⟩]
      have od' := fun W hW => od W hW m1 m2
      rw [m1] at ck1
      rw [m2] at ck2
      have CK1 := hide ck1
      have CK2 := hide ck2
      have OD := hide od'
      generalize cM k1 s1 k2 s2 = T at *
      clear ck1 ck2 od od' m1 m2 ok1 ok2
      generalize s1.length = n1 at *
      generalize s2.length = n2 at *
      go_enter Try.func25, Try.ntmps25
      go_wp2_with fail
      generalize ((w.alloc (.cells #[.string k1, .slice a1 n1 c1] 35)).alloc (.cells #[.string k2, .slice a2 n2 c2] 35)) = W0 at *
      have f0 := s0.full.2
      refine (unhide CK1 W0 s0.bel).mono ?_
      rintro e w1 ⟨rfl, rfl⟩
      have s1 := s0.alloc (.cells #[.string k1, .slice a1 n1 c1] 35)
      generalize (W0.alloc (.cells #[.string k1, .slice a1 n1 c1] 35)) = W1 at *
      clear f0 s0
      have f1 := s1.full.2
      go_wp2_with fail
      refine (unhide CK2 W1 s1.bel).mono ?_
      rintro e w2 ⟨rfl, rfl⟩
      have s2 := s1.alloc (.cells #[.string k2, .slice a2 n2 c2] 35)
      generalize (W1.alloc (.cells #[.string k2, .slice a2 n2 c2] 35)) = W2 at *
      clear f1 s1
      have f2 := s2.full.2
      go_wp2_with fail
      refine (unhide OD W2 s2.bel).mono ?_
      rintro e w3 ⟨rfl, hb3⟩
      have hb4 := s2.bel.trans (hb3.mono s2.bel.size)
      clear f2 s2 hb3
      go_wp2
      go_ret2
      exact ⟨rfl, hb4⟩
    · rw [if_neg (fun h => m2 h.2), if_neg (fun h => m2 h.2)]
      have m2' : mayM k2 s2 = false := by simpa using m2
      rw [m1] at ck1
      rw [m2'] at ck2
      have CK1 := hide ck1
      have CK2 := hide ck2
      clear ck1 ck2 od m1 m2 m2' ok1 ok2
      generalize s1.length = n1 at *
      generalize s2.length = n2 at *
      go_enter Try.func25, Try.ntmps25
      go_wp2_with fail
      generalize ((w.alloc (.cells #[.string k1, .slice a1 n1 c1] 35)).alloc (.cells #[.string k2, .slice a2 n2 c2] 35)) = W0 at *
      have f0 := s0.full.2
      refine (unhide CK1 W0 s0.bel).mono ?_
      rintro e w1 ⟨rfl, rfl⟩
      have s1 := s0.alloc (.cells #[.string k1, .slice a1 n1 c1] 35)
      generalize (W0.alloc (.cells #[.string k1, .slice a1 n1 c1] 35)) = W1 at *
      clear f0 s0
      have f1 := s1.full.2
      go_wp2_with fail
      refine (unhide CK2 W1 s1.bel).mono ?_
      rintro e w2 ⟨rfl, rfl⟩
      go_wp2
      go_ret2
      exact ⟨rfl, (s1.alloc _).bel⟩
  · rw [if_neg (fun h => m1 h.1), if_neg (fun h => m1 h.1)]
    have m1' : mayM k1 s1 = false := by simpa using m1
    rw [m1'] at ck1
    have CK1 := hide ck1
    clear ck1 ck2 od m1 m1' ok1 ok2
    generalize s1.length = n1 at *
    generalize s2.length = n2 at *
    go_enter Try.func25, Try.ntmps25
    go_wp2_with fail
    generalize ((w.alloc (.cells #[.string k1, .slice a1 n1 c1] 35)).alloc (.cells #[.string k2, .slice a2 n2 c2] 35)) = W0 at *
    have f0 := s0.full.2
    refine (unhide CK1 W0 s0.bel).mono ?_
    rintro e w1 ⟨rfl, rfl⟩
    go_wp2
    go_ret2
    exact ⟨rfl, (s0.alloc _).bel⟩
set_option maxHeartbeats 4000000 in
set_option maxRecDepth 100000 in
theorem eventOrder_walk (k1 : ByteArray) (a1 : Option Addr) (c1 : Nat) (s1 : List (List Int)) (k2 : ByteArray) (a2 : Option Addr) (c2 : Nat) (s2 : List (List Int)) (w : World) (ok1 : MtOk k1 s1) (ok2 : MtOk k2 s2) (h1 : StagesAt w a1 s1) (h2 : StagesAt w a2 s2) :
    Calls Try.prog 6 #[.agg #[.string k1, .slice a1 s1.length c1], .agg #[.string k2, .slice a2 s2.length c2]] w fun e w' => e = .returned (.bool true) ∧ Below w.heap.size w w' := by
  have s0 := CmpS.start w k1 a1 s1.length c1 k2 a2 s2.length c2
  have x1 := fun W (hW : Below w.heap.size w W) => compare_any k1 a1 c1 s1 k2 a2 c2 s2 W ok1 ok2 (h1.below hW (Nat.le_refl _)) (h2.below hW (Nat.le_refl _))
  have x2 := fun W (hW : Below w.heap.size w W) => refCompare_any k1 a1 c1 s1 k2 a2 c2 s2 W ok1 ok2 (h1.below hW (Nat.le_refl _)) (h2.below hW (Nat.le_refl _))
  clear h1 h2 ok1 ok2
  have X1 := hide x1
  have X2 := hide x2
  clear x1 x2
  generalize cmpV k1 s1 k2 s2 = V at *
  generalize cmpE k1 s1 k2 s2 = E at *
  generalize s1.length = n1 at *
  generalize s2.length = n2 at *
  go_enter Try.func6, Try.ntmps6
  go_wp2_with fail
  generalize ((w.alloc (.cells #[.string k1, .slice a1 n1 c1] 35)).alloc (.cells #[.string k2, .slice a2 n2 c2] 35)) = W0 at *
  refine (unhide X1 W0 s0.bel).mono ?_
  rintro e w1 ⟨rfl, hb1⟩
  have s1 := s0.next hb1
  have f1 := s1.full.2
  clear s0 hb1
  go_wp2_with fail
  refine (unhide X2 w1 s1.bel).mono ?_
  rintro e w2 ⟨rfl, hb2⟩
  have s2 := s1.next hb2
  clear s1 f1 hb2
  go_wp2_with fail
  refine (evWorks_any w2).mono ?_
  rintro e w3 ⟨rfl, hb3⟩
  have s3 := s2.next hb3
  clear s2 hb3
  go_wp2
  go_ret
  exact ⟨rfl, s3.bel⟩
end Go.Proofs.Ytijckimjcogfjaa
