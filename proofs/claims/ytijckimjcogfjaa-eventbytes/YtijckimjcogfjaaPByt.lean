/-
  EventBytes: whatever the event and the bytes, the law returns true; nothing that was there has changed.
-/
import Derived.Test.YtijckimjcogfjaaRefW
namespace Go.Proofs.Ytijckimjcogfjaa
open Go.RowKit

set_option maxHeartbeats 8000000 in
set_option maxRecDepth 100000 in
theorem eventBytes_walk (e : Ev) (b : ByteArray) (w : World) (hok : e.ok) (hb : b.size ≤ 9223372036854775807) :
    Calls Try.prog 3 #[.agg e.c, .string b] w fun r w' => r = .returned (.bool true) ∧ Below w.heap.size w w' := by
  have s0 : EncS w e (w.alloc (.cells e.c 24)) := ⟨(Below.refl _ _).alloc (Nat.le_refl _) _, heap_alloc_new w _⟩
  have c1 := fun w => evEncode_any e w hok
  have c2 := fun w => refEvEncode_any e w hok
  have c3 := fun w => evDecode_any b w hb
  have c4 := fun w => refEvDecode_any b w hb
  have c5 := fun w => check_any e.k e.t e.x e.n0 e.n1 e.n2 e.n3 w hok.1 hok.2.1 hok.2.2.1
  have c6 := fun w => refChk_any e w hok
  rw [show chkE e.k e.t e.x = e.chk from rfl] at c5
  generalize e.s = S at *
  generalize e.chk = Q at *
  generalize dC b = C at *
  generalize dV b = V at *
  have C1 := hide c1
  have C2 := hide c2
  have C3 := hide c3
  have C4 := hide c4
  have C5 := hide c5
  have C6 := hide c6
  clear c1 c2 c3 c4 c5 c6 hok
  obtain ⟨k, t, n0, n1, n2, n3, x⟩ := e
  obtain ⟨vk, vt, v0, v1, v2, v3, vx⟩ := V
  unfold Ev.c at *
  dsimp only at *
  have e4 : ∀ w, (Op.equalIn 9999 22 (.agg #[.int .i64 v0, .int .i64 v1, .int .i64 v2, .int .i64 v3]) (.agg #[.int .i64 v0, .int .i64 v1, .int .i64 v2, .int .i64 v3])).run Try.prog w = .ok true w := fun w => by
    have := eq4 9997 v0 v1 v2 v3 v0 v1 v2 v3 w
    simpa using this
  go_enter Try.func3, Try.ntmps3
  go_wp2_with fail
  generalize w.alloc (.cells #[.string k, .string t, .int .i64 n0, .int .i64 n1, .int .i64 n2, .int .i64 n3, .string x] 24) = W0 at *
  refine (unhide C1 W0).mono ?_
  rintro r w1 ⟨rfl, hb1⟩
  have s1 := s0.next hb1
  have f1 := s1.full.2
  dsimp only at f1
  clear s0 hb1
  go_wp2_with fail
  refine (unhide C2 w1).mono ?_
  rintro r w2 ⟨rfl, hb2⟩
  have s2 := s1.next hb2
  clear s1 hb2 f1
  go_wp2_with fail
  refine (unhide C3 w2).mono ?_
  rintro r w3 ⟨rfl, hb3⟩
  have s3 := s2.next hb3
  have s3' := s3.alloc (.cells #[.string vk, .string vt, .int .i64 v0, .int .i64 v1, .int .i64 v2, .int .i64 v3, .string vx] 24)
  have bY : EBox w3.heap.size ⟨vk, vt, v0, v1, v2, v3, vx⟩ (w3.alloc (.cells #[.string vk, .string vt, .int .i64 v0, .int .i64 v1, .int .i64 v2, .int .i64 v3, .string vx] 24)) := heap_alloc_new w3 _
  clear s2 hb3 s3
  go_wp2_with fail
  generalize w3.alloc (.cells #[.string vk, .string vt, .int .i64 v0, .int .i64 v1, .int .i64 v2, .int .i64 v3, .string vx] 24) = W3 at *
  generalize w3.heap.size = g3 at *
  refine (unhide C4 W3).mono ?_
  rintro r w4 ⟨rfl, hb4⟩
  have s4 := (s3'.next hb4).alloc (.cells #[.string vk, .string vt, .int .i64 v0, .int .i64 v1, .int .i64 v2, .int .i64 v3, .string vx] 24)
  have bY4 := (bY.below hb4 bY.lt).alloc (.cells #[.string vk, .string vt, .int .i64 v0, .int .i64 v1, .int .i64 v2, .int .i64 v3, .string vx] 24)
  have bZ : EBox w4.heap.size ⟨vk, vt, v0, v1, v2, v3, vx⟩ (w4.alloc (.cells #[.string vk, .string vt, .int .i64 v0, .int .i64 v1, .int .i64 v2, .int .i64 v3, .string vx] 24)) := heap_alloc_new w4 _
  clear s3' hb4 bY
  go_wp2_with fail
  generalize w4.alloc (.cells #[.string vk, .string vt, .int .i64 v0, .int .i64 v1, .int .i64 v2, .int .i64 v3, .string vx] 24) = W4 at *
  generalize w4.heap.size = g4 at *
  have fx := s4.full.2
  have fy := bY4.cells
  have fz := bZ.cells
  dsimp only at fx fy fz
  have hS : ∀ W, Below W4.heap.size W4 W → (Below W4.heap.size W4 W ∧ W.cell? ⟨w.heap.size, 0, none⟩ = some (.string k) ∧ W.cell? ⟨w.heap.size, 1, none⟩ = some (.string t) ∧ W.cell? ⟨w.heap.size, 2, none⟩ = some (.int .i64 n0) ∧ W.cell? ⟨w.heap.size, 3, none⟩ = some (.int .i64 n1) ∧ W.cell? ⟨w.heap.size, 4, none⟩ = some (.int .i64 n2) ∧ W.cell? ⟨w.heap.size, 5, none⟩ = some (.int .i64 n3) ∧ W.cell? ⟨w.heap.size, 6, none⟩ = some (.string x) ∧ W.cell? ⟨g3, 0, none⟩ = some (.string vk) ∧ W.cell? ⟨g3, 1, none⟩ = some (.string vt) ∧ W.cell? ⟨g3, 2, none⟩ = some (.int .i64 v0) ∧ W.cell? ⟨g3, 3, none⟩ = some (.int .i64 v1) ∧ W.cell? ⟨g3, 4, none⟩ = some (.int .i64 v2) ∧ W.cell? ⟨g3, 5, none⟩ = some (.int .i64 v3) ∧ W.cell? ⟨g3, 6, none⟩ = some (.string vx) ∧ W.cell? ⟨g4, 0, none⟩ = some (.string vk) ∧ W.cell? ⟨g4, 1, none⟩ = some (.string vt) ∧ W.cell? ⟨g4, 2, none⟩ = some (.int .i64 v0) ∧ W.cell? ⟨g4, 3, none⟩ = some (.int .i64 v1) ∧ W.cell? ⟨g4, 4, none⟩ = some (.int .i64 v2) ∧ W.cell? ⟨g4, 5, none⟩ = some (.int .i64 v3) ∧ W.cell? ⟨g4, 6, none⟩ = some (.string vx)) := fun W hW => by
    obtain ⟨x0, x1, x2, x3, x4, x5, x6⟩ := (s4.next hW).full.2
    obtain ⟨y0, y1, y2, y3, y4, y5, y6⟩ := (bY4.below hW bY4.lt).cells
    obtain ⟨z0, z1, z2, z3, z4, z5, z6⟩ := (bZ.below hW bZ.lt).cells
    exact ⟨hW, x0, x1, x2, x3, x4, x5, x6, y0, y1, y2, y3, y4, y5, y6, z0, z1, z2, z3, z4, z5, z6⟩
  have c5 : ∀ w, Calls Try.prog 12 #[.agg #[.string k, .string t, .int .i64 n0, .int .i64 n1, .int .i64 n2, .int .i64 n3, .string x]] w fun r w' => r = .returned (.int .i64 Q) ∧ Below w.heap.size w w' := fun w => (unhide C5 w).mono (fun r w' h => ⟨h.1, h.2 ▸ below_new _ _⟩)
  have C7 := hide c5
  have r0 : Below W4.heap.size W4 W4.drew := (Below.refl _ _).drew
  have hbel := s4.bel
  clear c5 C1 C2 C3 C4 C5 s4 bY4 bZ
  go_region_held3 (fun W => Below W4.heap.size W4 W ∧ W.cell? ⟨w.heap.size, 0, none⟩ = some (.string k) ∧ W.cell? ⟨w.heap.size, 1, none⟩ = some (.string t) ∧ W.cell? ⟨w.heap.size, 2, none⟩ = some (.int .i64 n0) ∧ W.cell? ⟨w.heap.size, 3, none⟩ = some (.int .i64 n1) ∧ W.cell? ⟨w.heap.size, 4, none⟩ = some (.int .i64 n2) ∧ W.cell? ⟨w.heap.size, 5, none⟩ = some (.int .i64 n3) ∧ W.cell? ⟨w.heap.size, 6, none⟩ = some (.string x) ∧ W.cell? ⟨g3, 0, none⟩ = some (.string vk) ∧ W.cell? ⟨g3, 1, none⟩ = some (.string vt) ∧ W.cell? ⟨g3, 2, none⟩ = some (.int .i64 v0) ∧ W.cell? ⟨g3, 3, none⟩ = some (.int .i64 v1) ∧ W.cell? ⟨g3, 4, none⟩ = some (.int .i64 v2) ∧ W.cell? ⟨g3, 5, none⟩ = some (.int .i64 v3) ∧ W.cell? ⟨g3, 6, none⟩ = some (.string vx) ∧ W.cell? ⟨g4, 0, none⟩ = some (.string vk) ∧ W.cell? ⟨g4, 1, none⟩ = some (.string vt) ∧ W.cell? ⟨g4, 2, none⟩ = some (.int .i64 v0) ∧ W.cell? ⟨g4, 3, none⟩ = some (.int .i64 v1) ∧ W.cell? ⟨g4, 4, none⟩ = some (.int .i64 v2) ∧ W.cell? ⟨g4, 5, none⟩ = some (.int .i64 v3) ∧ W.cell? ⟨g4, 6, none⟩ = some (.string vx)) (first | exact hS _ r7 | exact hS _ r6 | exact hS _ r5 | exact hS _ r0 | exact hS _ (Below.refl _ _))
    (first
      | (go_at_call 12; refine (unhide C7 _).mono ?_; rintro r w5 ⟨rfl, hb5⟩; have r5 := r0.trans (hb5.mono r0.size))
      | (go_at_call 13; refine (unhide C6 _).mono ?_; rintro r w6 ⟨rfl, hb6⟩; have r6 := r5.trans (hb6.mono r5.size))
      | (go_at_call 14; refine (evWorks_any _).mono ?_; rintro r w7 ⟨rfl, hb7⟩; have r7 := r6.trans (hb7.mono r6.size)))
  go_wp2
  go_ret
  exact ⟨rfl, hbel.trans (r7.mono hbel.size)⟩
end Go.Proofs.Ytijckimjcogfjaa
