/-
  The document's answer for the bytes of an event (Decode) is the plain function's.
-/
import Derived.Test.YtijckimjcogfjaaEvF
import Derived.Test.YtijckimjcogfjaaRefV
import Derived.Test.YtijckimjcogfjaaRefDD
namespace Go.Proofs.Ytijckimjcogfjaa
open Go.RowKit

theorem zero_may : Ev.zero.may = false := by decide +kernel
theorem dC_none (b : ByteArray) (h : ¬ (itC b = 0 ∧ (itL b).map It.t = kinds)) (h2 : ¬ 262144 < b.size) : dC b = 20 ∧ dV b = Ev.zero := by
  have hC : dC b = 20 := by
    unfold dC
    by_cases hc : itC b = 0
    · rw [if_neg (by simp [hc])]
      have : evOf (itL b) = Ev.zero := if_neg (fun e => h ⟨hc, e⟩)
      rw [this, zero_may]
      rfl
    · rw [if_pos hc]
      unfold itC at hc ⊢
      rw [if_neg h2] at hc ⊢
      split at hc
      · rename_i h3; rw [if_pos h3]
      · exact absurd rfl hc
  exact ⟨hC, by unfold dV; rw [if_neg (by rw [hC]; decide)]⟩
theorem dC_some (b : ByteArray) (y0 y1 y2 y3 y4 y5 y6 : It) (hL : itL b = [y0, y1, y2, y3, y4, y5, y6]) (hc : itC b = 0) (hk : [y0.t, y1.t, y2.t, y3.t, y4.t, y5.t, y6.t] = kinds) :
    evOf (itL b) = ⟨y0.s, y1.s, y2.n, y3.n, y4.n, y5.n, y6.s⟩ ∧ dC b = (if Ev.may ⟨y0.s, y1.s, y2.n, y3.n, y4.n, y5.n, y6.s⟩ = true then 0 else 20) ∧ dV b = (if Ev.may ⟨y0.s, y1.s, y2.n, y3.n, y4.n, y5.n, y6.s⟩ = true then ⟨y0.s, y1.s, y2.n, y3.n, y4.n, y5.n, y6.s⟩ else Ev.zero) := by
  have he : evOf (itL b) = ⟨y0.s, y1.s, y2.n, y3.n, y4.n, y5.n, y6.s⟩ := by rw [hL]; exact if_pos hk
  have hC : dC b = (if Ev.may ⟨y0.s, y1.s, y2.n, y3.n, y4.n, y5.n, y6.s⟩ = true then 0 else 20) := by unfold dC; rw [if_neg (by simp [hc]), he]
  refine ⟨he, hC, ?_⟩
  unfold dV
  rw [hC, he]
  split <;> simp
set_option maxHeartbeats 8000000 in
set_option maxRecDepth 100000 in
theorem refEvDecode_any (b : ByteArray) (w : World) (hb : b.size ≤ 9223372036854775807) :
    Calls Try.prog 11 #[.string b] w fun r w' => r = .returned (.tuple #[.agg (dV b).c, .int .i64 (dC b)]) ∧ Below w.heap.size w w' := by
  have s0 : EncS w Ev.zero ((w.alloc (.cells Ev.zero.c 24)).alloc (.cells Ev.zero.c 24)) := EncS.alloc ⟨(Below.refl _ _).alloc (Nat.le_refl _) _, heap_alloc_new w _⟩ _
  have b0 : EBox (w.heap.size + 1) Ev.zero ((w.alloc (.cells Ev.zero.c 24)).alloc (.cells Ev.zero.c 24)) := by
    have := heap_alloc_new (w.alloc (.cells Ev.zero.c 24)) (.cells Ev.zero.c 24)
    unfold EBox
    simpa using this
  by_cases hbig : 262144 < b.size
  · have hC : dC b = 2 := by unfold dC itC; rw [if_pos hbig]; rfl
    have hV : dV b = Ev.zero := by unfold dV; rw [hC]; rfl
    rw [hC, hV]
    clear hC hV
    unfold Ev.zero Ev.c at *
    have f0 := b0.cells
    have f1 := s0.bx.cells
    have r1 := s0.bx.froz
    have hb7 := put7_below s0.bel (Nat.le_refl _) ⟨⟨#[]⟩, ⟨#[]⟩, 0, 0, 0, 0, ⟨#[]⟩⟩
    dsimp only at f0 f1
    clear s0 b0
    go_enter Try.func11, Try.ntmps11
    go_wp2
    exact bodyPost_ret (v := .tuple #[.agg #[.string ⟨#[]⟩, .string ⟨#[]⟩, .int .i64 0, .int .i64 0, .int .i64 0, .int .i64 0, .string ⟨#[]⟩], .int .i64 2]) (by simp [results, Try.results11, go_sem]) rfl ⟨rfl, (((Below.refl _ _).alloc (Nat.le_refl _) _).alloc (by simp) _)⟩
  · have d := fun w => refDecode_any b w hb
    have hat := decS_at b.data.toList
    have hnone := dC_none b
    have hsome := dC_some b
    have hic : itC b = if (decS b.data.toList).2.2 ≠ 0 then 20 else 0 := if_neg hbig
    have hil : itC b = 0 → itL b = (decS b.data.toList).1 := fun h => if_pos h
    have hok := itL_ok b
    generalize dC b = C at *
    generalize dV b = V at *
    generalize itC b = ic at *
    generalize itL b = iL at *
    generalize decS b.data.toList = X at *
    obtain ⟨L, p, c⟩ := X
    dsimp only at d hat hic hil
    have D := hide d
    have HN := hide hnone
    clear d hnone
    unfold Ev.zero Ev.c at s0 b0
    by_cases hc : c = 0
    · obtain rfl := hat hc
      subst hc
      rw [if_neg (by simp)] at hic
      subst hic
      obtain rfl := hil rfl
      have HS := hide hsome
      have HOK := hide hok
      clear hat hil hsome hok
      go_enter Try.func11, Try.ntmps11
      go_wp2_with fail
      generalize ((w.alloc (.cells #[.string ⟨#[]⟩, .string ⟨#[]⟩, .int .i64 0, .int .i64 0, .int .i64 0, .int .i64 0, .string ⟨#[]⟩] 24)).alloc (.cells #[.string ⟨#[]⟩, .string ⟨#[]⟩, .int .i64 0, .int .i64 0, .int .i64 0, .int .i64 0, .string ⟨#[]⟩] 24)) = W0 at *
      refine (unhide D W0).mono ?_
      rintro r w1 ⟨v1, rfl, ow, hb1⟩
      have sR := (s0.next hb1).alloc (.cells #[.int .i64 0, .int .i64 0] 60)
      have bN := (b0.below hb1 b0.lt).alloc (.cells #[.int .i64 0, .int .i64 0] 60)
      obtain ⟨a1, c1, rfl, hi1⟩ := ow.items
      have hi := hi1.below (below_new w1 (.cells #[.int .i64 0, .int .i64 0] 60)) (Nat.le_refl _)
      have fF : (w1.alloc (.cells #[.int .i64 0, .int .i64 0] 60)).cell? ⟨w1.heap.size, 0, none⟩ = some (.int .i64 0) ∧ (w1.alloc (.cells #[.int .i64 0, .int .i64 0] 60)).cell? ⟨w1.heap.size, 1, none⟩ = some (.int .i64 0) := by simp
      clear s0 b0 hb1 ow hi1 D
      by_cases h7 : iL.length = 7
      · rw [h7]
        obtain ⟨y0, y1, y2, y3, y4, y5, y6, rfl⟩ : ∃ y0 y1 y2 y3 y4 y5 y6, iL = [y0, y1, y2, y3, y4, y5, y6] := by
          match iL, h7 with
          | [y0, y1, y2, y3, y4, y5, y6], _ => exact ⟨y0, y1, y2, y3, y4, y5, y6, rfl⟩
        clear h7
        have hko : [y0.t, y1.t, y2.t, y3.t, y4.t, y5.t, y6.t] = kinds → Ev.ok ⟨y0.s, y1.s, y2.n, y3.n, y4.n, y5.n, y6.s⟩ := fun h => by
          have := evOf_ok _ (unhide HOK).1
          rw [(unhide HS y0 y1 y2 y3 y4 y5 y6 (by first | rfl | trivial) (by first | rfl | trivial) h).1] at this
          exact this
        have hso := fun h => (unhide HS y0 y1 y2 y3 y4 y5 y6 (by first | rfl | trivial) (by first | rfl | trivial) h).2
        have hno : [y0.t, y1.t, y2.t, y3.t, y4.t, y5.t, y6.t] ≠ kinds → C = 20 ∧ V = Ev.zero := fun h => unhide HN (fun e => h e.2) hbig
        have HKO := hide hko
        have HSO := hide hso
        have HNO := hide hno
        clear HOK HS HN hko hso hno
        obtain ⟨b, off, rfl, hbw, hc⟩ := hi (by simp)
        have hcs : ∀ W, Below (w1.alloc (.cells #[.int .i64 0, .int .i64 0] 60)).heap.size (w1.alloc (.cells #[.int .i64 0, .int .i64 0] 60)) W →
            W.cell? ⟨b, off, none⟩ = some (.bool y0.t) ∧ W.cell? ⟨b, off + 2, none⟩ = some (.string y0.s) ∧ W.cell? ⟨b, off + 3, none⟩ = some (.bool y1.t) ∧ W.cell? ⟨b, off + 5, none⟩ = some (.string y1.s) ∧
            W.cell? ⟨b, off + 6, none⟩ = some (.bool y2.t) ∧ W.cell? ⟨b, off + 7, none⟩ = some (.int .i64 y2.n) ∧ W.cell? ⟨b, off + 9, none⟩ = some (.bool y3.t) ∧ W.cell? ⟨b, off + 10, none⟩ = some (.int .i64 y3.n) ∧
            W.cell? ⟨b, off + 12, none⟩ = some (.bool y4.t) ∧ W.cell? ⟨b, off + 13, none⟩ = some (.int .i64 y4.n) ∧ W.cell? ⟨b, off + 15, none⟩ = some (.bool y5.t) ∧ W.cell? ⟨b, off + 16, none⟩ = some (.int .i64 y5.n) ∧
            W.cell? ⟨b, off + 18, none⟩ = some (.bool y6.t) ∧ W.cell? ⟨b, off + 20, none⟩ = some (.string y6.s) := fun W hW => by
          have hk := fun o => hW.cell (p := ⟨b, o, none⟩) hbw
          exact ⟨(hk _).trans (hc 0 (by simp)).1, (hk _).trans (hc 0 (by simp)).2.2, (hk _).trans (hc 1 (by simp)).1, (hk _).trans (hc 1 (by simp)).2.2, (hk _).trans (hc 2 (by simp)).1, (hk _).trans (hc 2 (by simp)).2.1, (hk _).trans (hc 3 (by simp)).1, (hk _).trans (hc 3 (by simp)).2.1, (hk _).trans (hc 4 (by simp)).1, (hk _).trans (hc 4 (by simp)).2.1, (hk _).trans (hc 5 (by simp)).1, (hk _).trans (hc 5 (by simp)).2.1, (hk _).trans (hc 6 (by simp)).1, (hk _).trans (hc 6 (by simp)).2.2⟩
        clear hi hc
        obtain ⟨t0, m0, k⟩ := y0
        obtain ⟨t1, m1, t⟩ := y1
        obtain ⟨t2, n0, z2⟩ := y2
        obtain ⟨t3, n1, z3⟩ := y3
        obtain ⟨t4, n2, z4⟩ := y4
        obtain ⟨t5, n3, z5⟩ := y5
        obtain ⟨t6, m6, x⟩ := y6
        dsimp only at HKO HSO HNO hcs
        have fc := hcs _ (Below.refl _ _)
        have HCS := hide hcs
        clear hcs
        by_cases q016 : t0 = true ∧ t1 = true ∧ t6 = true
        · obtain ⟨rfl, rfl, rfl⟩ := q016
          go_wp2_with fail
          generalize w1.alloc (.cells #[.int .i64 0, .int .i64 0] 60) = W1 at *
          clear fF
          have c3 : ∀ W, Below W1.heap.size W1 W → Below W1.heap.size W1 W ∧ W.cell? ⟨b, off + 2, none⟩ = some (.string k) ∧ W.cell? ⟨b, off + 5, none⟩ = some (.string t) ∧ W.cell? ⟨b, off + 20, none⟩ = some (.string x) := fun W h => ⟨h, (unhide HCS W h).2.1, (unhide HCS W h).2.2.2.1, (unhide HCS W h).2.2.2.2.2.2.2.2.2.2.2.2.2⟩
          clear fc
          go_region_held3 (fun W => Below W1.heap.size W1 W ∧ W.cell? ⟨b, off + 2, none⟩ = some (.string k) ∧ W.cell? ⟨b, off + 5, none⟩ = some (.string t) ∧ W.cell? ⟨b, off + 20, none⟩ = some (.string x)) (first | exact c3 _ (Below.refl _ _) | exact c3 _ (Below.refl _ _).drew | exact c3 _ (below_new _ _) | exact c3 _ ((Below.refl _ _).drew.alloc (Nat.le_refl _) _) | exact c3 _ (below_new _ _).drew)
            (fail)
          have hbW : Below W1.heap.size W1 (W1.alloc (.cells #[.string k, .string t, .int .i64 0, .int .i64 0, .int .i64 0, .int .i64 0, .string x] 24)).drew := (below_new _ _).drew
          have b6 : EBox W1.heap.size ⟨k, t, 0, 0, 0, 0, x⟩ (W1.alloc (.cells #[.string k, .string t, .int .i64 0, .int .i64 0, .int .i64 0, .int .i64 0, .string x] 24)).drew := heap_alloc_new W1 _
          clear c3
          go_wp2_with fail
          generalize (W1.alloc (.cells #[.string k, .string t, .int .i64 0, .int .i64 0, .int .i64 0, .int .i64 0, .string x] 24)).drew = W6 at *
          go_loopw [8] (fun i wr => ∃ j : Nat, j ≤ 4 ∧ i = .int .i64 (j : Int) ∧ Below W1.heap.size W1 wr ∧ EBox W1.heap.size ⟨k, t, if 0 < j then n0 else 0, if 1 < j then n1 else 0, if 2 < j then n2 else 0, if 3 < j then n3 else 0, x⟩ wr ∧ Hid ((0 < j → t2 = false) ∧ (1 < j → t3 = false) ∧ (2 < j → t4 = false) ∧ (3 < j → t5 = false))) (fun i _ => 4 - (intOf i).toNat)
          case atStart => exact ⟨0, by omega, rfl, hbW, b6, hide ⟨fun h => absurd h (by omega), fun h => absurd h (by omega), fun h => absurd h (by omega), fun h => absurd h (by omega)⟩⟩
          case round =>
            clear hbW b6
            obtain ⟨j, hj, rfl, hbW, b6, HK⟩ := hrel
            have fc := unhide HCS _ hbW
            have f6 := b6.cells
            have r6 := b6.froz
            rcases (by omega : j = 0 ∨ j = 1 ∨ j = 2 ∨ j = 3 ∨ j = 4) with rfl | rfl | rfl | rfl | rfl
            · cases t2
              · have b7 := b6.set 0 n0 (by omega)
                have hbW2 := hbW.setCell (p := ⟨W1.heap.size, 2, none⟩) (Nat.le_refl _) (.int .i64 n0)
                have HK2 : Hid ((0 < 1 → false = false) ∧ (1 < 1 → t3 = false) ∧ (2 < 1 → t4 = false) ∧ (3 < 1 → t5 = false)) := hide ⟨fun _ => rfl, fun h => absurd h (by omega), fun h => absurd h (by omega), fun h => absurd h (by omega)⟩
                simp at f6 b7
                clear HK HNO HKO HSO
                go_wp2
                go_roundw
                case rel => exact ⟨1, by omega, by go_num, hbW2, by simpa using b7, hide (by first | (simp; done) | (have := unhide HK2; simpa using this))⟩
                case measure => simp [intOf]
              · obtain ⟨rfl, rfl⟩ := unhide HNO (by simp [kinds])
                clear HNO HKO HSO HCS HK
                have fN := (bN.below hbW bN.lt).cells
                have fR := (sR.next hbW).bx.cells
                have rR := (sR.next hbW).bx.froz
                have hb7 := put7_below (sR.next hbW).bel (Nat.le_refl _) ⟨⟨#[]⟩, ⟨#[]⟩, 0, 0, 0, 0, ⟨#[]⟩⟩
                dsimp only at fN fR
                unfold Ev.zero at *
                clear sR bN hbW b6
                go_wp2
                exact bodyPost_ret (v := .tuple #[.agg #[.string ⟨#[]⟩, .string ⟨#[]⟩, .int .i64 0, .int .i64 0, .int .i64 0, .int .i64 0, .string ⟨#[]⟩], .int .i64 20]) (by simp [results, Try.results11, go_sem, fR]) rfl ⟨rfl, hb7⟩
            · cases t3
              · have b7 := b6.set 1 n1 (by omega)
                have hbW2 := hbW.setCell (p := ⟨W1.heap.size, 3, none⟩) (Nat.le_refl _) (.int .i64 n1)
                have HK2 : Hid ((0 < 2 → t2 = false) ∧ (1 < 2 → false = false) ∧ (2 < 2 → t4 = false) ∧ (3 < 2 → t5 = false)) := hide ⟨fun _ => (unhide HK).1 (by omega), fun _ => rfl, fun h => absurd h (by omega), fun h => absurd h (by omega)⟩
                simp at f6 b7
                clear HK HNO HKO HSO
                go_wp2
                go_roundw
                case rel => exact ⟨2, by omega, by go_num, hbW2, by simpa using b7, hide (by first | (simp; done) | (have := unhide HK2; simpa using this))⟩
                case measure => simp [intOf]
              · obtain ⟨rfl, rfl⟩ := unhide HNO (by simp [kinds])
                clear HNO HKO HSO HCS HK
                have fN := (bN.below hbW bN.lt).cells
                have fR := (sR.next hbW).bx.cells
                have rR := (sR.next hbW).bx.froz
                have hb7 := put7_below (sR.next hbW).bel (Nat.le_refl _) ⟨⟨#[]⟩, ⟨#[]⟩, 0, 0, 0, 0, ⟨#[]⟩⟩
                dsimp only at fN fR
                unfold Ev.zero at *
                clear sR bN hbW b6
                go_wp2
                exact bodyPost_ret (v := .tuple #[.agg #[.string ⟨#[]⟩, .string ⟨#[]⟩, .int .i64 0, .int .i64 0, .int .i64 0, .int .i64 0, .string ⟨#[]⟩], .int .i64 20]) (by simp [results, Try.results11, go_sem, fR]) rfl ⟨rfl, hb7⟩
            · cases t4
              · have b7 := b6.set 2 n2 (by omega)
                have hbW2 := hbW.setCell (p := ⟨W1.heap.size, 4, none⟩) (Nat.le_refl _) (.int .i64 n2)
                have HK2 : Hid ((0 < 3 → t2 = false) ∧ (1 < 3 → t3 = false) ∧ (2 < 3 → false = false) ∧ (3 < 3 → t5 = false)) := hide ⟨fun _ => (unhide HK).1 (by omega), fun _ => (unhide HK).2.1 (by omega), fun _ => rfl, fun h => absurd h (by omega)⟩
                simp at f6 b7
                clear HK HNO HKO HSO
                go_wp2
                go_roundw
                case rel => exact ⟨3, by omega, by go_num, hbW2, by simpa using b7, hide (by first | (simp; done) | (have := unhide HK2; simpa using this))⟩
                case measure => simp [intOf]
              · obtain ⟨rfl, rfl⟩ := unhide HNO (by simp [kinds])
                clear HNO HKO HSO HCS HK
                have fN := (bN.below hbW bN.lt).cells
                have fR := (sR.next hbW).bx.cells
                have rR := (sR.next hbW).bx.froz
                have hb7 := put7_below (sR.next hbW).bel (Nat.le_refl _) ⟨⟨#[]⟩, ⟨#[]⟩, 0, 0, 0, 0, ⟨#[]⟩⟩
                dsimp only at fN fR
                unfold Ev.zero at *
                clear sR bN hbW b6
                go_wp2
                exact bodyPost_ret (v := .tuple #[.agg #[.string ⟨#[]⟩, .string ⟨#[]⟩, .int .i64 0, .int .i64 0, .int .i64 0, .int .i64 0, .string ⟨#[]⟩], .int .i64 20]) (by simp [results, Try.results11, go_sem, fR]) rfl ⟨rfl, hb7⟩
            · cases t5
              · have b7 := b6.set 3 n3 (by omega)
                have hbW2 := hbW.setCell (p := ⟨W1.heap.size, 5, none⟩) (Nat.le_refl _) (.int .i64 n3)
                have HK2 : Hid ((0 < 4 → t2 = false) ∧ (1 < 4 → t3 = false) ∧ (2 < 4 → t4 = false) ∧ (3 < 4 → false = false)) := hide ⟨fun _ => (unhide HK).1 (by omega), fun _ => (unhide HK).2.1 (by omega), fun _ => (unhide HK).2.2.1 (by omega), fun _ => rfl⟩
                simp at f6 b7
                clear HK HNO HKO HSO
                go_wp2
                go_roundw
                case rel => exact ⟨4, by omega, by go_num, hbW2, by simpa using b7, hide (by first | (simp; done) | (have := unhide HK2; simpa using this))⟩
                case measure => simp [intOf]
              · obtain ⟨rfl, rfl⟩ := unhide HNO (by simp [kinds])
                clear HNO HKO HSO HCS HK
                have fN := (bN.below hbW bN.lt).cells
                have fR := (sR.next hbW).bx.cells
                have rR := (sR.next hbW).bx.froz
                have hb7 := put7_below (sR.next hbW).bel (Nat.le_refl _) ⟨⟨#[]⟩, ⟨#[]⟩, 0, 0, 0, 0, ⟨#[]⟩⟩
                dsimp only at fN fR
                unfold Ev.zero at *
                clear sR bN hbW b6
                go_wp2
                exact bodyPost_ret (v := .tuple #[.agg #[.string ⟨#[]⟩, .string ⟨#[]⟩, .int .i64 0, .int .i64 0, .int .i64 0, .int .i64 0, .string ⟨#[]⟩], .int .i64 20]) (by simp [results, Try.results11, go_sem, fR]) rfl ⟨rfl, hb7⟩
            · obtain ⟨u2, u3, u4, u5⟩ := unhide HK
              obtain rfl := u2 (by omega)
              obtain rfl := u3 (by omega)
              obtain rfl := u4 (by omega)
              obtain rfl := u5 (by omega)
              have hev := unhide HKO rfl
              have my := refMayE_any ⟨k, t, n0, n1, n2, n3, x⟩ wr hev
              obtain ⟨hC, hV⟩ := unhide HSO rfl
              simp at f6
              unfold Ev.c at my
              dsimp only at my
              clear u2 u3 u4 u5 HK HKO HSO HNO HCS hev fc
              by_cases hm : Ev.may ⟨k, t, n0, n1, n2, n3, x⟩ = true
              · rw [hm] at my
                rw [if_pos hm] at hC hV
                subst hC hV
                have MY := hide my
                have s8 := (sR.next hbW).alloc (.cells #[.string k, .string t, .int .i64 n0, .int .i64 n1, .int .i64 n2, .int .i64 n3, .string x] 24)
                have b8 := b6.alloc (.cells #[.string k, .string t, .int .i64 n0, .int .i64 n1, .int .i64 n2, .int .i64 n3, .string x] 24)
                clear my hm
                go_wp2_with fail
                refine (unhide MY).mono ?_
                rintro r w8 ⟨rfl, rfl⟩
                generalize wr.alloc (.cells #[.string k, .string t, .int .i64 n0, .int .i64 n1, .int .i64 n2, .int .i64 n3, .string x] 24) = W8 at *
                have f8 := b8.cells
                have fR := s8.bx.cells
                have rR := s8.bx.froz
                have hb7 := put7_below s8.bel (Nat.le_refl _) ⟨k, t, n0, n1, n2, n3, x⟩
                simp at f8
                dsimp only at fR
                clear sR bN hbW b6 f6 r6 s8 b8 MY
                go_wp2
                exact bodyPost_ret (v := .tuple #[.agg #[.string k, .string t, .int .i64 n0, .int .i64 n1, .int .i64 n2, .int .i64 n3, .string x], .int .i64 0]) (by simp [results, Try.results11, go_sem, fR]) rfl ⟨rfl, hb7⟩
              · have hm' : Ev.may ⟨k, t, n0, n1, n2, n3, x⟩ = false := by simpa using hm
                rw [hm'] at my
                rw [if_neg hm] at hC hV
                subst hC hV
                have MY := hide my
                have s8 := (sR.next hbW).alloc (.cells #[.string k, .string t, .int .i64 n0, .int .i64 n1, .int .i64 n2, .int .i64 n3, .string x] 24)
                have b8 := (bN.below hbW bN.lt).alloc (.cells #[.string k, .string t, .int .i64 n0, .int .i64 n1, .int .i64 n2, .int .i64 n3, .string x] 24)
                clear my hm hm'
                go_wp2_with fail
                refine (unhide MY).mono ?_
                rintro r w8 ⟨rfl, rfl⟩
                generalize wr.alloc (.cells #[.string k, .string t, .int .i64 n0, .int .i64 n1, .int .i64 n2, .int .i64 n3, .string x] 24) = W8 at *
                have fN := b8.cells
                have fR := s8.bx.cells
                have rR := s8.bx.froz
                have hb7 := put7_below s8.bel (Nat.le_refl _) ⟨⟨#[]⟩, ⟨#[]⟩, 0, 0, 0, 0, ⟨#[]⟩⟩
                dsimp only at fN fR
                unfold Ev.zero at *
                clear sR bN hbW b6 f6 r6 s8 b8 MY
                go_wp2
                exact bodyPost_ret (v := .tuple #[.agg #[.string ⟨#[]⟩, .string ⟨#[]⟩, .int .i64 0, .int .i64 0, .int .i64 0, .int .i64 0, .string ⟨#[]⟩], .int .i64 20]) (by simp [results, Try.results11, go_sem, fR]) rfl ⟨rfl, hb7⟩
        · have hne : [t0, t1, t2, t3, t4, t5, t6] ≠ kinds := fun h => q016 (by simp [kinds] at h; exact ⟨h.1, h.2.1, h.2.2.2.2.2.2⟩)
          obtain ⟨rfl, rfl⟩ := unhide HNO hne
          clear HNO HKO HSO HCS hne
          rcases (by cases t0 <;> cases t1 <;> cases t6 <;> simp at q016 ⊢ : t0 = false ∨ (t0 = true ∧ t1 = false) ∨ (t0 = true ∧ t1 = true ∧ t6 = false)) with rfl | ⟨rfl, rfl⟩ | ⟨rfl, rfl, rfl⟩
          all_goals
            clear q016
            have fN := bN.cells
            have fR := sR.bx.cells
            have rR := sR.bx.froz
            have hb7 := put7_below sR.bel (Nat.le_refl _) ⟨⟨#[]⟩, ⟨#[]⟩, 0, 0, 0, 0, ⟨#[]⟩⟩
            dsimp only at fN fR
            unfold Ev.zero at *
            go_wp2
            exact bodyPost_ret (v := .tuple #[.agg #[.string ⟨#[]⟩, .string ⟨#[]⟩, .int .i64 0, .int .i64 0, .int .i64 0, .int .i64 0, .string ⟨#[]⟩], .int .i64 20]) (by simp [results, Try.results11, go_sem, fR]) rfl ⟨rfl, hb7⟩
      · obtain ⟨rfl, rfl⟩ := unhide HN (fun e => h7 (by have := congrArg List.length e.2; simpa [kinds] using this)) hbig
        have g : ((iL.length : Int) != 7) = true := by rw [bne_iff_ne]; omega
        clear HS HOK HN h7 hi
        generalize iL.length = n at *
        have fN := bN.cells
        have fR := sR.bx.cells
        have rR := sR.bx.froz
        have hb7 := put7_below sR.bel (Nat.le_refl _) ⟨⟨#[]⟩, ⟨#[]⟩, 0, 0, 0, 0, ⟨#[]⟩⟩
        dsimp only at fN fR
        unfold Ev.zero at *
        go_wp2
        exact bodyPost_ret (v := .tuple #[.agg #[.string ⟨#[]⟩, .string ⟨#[]⟩, .int .i64 0, .int .i64 0, .int .i64 0, .int .i64 0, .string ⟨#[]⟩], .int .i64 20]) (by simp [results, Try.results11, go_sem, fR]) rfl ⟨rfl, hb7⟩
    · rw [if_pos hc] at hic
      subst hic
      obtain ⟨rfl, rfl⟩ := unhide HN (by rintro ⟨h, _⟩; cases h) hbig
      have g : (c != 0) = true := by rw [bne_iff_ne]; exact hc
      unfold Ev.zero Ev.c
      clear hat hil hsome hok HN hc
      go_enter Try.func11, Try.ntmps11
      go_wp2_with fail
      generalize ((w.alloc (.cells #[.string ⟨#[]⟩, .string ⟨#[]⟩, .int .i64 0, .int .i64 0, .int .i64 0, .int .i64 0, .string ⟨#[]⟩] 24)).alloc (.cells #[.string ⟨#[]⟩, .string ⟨#[]⟩, .int .i64 0, .int .i64 0, .int .i64 0, .int .i64 0, .string ⟨#[]⟩] 24)) = W0 at *
      refine (unhide D W0).mono ?_
      rintro r w1 ⟨v1, rfl, ow, hb1⟩
      have s1 := (s0.next hb1).alloc (.cells #[.int .i64 p, .int .i64 c] 60)
      have b1 := (b0.below hb1 b0.lt).alloc (.cells #[.int .i64 p, .int .i64 c] 60)
      have fN := b1.cells
      have fR := s1.bx.cells
      have rR := s1.bx.froz
      have hb7 := put7_below s1.bel (Nat.le_refl _) ⟨⟨#[]⟩, ⟨#[]⟩, 0, 0, 0, 0, ⟨#[]⟩⟩
      dsimp only at fN fR
      clear s0 b0 hb1 ow s1 b1
      go_wp2
      exact bodyPost_ret (v := .tuple #[.agg #[.string ⟨#[]⟩, .string ⟨#[]⟩, .int .i64 0, .int .i64 0, .int .i64 0, .int .i64 0, .string ⟨#[]⟩], .int .i64 20]) (by simp [results, Try.results11, go_sem, fR]) rfl ⟨rfl, hb7⟩
end Go.Proofs.Ytijckimjcogfjaa
