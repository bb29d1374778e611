/-
  Decode of a match: what bytes are as a match, as the plain function has it.
-/
import Derived.Test.YtijckimjcogfjaaEvK
namespace Go.Proofs.Ytijckimjcogfjaa
open Go.RowKit

theorem OwnsI.caps {B : Nat} {w : World} {v : Value} {l : List It} (h : OwnsI B w v l) : ∃ ad cp, v = .slice ad l.length cp ∧ ItemsAt w ad l ∧ l.length ≤ cp ∧ cp ≤ 9223372036854775807 := by
  obtain ⟨ad, cp, rfl, hi⟩ := h.items
  refine ⟨ad, cp, rfl, hi, ?_⟩
  obtain ⟨_, ⟨e, h0⟩ | ⟨g, cp', cur, e, _, _, hn, hm, _⟩⟩ := h
  · simp only [Value.slice.injEq] at e
    exact ⟨by omega, by omega⟩
  · simp only [Value.slice.injEq] at e
    obtain ⟨_, _, rfl⟩ := e
    exact ⟨hn, by unfold maxLen at hm; omega⟩
theorem mtOk_nil : MtOk ⟨#[]⟩ [] := ⟨by decide, by decide, by simp⟩
theorem stages_nil (w : World) (a : Option Addr) : StagesAt w a [] := fun h => absurd rfl h
set_option maxHeartbeats 4000000 in
set_option maxRecDepth 100000 in
theorem decodeMatch_any (b : ByteArray) (w : World) (hb : b.size ≤ 9223372036854775807) :
    Calls Try.prog 15 #[.string b] w fun r w' => ∃ k ss a c, r = .returned (.tuple #[.agg #[.string k, .slice a ss.length c], .int .i64 (dmC b)]) ∧ StagesAt w' a ss ∧ MtOk k ss ∧ (dmC b = 0 → itC b = 0 ∧ mtOf (itL b) = some (k, ss) ∧ mayM k ss = true) ∧ Below w.heap.size w w' := by
  have hb0 : Below w.heap.size w (w.alloc (.cells #[.string ⟨#[]⟩, .slice none 0 0] 35)) := below_new _ _
  have bR : VBox w.heap.size ⟨#[]⟩ (.slice none 0 0) (w.alloc (.cells #[.string ⟨#[]⟩, .slice none 0 0] 35)) := heap_alloc_new w _
  have io := fun w => itemsOf_any b w hb
  have hlen := (itL_ok b).2
  have hlok := (itL_ok b).1
  have hmay := itL_may b
  have hC : dmC b = if itC b ≠ 0 then itC b else match mtOf (itL b) with
    | some z => if mayM z.1 z.2 = true then 0 else 20
    | none => 20 := rfl
  generalize dmC b = C at *
  generalize itL b = L at *
  generalize itC b = c at *
  have IO := hide io
  clear io
  by_cases hc : c = 0
  · subst hc
    rw [if_neg (by simp)] at hC
    have mok := fun k ss h => mtOf_ok (k := k) (ss := ss) (hmay rfl).1 hlok hlen h
    have HC := hide hC
    have MOK := hide mok
    clear hC mok hmay hlok
    go_enter Try.func15, Try.ntmps15
    go_wp2_with fail
    generalize w.alloc (.cells #[.string ⟨#[]⟩, .slice none 0 0] 35) = W0 at *
    refine (unhide IO W0).mono ?_
    rintro r w1 ⟨v1, rfl, ow, hb1⟩
    have hb1' := hb0.trans (hb1.mono hb0.size)
    have bR1 := bR.below hb1 bR.lt
    obtain ⟨a1, c1, rfl, hi1, hc1, hm1⟩ := ow.caps
    have mo := matchOf_any a1 c1 L w1 hc1 hm1 hlen hi1
    have MO := hide mo
    clear mo IO hb0 bR hb1 ow hi1
    go_wp2_with fail
    refine (unhide MO).mono ?_
    rintro r w2 ⟨hb2, hor⟩
    have hb2' := hb1'.trans (hb2.mono hb1'.size)
    have bR2 := bR1.below hb2 bR1.lt
    clear MO hb1' bR1
    rcases hor with ⟨hnone, k, a, n, cc, rfl⟩ | ⟨k, ss, a, cc, hsome, rfl, B, vs, ov, al⟩
    · have hC := unhide HC
      rw [hnone] at hC
      dsimp only at hC
      subst hC
      have hb3 := hb2'.alloc hb2'.size (.cells #[.string k, .slice a n cc] 35)
      have bR3 := bR2.alloc (.cells #[.string k, .slice a n cc] 35)
      have fR := bR3.cells
      have rR := bR3.froz
      have hbf := (hb3.setCell (p := ⟨w.heap.size, 0, none⟩) (Nat.le_refl _) (.string ⟨#[]⟩)).setCell (p := ⟨w.heap.size, 1, none⟩) (Nat.le_refl _) (.slice none 0 0)
      clear HC MOK hb2 hb2' bR2 hb3 bR3
      go_wp2
      exact bodyPost_ret (v := .tuple #[.agg #[.string ⟨#[]⟩, .slice none 0 0], .int .i64 20]) (by simp [results, Try.results15, go_sem, fR]) rfl ⟨⟨#[]⟩, [], none, 0, rfl, stages_nil _ _, mtOk_nil, fun h => absurd h (by decide), hbf⟩
    · have hok := unhide MOK k ss hsome
      have hC := unhide HC
      rw [hsome] at hC
      dsimp only at hC
      obtain ⟨_, _, he, hst⟩ := ov.stages al
      simp only [Value.slice.injEq, true_and] at he
      obtain ⟨rfl, rfl⟩ := he
      have ov4 := (ov.alloc (.cells #[.string k, .slice a ss.length cc] 35)).alloc (.cells #[.string k, .slice a ss.length cc] 35)
      have al4 := (al.mono (w' := w2.alloc (.cells #[.string k, .slice a ss.length cc] 35)) (fun v p h => h.below (below_new _ _) (Nat.le_refl _))).mono (w' := (w2.alloc (.cells #[.string k, .slice a ss.length cc] 35)).alloc (.cells #[.string k, .slice a ss.length cc] 35)) (fun v p h => h.below (below_new _ _) (Nat.le_refl _))
      have hst3 := hst.below (below_new w2 (.cells #[.string k, .slice a ss.length cc] 35)) (Nat.le_refl _)
      have ck := checkMatch_any k a cc ss _ hok hst3
      have hst4 := hst3.below (below_new _ (.cells #[.string k, .slice a ss.length cc] 35)) (Nat.le_refl _)
      have hb3 := hb2'.alloc hb2'.size (.cells #[.string k, .slice a ss.length cc] 35)
      have bR3 := bR2.alloc (.cells #[.string k, .slice a ss.length cc] 35)
      have bM3 : VBox w2.heap.size k (.slice a ss.length cc) (w2.alloc (.cells #[.string k, .slice a ss.length cc] 35)) := heap_alloc_new w2 _
      have CK := hide ck
      clear ck hst HC MOK hb2 hb2' bR2 hst3
      go_wp2_with fail
      generalize w2.alloc (.cells #[.string k, .slice a ss.length cc] 35) = W3 at *
      have hb4 := hb3.alloc hb3.size (.cells #[.string k, .slice a ss.length cc] 35)
      have bR4 := bR3.alloc (.cells #[.string k, .slice a ss.length cc] 35)
      have bM4 := bM3.alloc (.cells #[.string k, .slice a ss.length cc] 35)
      refine (unhide CK).mono ?_
      rintro r w4 ⟨rfl, rfl⟩
      generalize W3.alloc (.cells #[.string k, .slice a ss.length cc] 35) = W4 at *
      have fR := bR4.cells
      have rR := bR4.froz
      have fM := bM4.cells
      by_cases hm : mayM k ss = true
      · have hch : chkM k ss = 0 := if_pos hm
        rw [if_pos hm] at hC
        subst hC
        rw [hch]
        have hbf := (hb4.setCell (p := ⟨w.heap.size, 0, none⟩) (Nat.le_refl _) (.string k)).setCell (p := ⟨w.heap.size, 1, none⟩) (Nat.le_refl _) (.slice a ss.length cc)
        have hst5 : StagesAt ((W4.setCell ⟨w.heap.size, 0, none⟩ (.string k)).setCell ⟨w.heap.size, 1, none⟩ (.slice a ss.length cc)) a ss := by
          have bR6 : VBox w.heap.size k (.slice none 0 0) (W4.setCell ⟨w.heap.size, 0, none⟩ (.string k)) := by
            unfold VBox at bR4 ⊢
            unfold World.setCell
            simp [bR4, Array.getElem?_modify]
          have ov7 := (ov4.setBox (i := 0) (y := .string k) bR4).setBox (i := 1) (y := .slice a ss.length cc) bR6
          have al7 := (al4.mono (w' := W4.setCell ⟨w.heap.size, 0, none⟩ (.string k)) (fun v p h => IntsT.setBox bR4 v p h)).mono (w' := (W4.setCell ⟨w.heap.size, 0, none⟩ (.string k)).setCell ⟨w.heap.size, 1, none⟩ (.slice a ss.length cc)) (fun v p h => IntsT.setBox bR6 v p h)
          obtain ⟨_, _, he, hst⟩ := ov7.stages al7
          simp only [Value.slice.injEq, true_and] at he
          obtain ⟨rfl, rfl⟩ := he
          exact hst
        have HS := hide hst5
        have HSOME := hide hsome
        clear hch hb3 bR3 bM3 CK hst4 hst5 bR4 bM4 hb4 hsome ov4 al4 ov al
        go_wp2
        exact bodyPost_ret (v := .tuple #[.agg #[.string k, .slice a ss.length cc], .int .i64 0]) (by simp [results, Try.results15, go_sem, fR]) rfl ⟨k, ss, a, ⟨cc, rfl⟩, unhide HS, hok, ⟨unhide HSOME, hm⟩, hbf⟩
      · have hch : chkM k ss = 20 := if_neg hm
        rw [if_neg hm] at hC
        subst hC
        rw [hch]
        have hbf := (hb4.setCell (p := ⟨w.heap.size, 0, none⟩) (Nat.le_refl _) (.string ⟨#[]⟩)).setCell (p := ⟨w.heap.size, 1, none⟩) (Nat.le_refl _) (.slice none 0 0)
        clear hch hb3 bR3 bM3 CK hst4 bR4 bM4 hb4 hsome hm ov4 al4 ov al
        generalize ss.length = n at *
        go_wp2
        exact bodyPost_ret (v := .tuple #[.agg #[.string ⟨#[]⟩, .slice none 0 0], .int .i64 20]) (by simp [results, Try.results15, go_sem, fR]) rfl ⟨⟨#[]⟩, [], none, 0, rfl, stages_nil _ _, mtOk_nil, fun h => absurd h (by decide), hbf⟩
  · rw [if_pos hc] at hC
    subst hC
    have g : (C != 0) = true := by rw [bne_iff_ne]; exact hc
    clear hmay
    go_enter Try.func15, Try.ntmps15
    go_wp2_with fail
    generalize w.alloc (.cells #[.string ⟨#[]⟩, .slice none 0 0] 35) = W0 at *
    refine (unhide IO W0).mono ?_
    rintro r w1 ⟨v1, rfl, ow, hb1⟩
    have hb1' := hb0.trans (hb1.mono hb0.size)
    have bR1 := bR.below hb1 bR.lt
    have fR := bR1.cells
    have rR := bR1.froz
    have hbf := (hb1'.setCell (p := ⟨w.heap.size, 0, none⟩) (Nat.le_refl _) (.string ⟨#[]⟩)).setCell (p := ⟨w.heap.size, 1, none⟩) (Nat.le_refl _) (.slice none 0 0)
    clear hb0 bR hb1 ow hb1' bR1 IO
    go_wp2
    exact bodyPost_ret (v := .tuple #[.agg #[.string ⟨#[]⟩, .slice none 0 0], .int .i64 C]) (by simp [results, Try.results15, go_sem, fR]) rfl ⟨⟨#[]⟩, [], none, 0, rfl, stages_nil _ _, mtOk_nil, fun h => absurd h hc, hbf⟩
end Go.Proofs.Ytijckimjcogfjaa
