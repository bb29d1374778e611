/-
  The document's answer for the bytes of a list (Decode) is the plain function's.
  Decode of a match: what bytes are as a match, as the plain function has it.
-/
import Derived.Test.YtpfcoaimciojjaaG24
import Derived.Test.YtpfcoaimciojjaaG22
namespace Go.Proofs.Ytpfcoaimciojjaa
open Go.RowKit

set_option maxHeartbeats 400000 in
theorem refFault_any (p c : Int) (w : World) :
    Calls Try.prog 45 #[.int .i64 p, .int .i64 c] w fun e w' => e = .returned (.agg #[.int .i64 p, .int .i64 c]) ∧ w' = w.alloc (.cells #[.int .i64 p, .int .i64 c] 57) := by
  go_enter Try.func45, Try.ntmps45
  go_wp2
  exact bodyPost_ret (v := .agg #[.int .i64 p, .int .i64 c]) (by simp [results, Try.results45, go_sem]) rfl ⟨rfl, rfl⟩
set_option maxHeartbeats 2000000 in
set_option maxRecDepth 100000 in
theorem refDecode_any (b : ByteArray) (w : World) (hb : b.size ≤ 9223372036854775807) :
    Calls Try.prog 28 #[.string b] w fun e w' => ∃ v, e = .returned (.tuple #[v, .agg #[.int .i64 (decS b.data.toList).2.1, .int .i64 (decS b.data.toList).2.2]]) ∧ OwnsI w.heap.size w' v (decS b.data.toList).1 ∧ Below w.heap.size w w' := by
  generalize hR : decS b.data.toList = R
  have hbl : b.data.toList.length = b.size := Array.length_toList
  unfold decS at hR
  rw [hbl] at hR
  clear hbl
  by_cases hbig : 262144 < b.size
  · rw [if_pos hbig] at hR
    subst hR
    go_enter Try.func28, Try.ntmps28
    go_wp2_with fail
    refine (refFault_any 0 2 _).mono ?_
    rintro e w2 ⟨rfl, rfl⟩
    have hfb : FBox w.heap.size ((w.alloc (.cells #[.int .i64 0, .int .i64 0] 57)).alloc (.cells #[.int .i64 0, .int .i64 2] 57)) := (Below.heap_alloc _ _ _ (by simp)).trans (heap_alloc_new w _)
    have hbel : Below w.heap.size w ((w.alloc (.cells #[.int .i64 0, .int .i64 0] 57)).alloc (.cells #[.int .i64 0, .int .i64 2] 57)) := ((Below.refl _ _).alloc (Nat.le_refl _) _).alloc (by simp) _
    generalize ((w.alloc (.cells #[.int .i64 0, .int .i64 0] 57)).alloc (.cells #[.int .i64 0, .int .i64 2] 57)) = w2 at *
    have hfc := hfb.cells
    go_wp2
    exact bodyPost_ret (v := .tuple #[.slice none 0 0, .agg #[.int .i64 0, .int .i64 2]]) (by simp [results, Try.results28, go_sem, hfc]) rfl ⟨_, rfl, OwnsI.nil _ _, (hbel.setCell (Nat.le_refl _) _).setCell (Nat.le_refl _) _⟩
  · rw [if_neg hbig] at hR
    have HR := hide hR
    clear hR
    obtain ⟨i0, hi, hz0, hz1, hz2⟩ := info_parts info_Item
    go_enter Try.func28, Try.ntmps28
    go_wp2_with fail
    go_loopw [4, 5] (fun v p wr => ∃ (j f : Nat) (acc : List It), j ≤ b.size ∧ p = .int .i64 (j : Int) ∧ OwnsI w.heap.size wr v acc ∧ Below w.heap.size w wr ∧ FBox w.heap.size wr ∧ acc.length ≤ 4096 ∧ b.size - j ≤ f ∧ Hid (decF f (b.data.toList.drop j) j acc = R)) (fun _ p _ => b.size - (intOf p).toNat)
    case atStart => exact ⟨0, b.size, [], Nat.zero_le _, rfl, OwnsI.nil _ _, (Below.refl _ _).alloc (Nat.le_refl _) _, heap_alloc_new _ _, by simp, by omega, HR⟩
    case round =>
      obtain ⟨j, f, acc, hj, rfl, hown, hbel, hfb, hacc, hf, HD⟩ := hrel
      obtain ⟨av, cv, rfl⟩ := hown.form
      have hfc := hfb.cells
      have hfl := hfb.lt
      by_cases hlt : j < b.size
      · obtain ⟨f, rfl⟩ : ∃ f', f = f' + 1 := ⟨f - 1, by omega⟩
        have hne : b.data.toList.drop j ≠ [] := fun e => by
          have := congrArg List.length e
          rw [List.length_drop, Array.length_toList] at this
          have : b.data.size = b.size := rfl
          simp at *; omega
        have hd := unhide HD
        rw [decF, if_neg hne] at hd
        clear HD hne
        by_cases hful : acc.length = 4096
        · rw [if_pos hful] at hd
          subst hd
          have hq : ((acc.length : Int) == 4096) = true := by simp; omega
          clear hful HR
          go_wp2_with fail
          refine (refFault_any (j : Int) 2 _).mono ?_
          rintro e w2 ⟨rfl, rfl⟩
          have hbel2 : Below w.heap.size w (wr.alloc (.cells #[.int .i64 (j : Int), .int .i64 2] 57)) := hbel.alloc (Nat.le_of_lt hfl) _
          have hfb2 : FBox w.heap.size (wr.alloc (.cells #[.int .i64 (j : Int), .int .i64 2] 57)) := (Below.heap_alloc _ _ _ hfl).trans hfb
          generalize (wr.alloc (.cells #[.int .i64 (j : Int), .int .i64 2] 57)) = w2 at *
          clear hfc hbel hfb hfl
          have hfc := hfb2.cells
          have hbel := hbel2
          go_wp2
          exact bodyPost_ret (v := .tuple #[.slice none 0 0, .agg #[.int .i64 (j : Int), .int .i64 2]]) (by simp [results, Try.results28, go_sem, hfc]) rfl ⟨_, rfl, OwnsI.nil _ _, (hbel.setCell (Nat.le_refl _) _).setCell (Nat.le_refl _) _⟩
        · rw [if_neg hful] at hd
          have hq : ((acc.length : Int) == 4096) = false := by simp; omega
          have hfull : acc.length < 4096 := by omega
          clear hful HR
          have hri := refItem_any b j wr hlt (by omega)
          have hok := rdI_ok (b.data.toList.drop j)
          rw [List.length_drop, Array.length_toList, show b.data.size = b.size from rfl] at hok
          generalize rdI (b.data.toList.drop j) = Q at *
          obtain ⟨⟨t, n, s⟩, m, code⟩ := Q
          dsimp only at hd hri hok
          by_cases hcode : code = 0
          · subst hcode
            rw [if_neg (by simp)] at hd
            have hm := hok rfl
            clear hok
            have hri' : Calls Try.prog 46 #[.string b, .int .i64 (j : Int)] wr fun e w' => e = .returned (.tuple #[.agg #[.bool t, .int .i64 n, .string s], .int .i64 ((j + m : Nat) : Int), .int .i64 0]) ∧ Below wr.heap.size wr w' := hri
            have HC := hide hri'
            have HD := hide hd
            clear hri hri' hd
            go_wp2_with fail
            refine (unhide HC).mono ?_
            rintro e w1 ⟨rfl, hb1⟩
            have hfb1 := hfb.below hb1 hfl
            have hfl1 := hfb1.lt
            have hbel1 : Below w.heap.size w w1 := hbel.trans (hb1.mono (Nat.le_of_lt hfl))
            have hown1 := hown.below hb1 (Nat.le_refl _)
            have HFB := hide hfb1
            clear hfb hfc hown hbel hb1 hfb1
            go_wp2_with (at_builtin; refine wpList_append_own _ rfl _ _ 49 rfl w.heap.size 47 i0 (.agg #[.bool false, .int .i64 0, .string ⟨#[]⟩]) 3 32 Try.underlying49 hi hz0 hz1 hz2 rfl (by decide) _ _ _ rfl ((hown1.alloc _).alloc _) ⟨w1.heap.size + 1, 0, none⟩ 1 1 [.bool t, .int .i64 n, .string s] rfl rfl ?c1 ?c2 ?c3 ?c4 ?c5 ?_)
            case c1 =>
              intro q u hq
              match q, hq with
              | 0, hq => simp at hq; subst hq; simp [Addr.add]
              | 1, hq => simp at hq; subst hq; simp [Addr.add]
              | 2, hq => simp at hq; subst hq; simp [Addr.add]
            case c2 => intro u hu; simp at hu; rcases hu with rfl | rfl | rfl <;> rfl
            case c3 => unfold maxLen; omega
            case c4 => omega
            case c5 => simp; omega
            intro v' w2 hown2 hgrow _
            have hfr : Fr w.heap.size 47 w1 w2 := (((Fr.refl _ _ w1).alloc (Nat.le_of_lt hfl1) _).alloc (by simp; omega) _).grown ((hown1.alloc _).alloc _) hgrow (by simp; omega)
            have hfb2 : FBox w.heap.size w2 := hfr.keep (unhide HFB) (by decide)
            have hown3 : OwnsI w.heap.size w2 v' (acc ++ [⟨t, n, s⟩]) := by
              unfold OwnsI
              rw [itemC_append, List.length_append]
              exact hown2
            have hbel2 := hbel1.trans hfr.below
            clear hown2 hgrow hown1 hfr hbel1 HFB
            have HFB := hide hfb2
            clear hfb2
            rw [List.drop_drop] at HD
            go_wp2
            go_roundw
            case rel => exact ⟨j + m, f, acc ++ [⟨t, n, s⟩], by omega, by go_num, hown3, hbel2, unhide HFB, by simp; omega, by omega, HD⟩
            case measure => simp [intOf]; omega
          · rw [if_pos hcode] at hd
            subst hd
            have gc : (code != 0) = true := by rw [bne_iff_ne]; exact hcode
            have hri' : Calls Try.prog 46 #[.string b, .int .i64 (j : Int)] wr fun e w' => e = .returned (.tuple #[.agg #[.bool t, .int .i64 n, .string s], .int .i64 0, .int .i64 code]) ∧ Below wr.heap.size wr w' := by
              have e0 : riE j (⟨t, n, s⟩, m, code) = 0 := by unfold riE; rw [if_neg hcode]
              rw [e0] at hri
              exact hri
            have HC := hide hri'
            clear hri hri' hok hcode
            go_wp2_with fail
            refine (unhide HC).mono ?_
            rintro e w1 ⟨rfl, hb1⟩
            have hfb1 := hfb.below hb1 hfl
            have hfc1 := hfb1.cells
            have hfl1 := hfb1.lt
            have hbel1 : Below w.heap.size w w1 := hbel.trans (hb1.mono (Nat.le_of_lt hfl))
            have hbel2 : Below w.heap.size w (w1.alloc (.cells #[.bool t, .int .i64 n, .string s] 47)) := hbel1.alloc (Nat.le_of_lt hfl1) _
            have hfb2 : FBox w.heap.size (w1.alloc (.cells #[.bool t, .int .i64 n, .string s] 47)) := (Below.heap_alloc _ _ _ hfl1).trans hfb1
            clear hfb hfc hown hbel hb1 hfb1 hfc1 hbel1
            go_wp2_with fail
            generalize (w1.alloc (.cells #[.bool t, .int .i64 n, .string s] 47)) = w2 at *
            refine (refFault_any (j : Int) code _).mono ?_
            rintro e w3 ⟨rfl, rfl⟩
            have hfl2 := hfb2.lt
            have hbel3 : Below w.heap.size w (w2.alloc (.cells #[.int .i64 (j : Int), .int .i64 code] 57)) := hbel2.alloc (Nat.le_of_lt hfl2) _
            have hfb3 : FBox w.heap.size (w2.alloc (.cells #[.int .i64 (j : Int), .int .i64 code] 57)) := (Below.heap_alloc _ _ _ hfl2).trans hfb2
            generalize (w2.alloc (.cells #[.int .i64 (j : Int), .int .i64 code] 57)) = w3 at *
            have hfc3 := hfb3.cells
            clear hbel2 hfb2 hfl2
            go_wp2
            exact bodyPost_ret (v := .tuple #[.slice none 0 0, .agg #[.int .i64 (j : Int), .int .i64 code]]) (by simp [results, Try.results28, go_sem, hfc3]) rfl ⟨_, rfl, OwnsI.nil _ _, (hbel3.setCell (Nat.le_refl _) _).setCell (Nat.le_refl _) _⟩
      · have hd := unhide HD
        rw [List.drop_of_length_le (by simp; omega), decF_nil] at hd
        subst hd
        clear HD HR
        go_wp2
        exact bodyPost_ret (v := .tuple #[.slice av acc.length cv, .agg #[.int .i64 0, .int .i64 0]]) (by simp [results, Try.results28, go_sem, hfc]) rfl ⟨_, rfl, hown.fault hfb _ _, (hbel.setCell (Nat.le_refl _) _).setCell (Nat.le_refl _) _⟩
end Go.Proofs.Ytpfcoaimciojjaa
namespace Go.Proofs.Ytpfcoaimciojjaa
open Go.RowKit

theorem OwnsI.caps {B : Nat} {w : World} {v : Value} {l : List It} (h : OwnsI B w v l) : ∃ ad cp, v = .slice ad l.length cp ∧ ItemsAt w ad l ∧ l.length ≤ cp ∧ cp ≤ 9223372036854775807 := by
  obtain ⟨ad, cp, rfl, hi⟩ := h.items
  refine ⟨ad, cp, rfl, hi, ?_⟩
  obtain ⟨_, ⟨e, h0⟩ | ⟨g, cp', cur, e, _, _, hn, hm, _⟩⟩ := h
  · simp only [Value.slice.injEq] at e
    exact ⟨by omega, by omega⟩
  · simp only [Value.slice.injEq] at e
    obtain ⟨_, _, rfl⟩ := e
    exact ⟨hn, by unfold maxLen at hm; omega⟩
theorem mtOk_nil : MtOk ⟨#[]⟩ [] := ⟨by decide, by decide, by simp⟩
theorem stages_nil (w : World) (a : Option Addr) : StagesAt w a [] := fun h => absurd rfl h
set_option maxHeartbeats 4000000 in
set_option maxRecDepth 100000 in
theorem decodeMatch_own (b : ByteArray) (w : World) (hb : b.size ≤ 9223372036854775807) :
    Calls Try.prog 16 #[.string b] w fun r w' => ∃ k ss a c, r = .returned (.tuple #[.agg #[.string k, .slice a ss.length c], .int .i64 (dmC b)]) ∧ StagesAt w' a ss ∧ MtOk k ss ∧ (dmC b = 0 → itC b = 0 ∧ mtOf (itL b) = some (k, ss) ∧ mayM k ss = true) ∧ Below w.heap.size w w' ∧ (dmC b ≠ 0 → k = ⟨#[]⟩ ∧ ss = []) ∧ ∃ vs, OwnsV w.heap.size w' (.slice a ss.length c) vs ∧ All3 w.heap.size w' vs ss := by
  have hb0 : Below w.heap.size w (w.alloc (.cells #[.string ⟨#[]⟩, .slice none 0 0] 35)) := below_new _ _
  have bR : VBox w.heap.size ⟨#[]⟩ (.slice none 0 0) (w.alloc (.cells #[.string ⟨#[]⟩, .slice none 0 0] 35)) := heap_alloc_new w _
  have io := fun w => itemsOf_any b w hb
  have hlen := (itL_ok b).2
  have hlok := (itL_ok b).1
  have hmay := itL_may b
  have hC : dmC b = if itC b ≠ 0 then itC b else match mtOf (itL b) with
    | some z => if mayM z.1 z.2 = true then 0 else 20
    | none => 20 := rfl
  generalize dmC b = C at *
  generalize itL b = L at *
  generalize itC b = c at *
  have IO := hide io
  clear io
  by_cases hc : c = 0
  · subst hc
    rw [if_neg (by simp)] at hC
    have mok := fun k ss h => mtOf_ok (k := k) (ss := ss) (hmay rfl).1 hlok hlen h
    have HC := hide hC
    have MOK := hide mok
    clear hC mok hmay hlok
    go_enter Try.func16, Try.ntmps16
    go_wp2_with fail
    generalize w.alloc (.cells #[.string ⟨#[]⟩, .slice none 0 0] 35) = W0 at *
    refine (unhide IO W0).mono ?_
    rintro r w1 ⟨v1, rfl, ow, hb1⟩
    have hb1' := hb0.trans (hb1.mono hb0.size)
    have HW1 := hb1'.size
    have bR1 := bR.below hb1 bR.lt
    obtain ⟨a1, c1, rfl, hi1, hc1, hm1⟩ := ow.caps
    have mo := matchOf_any a1 c1 L w1 hc1 hm1 hlen hi1
    have MO := hide mo
    clear mo IO hb0 bR hb1 ow hi1
    go_wp2_with fail
    refine (unhide MO).mono ?_
    rintro r w2 ⟨hb2, hor⟩
    have hb2' := hb1'.trans (hb2.mono hb1'.size)
    have bR2 := bR1.below hb2 bR1.lt
    clear MO hb1' bR1
    rcases hor with ⟨hnone, k, a, n, cc, rfl⟩ | ⟨k, ss, a, cc, hsome, rfl, vs, ov, al⟩
    · have hC := unhide HC
      rw [hnone] at hC
      dsimp only at hC
      subst hC
      have hb3 := hb2'.alloc hb2'.size (.cells #[.string k, .slice a n cc] 35)
      have bR3 := bR2.alloc (.cells #[.string k, .slice a n cc] 35)
      have fR := bR3.cells
      have rR := bR3.froz
      have hbf := (hb3.setCell (p := ⟨w.heap.size, 0, none⟩) (Nat.le_refl _) (.string ⟨#[]⟩)).setCell (p := ⟨w.heap.size, 1, none⟩) (Nat.le_refl _) (.slice none 0 0)
      clear HC MOK hb2 hb2' bR2 hb3 bR3
      go_wp2
      exact bodyPost_ret (v := .tuple #[.agg #[.string ⟨#[]⟩, .slice none 0 0], .int .i64 20]) (by simp [results, Try.results16, go_sem, fR]) rfl ⟨⟨#[]⟩, [], none, 0, rfl, stages_nil _ _, mtOk_nil, fun h => absurd h (by decide), hbf, fun _ => ⟨rfl, rfl⟩, [], OwnsV.nil _ _, trivial⟩
    · have hok := unhide MOK k ss hsome
      have hC := unhide HC
      rw [hsome] at hC
      dsimp only at hC
      obtain ⟨_, _, he, hst⟩ := ov.stages3 al
      simp only [Value.slice.injEq, true_and] at he
      obtain ⟨rfl, rfl⟩ := he
      have ov4 := (ov.alloc (.cells #[.string k, .slice a ss.length cc] 35)).alloc (.cells #[.string k, .slice a ss.length cc] 35)
      have al4 := (al.mono (w' := w2.alloc (.cells #[.string k, .slice a ss.length cc] 35)) (fun v p h => h.below (below_new _ _) (Nat.le_refl _))).mono (w' := (w2.alloc (.cells #[.string k, .slice a ss.length cc] 35)).alloc (.cells #[.string k, .slice a ss.length cc] 35)) (fun v p h => h.below (below_new _ _) (Nat.le_refl _))
      have hst3 := hst.below (below_new w2 (.cells #[.string k, .slice a ss.length cc] 35)) (Nat.le_refl _)
      have ck := checkMatch_any k a cc ss _ hok hst3
      have hst4 := hst3.below (below_new _ (.cells #[.string k, .slice a ss.length cc] 35)) (Nat.le_refl _)
      have hb3 := hb2'.alloc hb2'.size (.cells #[.string k, .slice a ss.length cc] 35)
      have bR3 := bR2.alloc (.cells #[.string k, .slice a ss.length cc] 35)
      have bM3 : VBox w2.heap.size k (.slice a ss.length cc) (w2.alloc (.cells #[.string k, .slice a ss.length cc] 35)) := heap_alloc_new w2 _
      have CK := hide ck
      clear ck hst HC MOK hb2 hb2' bR2 hst3
      go_wp2_with fail
      generalize w2.alloc (.cells #[.string k, .slice a ss.length cc] 35) = W3 at *
      have hb4 := hb3.alloc hb3.size (.cells #[.string k, .slice a ss.length cc] 35)
      have bR4 := bR3.alloc (.cells #[.string k, .slice a ss.length cc] 35)
      have bM4 := bM3.alloc (.cells #[.string k, .slice a ss.length cc] 35)
      refine (unhide CK).mono ?_
      rintro r w4 ⟨rfl, rfl⟩
      generalize W3.alloc (.cells #[.string k, .slice a ss.length cc] 35) = W4 at *
      have fR := bR4.cells
      have rR := bR4.froz
      have fM := bM4.cells
      by_cases hm : mayM k ss = true
      · have hch : chkM k ss = 0 := if_pos hm
        rw [if_pos hm] at hC
        subst hC
        rw [hch]
        have hbf := (hb4.setCell (p := ⟨w.heap.size, 0, none⟩) (Nat.le_refl _) (.string k)).setCell (p := ⟨w.heap.size, 1, none⟩) (Nat.le_refl _) (.slice a ss.length cc)
        have hst5 : StagesAt ((W4.setCell ⟨w.heap.size, 0, none⟩ (.string k)).setCell ⟨w.heap.size, 1, none⟩ (.slice a ss.length cc)) a ss := by
          have bR6 : VBox w.heap.size k (.slice none 0 0) (W4.setCell ⟨w.heap.size, 0, none⟩ (.string k)) := by
            unfold VBox at bR4 ⊢
            unfold World.setCell
            simp [bR4, Array.getElem?_modify]
          have ov7 := (ov4.setBox (i := 0) (y := .string k) bR4).setBox (i := 1) (y := .slice a ss.length cc) bR6
          have al7 := (al4.mono (w' := W4.setCell ⟨w.heap.size, 0, none⟩ (.string k)) (fun v p h => OwnsN.setBox bR4 v p h)).mono (w' := (W4.setCell ⟨w.heap.size, 0, none⟩ (.string k)).setCell ⟨w.heap.size, 1, none⟩ (.slice a ss.length cc)) (fun v p h => OwnsN.setBox bR6 v p h)
          obtain ⟨_, _, he, hst⟩ := ov7.stages3 al7
          simp only [Value.slice.injEq, true_and] at he
          obtain ⟨rfl, rfl⟩ := he
          exact hst
        have hown : ∃ vs, OwnsV w.heap.size ((W4.setCell ⟨w.heap.size, 0, none⟩ (.string k)).setCell ⟨w.heap.size, 1, none⟩ (.slice a ss.length cc)) (.slice a ss.length cc) vs ∧ All3 w.heap.size ((W4.setCell ⟨w.heap.size, 0, none⟩ (.string k)).setCell ⟨w.heap.size, 1, none⟩ (.slice a ss.length cc)) vs ss := by
          have bR6 : VBox w.heap.size k (.slice none 0 0) (W4.setCell ⟨w.heap.size, 0, none⟩ (.string k)) := by
            unfold VBox at bR4 ⊢
            unfold World.setCell
            simp [bR4, Array.getElem?_modify]
          exact ⟨vs, ((ov4.setBox (i := 0) (y := .string k) bR4).setBox (i := 1) (y := .slice a ss.length cc) bR6).mono HW1, ((al4.mono (w' := W4.setCell ⟨w.heap.size, 0, none⟩ (.string k)) (fun v p h => OwnsN.setBox bR4 v p h)).mono (w' := (W4.setCell ⟨w.heap.size, 0, none⟩ (.string k)).setCell ⟨w.heap.size, 1, none⟩ (.slice a ss.length cc)) (fun v p h => OwnsN.setBox bR6 v p h)).base HW1⟩
        have HOWN := hide hown
        have HS := hide hst5
        clear hown
        have HSOME := hide hsome
        clear hch hb3 bR3 bM3 CK hst4 hst5 bR4 bM4 hb4 hsome ov4 al4 ov al
        go_wp2
        exact bodyPost_ret (v := .tuple #[.agg #[.string k, .slice a ss.length cc], .int .i64 0]) (by simp [results, Try.results16, go_sem, fR]) rfl ⟨k, ss, a, cc, rfl, unhide HS, hok, ⟨unhide HSOME, hm⟩, hbf, unhide HOWN⟩
      · have hch : chkM k ss = 20 := if_neg hm
        rw [if_neg hm] at hC
        subst hC
        rw [hch]
        have hbf := (hb4.setCell (p := ⟨w.heap.size, 0, none⟩) (Nat.le_refl _) (.string ⟨#[]⟩)).setCell (p := ⟨w.heap.size, 1, none⟩) (Nat.le_refl _) (.slice none 0 0)
        clear hch hb3 bR3 bM3 CK hst4 bR4 bM4 hb4 hsome hm ov4 al4 ov al
        generalize ss.length = n at *
        go_wp2
        exact bodyPost_ret (v := .tuple #[.agg #[.string ⟨#[]⟩, .slice none 0 0], .int .i64 20]) (by simp [results, Try.results16, go_sem, fR]) rfl ⟨⟨#[]⟩, [], none, 0, rfl, stages_nil _ _, mtOk_nil, fun h => absurd h (by decide), hbf, fun _ => ⟨rfl, rfl⟩, [], OwnsV.nil _ _, trivial⟩
  · rw [if_pos hc] at hC
    subst hC
    have g : (C != 0) = true := by rw [bne_iff_ne]; exact hc
    clear hmay
    go_enter Try.func16, Try.ntmps16
    go_wp2_with fail
    generalize w.alloc (.cells #[.string ⟨#[]⟩, .slice none 0 0] 35) = W0 at *
    refine (unhide IO W0).mono ?_
    rintro r w1 ⟨v1, rfl, ow, hb1⟩
    have hb1' := hb0.trans (hb1.mono hb0.size)
    have bR1 := bR.below hb1 bR.lt
    have fR := bR1.cells
    have rR := bR1.froz
    have hbf := (hb1'.setCell (p := ⟨w.heap.size, 0, none⟩) (Nat.le_refl _) (.string ⟨#[]⟩)).setCell (p := ⟨w.heap.size, 1, none⟩) (Nat.le_refl _) (.slice none 0 0)
    clear hb0 bR hb1 ow hb1' bR1 IO
    go_wp2
    exact bodyPost_ret (v := .tuple #[.agg #[.string ⟨#[]⟩, .slice none 0 0], .int .i64 C]) (by simp [results, Try.results16, go_sem, fR]) rfl ⟨⟨#[]⟩, [], none, 0, rfl, stages_nil _ _, mtOk_nil, fun h => absurd h hc, hbf, fun _ => ⟨rfl, rfl⟩, [], OwnsV.nil _ _, trivial⟩
theorem decodeMatch_any (b : ByteArray) (w : World) (hb : b.size ≤ 9223372036854775807) :
    Calls Try.prog 16 #[.string b] w fun r w' => ∃ k ss a c, r = .returned (.tuple #[.agg #[.string k, .slice a ss.length c], .int .i64 (dmC b)]) ∧ StagesAt w' a ss ∧ MtOk k ss ∧ (dmC b = 0 → itC b = 0 ∧ mtOf (itL b) = some (k, ss) ∧ mayM k ss = true) ∧ Below w.heap.size w w' :=
  (decodeMatch_own b w hb).mono fun _ _ ⟨k, ss, a, c, h1, h2, h3, h4, h5, _⟩ => ⟨k, ss, a, c, h1, h2, h3, h4, h5⟩
end Go.Proofs.Ytpfcoaimciojjaa
