/-
  The document's DecodeMatch, walked: first where the bytes are no list, or a list that does not begin as a match does.
-/
import Derived.Test.YtpfcoaimciojjaaG22
import Derived.Test.YtpfcoaimciojjaaG23
import Derived.Test.YtpfcoaimciojjaaG25
import Derived.Deep.DeepCutAuto
namespace Go.Proofs.Ytpfcoaimciojjaa
open Go.RowKit

/-- What a decoded match is: C is what was found, o the match where nothing was. -/
def DRes (C : Int) (o : Option (ByteArray × List (List Int))) (w' : World) (r : Ending) : Prop :=
  ∃ k ss a c, r = .returned (.tuple #[.agg #[.string k, .slice a ss.length c], .int .i64 C]) ∧ StagesAt w' a ss ∧ (C = 0 → o = some (k, ss)) ∧ (C ≠ 0 → k = ⟨#[]⟩ ∧ ss = [])
theorem DRes.no (C : Int) (o : Option (ByteArray × List (List Int))) (w' : World) (h : C ≠ 0) : DRes C o w' (.returned (.tuple #[.agg #[.string ⟨#[]⟩, .slice none 0 0], .int .i64 C])) :=
  ⟨⟨#[]⟩, [], none, 0, rfl, stages_nil _ _, fun e => absurd e h, fun _ => ⟨rfl, rfl⟩⟩
/-- What stays while a match is read. -/
structure RS2 (w : World) (W : World) : Prop where
  bel : Below w.heap.size w W
  bR : VBox w.heap.size ⟨#[]⟩ (.slice none 0 0) W
  bN : VBox (w.heap.size + 1) ⟨#[]⟩ (.slice none 0 0) W
section
variable {w W W' : World}
theorem RS2.alloc (h : RS2 w W) (o : Obj) : RS2 w (W.alloc o) := ⟨h.bel.alloc h.bel.size o, h.bR.alloc o, h.bN.alloc o⟩
theorem RS2.next (h : RS2 w W) (hb : Below W.heap.size W W') : RS2 w W' := ⟨h.bel.trans (hb.mono h.bel.size), h.bR.below hb h.bR.lt, h.bN.below hb h.bN.lt⟩
theorem RS2.fr (h : RS2 w W) (hf : Fr w.heap.size 61 W W') : RS2 w W' := ⟨h.bel.trans hf.below, h.bR.fr hf, h.bN.fr hf⟩
theorem RS2.full (h : RS2 w W) : (W.cell? ⟨w.heap.size, 0, none⟩ = some (.string ⟨#[]⟩) ∧ W.cell? ⟨w.heap.size, 1, none⟩ = some (.slice none 0 0)) ∧ (W.frozen? ⟨w.heap.size, 0, none⟩ = false ∧ W.frozen? ⟨w.heap.size, 1, none⟩ = false) ∧ (W.cell? ⟨w.heap.size + 1, 0, none⟩ = some (.string ⟨#[]⟩) ∧ W.cell? ⟨w.heap.size + 1, 1, none⟩ = some (.slice none 0 0)) := ⟨h.bR.cells, h.bR.froz, h.bN.cells⟩
theorem RS2.put (h : RS2 w W) (a b : Value) : Below w.heap.size w ((W.setCell ⟨w.heap.size, 0, none⟩ a).setCell ⟨w.heap.size, 1, none⟩ b) := (h.bel.setCell (p := ⟨w.heap.size, 0, none⟩) (Nat.le_refl _) a).setCell (p := ⟨w.heap.size, 1, none⟩) (Nat.le_refl _) b
theorem RS2.setBox (h : RS2 w W) {g : Nat} (hg : w.heap.size + 1 < g) (v : Value) : RS2 w (W.setCell ⟨g, 1, none⟩ v) :=
  ⟨h.bel.setCell (p := ⟨g, 1, none⟩) (by show w.heap.size ≤ g; omega) v, h.bR.setOther (i := 1) (by omega) v, h.bN.setOther (i := 1) (by omega) v⟩
theorem RS2.start (w : World) : RS2 w ((w.alloc (.cells #[.string ⟨#[]⟩, .slice none 0 0] 35)).alloc (.cells #[.string ⟨#[]⟩, .slice none 0 0] 35)) := by
  refine ⟨(below_new _ _).alloc (by simp) _, VBox.alloc (heap_alloc_new w _) _, ?_⟩
  have := heap_alloc_new (w.alloc (.cells #[.string ⟨#[]⟩, .slice none 0 0] 35)) (.cells #[.string ⟨#[]⟩, .slice none 0 0] 35)
  unfold VBox
  simpa using this
end
set_option maxHeartbeats 16000000 in
set_option maxRecDepth 100000 in
theorem refDecodeMatch_no (b : ByteArray) (w : World) (hb : b.size ≤ 9223372036854775807) (hno : ∀ x y r, itC b = 0 → itL b = x :: y :: r → x.t = true → False) :
    Calls Try.prog 17 #[.string b] w fun r w' => Below w.heap.size w w' ∧ DRes (dmC b) (mtOf (itL b)) w' r := by
  have s0 := RS2.start w
  by_cases hbig : 262144 < b.size
  · have hC : dmC b = 2 := by unfold dmC itC; rw [if_pos hbig]; rfl
    rw [hC]
    generalize mtOf (itL b) = o
    have S0 := hide s0
    clear hC s0
    go_enter Try.func17, Try.ntmps17
    go_upto_region 2 with fail
    have s0 := unhide S0
    clear S0
    generalize (w.alloc (.cells #[.string ⟨#[]⟩, .slice none 0 0] 35)).alloc (.cells #[.string ⟨#[]⟩, .slice none 0 0] 35) = W0 at *
    have f0 := s0.full
    go_wp2
    exact bodyPost_ret (v := .tuple #[.agg #[.string ⟨#[]⟩, .slice none 0 0], .int .i64 2]) (by simp [results, Try.results17, go_sem, f0]) rfl ⟨s0.put _ _, DRes.no _ _ _ (by decide)⟩
  · have d := fun w => refDecode_any b w hb
    have hat := decS_at b.data.toList
    have hic : itC b = if (decS b.data.toList).2.2 ≠ 0 then 20 else 0 := if_neg hbig
    have hil : itC b = 0 → itL b = (decS b.data.toList).1 := fun h => if_pos h
    have hlen := (itL_ok b).2
    have hlok := (itL_ok b).1
    have hC : dmC b = if itC b ≠ 0 then itC b else match mtOf (itL b) with
      | some z => if mayM z.1 z.2 = true then 0 else 20
      | none => 20 := rfl
    have HNO := hide hno
    clear hno
    generalize dmC b = C at *
    generalize itC b = ic at *
    generalize itL b = iL at *
    generalize decS b.data.toList = X at *
    obtain ⟨L, p, c⟩ := X
    dsimp only at d hat hic hil
    have D := hide d
    clear d
    by_cases hc : c = 0
    · obtain rfl := hat hc
      subst hc
      rw [if_neg (by simp)] at hic
      subst hic
      obtain rfl := hil rfl
      rw [if_neg (by simp)] at hC
      have HC := hide hC
      have HOK := hide hlok
      have S0 := hide s0
      clear hat hil hC hlok s0
      go_enter Try.func17, Try.ntmps17
      go_upto_region 2 with fail
      have s0 := unhide S0
      clear S0
      generalize (w.alloc (.cells #[.string ⟨#[]⟩, .slice none 0 0] 35)).alloc (.cells #[.string ⟨#[]⟩, .slice none 0 0] 35) = W0 at *
      go_wp2_with fail
      refine (unhide D W0).mono ?_
      rintro r w1 ⟨v1, rfl, ow, hb1⟩
      have s1 := (s0.next hb1).alloc (.cells #[.int .i64 0, .int .i64 0] 57)
      obtain ⟨a1, c1, rfl, hi1⟩ := ow.items
      have hi := hi1.below (below_new w1 (.cells #[.int .i64 0, .int .i64 0] 57)) (Nat.le_refl _)
      have fF : (w1.alloc (.cells #[.int .i64 0, .int .i64 0] 57)).cell? ⟨w1.heap.size, 0, none⟩ = some (.int .i64 0) ∧ (w1.alloc (.cells #[.int .i64 0, .int .i64 0] 57)).cell? ⟨w1.heap.size, 1, none⟩ = some (.int .i64 0) := by simp
      clear s0 hb1 ow hi1 D
      go_upto_region 5 with fail
      generalize w1.alloc (.cells #[.int .i64 0, .int .i64 0] 57) = W1 at *
      generalize w1.heap.size = gF at *
      by_cases h2 : iL.length < 2
      · have hm : mtOf iL = none := by
          match iL, h2 with
          | [], _ => rfl
          | [x], _ => rfl
          | x :: y :: r, h => exact absurd h (by simp)
        have hC := unhide HC
        rw [hm] at hC
        dsimp only at hC
        subst hC
        have f1 := s1.full
        clear hm HC HOK hi hlen
        generalize iL.length = n at *
        go_wp2
        exact bodyPost_ret (v := .tuple #[.agg #[.string ⟨#[]⟩, .slice none 0 0], .int .i64 20]) (by simp [results, Try.results17, go_sem, f1]) rfl ⟨s1.put _ _, DRes.no _ _ _ (by decide)⟩
      · obtain ⟨x, y, r, rfl⟩ : ∃ x y r, iL = x :: y :: r := by
          match iL, h2 with
          | [], h => exact absurd (by simp) h
          | [x], h => exact absurd (by simp) h
          | x :: y :: r, _ => exact ⟨x, y, r, rfl⟩
        obtain ⟨bI, offI, rfl, _, hcI⟩ := id hi (by simp)
        obtain ⟨d0, _, d2⟩ := hcI 0 (by simp)
        simp only [Nat.zero_mul, Nat.add_zero, List.getElem_cons_zero] at d0 d2
        clear hcI
        by_cases hx : x.t = true
        · exact absurd hx (fun h => unhide HNO x y r (by first | rfl | trivial) (by first | rfl | trivial) h)
        · have hx' : x.t = false := by simpa using hx
          have hm : mtOf (x :: y :: r) = none := by rw [mtOf, if_neg (fun h => hx h.1)]
          have hC := unhide HC
          rw [hm] at hC
          dsimp only at hC
          subst hC
          rw [hx'] at d0
          have f1 := s1.full
          have hn2 : ¬ (((x :: y :: r).length : Int) < 2) := by simp; omega
          have hn0 : (0 : Int) < ((x :: y :: r).length : Int) := by simp; omega
          clear hm HC HOK hi hlen hx hx' h2
          generalize (x :: y :: r).length = n at *
          go_wp2
          exact bodyPost_ret (v := .tuple #[.agg #[.string ⟨#[]⟩, .slice none 0 0], .int .i64 20]) (by simp [results, Try.results17, go_sem, f1]) rfl ⟨s1.put _ _, DRes.no _ _ _ (by decide)⟩
    · rw [if_pos hc] at hic
      subst hic
      rw [if_pos (by decide)] at hC
      subst hC
      generalize mtOf iL = o
      have gc : (c != 0) = true := by rw [bne_iff_ne]; exact hc
      have S0 := hide s0
      clear s0 hat hil hlen hlok hc
      go_enter Try.func17, Try.ntmps17
      go_upto_region 2 with fail
      have s0 := unhide S0
      clear S0
      generalize (w.alloc (.cells #[.string ⟨#[]⟩, .slice none 0 0] 35)).alloc (.cells #[.string ⟨#[]⟩, .slice none 0 0] 35) = W0 at *
      go_wp2_with fail
      refine (unhide D W0).mono ?_
      rintro r w1 ⟨v1, rfl, ow, hb1⟩
      have s1 := (s0.next hb1).alloc (.cells #[.int .i64 p, .int .i64 c] 57)
      obtain ⟨a1, c1, rfl, _⟩ := ow.items
      have fF : (w1.alloc (.cells #[.int .i64 p, .int .i64 c] 57)).cell? ⟨w1.heap.size, 0, none⟩ = some (.int .i64 p) ∧ (w1.alloc (.cells #[.int .i64 p, .int .i64 c] 57)).cell? ⟨w1.heap.size, 1, none⟩ = some (.int .i64 c) := by simp
      clear s0 hb1 ow D
      go_upto_region 5 with fail
      generalize w1.alloc (.cells #[.int .i64 p, .int .i64 c] 57) = W1 at *
      generalize w1.heap.size = gF at *
      have f1 := s1.full
      go_wp2
      exact bodyPost_ret (v := .tuple #[.agg #[.string ⟨#[]⟩, .slice none 0 0], .int .i64 20]) (by simp [results, Try.results17, go_sem, f1]) rfl ⟨s1.put _ _, DRes.no _ _ _ (by decide)⟩
end Go.Proofs.Ytpfcoaimciojjaa
