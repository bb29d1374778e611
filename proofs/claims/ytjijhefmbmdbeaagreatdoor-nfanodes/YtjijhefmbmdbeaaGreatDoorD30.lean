/-
  The reader of patterns: all stages, and the number behind them.
-/
import Derived.Test.YtjijhefmbmdbeaaGreatDoorD29
import Derived.Deep.RegionHeld
namespace Go.Proofs.YtjijhefmbmdbeaaGreatDoor
open Go.RowKit Go.Shelf

theorem pstage_any {gr : Nat} {tk : Value} {l : List Tk} {k n : Nat} {sv : Value} {wi : Int} {rs : List SR} {W : World} (h : PB gr tk l k sv wi 0 0 W) (hk : k < l.length) (hL : Tail (l.drop k) n) (hG : OwnsG (gr + 1) W sv rs) (hrs : rs.length ≤ 8) :
    Calls Tryz.prog 78 #[.pointer (some ⟨gr, 0, none⟩)] W (StT gr tk l n sv wi rs W (stgR (l.drop k))) := by
  have ht0 := drop_cons hk
  cases hQ : hwOf (wdT l[k]) with
  | none =>
    refine pstage_how h hk hQ _ ?_
    unfold stgR
    rw [ht0]
    simp only [wdL]
    rw [hQ]
  | some q =>
    obtain ⟨hk1, hL1, _⟩ := hL.step ht0 (hw_kd (by rw [hQ]; rfl))
    have ht1 := drop_cons hk1
    have hR : stgR (l.drop k) = nmR q (l.drop (k + 1)) := by
      unfold stgR
      rw [ht0]
      simp only [wdL, List.drop_one, List.tail_cons]
      rw [hQ]
    rw [hR]
    by_cases hS : isSg (wdS l[k + 1]) = true
    · obtain ⟨hk2, hL2, _⟩ := hL1.step ht1 (sg_kd hS)
      refine pstage_rest h hk q hQ hk1 hS hk2 hL2 _ ?_ hG hrs
      unfold nmR
      rw [ht1]
      simp only [wdM, List.drop_one, List.tail_cons]
      rw [if_pos hS]
    · refine pstage_name h hk q hQ hk1 (by simpa using hS) _ ?_
      unfold nmR
      rw [ht1]
      simp only [wdM]
      exact if_neg hS
/-- What the reading of a pattern leaves. -/
def PtT (gr : Nat) (tk : Value) (l : List Tk) (W : World) (P : PRd) (e : Ending) (w' : World) : Prop := Below gr W w' ∧ match P with
  | .bad a c => e = .returned (.bool false) ∧ ∃ k' sv wi A C, PB gr tk l k' sv wi A C w' ∧ k' < l.length ∧ ((C ≠ 0 ∧ a = A ∧ c = C) ∨ (C = 0 ∧ a = hdPl (l.drop k') ∧ c = 120))
  | .good p => e = .returned (.bool true) ∧ ∃ k' sv rs, PB gr tk l k' sv p.wi 0 0 w' ∧ OwnsG (gr + 1) w' sv rs ∧ stgs rs = p.ss
theorem PtT.bad {gr : Nat} {tk : Value} {l : List Tk} {sv : Value} {wi : Int} {W w' : World} {P : PRd} {k' : Nat} (h : PB gr tk l k' sv wi 0 0 w') (hk : k' < l.length) (hB : Below gr W w') (hP : P = .bad (hdPl (l.drop k')) 120) : PtT gr tk l W P (.returned (.bool false)) w' := by
  subst hP
  exact ⟨hB, rfl, k', sv, wi, 0, 0, h, hk, Or.inr ⟨rfl, rfl, rfl⟩⟩
theorem PtT.st {gr : Nat} {tk : Value} {l : List Tk} {n : Nat} {sv : Value} {wi : Int} {rs : List SR} {W V w' : World} {P : PRd} {a c : Int} {e : Ending} (h : StT gr tk l n sv wi rs V (.bad a c) e w') (hB : Below gr W V) (hV : gr < V.heap.size) (hP : P = .bad a c) : PtT gr tk l W P e w' ∧ e = .returned (.bool false) := by
  obtain ⟨he, k', A, C, h1, h2, h3, h4⟩ := h
  subst hP
  exact ⟨⟨hB.trans (h4.below (by omega) (by simp)), he, k', sv, wi, A, C, h1, h2, h3⟩, he⟩
def lenAt (g : Nat) (W : World) : Nat := match W.cell? ⟨g, 2, none⟩ with
  | some (.slice _ n _) => n
  | _ => 0
theorem PB.lenAt {gr : Nat} {tk : Value} {l : List Tk} {k : Nat} {sva : Option Addr} {n svc : Nat} {wi rA rC : Int} {W : World} (h : PB gr tk l k (.slice sva n svc) wi rA rC W) : Go.Proofs.YtjijhefmbmdbeaaGreatDoor.lenAt gr W = n := by
  unfold Go.Proofs.YtjijhefmbmdbeaaGreatDoor.lenAt
  rw [h.cells.2.2.1]
theorem stgs_app (rs : List SR) (r : SR) : stgs (rs ++ [r]) = stgs rs ++ [r.s] := by unfold stgs; rw [List.map_append]; rfl
theorem ptR_step {f : Nat} {acc : List Stg} {l : List Tk} (h1 : wdL l ≠ witW) (h2 : acc.length ≠ 8) : ptR (f + 1) acc l = match stgR l with | .bad a c => .bad a c | .good s r => ptR f (acc ++ [s]) r := by
  rw [ptR, if_neg h1, if_neg h2]
  cases stgR l <;> rfl
theorem kd_at {l : List Tk} {k : Nat} (h : k < l.length) : hdKd (l.drop k) = l[k].kd := by rw [drop_cons h]; rfl
theorem pl_at {l : List Tk} {k : Nat} (h : k < l.length) : hdPl (l.drop k) = l[k].pl := by rw [drop_cons h]; rfl
set_option maxHeartbeats 8000000 in
set_option maxRecDepth 100000 in
theorem ppattern_any {gr : Nat} {tk : Value} {l : List Tk} {n : Nat} {W : World} (h : PB gr tk l 0 (.slice none 0 0) 0 0 0 W) (hL : Tail l n) :
    Calls Tryz.prog 50 #[.pointer (some ⟨gr, 0, none⟩)] W (PtT gr tk l W (ptR 9 [] l)) := by
  have hl0 : 0 < l.length := by
    have := hL.endd.ne
    exact List.length_pos_iff.2 this
  obtain ⟨P, hP⟩ : ∃ P, ptR 9 [] l = P := ⟨_, rfl⟩
  rw [hP]
  have HP := hide hP
  have H0 := hide h
  have HL0 := hide hL
  have hGr := h.lt
  have ewit : (⟨#[119, 105, 116, 104, 105, 110]⟩ : ByteArray).data.toList = witW := rfl
  have HSK : Hid (∀ k (hk : k < l.length) sv W1, PB gr tk l k sv 0 0 0 W1 → Calls Tryz.prog 77 #[.pointer (some ⟨gr, 0, none⟩), .string ⟨#[119, 105, 116, 104, 105, 110]⟩] W1 fun e w' => e = .returned (.bool (decide (wdT l[k] = witW))) ∧ PB gr tk l (if wdT l[k] = witW then k + 1 else k) sv 0 0 0 w' ∧ Kp [gr] W1 w') := hide (fun k hk sv W1 hp => pskip_any hp (drop_cons hk) ⟨#[119, 105, 116, 104, 105, 110]⟩)
  clear h hP ewit hL
  go_enter Tryz.func50, Tryz.ntmps50
  go_wp2_with fail
  go_loopw [] (fun wr => ∃ (k : Nat) (rs : List SR) (sva : Option Addr) (svc NR : Nat), NR = rs.length ∧ NR ≤ 8 ∧ k < l.length ∧ Hid (PB gr tk l k (.slice sva NR svc) 0 0 0 wr ∧ OwnsG (gr + 1) wr (.slice sva NR svc) rs ∧ Tail (l.drop k) n ∧ Below gr W wr ∧ ptR (9 - NR) (stgs rs) (l.drop k) = P)) (fun wr => 9 - lenAt gr wr)
  case atStart => exact ⟨0, [], none, 0, 0, rfl, by omega, hl0, hide ⟨unhide H0, OwnsG.nil _ _, by simpa using unhide HL0, Below.refl _ _, unhide HP⟩⟩
  case round =>
    obtain ⟨k, rs, sva, svc, NR, hNR, hN8, hk, HI⟩ := hrel
    obtain ⟨hp, hG, hT, hB, hPt⟩ := unhide HI
    have S1 := hide (unhide HSK k hk _ _ hp)
    have HG := hide hG
    have HT := hide hT
    have HB := hide hB
    have HPT := hide hPt
    have HNR := hide hNR
    have hlen := hp.len
    have hGw := hp.lt
    have hlA := hp.lenAt
    have HLA := hide hlA
    clear HI hp hG hT hB hPt hNR H0 HL0 HP hlA HSK
    by_cases hw : wdT l[k] = witW
    · rw [hw] at S1
      simp only [decide_true, if_true] at S1
      obtain ⟨hk1, hT1, _⟩ := (unhide HT).step (drop_cons hk) (wdT_kd (by rw [hw]; decide))
      have HP2 : Hid (P = nbR (stgs rs) (l.drop (k + 1))) := hide (by
        obtain ⟨f, hf⟩ : ∃ f, 9 - NR = f + 1 := ⟨8 - NR, by omega⟩
        rw [← unhide HPT, hf, ptR, drop_cons hk]
        simp only [wdL, List.drop_one, List.tail_cons]
        exact if_pos hw)
      have HNB := hide (fun W1 (hp : PB gr tk l (k + 1) (.slice sva NR svc) 0 0 0 W1) => pnumber_any hp (drop_cons hk1))
      clear hw HPT HLA
      go_wp2_with fail
      refine (unhide S1).mono ?_
      rintro e w1 ⟨rfl, hp1, hkp1⟩
      have hB1 := (unhide HB).trans (hkp1.below (by omega) (by simp))
      have hG1 := (unhide HG).kp hkp1 (by simp)
      have HG1 := hide hG1
      have HB1 := hide hB1
      have N1 := hide (unhide HNB w1.drew (hp1.kp (Kp.drew w1) (by simp)))
      have HP1 := hide hp1
      have hGw1 := hp1.lt
      clear S1 hp1 hkp1 hB1 hG1 HNB HG HB
      by_cases h2 : l[k + 1].kd = 2
      · rw [h2] at N1
        simp only [decide_true, if_true] at N1
        obtain ⟨hk2, hT2, _⟩ := hT1.step (drop_cons hk1) (by rw [h2]; decide)
        have HP3 : Hid (P = if l[k + 1 + 1].kd = 0 then .good ⟨stgs rs, if 257 < l[k + 1].n then 257 else l[k + 1].n⟩ else .bad (hdPl (l.drop (k + 1 + 1))) 120) := hide (by
          rw [unhide HP2, drop_cons hk1, nbR, if_pos h2, kd_at hk2])
        generalize (if 257 < l[k + 1].n then (257 : Int) else l[k + 1].n) = WI at *
        have HCE : Hid (∀ w2, PB gr tk l (k + 1 + 1) (.slice sva NR svc) WI 0 0 w2 → Kp [gr] w1.drew w2 → ∃ b off c, tk = .slice (some ⟨b, off, none⟩) l.length c ∧ w2.cell? ⟨gr, 0, none⟩ = some tk ∧ w2.cell? ⟨gr, 1, none⟩ = some (.int .i64 ((k : Int) + 1 + 1)) ∧ w2.cell? ⟨b, off + (k + 1 + 1) * 4, none⟩ = some (.int .i64 l[k + 1 + 1].kd) ∧ Hid (PtT gr tk l W P (.returned (.bool (decide (l[k + 1 + 1].kd = 0)))) w2)) := hide (fun w2 hp2 hkp2 => by
          obtain ⟨b, off, c, e, hlt2, hc2⟩ := hp2.tks
          obtain ⟨x0, x1, _⟩ := hp2.cells
          refine ⟨b, off, c, e, x0, by rw [x1]; simp, (hc2 (k + 1 + 1) hk2).1, hide ?_⟩
          have hB2 := ((unhide HB1).trans ((Kp.drew w1).below (by omega) (by simp))).trans (hkp2.below (by show gr ≤ w1.heap.size; omega) (by simp))
          have hG2 := ((unhide HG1).kp (Kp.drew w1) (by simp)).kp hkp2 (by simp)
          by_cases h0 : l[k + 1 + 1].kd = 0
          · rw [unhide HP3, if_pos h0, decide_eq_true h0]
            exact ⟨hB2, rfl, k + 1 + 1, _, rs, hp2, hG2, rfl⟩
          · rw [unhide HP3, if_neg h0, decide_eq_false h0]
            exact PtT.bad hp2 hk2 hB2 rfl)
        have hk2i : ((k : Int) + 1 + 1) < (l.length : Int) := by omega
        clear HP2 h2 hT1 HP3 HG1 HB1 HP1 hT2
        generalize l[k + 1 + 1].kd = KD at *
        go_wp2_with fail
        go_region_with (go_at_call 79; refine (unhide N1).mono ?_; rintro e w2 ⟨rfl, hp2, hkp2⟩; obtain ⟨b, off, c, rfl, x0, x1, x2, HF⟩ := unhide HCE w2 hp2 hkp2; clear hp2 hkp2)
        all_goals
          go_wp2
          refine bodyPost_ret (results_tmp rfl _ _ _) rfl ?_
          exact unhide HF
      · have hN2 : P = .bad (hdPl (l.drop (k + 1))) 120 := by
          rw [unhide HP2, drop_cons hk1, nbR, if_neg h2]
        rw [decide_eq_false h2, if_neg h2, if_neg h2] at N1
        have HCE : Hid (∀ w2, PB gr tk l (k + 1) (.slice sva NR svc) 0 0 0 w2 → Kp [gr] w1.drew w2 → PtT gr tk l W P (.returned (.bool false)) w2) := hide (fun w2 hp2 hkp2 => PtT.bad hp2 hk1 (((unhide HB1).trans ((Kp.drew w1).below (by omega) (by simp))).trans (hkp2.below (by show gr ≤ w1.heap.size; omega) (by simp))) hN2)
        clear HP2 h2 hT1 hN2 HG1 HB1 HP1
        go_wp2_with fail
        refine wp_region_held_drew (S := fun _ => True) (by kernel_rfl) trivial (fun hHeld => ?_)
        show wpAnyH _ _ _ _ _ 17 (Array.replicate 17 false) _ _
        refine wpAnyH_take (i := 0) (oi := { dst := some 18, op := Op.move (Operand.tmp 0), type := 128, pos := "read.go:30", after := #[], guard := none }) (v := ?_) rfl (by kernel_rfl) (by kernel_rfl) (by kernel_rfl) (fun _ _ _ h => h) (Or.inl ⟨by rfl, ?_⟩) trivial ?_
        rotate_left 1
        · intro w0 hSw
          go_simp
          (try with_reducible rfl)
        try simp only [Act.put, List.setIfInBounds_toArray, List.set_cons_zero, List.set_cons_succ]
        refine wpAnyH_ready (rs := [1]) (by kernel_rfl) (by simp) ?_
        refine AllReadyH.cons (o := { dst := some 19, op := Op.call { callee := Callee.value (Operand.func 79), args := #[Operand.tmp 18], argTypes := #[128] }, type := 4, pos := "read.go:30", after := #[{ on := 0, ground := Ground.data }], guard := none }) rfl (fun K hK => ?_) AllReadyH.nil
        go_simp
        go_at_call 79
        refine (unhide N1).mono ?_
        rintro e w2 ⟨rfl, hp2, hkp2⟩
        have HF := hide (unhide HCE w2 hp2 hkp2)
        clear hp2 hkp2
        refine hK.out _ _ trivial (fun hHeld => ?_)
        clear hK K
        try simp only [Act.put, List.setIfInBounds_toArray, List.set_cons_zero, List.set_cons_succ]
        refine wpAnyH_take (i := 2) (oi := { dst := some 20, op := Op.move (Operand.tmp 19), type := 4, pos := "read.go:30", after := #[{ on := 1, ground := Ground.data }, { on := 1, ground := Ground.chain }], guard := none }) (v := ?_) rfl (by kernel_rfl) (by kernel_rfl) (by kernel_rfl) (fun _ _ _ h => h) (Or.inl ⟨by rfl, ?_⟩) trivial ?_
        rotate_left 1
        · intro w0 hSw
          go_simp
          (try with_reducible rfl)
        try simp only [Act.put, List.setIfInBounds_toArray, List.set_cons_zero, List.set_cons_succ]
        refine wpAnyH_take (i := 3) (oi := { dst := some 21, op := Op.move (Operand.tmp 0), type := 128, pos := "read.go:30", after := #[{ on := 2, ground := Ground.guard }], guard := some (2, true) }) (v := undef) rfl (by kernel_rfl) (by kernel_rfl) (by kernel_rfl) (fun _ _ _ h => h) (Or.inr ⟨by rfl, rfl⟩) trivial ?_
        try simp only [Act.put, List.setIfInBounds_toArray, List.set_cons_zero, List.set_cons_succ]
        refine wpAnyH_take (i := 4) (oi := { dst := some 22, op := Op.nilCheck (Operand.tmp 21), type := 0, pos := "read.go:30", after := #[{ on := 3, ground := Ground.data }, { on := 2, ground := Ground.guard }], guard := some (2, true) }) (v := undef) rfl (by kernel_rfl) (by kernel_rfl) (by kernel_rfl) (fun _ _ _ h => h) (Or.inr ⟨by rfl, rfl⟩) trivial ?_
        try simp only [Act.put, List.setIfInBounds_toArray, List.set_cons_zero, List.set_cons_succ]
        refine wpAnyH_take (i := 5) (oi := { dst := some 23, op := Op.fieldAddr 88 (Operand.tmp 22) 0, type := 0, pos := "read.go:30", after := #[{ on := 4, ground := Ground.data }, { on := 2, ground := Ground.guard }], guard := some (2, true) }) (v := undef) rfl (by kernel_rfl) (by kernel_rfl) (by kernel_rfl) (fun _ _ _ h => h) (Or.inr ⟨by rfl, rfl⟩) trivial ?_
        try simp only [Act.put, List.setIfInBounds_toArray, List.set_cons_zero, List.set_cons_succ]
        refine wpAnyH_take (i := 6) (oi := { dst := some 24, op := Op.load 71 (Operand.tmp 23), type := 71, pos := "read.go:30", after := #[{ on := 5, ground := Ground.data }, { on := 2, ground := Ground.guard }], guard := some (2, true) }) (v := undef) rfl (by kernel_rfl) (by kernel_rfl) (by kernel_rfl) (fun _ _ _ h => h) (Or.inr ⟨by rfl, rfl⟩) trivial ?_
        try simp only [Act.put, List.setIfInBounds_toArray, List.set_cons_zero, List.set_cons_succ]
        refine wpAnyH_take (i := 7) (oi := { dst := some 25, op := Op.move (Operand.tmp 0), type := 128, pos := "read.go:30", after := #[{ on := 2, ground := Ground.guard }], guard := some (2, true) }) (v := undef) rfl (by kernel_rfl) (by kernel_rfl) (by kernel_rfl) (fun _ _ _ h => h) (Or.inr ⟨by rfl, rfl⟩) trivial ?_
        try simp only [Act.put, List.setIfInBounds_toArray, List.set_cons_zero, List.set_cons_succ]
        refine wpAnyH_take (i := 8) (oi := { dst := some 26, op := Op.nilCheck (Operand.tmp 25), type := 0, pos := "read.go:30", after := #[{ on := 7, ground := Ground.data }, { on := 2, ground := Ground.guard }], guard := some (2, true) }) (v := undef) rfl (by kernel_rfl) (by kernel_rfl) (by kernel_rfl) (fun _ _ _ h => h) (Or.inr ⟨by rfl, rfl⟩) trivial ?_
        try simp only [Act.put, List.setIfInBounds_toArray, List.set_cons_zero, List.set_cons_succ]
        refine wpAnyH_take (i := 9) (oi := { dst := some 27, op := Op.fieldAddr 88 (Operand.tmp 26) 1, type := 0, pos := "read.go:30", after := #[{ on := 8, ground := Ground.data }, { on := 2, ground := Ground.guard }], guard := some (2, true) }) (v := undef) rfl (by kernel_rfl) (by kernel_rfl) (by kernel_rfl) (fun _ _ _ h => h) (Or.inr ⟨by rfl, rfl⟩) trivial ?_
        try simp only [Act.put, List.setIfInBounds_toArray, List.set_cons_zero, List.set_cons_succ]
        refine wpAnyH_take (i := 10) (oi := { dst := some 28, op := Op.load 3 (Operand.tmp 27), type := 3, pos := "read.go:30", after := #[{ on := 9, ground := Ground.data }, { on := 2, ground := Ground.guard }], guard := some (2, true) }) (v := undef) rfl (by kernel_rfl) (by kernel_rfl) (by kernel_rfl) (fun _ _ _ h => h) (Or.inr ⟨by rfl, rfl⟩) trivial ?_
        try simp only [Act.put, List.setIfInBounds_toArray, List.set_cons_zero, List.set_cons_succ]
        refine wpAnyH_take (i := 11) (oi := { dst := some 29, op := Op.indexAddr 71 (Operand.tmp 24) (Operand.tmp 28), type := 0, pos := "read.go:30", after := #[{ on := 6, ground := Ground.data }, { on := 10, ground := Ground.data }, { on := 2, ground := Ground.guard }], guard := some (2, true) }) (v := undef) rfl (by kernel_rfl) (by kernel_rfl) (by kernel_rfl) (fun _ _ _ h => h) (Or.inr ⟨by rfl, rfl⟩) trivial ?_
        try simp only [Act.put, List.setIfInBounds_toArray, List.set_cons_zero, List.set_cons_succ]
        refine wpAnyH_take (i := 12) (oi := { dst := some 30, op := Op.fieldAddr 74 (Operand.tmp 29) 0, type := 0, pos := "read.go:30", after := #[{ on := 11, ground := Ground.data }, { on := 2, ground := Ground.guard }], guard := some (2, true) }) (v := undef) rfl (by kernel_rfl) (by kernel_rfl) (by kernel_rfl) (fun _ _ _ h => h) (Or.inr ⟨by rfl, rfl⟩) trivial ?_
        try simp only [Act.put, List.setIfInBounds_toArray, List.set_cons_zero, List.set_cons_succ]
        refine wpAnyH_take (i := 13) (oi := { dst := some 31, op := Op.load 3 (Operand.tmp 30), type := 3, pos := "read.go:30", after := #[{ on := 12, ground := Ground.data }, { on := 2, ground := Ground.guard }], guard := some (2, true) }) (v := undef) rfl (by kernel_rfl) (by kernel_rfl) (by kernel_rfl) (fun _ _ _ h => h) (Or.inr ⟨by rfl, rfl⟩) trivial ?_
        try simp only [Act.put, List.setIfInBounds_toArray, List.set_cons_zero, List.set_cons_succ]
        refine wpAnyH_take (i := 14) (oi := { dst := some 32, op := Op.binOp BinOp.eql 3 (Operand.tmp 31) (Operand.const (Value.int IntKind.i64 0)) 3, type := 4, pos := "read.go:30", after := #[{ on := 13, ground := Ground.data }, { on := 2, ground := Ground.guard }], guard := some (2, true) }) (v := undef) rfl (by kernel_rfl) (by kernel_rfl) (by kernel_rfl) (fun _ _ _ h => h) (Or.inr ⟨by rfl, rfl⟩) trivial ?_
        try simp only [Act.put, List.setIfInBounds_toArray, List.set_cons_zero, List.set_cons_succ]
        refine wpAnyH_take (i := 15) (oi := { dst := some 33, op := Op.pick (Operand.tmp 20) (Operand.tmp 32) (Operand.const (Value.bool false)), type := 4, pos := "read.go:30", after := #[{ on := 2, ground := Ground.data }, { on := 14, ground := Ground.data }], guard := none }) (v := ?_) rfl (by kernel_rfl) (by kernel_rfl) (by kernel_rfl) (fun _ _ _ h => h) (Or.inl ⟨by rfl, ?_⟩) trivial ?_
        rotate_left 1
        · intro w0 hSw
          go_simp
          (try with_reducible rfl)
        try simp only [Act.put, List.setIfInBounds_toArray, List.set_cons_zero, List.set_cons_succ]
        refine wpAnyH_take (i := 16) (oi := { dst := some 2, op := Op.assign (Operand.tmp 33), type := 4, pos := "read.go:30", after := #[{ on := 15, ground := Ground.data }, { on := 2, ground := Ground.chain }, { on := 0, ground := Ground.phase }, { on := 1, ground := Ground.phase }, { on := 2, ground := Ground.phase }, { on := 3, ground := Ground.phase }, { on := 4, ground := Ground.phase }, { on := 5, ground := Ground.phase }, { on := 6, ground := Ground.phase }, { on := 7, ground := Ground.phase }, { on := 8, ground := Ground.phase }, { on := 9, ground := Ground.phase }, { on := 10, ground := Ground.phase }, { on := 11, ground := Ground.phase }, { on := 12, ground := Ground.phase }, { on := 13, ground := Ground.phase }, { on := 14, ground := Ground.phase }, { on := 15, ground := Ground.phase }], guard := none }) (v := ?_) rfl (by kernel_rfl) (by kernel_rfl) (by kernel_rfl) (fun _ _ _ h => h) (Or.inl ⟨by rfl, ?_⟩) trivial ?_
        rotate_left 1
        · intro w0 hSw
          go_simp
          (try with_reducible rfl)
        try simp only [Act.put, List.setIfInBounds_toArray, List.set_cons_zero, List.set_cons_succ]
        refine wpAnyH_done (by kernel_rfl) ?_ _
        go_wp2
        refine bodyPost_ret (results_tmp rfl _ _ _) rfl ?_
        exact unhide HF
    · rw [decide_eq_false hw, if_neg hw] at S1
      have hwl : wdL (l.drop k) ≠ witW := by rw [drop_cons hk]; exact hw
      by_cases h8 : NR = 8
      · have HPb : Hid (P = .bad (hdPl (l.drop k)) 120) := hide (by
          rw [← unhide HPT, h8, ptR, if_neg hwl, if_pos (by rw [stgs_len, ← unhide HNR]; exact h8)])
        clear HPT
        subst h8
        go_wp2_with fail
        refine (unhide S1).mono ?_
        rintro e w1 ⟨rfl, hp1, hkp1⟩
        obtain ⟨_, _, c2, _⟩ := hp1.cells
        have hB1 := (unhide HB).trans (hkp1.below (by omega) (by simp))
        have HF := hide (PtT.bad hp1 hk hB1 (unhide HPb))
        have hGw1 := hp1.lt
        clear S1 hp1 hkp1 hB1 HB HG HT HPb
        go_wp2
        refine bodyPost_ret (results_tmp rfl _ _ _) rfl ?_
        exact unhide HF
      · have g8 : ((NR : Int) == 8) = false := beq_eq_false_iff_ne.2 (by omega)
        have HST : Hid (∀ W1, PB gr tk l k (.slice sva NR svc) 0 0 0 W1 → OwnsG (gr + 1) W1 (.slice sva NR svc) rs → Calls Tryz.prog 78 #[.pointer (some ⟨gr, 0, none⟩)] W1 (StT gr tk l n (.slice sva NR svc) 0 rs W1 (stgR (l.drop k)))) := hide (fun W1 hp hg => pstage_any hp hk (unhide HT) hg (by rw [← unhide HNR]; omega))
        have HPn : Hid (P = match stgR (l.drop k) with | .bad a c => .bad a c | .good s r => ptR (8 - NR) (stgs rs ++ [s]) r) := hide (by
          obtain ⟨f, hf⟩ : ∃ f, 9 - NR = f + 1 := ⟨8 - NR, by omega⟩
          rw [← unhide HPT, hf, ptR_step hwl (by rw [stgs_len, ← unhide HNR]; exact h8), show f = 8 - NR by omega])
        clear HPT hw hwl
        go_wp2_with fail
        refine (unhide S1).mono ?_
        rintro e w1 ⟨rfl, hp1, hkp1⟩
        obtain ⟨_, _, c2, _⟩ := hp1.cells
        have HB1 := hide ((unhide HB).trans (hkp1.below (by omega) (by simp)))
        have hGw1 := hp1.lt
        have T1 := hide (unhide HST w1 hp1 ((unhide HG).kp hkp1 (by simp)))
        clear S1 hp1 hkp1 HB HG HT HST
        go_wp2_with fail
        refine (unhide T1).mono ?_
        rintro e w2 hst
        cases hsr : stgR (l.drop k) with
        | bad a c =>
          rw [hsr] at hst HPn
          obtain ⟨hF, rfl⟩ := PtT.st hst (unhide HB1) hGw1 (unhide HPn)
          have HF := hide hF
          clear hF hst T1 HPn HB1 c2
          go_wp2
          refine bodyPost_ret (results_tmp rfl _ _ _) rfl ?_
          exact unhide HF
        | good s r =>
          rw [hsr] at hst HPn
          dsimp only at HPn
          obtain ⟨rfl, k', sv', ad, cp, hp2, hk2, hT2, hd2, hG2, hB2⟩ := hst
          obtain ⟨a2, c2', rfl, _⟩ := hG2.at
          have HI2 : Hid (PB gr tk l k' (.slice a2 (NR + 1) c2') 0 0 0 w2 ∧ OwnsG (gr + 1) w2 (.slice a2 (NR + 1) c2') (rs ++ [⟨s, ad, cp⟩]) ∧ Tail (l.drop k') n ∧ Below gr W w2 ∧ ptR (9 - (NR + 1)) (stgs (rs ++ [⟨s, ad, cp⟩])) (l.drop k') = P) := hide (by
            rw [List.length_append, List.length_singleton, ← unhide HNR] at hp2 hG2
            exact ⟨hp2, hG2, hT2, (unhide HB1).trans hB2, by rw [stgs_app, hd2, unhide HPn, show 9 - (NR + 1) = 8 - NR by omega]⟩)
          have HLB : Hid ((rs ++ [(⟨s, ad, cp⟩ : SR)]).length = NR + 1) := hide (by rw [List.length_append, List.length_singleton, ← unhide HNR])
          clear hp2 hG2 hT2 hB2 hd2 T1 HPn HB1 c2
          go_wp2
          go_roundw
          case rel => exact ⟨k', rs ++ [⟨s, ad, cp⟩], a2, c2', NR + 1, (unhide HLB).symm, by omega, hk2, HI2⟩
          case measure =>
            rw [unhide HLA, (unhide HI2).1.lenAt]
            omega
end Go.Proofs.YtjijhefmbmdbeaaGreatDoor
