/-
  NetTruth: the walk.
-/
import Derived.Test.YtledoopfffhigaaT16
import Derived.Test.YtledoopfffhigaaT17
import Derived.Test.YtledoopfffhigaaT06
import Derived.OrdersHeld
import Derived.Deep.CutBlock
namespace Go.Proofs.Ytledoopfffhigaa
open Go.RowKit Nt

theorem tot_snoc : ∀ (a : List (List Pk)) (l : List Pk), tot (a ++ [l]) = tot a + l.length
  | [], l => by simp [tot]
  | x :: r, l => by
    rw [List.cons_append]
    unfold tot
    rw [tot_snoc r l]
    omega
theorem tot_take (ws : List (List Pk)) (j : Nat) (hj : j < ws.length) : tot (ws.take (j + 1)) = tot (ws.take j) + (ws[j]).length := by
  rw [List.take_succ_eq_append_getElem hj, tot_snoc]
theorem A18At.below {w w' : World} {ad : Option Addr} {l : List A18} (h : A18At w ad l) (hb : Below w.heap.size w w') : A18At w' ad l := h.kp (Kp.ofBelow hb)
/-- Where it stands. -/
def Sta (w : World) (b bs bt : Nat) (s : St) (sn tk : K3 → Int) (cp : Int) (i : Nat) (wr : World) : Prop := Tru s sn tk cp (i : Int) ∧ Ok (69632 * (i : Int)) s ∧ Tw w b bs bt s sn tk wr
set_option maxHeartbeats 16000000 in
set_option maxRecDepth 100000 in
theorem ntruth_walk (ad : Option Addr) (cap : Nat) (l : List A18) (w : World) (_hl : l.length ≤ 9223372036854775807) (hA : A18At w ad l) (hok : ∀ y ∈ l, y.ok) :
    Calls Try.prog 5 #[.slice ad l.length cap] w fun e w' => e = .returned (.bool true) ∧ Below w.heap.size w w' := by
  have WK := hide nworks_any
  have NW := hide (nnew_ok 3 (by decide) (by decide) w)
  have AM3 := hide (fun x W => nAmong_any x 3 W (by decide) (by decide))
  have AM5 := hide (fun x W => nAmong_any x 5 W (by decide) (by decide))
  have HL := hide hA
  have HOK := hide hok
  clear hA hok
  go_enter Try.func5, Try.ntmps5
  go_wp2_with fail
  refine (unhide NW).mono ?_
  rintro r w1 ⟨b, rfl, h1, k1⟩
  have H1 := hide h1
  have K1 := hide k1
  clear NW h1 k1
  go_wp2_with fail
  refine (unhide WK _).mono ?_
  rintro r w2 ⟨rfl, k2⟩
  have hsz2 : w.heap.size ≤ w2.heap.size := Nat.le_trans (unhide K1).size k2.size
  have H2 : Hid (Sta w b w2.heap.size (w2.heap.size + 1) (new 3) (fun _ => 0) (fun _ => 0) 0 0 ((w2.alloc (.map #[] 0)).alloc (.map #[] 0))) := hide (by
    obtain ⟨q, vs, a1, a2⟩ := unhide H1
    have k3 : Kp [] w1 ((w2.alloc (.map #[] 0)).alloc (.map #[] 0)) := kp_tr k2 (kp_tr (Kp.alloc _ _) (Kp.alloc _ _))
    refine ⟨Tru.start, Ok.new 3 (by decide) (by decide), (nt_same a1 a2 k3).1, (CtF.new w2).kp (Kp.alloc _ _) (by simp), ?_, by omega, hsz2, by omega, (kp_tr (unhide K1) k3).below (Nat.le_refl _) (by simp)⟩
    have := CtF.new (w2.alloc (.map #[] 0))
    rwa [World.size_alloc] at this)
  clear WK k2 H1 K1 hsz2
  have hmm : ∀ W : World, (Instr.makeMap 46 none).run Try.prog W = .ok (.map (some W.heap.size)) (W.alloc (.map #[] 0)) := fun W => run_makeMap _ W
  go_upto_region 5 with fail
  generalize (w2.alloc (.map #[] 0)).alloc (.map #[] 0) = w3 at *
  generalize w2.heap.size + 1 = bt at *
  generalize w2.heap.size = bs at *
  clear hmm
  go_wp2_with fail
  go_loopw [7, 8] (fun cv iv wr => ∃ (i : Nat) (s : St) (sn tk : K3 → Int) (cp : Int), i ≤ l.length ∧ i ≤ 200 ∧ cv = .int .i64 cp ∧ iv = .int .i64 (i : Int) ∧ Hid (Sta w b bs bt s sn tk cp i wr)) (fun _ iv _ => l.length - (intOf iv).toNat)
  case atStart => exact ⟨0, _, _, _, 0, Nat.zero_le _, by decide, rfl, rfl, H2⟩
  case round =>
    clear H2
    obtain ⟨i, s, sn, tk, cp, hil, hi2, rfl, rfl, HR⟩ := hrel
    by_cases h1 : i < l.length
    · have h1i : (i : Int) < (l.length : Int) := by omega
      by_cases h2 : i < 200
      · have h2i : (i : Int) < 200 := by omega
        have hyok := unhide HOK l[i] (List.getElem_mem h1)
        obtain ⟨ab, ao, rfl, hab, a0, a1, a2, a3, a4⟩ := ((unhide HL).below (unhide HR).2.2.bel).at i h1
        generalize l[i] = y at *
        obtain ⟨yk, yf, yt, yi, yb⟩ := y
        have hys : yb.size ≤ 9223372036854775807 := hyok.2.2.2.2
        dsimp only at a0 a1 a2 a3 a4
        obtain ⟨V, hV⟩ : ∃ V, V = wr.alloc (.cells #[.int .i64 yk, .int .i64 yf, .int .i64 yt, .int .i64 yi, .string yb] 32) := ⟨_, rfl⟩
        have kV : Kp [] wr V := by rw [hV]; exact Kp.alloc _ _
        have bV : CBox wr.heap.size #[.int .i64 yk, .int .i64 yf, .int .i64 yt, .int .i64 yi, .string yb] 32 V := by rw [hV]; exact CBox.new _ _ _
        have HR1 : Hid (Sta w b bs bt s sn tk cp i V) := hide ⟨(unhide HR).1, (unhide HR).2.1, (unhide HR).2.2.al kV⟩
        obtain ⟨bx, hbx⟩ : ∃ bx, wr.heap.size = bx := ⟨_, rfl⟩
        have hbs : bs < bx := by rw [← hbx]; exact (unhide HR).2.2.ms.lt
        have hbt : bt < bx := by rw [← hbx]; exact (unhide HR).2.2.mt.lt
        rw [hbx] at bV
        have BV := hide bV
        clear kV bV HR hyok
        go_upto_region 10 with fail
        rw [← hV]
        clear hV hbx a0 a1 a2 a3 a4 hab
        obtain ⟨V1, hV1⟩ : ∃ V1, V1 = V.drew := ⟨_, rfl⟩
        have kV1 : Kp [] V V1 := by rw [hV1]; exact Kp.drew V
        have b1 := (unhide BV).kp kV1 (by simp)
        have BV1 := hide b1
        have HR2 : Hid (Sta w b bs bt s sn tk cp i V1) := hide ⟨(unhide HR1).1, (unhide HR1).2.1, (unhide HR1).2.2.al kV1⟩
        have cS : V.drew.cell? ⟨bx, 1, none⟩ = some (.int .i64 yf) ∧ V.drew.cell? ⟨bx, 2, none⟩ = some (.int .i64 yt) := by rw [← hV1]; exact ⟨b1.cell rfl, b1.cell rfl⟩
        have c0 := b1.cell (i := 0) rfl
        have c3 := b1.cell (i := 3) rfl
        have c4 := b1.cell (i := 4) rfl
        clear kV1 b1 HR1 BV
        go_region_held3 (fun W => W.cell? ⟨bx, 1, none⟩ = some (.int .i64 yf) ∧ W.cell? ⟨bx, 2, none⟩ = some (.int .i64 yt))
          (first | with_reducible exact cS)
          (first
            | (go_at_call 15; refine (unhide AM3 _ _).mono ?_; rintro r w5 ⟨rfl, rfl⟩))
        rw [← hV1]
        clear hV1 cS
        obtain ⟨F3, hF3⟩ : ∃ F3, yf % 3 = F3 := ⟨_, rfl⟩
        obtain ⟨tn, htn⟩ : ∃ tn : Nat, yt % 3 = (tn : Int) := ⟨(yt % 3).toNat, by have := Int.emod_nonneg yt (by decide : (3 : Int) ≠ 0); omega⟩
        rw [hF3, htn]
        clear hF3 htn
        have hz0 : 0 ≤ yk % 5 := Int.emod_nonneg _ (by decide)
        have hz1 : yk % 5 < 5 := Int.emod_lt_of_pos _ (by decide)
        obtain ⟨z, hzz⟩ : ∃ z, yk % 5 = z := ⟨_, rfl⟩
        have AMz := hide (fun W => unhide AM5 yk W)
        rw [hzz] at hz0 hz1 AMz
        clear hzz AM5
        have hM : 69632 * (i : Int) ≤ 2305843009213693952 := by omega
        have hnx : 69632 * ((i + 1 : Nat) : Int) = 69632 * (i : Int) + 69632 := by omega
        have hN1 : ((i + 1 : Nat) : Int) = (i : Int) + 1 := by omega
        go_upto_region 11 with fail
        go_upto_block 2 with (refine (unhide AMz _).mono ?_; rintro r w5 ⟨rfl, hw5⟩; obtain rfl := hw5.symm)
        clear AMz
        go_cut [7] (fun cv wc => ∃ (s' : St) (sn' tk' : K3 → Int) (cp' : Int), cv = .int .i64 cp' ∧ Hid (Sta w b bs bt s' sn' tk' cp' (i + 1) wc))
        case first =>
          have hz : z = 0 ∨ z = 1 ∨ z = 2 ∨ z = 3 ∨ z = 4 := by omega
          clear hz0 hz1 AM3
          rcases hz with rfl | rfl | rfl | rfl | rfl
          · have SE := hide (nsend_any w.heap.size b s F3 (tn : Int) yb V1 _ (unhide HR2).2.2.nt (unhide HR2).2.1 hM hys)
            by_cases he : seE s F3 (tn : Int) yb = 0
            · rw [he] at SE
              have TR := hide ((unhide HR2).1.send F3 tn yb he)
              have OK2 := hide ((unhide HR2).2.1.see F3 (tn : Int) yb)
              have hb1 := (unhide HR2).1.s0 ⟨F3, tn, yb⟩
              clear he
              generalize seS s F3 (tn : Int) yb = s2 at *
              go_wp2_with fail
              refine (unhide SE).mono ?_
              rintro r w6 ⟨rfl, a1, a2⟩
              obtain ⟨V2, hV⟩ : ∃ V2, V2 = w6.drew := ⟨_, rfl⟩
              have tw7 : Tw w b bs bt s2 sn tk V2 := by rw [hV]; exact ((unhide HR2).2.2.net a1 a2).al (Kp.drew w6)
              have bx7 : CBox bx #[.int .i64 yk, .int .i64 yf, .int .i64 yt, .int .i64 yi, .string yb] 32 V2 := by rw [hV]; exact ((unhide BV1).ks a2 (by decide)).kp (Kp.drew w6) (by simp)
              obtain ⟨v0, st, w8, hME0, hC8, hk8, hst⟩ := tw7.ms.entry ⟨F3, tn, yb⟩
              obtain ⟨SN, hSN⟩ : ∃ SN, sn ⟨F3, tn, yb⟩ = SN := ⟨_, rfl⟩
              rw [hSN] at hb1
              obtain ⟨w9, hES0, hC9, hk9⟩ := hst (SN + 1)
              have q0 : V2.cell? ⟨bx, 4, none⟩ = some (.string yb) ∧ (Instr.lookup 46 (.map (some bs)) (.agg #[.int .i64 F3, .int .i64 (tn : Int), .string yb]) false).run Try.prog V2 = .ok (.int .i64 SN) V2 := ⟨bx7.cell rfl, by have := tw7.ms.look ⟨F3, tn, yb⟩; rw [hSN] at this; exact this⟩
              have q1 : w8.cell? ⟨bx, 4, none⟩ = some (.string yb) ∧ (Instr.lookup 46 (.map (some bs)) (.agg #[.int .i64 F3, .int .i64 (tn : Int), .string yb]) false).run Try.prog w8 = .ok (.int .i64 SN) w8 := ⟨(bx7.kp hk8 (by simp; omega)).cell rfl, by have := hC8.look ⟨F3, tn, yb⟩; rw [hSN] at this; exact this⟩
              have hME : (Instr.mapEntry 46 (.map (some bs)) (.agg #[.int .i64 F3, .int .i64 (tn : Int), .string yb])).run Try.prog V2 = .ok (.tuple #[v0, .int .i64 (st : Int)]) w8 := hME0
              have hES : (Instr.entryStore 46 (.map (some bs)) (.int .i64 (st : Int)) (.int .i64 (SN + 1))).run Try.prog w8 = .ok () w9 := hES0
              have hwr : IntKind.i64.wrap (SN + 1) = SN + 1 := by rw [IntKind.wrap_i64]; omega
              have HF : Hid (Sta w b bs bt s2 (upC sn ⟨F3, tn, yb⟩ (SN + 1)) tk cp (i + 1) w9) := hide (by
                refine ⟨?_, ?_, (tw7.incS hC8 hk8).incS hC9 hk9⟩
                · have := unhide TR; rw [hSN] at this; rw [hN1]; exact this
                · rw [hnx]; exact (unhide OK2).mono (by omega))
              clear TR OK2 hb1 SE a1 a2 tw7 bx7 hME0 hES0 hC8 hk8 hst hC9 hk9 hSN HR2 BV1 c0 c3 c4
              go_upto_region 15 with fail
              refine wp_region_late (fun W => W.cell? ⟨bx, 4, none⟩ = some (.string yb) ∧ (Instr.lookup 46 (.map (some bs)) (.agg #[.int .i64 F3, .int .i64 (tn : Int), .string yb]) false).run Try.prog W = .ok (.int .i64 SN) W) 10 (by kernel_rfl) ?_
              rw [← hV]
              clear hV
              show wpAnyL _ _ _ _ _ _ 11 (Array.replicate 11 false) _ _
              refine wpAnyL_take3 (i := 0) (oi := { dst := some 71, op := Op.move (Operand.tmp 5), type := 46, pos := "theorems.go:39", after := #[], guard := none }) (v := ?_) rfl (by kernel_rfl) (by kernel_rfl) (by kernel_rfl) (by kernel_rfl) (fun _ _ _ h => h) (Or.inl ⟨by rfl, ?_⟩) q0 ?_
              rotate_left 1
              · intro w0 hSw
                (try dsimp only at hSw)
                go_simp
                (try with_reducible rfl)
              try simp only [Act.put, List.setIfInBounds_toArray, List.set_cons_zero, List.set_cons_succ]
              refine wpAnyL_take3 (i := 1) (oi := { dst := some 72, op := Op.move (Operand.tmp 10), type := 3, pos := "theorems.go:39", after := #[], guard := none }) (v := ?_) rfl (by kernel_rfl) (by kernel_rfl) (by kernel_rfl) (by kernel_rfl) (fun _ _ _ h => h) (Or.inl ⟨by rfl, ?_⟩) q0 ?_
              rotate_left 1
              · intro w0 hSw
                (try dsimp only at hSw)
                go_simp
                (try with_reducible rfl)
              try simp only [Act.put, List.setIfInBounds_toArray, List.set_cons_zero, List.set_cons_succ]
              refine wpAnyL_take3 (i := 2) (oi := { dst := some 73, op := Op.move (Operand.tmp 11), type := 3, pos := "theorems.go:39", after := #[], guard := none }) (v := ?_) rfl (by kernel_rfl) (by kernel_rfl) (by kernel_rfl) (by kernel_rfl) (fun _ _ _ h => h) (Or.inl ⟨by rfl, ?_⟩) q0 ?_
              rotate_left 1
              · intro w0 hSw
                (try dsimp only at hSw)
                go_simp
                (try with_reducible rfl)
              try simp only [Act.put, List.setIfInBounds_toArray, List.set_cons_zero, List.set_cons_succ]
              refine wpAnyL_take3 (i := 3) (oi := { dst := some 74, op := Op.fieldAddr 32 (Operand.tmp 9) 4, type := 0, pos := "theorems.go:39", after := #[], guard := none }) (v := ?_) rfl (by kernel_rfl) (by kernel_rfl) (by kernel_rfl) (by kernel_rfl) (fun _ _ _ h => h) (Or.inl ⟨by rfl, ?_⟩) q0 ?_
              rotate_left 1
              · intro w0 hSw
                (try dsimp only at hSw)
                go_simp
                (try with_reducible rfl)
              try simp only [Act.put, List.setIfInBounds_toArray, List.set_cons_zero, List.set_cons_succ]
              refine wpAnyL_take3 (i := 4) (oi := { dst := some 75, op := Op.load 9 (Operand.tmp 74), type := 9, pos := "theorems.go:39", after := #[{ on := 3, ground := Ground.data }], guard := none }) (v := ?_) rfl (by kernel_rfl) (by kernel_rfl) (by kernel_rfl) (by kernel_rfl) (fun _ _ _ h => h) (Or.inl ⟨by rfl, ?_⟩) q0 ?_
              rotate_left 1
              · intro w0 hSw
                (try dsimp only at hSw)
                go_simp
                (try with_reducible rfl)
              try simp only [Act.put, List.setIfInBounds_toArray, List.set_cons_zero, List.set_cons_succ]
              refine wpAnyL_take3 (i := 5) (oi := { dst := some 76, op := Op.build 49 #[(0, Operand.tmp 72), (1, Operand.tmp 73), (2, Operand.tmp 75)], type := 49, pos := "theorems.go:39", after := #[{ on := 1, ground := Ground.data }, { on := 2, ground := Ground.data }, { on := 4, ground := Ground.data }], guard := none }) (v := ?_) rfl (by kernel_rfl) (by kernel_rfl) (by kernel_rfl) (by kernel_rfl) (fun _ _ _ h => h) (Or.inl ⟨by rfl, ?_⟩) q0 ?_
              rotate_left 1
              · intro w0 hSw
                (try dsimp only at hSw)
                go_simp
                (try with_reducible rfl)
              try simp only [Act.put, List.setIfInBounds_toArray, List.set_cons_zero, List.set_cons_succ]
              refine wpAnyL_take3 (i := 6) (oi := { dst := some 77, op := Op.lookup 46 (Operand.tmp 71) (Operand.tmp 76) false, type := 3, pos := "theorems.go:39", after := #[{ on := 0, ground := Ground.data }, { on := 5, ground := Ground.data }], guard := none }) (v := ?_) rfl (by kernel_rfl) (by kernel_rfl) (by kernel_rfl) (by kernel_rfl) (fun _ _ _ h => h) (Or.inl ⟨by rfl, ?_⟩) q0 ?_
              rotate_left 1
              · intro w0 hSw
                (try dsimp only at hSw)
                go_simp
                (try with_reducible rfl)
              try simp only [Act.put, List.setIfInBounds_toArray, List.set_cons_zero, List.set_cons_succ]
              refine wpAnyL_take3 (i := 7) (oi := { dst := some 78, op := Op.binOp BinOp.add 3 (Operand.tmp 77) (Operand.const (Value.int IntKind.i64 1)) 3, type := 3, pos := "theorems.go:39", after := #[{ on := 6, ground := Ground.data }], guard := none }) (v := ?_) rfl (by kernel_rfl) (by kernel_rfl) (by kernel_rfl) (by kernel_rfl) (fun _ _ _ h => h) (Or.inl ⟨by rfl, ?_⟩) q0 ?_
              rotate_left 1
              · intro w0 hSw
                (try dsimp only at hSw)
                go_simp
                (try with_reducible rfl)
              try simp only [Act.put, List.setIfInBounds_toArray, List.set_cons_zero, List.set_cons_succ]
              refine wpAnyL_one (i := 8) (o := { dst := some 79, op := Op.mapEntry 46 (Operand.tmp 71) (Operand.tmp 76), type := 0, pos := "theorems.go:39", after := #[{ on := 0, ground := Ground.data }, { on := 5, ground := Ground.data }, { on := 0, ground := Ground.phase }, { on := 1, ground := Ground.phase }, { on := 2, ground := Ground.phase }, { on := 3, ground := Ground.phase }, { on := 4, ground := Ground.phase }, { on := 5, ground := Ground.phase }, { on := 6, ground := Ground.textOnly Departure.mapOpAssignEntry }, { on := 7, ground := Ground.textOnly Departure.mapOpAssignEntry }], guard := none }) rfl (by kernel_rfl) (fun K hK => ?_)
              go_simp
              refine hK _ _ (Or.inr q1) ?_
              clear hK K
              try simp only [Act.put, List.setIfInBounds_toArray, List.set_cons_zero, List.set_cons_succ]
              refine wpAnyL_one (i := 9) (o := { dst := some 80, op := Op.extract (Operand.tmp 79) 1, type := 3, pos := "theorems.go:39", after := #[{ on := 8, ground := Ground.data }], guard := none }) rfl (by kernel_rfl) (fun K hK => ?_)
              go_simp
              refine hK _ _ (Or.inr q1) ?_
              clear hK K
              try simp only [Act.put, List.setIfInBounds_toArray, List.set_cons_zero, List.set_cons_succ]
              refine wpAnyL_one (i := 10) (o := { dst := none, op := Op.entryStore 46 (Operand.tmp 71) (Operand.tmp 80) (Operand.tmp 78), type := 0, pos := "theorems.go:39", after := #[{ on := 0, ground := Ground.data }, { on := 9, ground := Ground.data }, { on := 7, ground := Ground.data }, { on := 8, ground := Ground.chain }, { on := 0, ground := Ground.phase }, { on := 1, ground := Ground.phase }, { on := 2, ground := Ground.phase }, { on := 3, ground := Ground.phase }, { on := 4, ground := Ground.phase }, { on := 5, ground := Ground.phase }, { on := 6, ground := Ground.phase }, { on := 7, ground := Ground.phase }, { on := 8, ground := Ground.phase }, { on := 9, ground := Ground.phase }], guard := none }) rfl (by kernel_rfl) (fun K hK => ?_)
              go_simp
              refine hK _ _ (Or.inl rfl) ?_
              clear hK K
              try simp only [Act.put, List.setIfInBounds_toArray, List.set_cons_zero, List.set_cons_succ]
              refine wpAnyL_done (by kernel_rfl) ?_ _
              go_wp2
              go_meet
              exact ⟨_, _, _, _, rfl, HF⟩
            · have hE0 : (seE s F3 (tn : Int) yb == 0) = false := beq_eq_false_iff_ne.2 he
              have e2 : seS s F3 (tn : Int) yb = s := by unfold seS; rw [if_neg he]
              rw [e2] at SE
              clear he e2
              generalize seE s F3 (tn : Int) yb = E at *
              go_wp2_with fail
              refine (unhide SE).mono ?_
              rintro r w6 ⟨rfl, a1, a2⟩
              have HF : Hid (Sta w b bs bt s sn tk cp (i + 1) w6) := hide ⟨by rw [hN1]; exact (unhide HR2).1.mono (by omega), by rw [hnx]; exact (unhide HR2).2.1.mono (by omega), (unhide HR2).2.2.net a1 a2⟩
              clear a1 a2 SE HR2 BV1 c0 c3 c4
              go_wp2
              go_meet
              exact ⟨_, _, _, _, rfl, HF⟩
          · have TA := hide (ntake_any w.heap.size b s (tn : Int) yi V1 _ (unhide HR2).2.2.nt (unhide HR2).2.1 hM)
            by_cases he : fiE s (tn : Int) yi = 0
            · obtain ⟨p, hnp, hmem, hTr⟩ := (unhide HR2).1.off_ tn yi 3 (Or.inr rfl) he
              have TR := hide (hTr _ (Or.inr rfl))
              have OK2 := hide ((unhide HR2).2.1.off (tn : Int) yi 3)
              obtain ⟨hsp, hle0⟩ := (unhide HR2).1.took hmem
              have e1 : taF s (tn : Int) yi = p.fr := by unfold taF; rw [if_pos he, hnp]
              have e2 : taB s (tn : Int) yi = p.b := by unfold taB; rw [if_pos he, hnp]
              rw [he, e1, e2] at TA
              have hb1 := (unhide HR2).1.s0 ⟨p.fr, tn, p.b⟩
              have hb2 := (unhide HR2).1.t0 ⟨p.fr, tn, p.b⟩
              have hb3 := (unhide HR2).1.c0
              clear he hnp hmem hTr e1 e2
              generalize off s (tn : Int) yi 3 = s2 at *
              obtain ⟨pf, pb⟩ := p
              dsimp only at TA TR hsp hle0 hb1 hb2
              go_wp2_with fail
              refine (unhide TA).mono ?_
              rintro r w6 ⟨rfl, a1, a2⟩
              obtain ⟨V2, hV⟩ : ∃ V2, V2 = w6.drew := ⟨_, rfl⟩
              have tw7 : Tw w b bs bt s2 sn tk V2 := by rw [hV]; exact ((unhide HR2).2.2.net a1 a2).al (Kp.drew w6)
              obtain ⟨v0, st, w8, hME0, hC8, hk8, hst⟩ := tw7.mt.entry ⟨pf, tn, pb⟩
              obtain ⟨SN, hSN⟩ : ∃ SN, sn ⟨pf, tn, pb⟩ = SN := ⟨_, rfl⟩
              obtain ⟨TK, hTK⟩ : ∃ TK, tk ⟨pf, tn, pb⟩ = TK := ⟨_, rfl⟩
              rw [hSN] at hb1 hsp hle0
              rw [hTK] at hb2 hle0
              obtain ⟨w9, hES0, hC9, hk9⟩ := hst (TK + 1)
              have tw9 : Tw w b bs bt s2 sn (upC tk ⟨pf, tn, pb⟩ (TK + 1)) w9 := (tw7.incT hC8 hk8).incT hC9 hk9
              have q0 : (Instr.lookup 46 (.map (some bt)) (.agg #[.int .i64 pf, .int .i64 (tn : Int), .string pb]) false).run Try.prog V2 = .ok (.int .i64 TK) V2 := by have := tw7.mt.look ⟨pf, tn, pb⟩; rw [hTK] at this; exact this
              have q1 : (Instr.lookup 46 (.map (some bt)) (.agg #[.int .i64 pf, .int .i64 (tn : Int), .string pb]) false).run Try.prog w8 = .ok (.int .i64 TK) w8 := by have := hC8.look ⟨pf, tn, pb⟩; rw [hTK] at this; exact this
              have hME : (Instr.mapEntry 46 (.map (some bt)) (.agg #[.int .i64 pf, .int .i64 (tn : Int), .string pb])).run Try.prog V2 = .ok (.tuple #[v0, .int .i64 (st : Int)]) w8 := hME0
              have hES : (Instr.entryStore 46 (.map (some bt)) (.int .i64 (st : Int)) (.int .i64 (TK + 1))).run Try.prog w8 = .ok () w9 := hES0
              have hwr : IntKind.i64.wrap (TK + 1) = TK + 1 := by rw [IntKind.wrap_i64]; omega
              have hwr2 : IntKind.i64.wrap (SN + cp) = SN + cp := by rw [IntKind.wrap_i64]; omega
              have hs0 : (SN == 0) = false := beq_eq_false_iff_ne.2 (by omega)
              have hlt : ¬ SN + cp < TK + 1 := by omega
              obtain ⟨V3, hV3⟩ : ∃ V3, V3 = w9.drew := ⟨_, rfl⟩
              have q2 : (Instr.lookup 46 (.map (some bs)) (.agg #[.int .i64 pf, .int .i64 (tn : Int), .string pb]) false).run Try.prog w9.drew = .ok (.int .i64 SN) w9.drew ∧ (Instr.lookup 46 (.map (some bt)) (.agg #[.int .i64 pf, .int .i64 (tn : Int), .string pb]) false).run Try.prog w9.drew = .ok (.int .i64 (TK + 1)) w9.drew := by
                have t3 := tw9.al (Kp.drew w9)
                refine ⟨by have := t3.ms.look ⟨pf, tn, pb⟩; rw [hSN] at this; exact this, ?_⟩
                have := t3.mt.look ⟨pf, tn, pb⟩
                rw [upC_at, if_pos rfl] at this
                exact this
              have HF3 : Hid (Sta w b bs bt s2 sn (upC tk ⟨pf, tn, pb⟩ (TK + 1)) cp (i + 1) V3) := hide (by
                refine ⟨?_, ?_, by rw [hV3]; exact tw9.al (Kp.drew w9)⟩
                · have := unhide TR; rw [hTK] at this; rw [hN1]; exact this
                · rw [hnx]; exact (unhide OK2).mono (by omega))
              clear TR OK2 hb1 hb2 hb3 hsp hle0 TA a1 a2 tw7 tw9 hME0 hES0 hC8 hk8 hst hC9 hk9 hSN hTK HR2 BV1 c0 c3 c4
              go_upto_region 19 with fail
              refine wp_region_late (fun W => (Instr.lookup 46 (.map (some bt)) (.agg #[.int .i64 pf, .int .i64 (tn : Int), .string pb]) false).run Try.prog W = .ok (.int .i64 TK) W) 9 (by kernel_rfl) ?_
              rw [← hV]
              clear hV
              show wpAnyL _ _ _ _ _ _ 10 (Array.replicate 10 false) _ _
              refine wpAnyL_take3 (i := 0) (oi := { dst := some 94, op := Op.move (Operand.tmp 6), type := 46, pos := "theorems.go:43", after := #[], guard := none }) (v := ?_) rfl (by kernel_rfl) (by kernel_rfl) (by kernel_rfl) (by kernel_rfl) (fun _ _ _ h => h) (Or.inl ⟨by rfl, ?_⟩) q0 ?_
              rotate_left 1
              · intro w0 hSw
                (try dsimp only at hSw)
                go_simp
                (try with_reducible rfl)
              try simp only [Act.put, List.setIfInBounds_toArray, List.set_cons_zero, List.set_cons_succ]
              refine wpAnyL_take3 (i := 1) (oi := { dst := some 95, op := Op.move (Operand.tmp 12), type := 3, pos := "theorems.go:43", after := #[], guard := none }) (v := ?_) rfl (by kernel_rfl) (by kernel_rfl) (by kernel_rfl) (by kernel_rfl) (fun _ _ _ h => h) (Or.inl ⟨by rfl, ?_⟩) q0 ?_
              rotate_left 1
              · intro w0 hSw
                (try dsimp only at hSw)
                go_simp
                (try with_reducible rfl)
              try simp only [Act.put, List.setIfInBounds_toArray, List.set_cons_zero, List.set_cons_succ]
              refine wpAnyL_take3 (i := 2) (oi := { dst := some 96, op := Op.move (Operand.tmp 11), type := 3, pos := "theorems.go:43", after := #[], guard := none }) (v := ?_) rfl (by kernel_rfl) (by kernel_rfl) (by kernel_rfl) (by kernel_rfl) (fun _ _ _ h => h) (Or.inl ⟨by rfl, ?_⟩) q0 ?_
              rotate_left 1
              · intro w0 hSw
                (try dsimp only at hSw)
                go_simp
                (try with_reducible rfl)
              try simp only [Act.put, List.setIfInBounds_toArray, List.set_cons_zero, List.set_cons_succ]
              refine wpAnyL_take3 (i := 3) (oi := { dst := some 97, op := Op.move (Operand.tmp 13), type := 9, pos := "theorems.go:43", after := #[], guard := none }) (v := ?_) rfl (by kernel_rfl) (by kernel_rfl) (by kernel_rfl) (by kernel_rfl) (fun _ _ _ h => h) (Or.inl ⟨by rfl, ?_⟩) q0 ?_
              rotate_left 1
              · intro w0 hSw
                (try dsimp only at hSw)
                go_simp
                (try with_reducible rfl)
              try simp only [Act.put, List.setIfInBounds_toArray, List.set_cons_zero, List.set_cons_succ]
              refine wpAnyL_take3 (i := 4) (oi := { dst := some 98, op := Op.build 49 #[(0, Operand.tmp 95), (1, Operand.tmp 96), (2, Operand.tmp 97)], type := 49, pos := "theorems.go:43", after := #[{ on := 1, ground := Ground.data }, { on := 2, ground := Ground.data }, { on := 3, ground := Ground.data }], guard := none }) (v := ?_) rfl (by kernel_rfl) (by kernel_rfl) (by kernel_rfl) (by kernel_rfl) (fun _ _ _ h => h) (Or.inl ⟨by rfl, ?_⟩) q0 ?_
              rotate_left 1
              · intro w0 hSw
                (try dsimp only at hSw)
                go_simp
                (try with_reducible rfl)
              try simp only [Act.put, List.setIfInBounds_toArray, List.set_cons_zero, List.set_cons_succ]
              refine wpAnyL_take3 (i := 5) (oi := { dst := some 99, op := Op.lookup 46 (Operand.tmp 94) (Operand.tmp 98) false, type := 3, pos := "theorems.go:43", after := #[{ on := 0, ground := Ground.data }, { on := 4, ground := Ground.data }], guard := none }) (v := ?_) rfl (by kernel_rfl) (by kernel_rfl) (by kernel_rfl) (by kernel_rfl) (fun _ _ _ h => h) (Or.inl ⟨by rfl, ?_⟩) q0 ?_
              rotate_left 1
              · intro w0 hSw
                (try dsimp only at hSw)
                go_simp
                (try with_reducible rfl)
              try simp only [Act.put, List.setIfInBounds_toArray, List.set_cons_zero, List.set_cons_succ]
              refine wpAnyL_take3 (i := 6) (oi := { dst := some 100, op := Op.binOp BinOp.add 3 (Operand.tmp 99) (Operand.const (Value.int IntKind.i64 1)) 3, type := 3, pos := "theorems.go:43", after := #[{ on := 5, ground := Ground.data }], guard := none }) (v := ?_) rfl (by kernel_rfl) (by kernel_rfl) (by kernel_rfl) (by kernel_rfl) (fun _ _ _ h => h) (Or.inl ⟨by rfl, ?_⟩) q0 ?_
              rotate_left 1
              · intro w0 hSw
                (try dsimp only at hSw)
                go_simp
                (try with_reducible rfl)
              try simp only [Act.put, List.setIfInBounds_toArray, List.set_cons_zero, List.set_cons_succ]
              refine wpAnyL_one (i := 7) (o := { dst := some 101, op := Op.mapEntry 46 (Operand.tmp 94) (Operand.tmp 98), type := 0, pos := "theorems.go:43", after := #[{ on := 0, ground := Ground.data }, { on := 4, ground := Ground.data }, { on := 0, ground := Ground.phase }, { on := 1, ground := Ground.phase }, { on := 2, ground := Ground.phase }, { on := 3, ground := Ground.phase }, { on := 4, ground := Ground.phase }, { on := 5, ground := Ground.textOnly Departure.mapOpAssignEntry }, { on := 6, ground := Ground.textOnly Departure.mapOpAssignEntry }], guard := none }) rfl (by kernel_rfl) (fun K hK => ?_)
              go_simp
              refine hK _ _ (Or.inr q1) ?_
              clear hK K
              try simp only [Act.put, List.setIfInBounds_toArray, List.set_cons_zero, List.set_cons_succ]
              refine wpAnyL_one (i := 8) (o := { dst := some 102, op := Op.extract (Operand.tmp 101) 1, type := 3, pos := "theorems.go:43", after := #[{ on := 7, ground := Ground.data }], guard := none }) rfl (by kernel_rfl) (fun K hK => ?_)
              go_simp
              refine hK _ _ (Or.inr q1) ?_
              clear hK K
              try simp only [Act.put, List.setIfInBounds_toArray, List.set_cons_zero, List.set_cons_succ]
              refine wpAnyL_one (i := 9) (o := { dst := none, op := Op.entryStore 46 (Operand.tmp 94) (Operand.tmp 102) (Operand.tmp 100), type := 0, pos := "theorems.go:43", after := #[{ on := 0, ground := Ground.data }, { on := 8, ground := Ground.data }, { on := 6, ground := Ground.data }, { on := 7, ground := Ground.chain }, { on := 0, ground := Ground.phase }, { on := 1, ground := Ground.phase }, { on := 2, ground := Ground.phase }, { on := 3, ground := Ground.phase }, { on := 4, ground := Ground.phase }, { on := 5, ground := Ground.phase }, { on := 6, ground := Ground.phase }, { on := 7, ground := Ground.phase }, { on := 8, ground := Ground.phase }], guard := none }) rfl (by kernel_rfl) (fun K hK => ?_)
              go_simp
              refine hK _ _ (Or.inl rfl) ?_
              clear hK K
              try simp only [Act.put, List.setIfInBounds_toArray, List.set_cons_zero, List.set_cons_succ]
              refine wpAnyL_done (by kernel_rfl) ?_ _
              clear hME hES q0 q1
              go_upto_region 20 with fail
              refine wp_region_held_drew (S := fun W => (Instr.lookup 46 (.map (some bs)) (.agg #[.int .i64 pf, .int .i64 (tn : Int), .string pb]) false).run Try.prog W = .ok (.int .i64 SN) W ∧ (Instr.lookup 46 (.map (some bt)) (.agg #[.int .i64 pf, .int .i64 (tn : Int), .string pb]) false).run Try.prog W = .ok (.int .i64 (TK + 1)) W) (by kernel_rfl) (by exact q2) (fun hHeld => ?_)
              rw [← hV3] at hHeld ⊢
              clear hV3
              show wpAnyH _ _ _ _ _ 24 (Array.replicate 24 false) _ _
              refine wpAnyH_take (i := 0) (oi := { dst := some 103, op := Op.move (Operand.tmp 5), type := 46, pos := "theorems.go:44", after := #[], guard := none }) (v := ?_) rfl (by kernel_rfl) (by kernel_rfl) (by kernel_rfl) (fun _ _ _ h => h) (Or.inl ⟨by rfl, ?_⟩) (by assumption) ?_
              rotate_left 1
              · intro w0 hSw
                (try dsimp only at hSw)
                go_simp
                (try with_reducible rfl)
              try simp only [Act.put, List.setIfInBounds_toArray, List.set_cons_zero, List.set_cons_succ]
              refine wpAnyH_take (i := 1) (oi := { dst := some 104, op := Op.move (Operand.tmp 12), type := 3, pos := "theorems.go:44", after := #[], guard := none }) (v := ?_) rfl (by kernel_rfl) (by kernel_rfl) (by kernel_rfl) (fun _ _ _ h => h) (Or.inl ⟨by rfl, ?_⟩) (by assumption) ?_
              rotate_left 1
              · intro w0 hSw
                (try dsimp only at hSw)
                go_simp
                (try with_reducible rfl)
              try simp only [Act.put, List.setIfInBounds_toArray, List.set_cons_zero, List.set_cons_succ]
              refine wpAnyH_take (i := 2) (oi := { dst := some 105, op := Op.move (Operand.tmp 11), type := 3, pos := "theorems.go:44", after := #[], guard := none }) (v := ?_) rfl (by kernel_rfl) (by kernel_rfl) (by kernel_rfl) (fun _ _ _ h => h) (Or.inl ⟨by rfl, ?_⟩) (by assumption) ?_
              rotate_left 1
              · intro w0 hSw
                (try dsimp only at hSw)
                go_simp
                (try with_reducible rfl)
              try simp only [Act.put, List.setIfInBounds_toArray, List.set_cons_zero, List.set_cons_succ]
              refine wpAnyH_take (i := 3) (oi := { dst := some 106, op := Op.move (Operand.tmp 13), type := 9, pos := "theorems.go:44", after := #[], guard := none }) (v := ?_) rfl (by kernel_rfl) (by kernel_rfl) (by kernel_rfl) (fun _ _ _ h => h) (Or.inl ⟨by rfl, ?_⟩) (by assumption) ?_
              rotate_left 1
              · intro w0 hSw
                (try dsimp only at hSw)
                go_simp
                (try with_reducible rfl)
              try simp only [Act.put, List.setIfInBounds_toArray, List.set_cons_zero, List.set_cons_succ]
              refine wpAnyH_take (i := 4) (oi := { dst := some 107, op := Op.build 49 #[(0, Operand.tmp 104), (1, Operand.tmp 105), (2, Operand.tmp 106)], type := 49, pos := "theorems.go:44", after := #[{ on := 1, ground := Ground.data }, { on := 2, ground := Ground.data }, { on := 3, ground := Ground.data }], guard := none }) (v := ?_) rfl (by kernel_rfl) (by kernel_rfl) (by kernel_rfl) (fun _ _ _ h => h) (Or.inl ⟨by rfl, ?_⟩) (by assumption) ?_
              rotate_left 1
              · intro w0 hSw
                (try dsimp only at hSw)
                go_simp
                (try with_reducible rfl)
              try simp only [Act.put, List.setIfInBounds_toArray, List.set_cons_zero, List.set_cons_succ]
              refine wpAnyH_take (i := 5) (oi := { dst := some 108, op := Op.lookup 46 (Operand.tmp 103) (Operand.tmp 107) false, type := 3, pos := "theorems.go:44", after := #[{ on := 0, ground := Ground.data }, { on := 4, ground := Ground.data }], guard := none }) (v := ?_) rfl (by kernel_rfl) (by kernel_rfl) (by kernel_rfl) (fun _ _ _ h => h) (Or.inl ⟨by rfl, ?_⟩) (by assumption) ?_
              rotate_left 1
              · intro w0 hSw
                (try dsimp only at hSw)
                go_simp
                (try with_reducible rfl)
              try simp only [Act.put, List.setIfInBounds_toArray, List.set_cons_zero, List.set_cons_succ]
              refine wpAnyH_take (i := 6) (oi := { dst := some 109, op := Op.binOp BinOp.eql 3 (Operand.tmp 108) (Operand.const (Value.int IntKind.i64 0)) 3, type := 4, pos := "theorems.go:44", after := #[{ on := 5, ground := Ground.data }], guard := none }) (v := ?_) rfl (by kernel_rfl) (by kernel_rfl) (by kernel_rfl) (fun _ _ _ h => h) (Or.inl ⟨by rfl, ?_⟩) (by assumption) ?_
              rotate_left 1
              · intro w0 hSw
                (try dsimp only at hSw)
                go_simp
                (try with_reducible rfl)
              try simp only [Act.put, List.setIfInBounds_toArray, List.set_cons_zero, List.set_cons_succ]
              refine wpAnyH_take (i := 7) (oi := { dst := some 110, op := Op.move (Operand.tmp 109), type := 4, pos := "theorems.go:44", after := #[{ on := 6, ground := Ground.data }], guard := none }) (v := ?_) rfl (by kernel_rfl) (by kernel_rfl) (by kernel_rfl) (fun _ _ _ h => h) (Or.inl ⟨by rfl, ?_⟩) (by assumption) ?_
              rotate_left 1
              · intro w0 hSw
                (try dsimp only at hSw)
                go_simp
                (try with_reducible rfl)
              try simp only [Act.put, List.setIfInBounds_toArray, List.set_cons_zero, List.set_cons_succ]
              refine wpAnyH_take (i := 8) (oi := { dst := some 111, op := Op.move (Operand.tmp 6), type := 46, pos := "theorems.go:44", after := #[{ on := 7, ground := Ground.guard }], guard := some (7, false) }) (v := ?_) rfl (by kernel_rfl) (by kernel_rfl) (by kernel_rfl) (fun _ _ _ h => h) (Or.inl ⟨by rfl, ?_⟩) (by assumption) ?_
              rotate_left 1
              · intro w0 hSw
                (try dsimp only at hSw)
                go_simp
                (try with_reducible rfl)
              try simp only [Act.put, List.setIfInBounds_toArray, List.set_cons_zero, List.set_cons_succ]
              refine wpAnyH_take (i := 9) (oi := { dst := some 112, op := Op.move (Operand.tmp 12), type := 3, pos := "theorems.go:44", after := #[{ on := 7, ground := Ground.guard }], guard := some (7, false) }) (v := ?_) rfl (by kernel_rfl) (by kernel_rfl) (by kernel_rfl) (fun _ _ _ h => h) (Or.inl ⟨by rfl, ?_⟩) (by assumption) ?_
              rotate_left 1
              · intro w0 hSw
                (try dsimp only at hSw)
                go_simp
                (try with_reducible rfl)
              try simp only [Act.put, List.setIfInBounds_toArray, List.set_cons_zero, List.set_cons_succ]
              refine wpAnyH_take (i := 10) (oi := { dst := some 113, op := Op.move (Operand.tmp 11), type := 3, pos := "theorems.go:44", after := #[{ on := 7, ground := Ground.guard }], guard := some (7, false) }) (v := ?_) rfl (by kernel_rfl) (by kernel_rfl) (by kernel_rfl) (fun _ _ _ h => h) (Or.inl ⟨by rfl, ?_⟩) (by assumption) ?_
              rotate_left 1
              · intro w0 hSw
                (try dsimp only at hSw)
                go_simp
                (try with_reducible rfl)
              try simp only [Act.put, List.setIfInBounds_toArray, List.set_cons_zero, List.set_cons_succ]
              refine wpAnyH_take (i := 11) (oi := { dst := some 114, op := Op.move (Operand.tmp 13), type := 9, pos := "theorems.go:44", after := #[{ on := 7, ground := Ground.guard }], guard := some (7, false) }) (v := ?_) rfl (by kernel_rfl) (by kernel_rfl) (by kernel_rfl) (fun _ _ _ h => h) (Or.inl ⟨by rfl, ?_⟩) (by assumption) ?_
              rotate_left 1
              · intro w0 hSw
                (try dsimp only at hSw)
                go_simp
                (try with_reducible rfl)
              try simp only [Act.put, List.setIfInBounds_toArray, List.set_cons_zero, List.set_cons_succ]
              refine wpAnyH_take (i := 12) (oi := { dst := some 115, op := Op.build 49 #[(0, Operand.tmp 112), (1, Operand.tmp 113), (2, Operand.tmp 114)], type := 49, pos := "theorems.go:44", after := #[{ on := 9, ground := Ground.data }, { on := 10, ground := Ground.data }, { on := 11, ground := Ground.data }, { on := 7, ground := Ground.guard }], guard := some (7, false) }) (v := ?_) rfl (by kernel_rfl) (by kernel_rfl) (by kernel_rfl) (fun _ _ _ h => h) (Or.inl ⟨by rfl, ?_⟩) (by assumption) ?_
              rotate_left 1
              · intro w0 hSw
                (try dsimp only at hSw)
                go_simp
                (try with_reducible rfl)
              try simp only [Act.put, List.setIfInBounds_toArray, List.set_cons_zero, List.set_cons_succ]
              refine wpAnyH_take (i := 13) (oi := { dst := some 116, op := Op.lookup 46 (Operand.tmp 111) (Operand.tmp 115) false, type := 3, pos := "theorems.go:44", after := #[{ on := 8, ground := Ground.data }, { on := 12, ground := Ground.data }, { on := 7, ground := Ground.guard }], guard := some (7, false) }) (v := ?_) rfl (by kernel_rfl) (by kernel_rfl) (by kernel_rfl) (fun _ _ _ h => h) (Or.inl ⟨by rfl, ?_⟩) (by assumption) ?_
              rotate_left 1
              · intro w0 hSw
                (try dsimp only at hSw)
                go_simp
                (try with_reducible rfl)
              try simp only [Act.put, List.setIfInBounds_toArray, List.set_cons_zero, List.set_cons_succ]
              refine wpAnyH_take (i := 14) (oi := { dst := some 117, op := Op.move (Operand.tmp 5), type := 46, pos := "theorems.go:44", after := #[{ on := 7, ground := Ground.guard }], guard := some (7, false) }) (v := ?_) rfl (by kernel_rfl) (by kernel_rfl) (by kernel_rfl) (fun _ _ _ h => h) (Or.inl ⟨by rfl, ?_⟩) (by assumption) ?_
              rotate_left 1
              · intro w0 hSw
                (try dsimp only at hSw)
                go_simp
                (try with_reducible rfl)
              try simp only [Act.put, List.setIfInBounds_toArray, List.set_cons_zero, List.set_cons_succ]
              refine wpAnyH_take (i := 15) (oi := { dst := some 118, op := Op.move (Operand.tmp 12), type := 3, pos := "theorems.go:44", after := #[{ on := 7, ground := Ground.guard }], guard := some (7, false) }) (v := ?_) rfl (by kernel_rfl) (by kernel_rfl) (by kernel_rfl) (fun _ _ _ h => h) (Or.inl ⟨by rfl, ?_⟩) (by assumption) ?_
              rotate_left 1
              · intro w0 hSw
                (try dsimp only at hSw)
                go_simp
                (try with_reducible rfl)
              try simp only [Act.put, List.setIfInBounds_toArray, List.set_cons_zero, List.set_cons_succ]
              refine wpAnyH_take (i := 16) (oi := { dst := some 119, op := Op.move (Operand.tmp 11), type := 3, pos := "theorems.go:44", after := #[{ on := 7, ground := Ground.guard }], guard := some (7, false) }) (v := ?_) rfl (by kernel_rfl) (by kernel_rfl) (by kernel_rfl) (fun _ _ _ h => h) (Or.inl ⟨by rfl, ?_⟩) (by assumption) ?_
              rotate_left 1
              · intro w0 hSw
                (try dsimp only at hSw)
                go_simp
                (try with_reducible rfl)
              try simp only [Act.put, List.setIfInBounds_toArray, List.set_cons_zero, List.set_cons_succ]
              refine wpAnyH_take (i := 17) (oi := { dst := some 120, op := Op.move (Operand.tmp 13), type := 9, pos := "theorems.go:44", after := #[{ on := 7, ground := Ground.guard }], guard := some (7, false) }) (v := ?_) rfl (by kernel_rfl) (by kernel_rfl) (by kernel_rfl) (fun _ _ _ h => h) (Or.inl ⟨by rfl, ?_⟩) (by assumption) ?_
              rotate_left 1
              · intro w0 hSw
                (try dsimp only at hSw)
                go_simp
                (try with_reducible rfl)
              try simp only [Act.put, List.setIfInBounds_toArray, List.set_cons_zero, List.set_cons_succ]
              refine wpAnyH_take (i := 18) (oi := { dst := some 121, op := Op.build 49 #[(0, Operand.tmp 118), (1, Operand.tmp 119), (2, Operand.tmp 120)], type := 49, pos := "theorems.go:44", after := #[{ on := 15, ground := Ground.data }, { on := 16, ground := Ground.data }, { on := 17, ground := Ground.data }, { on := 7, ground := Ground.guard }], guard := some (7, false) }) (v := ?_) rfl (by kernel_rfl) (by kernel_rfl) (by kernel_rfl) (fun _ _ _ h => h) (Or.inl ⟨by rfl, ?_⟩) (by assumption) ?_
              rotate_left 1
              · intro w0 hSw
                (try dsimp only at hSw)
                go_simp
                (try with_reducible rfl)
              try simp only [Act.put, List.setIfInBounds_toArray, List.set_cons_zero, List.set_cons_succ]
              refine wpAnyH_take (i := 19) (oi := { dst := some 122, op := Op.lookup 46 (Operand.tmp 117) (Operand.tmp 121) false, type := 3, pos := "theorems.go:44", after := #[{ on := 14, ground := Ground.data }, { on := 18, ground := Ground.data }, { on := 7, ground := Ground.guard }], guard := some (7, false) }) (v := ?_) rfl (by kernel_rfl) (by kernel_rfl) (by kernel_rfl) (fun _ _ _ h => h) (Or.inl ⟨by rfl, ?_⟩) (by assumption) ?_
              rotate_left 1
              · intro w0 hSw
                (try dsimp only at hSw)
                go_simp
                (try with_reducible rfl)
              try simp only [Act.put, List.setIfInBounds_toArray, List.set_cons_zero, List.set_cons_succ]
              refine wpAnyH_take (i := 20) (oi := { dst := some 123, op := Op.move (Operand.tmp 7), type := 3, pos := "theorems.go:44", after := #[{ on := 7, ground := Ground.guard }], guard := some (7, false) }) (v := ?_) rfl (by kernel_rfl) (by kernel_rfl) (by kernel_rfl) (fun _ _ _ h => h) (Or.inl ⟨by rfl, ?_⟩) (by assumption) ?_
              rotate_left 1
              · intro w0 hSw
                (try dsimp only at hSw)
                go_simp
                (try with_reducible rfl)
              try simp only [Act.put, List.setIfInBounds_toArray, List.set_cons_zero, List.set_cons_succ]
              refine wpAnyH_take (i := 21) (oi := { dst := some 124, op := Op.binOp BinOp.add 3 (Operand.tmp 122) (Operand.tmp 123) 3, type := 3, pos := "theorems.go:44", after := #[{ on := 19, ground := Ground.data }, { on := 20, ground := Ground.data }, { on := 7, ground := Ground.guard }], guard := some (7, false) }) (v := ?_) rfl (by kernel_rfl) (by kernel_rfl) (by kernel_rfl) (fun _ _ _ h => h) (Or.inl ⟨by rfl, ?_⟩) (by assumption) ?_
              rotate_left 1
              · intro w0 hSw
                (try dsimp only at hSw)
                go_simp
                (try with_reducible rfl)
              try simp only [Act.put, List.setIfInBounds_toArray, List.set_cons_zero, List.set_cons_succ]
              refine wpAnyH_take (i := 22) (oi := { dst := some 125, op := Op.binOp BinOp.gtr 3 (Operand.tmp 116) (Operand.tmp 124) 3, type := 4, pos := "theorems.go:44", after := #[{ on := 13, ground := Ground.data }, { on := 21, ground := Ground.data }, { on := 7, ground := Ground.guard }], guard := some (7, false) }) (v := ?_) rfl (by kernel_rfl) (by kernel_rfl) (by kernel_rfl) (fun _ _ _ h => h) (Or.inl ⟨by rfl, ?_⟩) (by assumption) ?_
              rotate_left 1
              · intro w0 hSw
                (try dsimp only at hSw)
                go_simp
                (try with_reducible rfl)
              try simp only [Act.put, List.setIfInBounds_toArray, List.set_cons_zero, List.set_cons_succ]
              refine wpAnyH_take (i := 23) (oi := { dst := some 126, op := Op.pick (Operand.tmp 110) (Operand.const (Value.bool true)) (Operand.tmp 125), type := 4, pos := "theorems.go:44", after := #[{ on := 7, ground := Ground.data }, { on := 22, ground := Ground.data }], guard := none }) (v := ?_) rfl (by kernel_rfl) (by kernel_rfl) (by kernel_rfl) (fun _ _ _ h => h) (Or.inl ⟨by rfl, ?_⟩) (by assumption) ?_
              rotate_left 1
              · intro w0 hSw
                (try dsimp only at hSw)
                go_simp
                (try with_reducible rfl)
              try simp only [Act.put, List.setIfInBounds_toArray, List.set_cons_zero, List.set_cons_succ]
              refine wpAnyH_done (by kernel_rfl) ?_ _
              clear hHeld q2
              go_wp2
              go_meet
              exact ⟨_, _, _, _, rfl, HF3⟩
            · have hE0 : (fiE s (tn : Int) yi == 0) = false := beq_eq_false_iff_ne.2 he
              have e2 : off s (tn : Int) yi 3 = s := by unfold off; rw [if_neg he]
              rw [e2] at TA
              clear he e2
              generalize fiE s (tn : Int) yi = E at *
              generalize taF s (tn : Int) yi = E2 at *
              generalize taB s (tn : Int) yi = E3 at *
              go_wp2_with fail
              refine (unhide TA).mono ?_
              rintro r w6 ⟨rfl, a1, a2⟩
              have HF : Hid (Sta w b bs bt s sn tk cp (i + 1) w6) := hide ⟨by rw [hN1]; exact (unhide HR2).1.mono (by omega), by rw [hnx]; exact (unhide HR2).2.1.mono (by omega), (unhide HR2).2.2.net a1 a2⟩
              clear a1 a2 TA HR2 BV1 c0 c3 c4
              go_wp2
              go_meet
              exact ⟨_, _, _, _, rfl, HF⟩
          · have LO := hide (nlose_any w.heap.size b s (tn : Int) yi V1 _ (unhide HR2).2.2.nt (unhide HR2).2.1 hM)
            have TR : Hid (Tru (off s (tn : Int) yi 1) sn tk cp ((i : Int) + 1)) := hide (by
              by_cases he : fiE s (tn : Int) yi = 0
              · obtain ⟨p, hnp, hmem, hTr⟩ := (unhide HR2).1.off_ tn yi 1 (Or.inl rfl) he
                exact hTr _ (Or.inl rfl)
              · have e2 : off s (tn : Int) yi 1 = s := by unfold off; rw [if_neg he]
                rw [e2]
                exact (unhide HR2).1.mono (by omega))
            have OK2 := hide ((unhide HR2).2.1.off (tn : Int) yi 1)
            generalize off s (tn : Int) yi 1 = s2 at *
            generalize fiE s (tn : Int) yi = E at *
            go_wp2_with fail
            refine (unhide LO).mono ?_
            rintro r w6 ⟨rfl, a1, a2⟩
            have HF : Hid (Sta w b bs bt s2 sn tk cp (i + 1) w6) := hide ⟨by rw [hN1]; exact unhide TR, by rw [hnx]; exact (unhide OK2).mono (by omega), (unhide HR2).2.2.net a1 a2⟩
            clear a1 a2 LO TR OK2 HR2 BV1 c0 c3 c4
            go_wp2
            go_meet
            exact ⟨_, _, _, _, rfl, HF⟩
          · have CO := hide (ncopy_any w.heap.size b s (tn : Int) yi V1 _ (unhide HR2).2.2.nt (unhide HR2).2.1 hM)
            have OK2 := hide ((unhide HR2).2.1.co (tn : Int) yi)
            by_cases he : coE s (tn : Int) yi = 0
            · have TR := hide ((unhide HR2).1.copy tn yi he)
              have hb3 := (unhide HR2).1.c0
              rw [he] at CO
              clear he
              generalize coS s (tn : Int) yi = s2 at *
              go_wp2_with fail
              refine (unhide CO).mono ?_
              rintro r w6 ⟨rfl, a1, a2⟩
              have HF : Hid (Sta w b bs bt s2 sn tk (cp + 1) (i + 1) w6) := hide ⟨by rw [hN1]; exact unhide TR, by rw [hnx]; exact (unhide OK2).mono (by omega), (unhide HR2).2.2.net a1 a2⟩
              have hwr : wrap64 (cp + 1) = cp + 1 := by unfold wrap64; omega
              clear a1 a2 CO TR OK2 HR2 BV1 c0 c3 c4 hb3
              go_wp2
              go_meet
              exact ⟨s2, sn, tk, cp + 1, by rw [hwr], HF⟩
            · have hE0 : (coE s (tn : Int) yi == 0) = false := beq_eq_false_iff_ne.2 he
              have e2 : coS s (tn : Int) yi = s := by unfold coS; rw [if_neg he]
              rw [e2] at CO
              clear he e2 OK2
              generalize coE s (tn : Int) yi = E at *
              go_wp2_with fail
              refine (unhide CO).mono ?_
              rintro r w6 ⟨rfl, a1, a2⟩
              have HF : Hid (Sta w b bs bt s sn tk cp (i + 1) w6) := hide ⟨by rw [hN1]; exact (unhide HR2).1.mono (by omega), by rw [hnx]; exact (unhide HR2).2.1.mono (by omega), (unhide HR2).2.2.net a1 a2⟩
              clear a1 a2 CO HR2 BV1 c0 c3 c4
              go_wp2
              go_meet
              exact ⟨_, _, _, _, rfl, HF⟩
          · have CL := hide (nclear_any w.heap.size b s (tn : Int) V1 _ (unhide HR2).2.2.nt (unhide HR2).2.1 hM)
            have TR := hide ((unhide HR2).1.clear (tn : Int))
            have OK2 := hide ((unhide HR2).2.1.cl (tn : Int))
            generalize clS s (tn : Int) = s2 at *
            generalize clN s (tn : Int) = E at *
            generalize wyE s (tn : Int) = E2 at *
            go_wp2_with fail
            refine (unhide CL).mono ?_
            rintro r w6 ⟨rfl, a1, a2⟩
            have HF : Hid (Sta w b bs bt s2 sn tk cp (i + 1) w6) := hide ⟨by rw [hN1]; exact unhide TR, by rw [hnx]; exact unhide OK2, (unhide HR2).2.2.net a1 a2⟩
            clear a1 a2 CL TR OK2 HR2 BV1 c0 c3 c4
            go_wp2
            go_meet
            exact ⟨_, _, _, _, rfl, HF⟩
        case rest =>
          obtain ⟨s', sn', tk', cp', rfl, HS⟩ := hcut
          clear HR2 BV1 c0 c3 c4 hz0 hz1 hM hys
          have h3 := (unhide HS).1.len
          have htl := tot_le s'.ws (unhide HS).2.1.lim
          rw [h3] at htl
          go_wp2_with fail
          go_loopw [15, 144] (fun yv jv wr2 => ∃ j : Nat, j ≤ 3 ∧ yv = .int .i64 ((tot (s'.ws.take j) : Nat) : Int) ∧ jv = .int .i64 (j : Int) ∧ wr2 = wc) (fun _ jv _ => 3 - (intOf jv).toNat)
          case atStart => exact ⟨0, by decide, rfl, rfl, rfl⟩
          case round =>
            obtain ⟨j, hj, rfl, rfl, hw2⟩ := hrel
            obtain rfl := hw2
            by_cases hlt : j < 3
            · have hji : (j : Int) < 3 := by omega
              have hjl : j < s'.ws.length := by omega
              have WY : Hid (Calls Try.prog 18 #[.pointer (some ⟨b, 0, none⟩), .int .i64 (j : Int)] wr fun e w' => e = .returned (.tuple #[.int .i64 ((s'.ws[j]).length : Int), .int .i64 0]) ∧ w' = wr) := hide (by
                obtain ⟨q, vs, a1, _⟩ := (unhide HS).2.2.nt
                have := nway_any b q vs s' (j : Int) wr a1
                have e1 : wyE s' (j : Int) = 0 := by unfold wyE; rw [if_pos (hasN_of hjl)]
                have e2 : wyN s' (j : Int) = ((s'.ws[j]).length : Int) := by unfold wyN; rw [if_pos (hasN_of hjl), row_at hjl]
                rw [e1, e2] at this
                exact this)
              have hle : (s'.ws[j]).length ≤ 4096 := (unhide HS).2.1.lim _ (List.getElem_mem hjl)
              have htk := tot_take s'.ws j hjl
              have hlw : tot (s'.ws.take j) ≤ 12288 := by
                have := tot_le (s'.ws.take j) (fun l hl => (unhide HS).2.1.lim l (List.mem_of_mem_take hl))
                rw [List.length_take] at this
                omega
              have hsum : ((tot (s'.ws.take j) : Nat) : Int) + ((s'.ws[j]).length : Int) = ((tot (s'.ws.take (j + 1)) : Nat) : Int) := by omega
              have HSUM := hide hsum
              generalize (s'.ws[j]).length = L at *
              generalize tot (s'.ws.take j) = T1 at *
              have hwr : wrap64 ((T1 : Int) + (L : Int)) = (T1 : Int) + (L : Int) := by unfold wrap64; omega
              clear htk hsum
              go_wp2_with fail
              refine (unhide WY).mono ?_
              rintro r w6 ⟨rfl, hw6⟩
              obtain rfl := hw6.symm
              clear WY
              go_wp2
              go_roundw
              case rel => exact ⟨j + 1, by omega, by rw [hwr, unhide HSUM], by go_num, trivial⟩
              case measure => simp [intOf]; omega
            · obtain rfl : j = 3 := by omega
              have CN := hide (ncounts_any _ b s' wr (unhide HS).2.2.nt)
              have e3 : s'.ws.take 3 = s'.ws := List.take_of_length_le (by omega)
              rw [e3]
              have hcs := (unhide HS).1.cons
              have hcc := (unhide HS).1.cc
              have hlo := (unhide HS).2.1.lo
              have hhi := (unhide HS).2.1.hi
              have l0 := hlo 0
              have l1 := hlo 1
              have l2 := hlo 2
              have l3 := hlo 3
              have u0 := hhi 0
              have u1 := hhi 1
              have u2 := hhi 2
              have u3 := hhi 3
              have hi200 : 69632 * ((i + 1 : Nat) : Int) ≤ 14000000 := by omega
              generalize tot s'.ws = T at *
              unfold q4 at CN
              generalize s'.c 0 = C0 at *
              generalize s'.c 1 = C1 at *
              generalize s'.c 2 = C2 at *
              generalize s'.c 3 = C3 at *
              subst hcc
              obtain ⟨X, hX⟩ : ∃ X, C0 + C2 = X := ⟨_, rfl⟩
              obtain ⟨Y, hY⟩ : ∃ Y, (T : Int) + C1 = Y := ⟨_, rfl⟩
              have hw1 : wrap64 (C0 + C2) = X := by unfold wrap64; omega
              have hw2 : wrap64 ((T : Int) + C1) = Y := by unfold wrap64; omega
              have hw3 : wrap64 (Y + C3) = X := by unfold wrap64; omega
              clear hX hY hcs hlo hhi l0 l1 l2 l3 u0 u1 u2 u3 hi200 htl e3
              go_wp2_with fail
              refine (unhide CN).mono ?_
              rintro r w6 ⟨rfl, hk6⟩
              have HF : Hid (Sta w b bs bt s' sn' tk' C2 (i + 1) (w6.alloc (.cells #[.int .i64 C0, .int .i64 C1, .int .i64 C2, .int .i64 C3] 33))) := hide ⟨(unhide HS).1, (unhide HS).2.1, (unhide HS).2.2.al (kp_tr hk6 (Kp.alloc _ _))⟩
              clear hk6 CN HS
              go_wp2
              go_roundw
              case rel => exact ⟨i + 1, _, _, _, _, by omega, by omega, rfl, by go_num, HF⟩
              case measure => simp [intOf]; omega
      · have h2i : ¬ (i : Int) < 200 := by omega
        have hb := (unhide HR).2.2.bel
        have HB := hide hb
        clear hb HR
        go_wp2
        go_ret
        exact ⟨rfl, unhide HB⟩
    · have h1i : ¬ (i : Int) < (l.length : Int) := by omega
      have hb := (unhide HR).2.2.bel
      have HB := hide hb
      clear hb HR
      go_wp2
      go_ret
      exact ⟨rfl, unhide HB⟩
end Go.Proofs.Ytledoopfffhigaa
