/-
  The document's answer for patterns: Write, the walk.
-/
import Derived.Test.YtjijhefmbmdbeaaGreatDoorP48
import Derived.Test.YtjijhefmbmdbeaaGreatDoorP35
import Derived.Laws.Concat
import Derived.Deep.RegionHeld
namespace Go.Proofs.YtjijhefmbmdbeaaGreatDoor
open Go.RowKit Go.Shelf

/-- What the document puts together of one stage. -/
theorem stage_runs (P : List UInt8) (s : Stg) (hz : P.length + (stB s).length ≤ 9223372036854775807) : ∃ X1 X2 X3 X4 X5 X6 : ByteArray, (∀ W, (Op.stringOp .add (txt (hwW s.hw)) ⟨#[32]⟩).run Tryz.prog W = .ok (.string X1) W) ∧ (∀ W, (Op.stringOp .add X1 s.nm).run Tryz.prog W = .ok (.string X2) W) ∧ (∀ W, (Op.stringOp .add (txt P) X2).run Tryz.prog W = .ok (.string X3) W) ∧ (s.mn = true → ∀ W, (Op.stringOp .add X3 ⟨#[32, 43]⟩).run Tryz.prog W = .ok (.string X4) W) ∧ (∀ W, (Op.stringOp .add ⟨#[32, 58, 32]⟩ (txt (joinB (cdT s.cd)))).run Tryz.prog W = .ok (.string X5) W) ∧ (∀ W, (Op.stringOp .add X5 ⟨#[32, 59, 32]⟩).run Tryz.prog W = .ok (.string X6) W) ∧ (s.mn = false → ∀ W, (Op.stringOp .add X3 X6).run Tryz.prog W = .ok (.string (txt (P ++ stB s))) W) ∧ (s.mn = true → ∀ W, (Op.stringOp .add X4 X6).run Tryz.prog W = .ok (.string (txt (P ++ stB s))) W) := by
  have hs : (stB s).length = (hwW s.hw).length + 1 + s.nm.size + ((if s.mn then [32, 43] else ([] : List UInt8)).length + (3 + (joinB (cdT s.cd)).length + 3)) := by
    unfold stB
    simp only [List.length_append, List.length_cons, List.length_nil, Array.length_toList]
    show _ + 1 + s.nm.size + _ = _
    omega
  have hP : (txt P).size = P.length := txt_size _
  have hH : (txt (hwW s.hw)).size = (hwW s.hw).length := txt_size _
  have hJ : (txt (joinB (cdT s.cd))).size = (joinB (cdT s.cd)).length := txt_size _
  have a1 : (⟨#[32]⟩ : ByteArray).size = 1 := rfl
  have a2 : (⟨#[32, 43]⟩ : ByteArray).size = 2 := rfl
  have a3 : (⟨#[32, 58, 32]⟩ : ByteArray).size = 3 := rfl
  have a4 : (⟨#[32, 59, 32]⟩ : ByteArray).size = 3 := rfl
  refine ⟨_, _, _, _, _, _, fun W => run_string_add_sum W _ _ ?_, fun W => run_string_add_sum W _ _ ?_, fun W => run_string_add_sum W _ _ ?_, fun hm W => run_string_add_sum W _ _ ?_, fun W => run_string_add_sum W _ _ ?_, fun W => run_string_add_sum W _ _ ?_, fun hm W => ?_, fun hm W => ?_⟩
  · omega
  · rw [ByteArray.size_append']; omega
  · rw [ByteArray.size_append', ByteArray.size_append']; omega
  · rw [hm] at hs
    rw [ByteArray.size_append', ByteArray.size_append', ByteArray.size_append']
    simp only [if_true, List.length_cons, List.length_nil] at hs
    omega
  · omega
  · rw [ByteArray.size_append']; omega
  · rw [hm] at hs
    rw [run_string_add_sum W _ _ (by simp only [ByteArray.size_append']; simp only [Bool.false_eq_true, if_false, List.length_nil] at hs; omega), stage_text P s hm]
  · rw [hm] at hs
    rw [run_string_add_sum W _ _ (by simp only [ByteArray.size_append']; simp only [if_true, List.length_cons, List.length_nil] at hs; omega), stage_text2 P s hm]
set_option maxHeartbeats 4000000 in
set_option maxRecDepth 100000 in
theorem rpwrite_any (sa : Option Addr) (sc : Nat) (l : List SR) (wi : Int) (w : World) (h : StsAt w sa l) (hl : l.length ≤ 9223372036854775807) (hok : ∀ r ∈ l, r.s.ok) (hsz : ∀ r ∈ l, ∀ p ∈ r.s.cd, p.s.size ≤ 140737488351232 ∧ p.st.size ≤ 140737488351232) :
    Calls Tryz.prog 24 #[.agg #[.slice sa l.length sc, .int .i64 wi]] w fun e w' => e = .returned (.tuple #[.string (wrP ⟨stgs l, wi⟩).1, .int .i64 (wrP ⟨stgs l, wi⟩).2]) ∧ Kp [] w w' := by
  have k0 : Kp [] w (w.alloc (.cells #[.slice sa l.length sc, .int .i64 wi] 24)) := Kp.alloc _ _
  have HPC : Hid (∀ W, Kp [] (w.alloc (.cells #[.slice sa l.length sc, .int .i64 wi] 24)) W → (W.cell? ⟨w.heap.size, 0, none⟩ = some (.slice sa l.length sc) ∧ W.cell? ⟨w.heap.size, 1, none⟩ = some (.int .i64 wi) ∧ w.heap.size < W.heap.size) ∧ Hid (Kp [] w W)) := hide (fun W hk => ⟨pat_cells hk, hide (k0.trans hk (by simp))⟩)
  have HCK := hide (rpcheck_any sa sc l wi _ (h.kp k0) hl hok hsz)
  by_cases h0 : (pcR ⟨stgs l, wi⟩).2 = 0
  · have hwr : wrP ⟨stgs l, wi⟩ = if tsC (tsR (txt (joinB (ptK ⟨stgs l, wi⟩)))) = 0 then (txt (joinB (ptK ⟨stgs l, wi⟩)), (0 : Int)) else (⟨#[]⟩, 2) := by
      unfold wrP
      rw [if_pos h0]
      exact write_same (ptK_wr h0) (ptK_end _)
    obtain ⟨p1, p2, p3, p4⟩ := pc_ok h0
    dsimp only at p1 p2 p3 p4
    rw [stgs_len] at p1 p2
    have hst : ∀ k (hk : k < l.length), (0 ≤ l[k].s.hw ∧ l[k].s.hw ≤ 3) ∧ ckK l[k].s.cd = 3 := fun k hk => by
      have := st_ok (p4 k (by rw [stgs_len]; exact hk))
      rw [stgs_at hk] at this
      exact this.2
    have hcd : ∀ s ∈ stgs l, cdT s.cd ≠ [] := fun s hs => by
      unfold stgs at hs
      obtain ⟨r, hr, rfl⟩ := List.mem_map.1 hs
      obtain ⟨i, hi, rfl⟩ := List.mem_iff_getElem.1 hr
      exact (cdT_is (by rw [(hst i hi).2]; decide) (hok _ hr).2.2).choose_spec.2.2.2.2.2.2.2
    have hpj := pat_join (stgs l) hcd wi
    rw [hwr, hpj]
    have hFz : (List.flatMap stB (stgs l) ++ (witW ++ [32] ++ Lib.itoa wi)).length ≤ 9223372036854775807 := by
      rw [← hpj]
      have h1 := joinB_len _ (ptK_wr h0)
      have h2 : (ptK ⟨stgs l, wi⟩).length ≤ 1010 * l.length + 2 := by
        unfold ptK
        dsimp only
        rw [List.length_append]
        have h3 := flat_bound (l := stgs l) (fun s hs => by
          unfold stgs at hs
          obtain ⟨r, hr, rfl⟩ := List.mem_map.1 hs
          obtain ⟨i, hi, rfl⟩ := List.mem_iff_getElem.1 hr
          exact (stK_len (by rw [(hst i hi).2]; decide) (hok _ hr).2.2).1) l.length
        rw [List.take_of_length_le (by rw [stgs_len]; omega)] at h3
        simp only [List.length_cons, List.length_nil]
        omega
      omega
    have HNXT : Hid (∀ k (hk : k < l.length), txt (((stgs l).take (k + 1)).flatMap stB) = txt (((stgs l).take k).flatMap stB ++ stB l[k].s)) := hide (fun k hk => by
      rw [List.take_succ_eq_append_getElem (by rw [stgs_len]; exact hk), List.flatMap_append, stgs_at hk]
      simp)
    have HSZ : Hid (∀ k (hk : k < l.length), (((stgs l).take k).flatMap stB).length + (stB l[k].s).length ≤ 9223372036854775807) := hide (fun k hk => by
      have e : stgs l = (stgs l).take k ++ (stgs l)[k]'(by rw [stgs_len]; exact hk) :: (stgs l).drop (k + 1) := by
        rw [List.getElem_cons_drop, List.take_append_drop]
      have h1 : ((stgs l).flatMap stB).length = (((stgs l).take k).flatMap stB).length + ((stB l[k].s).length + (((stgs l).drop (k + 1)).flatMap stB).length) := by
        conv => lhs; rw [e]
        rw [List.flatMap_append, List.flatMap_cons, List.length_append, List.length_append, stgs_at hk]
      rw [List.length_append] at hFz
      omega)
    obtain ⟨Y1, hY1, hY2⟩ : ∃ Y1, (∀ W, (Op.stringOp .add ⟨#[119, 105, 116, 104, 105, 110, 32]⟩ (txt (Lib.itoa wi))).run Tryz.prog W = .ok (.string Y1) W) ∧ (∀ W, (Op.stringOp .add (txt ((stgs l).flatMap stB)) Y1).run Tryz.prog W = .ok (.string (txt ((stgs l).flatMap stB ++ (witW ++ [32] ++ Lib.itoa wi)))) W) := by
      have z1 : (⟨#[119, 105, 116, 104, 105, 110, 32]⟩ : ByteArray).size = 7 := rfl
      have z2 : (txt (Lib.itoa wi)).size = (Lib.itoa wi).length := txt_size _
      have z3 : (txt ((stgs l).flatMap stB)).size = ((stgs l).flatMap stB).length := txt_size _
      have z4 : witW.length = 6 := rfl
      simp only [List.length_append, List.length_cons, List.length_nil] at hFz
      refine ⟨_, fun W => run_string_add_sum W _ _ (by omega), fun W => ?_⟩
      rw [run_string_add_sum W _ _ (by rw [ByteArray.size_append']; omega), show (⟨#[119, 105, 116, 104, 105, 110, 32]⟩ : ByteArray) = txt (witW ++ [32]) from rfl, ba_txt, ba_txt]
    have HY1 := hide hY1
    have HY2 := hide hY2
    clear hY1 hY2
    have HEND : Hid (((stgs l).take l.length).flatMap stB = (stgs l).flatMap stB) := hide (by rw [List.take_of_length_le (by rw [stgs_len]; omega)])
    have HWT : Hid (∀ k (hk : k < l.length) W, Kp [] w W → Calls Tryz.prog 43 #[.slice l[k].ad l[k].s.cd.length l[k].c] W fun e w' => e = .returned (.tuple #[.string (txt (joinB (cdT l[k].s.cd))), .int .i64 0]) ∧ Below W.heap.size W w') := hide (fun k hk W hw => by
      obtain ⟨_, _, _, _, _, _, _, _, hp⟩ := h.at k hk
      have hm := List.getElem_mem hk
      have := rWrite_any l[k].ad l[k].c l[k].s.cd W (hp.kp hw) (hok _ hm).2.2 (fun p hp => ⟨by have := (hsz _ hm p hp).1; omega, by have := (hsz _ hm p hp).2; omega⟩)
      rw [if_neg (by rw [(hst k hk).2]; decide), cond_join (by rw [(hst k hk).2]; decide) (hok _ hm).2.2] at this
      exact this)
    have HTK := hide (fun W => rTokens_any (txt (List.flatMap stB (stgs l) ++ (witW ++ [32] ++ Lib.itoa wi))) W (by rw [txt_size]; exact hFz))
    have HWN := hide (fun W => rWritten_any ⟨2, ⟨#[]⟩, wi, 0⟩ W (by show (0 : Nat) ≤ _; omega) (by dsimp only; omega) (by dsimp only; omega))
    have hwn : wrOk ⟨2, ⟨#[]⟩, wi, 0⟩ = true := wr_num wi (by omega) (by omega)
    rw [hwn, spell_n] at HWN
    unfold Tk.v at HWN
    dsimp only at HWN
    have HST := hide h
    have HHW := hide (fun k (hk : k < l.length) => (hst k hk).1)
    rw [h0] at HCK
    clear h0 hwr hpj hFz hcd hst p4 h hok hsz k0 hl hwn
    generalize (pcR ⟨stgs l, wi⟩).1 = PA at *
    obtain ⟨n, hn⟩ : ∃ n, l.length = n := ⟨_, rfl⟩
    have HN := hide hn
    rw [hn] at HPC HCK HEND p1 p2 ⊢
    clear hn
    obtain ⟨⟨c0, c1, hlt⟩, _⟩ := unhide HPC _ (Kp.refl _ _)
    generalize List.flatMap stB (stgs l) = FB at *
    generalize tsR (txt (FB ++ (witW ++ [32] ++ Lib.itoa wi))) = TS at *
    obtain ⟨R, hR⟩ : ∃ R, (if tsC TS = 0 then (txt (FB ++ (witW ++ [32] ++ Lib.itoa wi)), (0 : Int)) else (⟨#[]⟩, 2)) = R := ⟨_, rfl⟩
    rw [hR]
    have HR := hide hR
    clear hR
    go_enter Tryz.func24, Tryz.ntmps24
    go_wp2_with fail
    refine (unhide HCK).mono ?_
    rintro e w1 ⟨rfl, hk1⟩
    have HK1 := hide hk1
    clear HCK hk1 c0 c1 hlt
    go_wp2_with fail
    go_loopw [6, 7] (fun v i wr => ∃ (k : Nat), k ≤ n ∧ i = .int .i64 (k : Int) ∧ v = .string (txt (((stgs l).take k).flatMap stB)) ∧ Hid (Kp [] (w.alloc (.cells #[.slice sa n sc, .int .i64 wi] 24)) wr)) (fun _ i _ => n - (intOf i).toNat)
    case atStart => exact ⟨0, Nat.zero_le _, rfl, rfl, HK1⟩
    case round =>
      obtain ⟨k, hk, rfl, rfl, HK⟩ := hrel
      obtain ⟨⟨c0, c1, hlt⟩, HW⟩ := unhide HPC _ (unhide HK)
      clear HK1
      by_cases hlk : k < n
      · have hkx : k < l.length := by rw [unhide HN]; exact hlk
        have hli : (k : Int) < (n : Int) := by omega
        obtain ⟨b, off, rfl, hbl, x0, x1, x2, x3, -⟩ := ((unhide HST).kp (unhide HW)).at k hkx
        have hhw := unhide HHW k hkx
        obtain ⟨H, hH⟩ := Int.eq_ofNat_of_zero_le hhw.1
        rw [hH] at x1
        obtain ⟨X1, X2, X3, X4, X5, X6, D1, D2, D3, D4, D5, D6, D7, D8⟩ := stage_runs (((stgs l).take k).flatMap stB) l[k].s (unhide HSZ k hkx)
        have WT := hide (fun W hw => unhide HWT k hkx W hw)
        have hH3 : H ≤ 3 := by omega
        rw [hH] at D1
        rw [← unhide HNXT k hkx] at D7 D8
        clear HNXT HWT HHW HEND HWN HTK HSZ HY1 HY2 hhw hH HR
        obtain ⟨PN, hPN⟩ : ∃ PN, ((stgs l).take (k + 1)).flatMap stB = PN := ⟨_, rfl⟩
        rw [hPN] at D7 D8
        have HPN := hide hPN
        clear hPN
        generalize ((stgs l).take k).flatMap stB = PK at *
        generalize l[k].s = s at *
        generalize l[k].ad = ad at *
        generalize l[k].c = cc at *
        obtain ⟨nm, hw, mn, cd⟩ := s
        dsimp only at x0 x1 x2 x3 D1 D2 D4 D5 D7 D8 WT
        generalize cd.length = CL at *
        generalize txt (joinB (cdT cd)) = CT at *
        have bx := CBox.new wr #[.string nm, .int .i64 (H : Int), .bool mn, .slice ad CL cc] 54
        have HBX : Hid (∀ W, Kp [] (wr.alloc (.cells #[.string nm, .int .i64 (H : Int), .bool mn, .slice ad CL cc] 54)) W → (W.cell? ⟨wr.heap.size, 0, none⟩ = some (.string nm) ∧ W.cell? ⟨wr.heap.size, 1, none⟩ = some (.int .i64 (H : Int)) ∧ W.cell? ⟨wr.heap.size, 2, none⟩ = some (.bool mn) ∧ W.cell? ⟨wr.heap.size, 3, none⟩ = some (.slice ad CL cc)) ∧ wr.heap.size < W.heap.size) := hide (fun W hk => ⟨⟨(bx.kp hk (by simp)).cell rfl, (bx.kp hk (by simp)).cell rfl, (bx.kp hk (by simp)).cell rfl, (bx.kp hk (by simp)).cell rfl⟩, (Array.getElem?_eq_some_iff.1 (bx.kp hk (by simp))).1⟩)
        have hHi : (H : Int) < 4 := by omega
        have HS : Hid (∀ W, Kp [] (wr.alloc (.cells #[.string nm, .int .i64 (H : Int), .bool mn, .slice ad CL cc] 54)) W → W.cell? ⟨wr.heap.size, 0, none⟩ = some (.string nm) ∧ W.cell? ⟨wr.heap.size, 1, none⟩ = some (.int .i64 (H : Int))) := hide (fun W hk => ⟨(bx.kp hk (by simp)).cell rfl, (bx.kp hk (by simp)).cell rfl⟩)
        have HKD := hide (Kp.drew (wr.alloc (.cells #[.string nm, .int .i64 (H : Int), .bool mn, .slice ad CL cc] 54)))
        have HOW := hide (fun W => how_any W)
        go_wp2_with fail
        refine wp_region_held_drew (S := fun W => W.cell? ⟨wr.heap.size, 0, none⟩ = some (.string nm) ∧ W.cell? ⟨wr.heap.size, 1, none⟩ = some (.int .i64 (H : Int))) (by kernel_rfl) (unhide HS _ (unhide HKD)) (fun hHeld => ?_)
        show wpAnyH _ _ _ _ _ 12 (Array.replicate 12 false) _ _
        refine wpAnyH_take (i := 0) (oi := { dst := some 35, op := Op.move (Operand.tmp 6), type := 9, pos := "ref.go:77", after := #[], guard := none }) (v := ?_) rfl (by kernel_rfl) (by kernel_rfl) (by kernel_rfl) (fun _ _ _ h => h) (Or.inl ⟨by rfl, ?_⟩) (by assumption) ?_
        rotate_left 1
        · intro w0 hSw
          (try dsimp only at hSw)
          go_simp
          (try with_reducible rfl)
        try simp only [Act.put, List.setIfInBounds_toArray, List.set_cons_zero, List.set_cons_succ]
        refine wpAnyH_take (i := 2) (oi := { dst := some 37, op := Op.fieldAddr 54 (Operand.tmp 8) 1, type := 0, pos := "ref.go:77", after := #[], guard := none }) (v := ?_) rfl (by kernel_rfl) (by kernel_rfl) (by kernel_rfl) (fun _ _ _ h => h) (Or.inl ⟨by rfl, ?_⟩) (by assumption) ?_
        rotate_left 1
        · intro w0 hSw
          (try dsimp only at hSw)
          go_simp
          (try with_reducible rfl)
        try simp only [Act.put, List.setIfInBounds_toArray, List.set_cons_zero, List.set_cons_succ]
        refine wpAnyH_take (i := 3) (oi := { dst := some 38, op := Op.load 3 (Operand.tmp 37), type := 3, pos := "ref.go:77", after := #[{ on := 2, ground := Ground.data }], guard := none }) (v := ?_) rfl (by kernel_rfl) (by kernel_rfl) (by kernel_rfl) (fun _ _ _ h => h) (Or.inl ⟨by rfl, ?_⟩) (by assumption) ?_
        rotate_left 1
        · intro w0 hSw
          (try dsimp only at hSw)
          go_simp
          (try with_reducible rfl)
        try simp only [Act.put, List.setIfInBounds_toArray, List.set_cons_zero, List.set_cons_succ]
        refine wpAnyH_take (i := 7) (oi := { dst := some 42, op := Op.fieldAddr 54 (Operand.tmp 8) 0, type := 0, pos := "ref.go:77", after := #[], guard := none }) (v := ?_) rfl (by kernel_rfl) (by kernel_rfl) (by kernel_rfl) (fun _ _ _ h => h) (Or.inl ⟨by rfl, ?_⟩) (by assumption) ?_
        rotate_left 1
        · intro w0 hSw
          (try dsimp only at hSw)
          go_simp
          (try with_reducible rfl)
        try simp only [Act.put, List.setIfInBounds_toArray, List.set_cons_zero, List.set_cons_succ]
        refine wpAnyH_take (i := 8) (oi := { dst := some 43, op := Op.load 9 (Operand.tmp 42), type := 9, pos := "ref.go:77", after := #[{ on := 7, ground := Ground.data }], guard := none }) (v := ?_) rfl (by kernel_rfl) (by kernel_rfl) (by kernel_rfl) (fun _ _ _ h => h) (Or.inl ⟨by rfl, ?_⟩) (by assumption) ?_
        rotate_left 1
        · intro w0 hSw
          (try dsimp only at hSw)
          go_simp
          (try with_reducible rfl)
        try simp only [Act.put, List.setIfInBounds_toArray, List.set_cons_zero, List.set_cons_succ]
        refine wpAnyH_ready (rs := [1]) (by kernel_rfl) (by simp) ?_
        refine AllReadyH.cons (o := { dst := some 36, op := Op.call { callee := Callee.value (Operand.func 42), args := #[], argTypes := #[] }, type := 68, pos := "ref.go:77", after := #[], guard := none }) rfl (fun K hK => ?_) AllReadyH.nil
        go_simp
        go_at_call 42
        refine (unhide HOW _).mono ?_
        rintro e wk ⟨gk, rfl, hbk, hkk⟩
        have HKk := hide (Kp.trans (unhide HKD) hkk (by simp))
        have hck := how_at hbk H hH3
        clear hbk hkk
        dsimp only
        refine hK.out _ _ ?_ (fun hHeld => ?_)
        · exact unhide HS _ (unhide HKk)
        clear hK K
        try simp only [Act.put, List.setIfInBounds_toArray, List.set_cons_zero, List.set_cons_succ]
        refine wpAnyH_take (i := 4) (oi := { dst := some 39, op := Op.indexAddr 68 (Operand.tmp 36) (Operand.tmp 38), type := 0, pos := "ref.go:77", after := #[{ on := 1, ground := Ground.data }, { on := 3, ground := Ground.data }], guard := none }) (v := ?_) rfl (by kernel_rfl) (by kernel_rfl) (by kernel_rfl) (fun _ _ _ h => h) (Or.inl ⟨by rfl, ?_⟩) (by assumption) ?_
        rotate_left 1
        · intro w0 hSw
          (try dsimp only at hSw)
          go_simp
          (try with_reducible rfl)
        try simp only [Act.put, List.setIfInBounds_toArray, List.set_cons_zero, List.set_cons_succ]
        refine wpAnyH_ready (rs := [5]) (by kernel_rfl) (by simp) ?_
        refine AllReadyH.cons (o := { dst := some 40, op := Op.load 9 (Operand.tmp 39), type := 9, pos := "ref.go:77", after := #[{ on := 4, ground := Ground.data }], guard := none }) rfl (fun K hK => ?_) AllReadyH.nil
        go_simp
        refine hK.out _ _ ?_ (fun hHeld => ?_)
        · exact unhide HS _ (unhide HKk)
        clear hK K
        try simp only [Act.put, List.setIfInBounds_toArray, List.set_cons_zero, List.set_cons_succ]
        refine wpAnyH_take (i := 6) (oi := { dst := some 41, op := Op.binOp BinOp.add 9 (Operand.tmp 40) (Operand.const (Value.string { data := #[32] })) 9, type := 9, pos := "ref.go:77", after := #[{ on := 5, ground := Ground.data }], guard := none }) (v := ?_) rfl (by kernel_rfl) (by kernel_rfl) (by kernel_rfl) (fun _ _ _ h => h) (Or.inl ⟨by rfl, ?_⟩) (by assumption) ?_
        rotate_left 1
        · intro w0 hSw
          (try dsimp only at hSw)
          go_simp
          (try with_reducible rfl)
        try simp only [Act.put, List.setIfInBounds_toArray, List.set_cons_zero, List.set_cons_succ]
        refine wpAnyH_take (i := 9) (oi := { dst := some 44, op := Op.binOp BinOp.add 9 (Operand.tmp 41) (Operand.tmp 43) 9, type := 9, pos := "ref.go:77", after := #[{ on := 6, ground := Ground.data }, { on := 8, ground := Ground.data }], guard := none }) (v := ?_) rfl (by kernel_rfl) (by kernel_rfl) (by kernel_rfl) (fun _ _ _ h => h) (Or.inl ⟨by rfl, ?_⟩) (by assumption) ?_
        rotate_left 1
        · intro w0 hSw
          (try dsimp only at hSw)
          go_simp
          (try with_reducible rfl)
        try simp only [Act.put, List.setIfInBounds_toArray, List.set_cons_zero, List.set_cons_succ]
        refine wpAnyH_take (i := 10) (oi := { dst := some 45, op := Op.binOp BinOp.add 9 (Operand.tmp 35) (Operand.tmp 44) 9, type := 9, pos := "ref.go:77", after := #[{ on := 0, ground := Ground.data }, { on := 9, ground := Ground.data }], guard := none }) (v := ?_) rfl (by kernel_rfl) (by kernel_rfl) (by kernel_rfl) (fun _ _ _ h => h) (Or.inl ⟨by rfl, ?_⟩) (by assumption) ?_
        rotate_left 1
        · intro w0 hSw
          (try dsimp only at hSw)
          go_simp
          (try with_reducible rfl)
        try simp only [Act.put, List.setIfInBounds_toArray, List.set_cons_zero, List.set_cons_succ]
        refine wpAnyH_take (i := 11) (oi := { dst := some 6, op := Op.assign (Operand.tmp 45), type := 9, pos := "ref.go:77", after := #[{ on := 10, ground := Ground.data }, { on := 1, ground := Ground.chain }, { on := 0, ground := Ground.phase }, { on := 1, ground := Ground.phase }, { on := 2, ground := Ground.phase }, { on := 3, ground := Ground.phase }, { on := 4, ground := Ground.phase }, { on := 5, ground := Ground.phase }, { on := 6, ground := Ground.phase }, { on := 7, ground := Ground.phase }, { on := 8, ground := Ground.phase }, { on := 9, ground := Ground.phase }, { on := 10, ground := Ground.phase }], guard := none }) (v := ?_) rfl (by kernel_rfl) (by kernel_rfl) (by kernel_rfl) (fun _ _ _ h => h) (Or.inl ⟨by rfl, ?_⟩) (by assumption) ?_
        rotate_left 1
        · intro w0 hSw
          (try dsimp only at hSw)
          go_simp
          (try with_reducible rfl)
        try simp only [Act.put, List.setIfInBounds_toArray, List.set_cons_zero, List.set_cons_succ]
        refine wpAnyH_done (by kernel_rfl) ?_ _
        obtain ⟨⟨y0, y1, y2, y3⟩, hy⟩ := unhide HBX _ (unhide HKk)
        clear hck HS hHeld HOW
        have WT1 := hide (unhide WT wk (((unhide HW).trans (Kp.alloc wr _) (by simp)).trans (unhide HKk) (by simp)))
        have HKA := hide (Kp.trans (Kp.alloc wr (.cells #[.string nm, .int .i64 (H : Int), .bool mn, .slice ad CL cc] 54)) (unhide HKk) (by simp))
        cases mn with
        | true =>
          have d4 := D4 rfl
          have d8 := D8 rfl
          clear D1 D2 D3 D4 D7 D8 WT HKD HBX
          go_wp2_with fail
          refine (unhide WT1).mono ?_
          rintro e w3 ⟨rfl, hb3⟩
          have HK3 := hide ((unhide HK).trans ((unhide HKA).trans (Kp.ofBelow hb3) (by simp)) (by simp))
          clear WT1 hb3 y0 y1 y2 y3
          go_wp2_with fail
          go_roundw
          case rel => exact ⟨k + 1, by omega, by go_num, by rw [unhide HPN], HK3⟩
          case measure => simp [intOf]; omega
        | false =>
          have d7 := D7 rfl
          clear D1 D2 D3 D4 D7 D8 WT HKD HBX
          go_wp2_with fail
          refine (unhide WT1).mono ?_
          rintro e w3 ⟨rfl, hb3⟩
          have HK3 := hide ((unhide HK).trans ((unhide HKA).trans (Kp.ofBelow hb3) (by simp)) (by simp))
          clear WT1 hb3 y0 y1 y2 y3
          go_wp2_with fail
          go_roundw
          case rel => exact ⟨k + 1, by omega, by go_num, by rw [unhide HPN], HK3⟩
          case measure => simp [intOf]; omega
      · obtain rfl : k = n := by omega
        rw [unhide HEND]
        clear HNXT HWT HST HHW HEND HSZ
        go_wp2_with fail
        have hY1 := unhide HY1
        have hY2 := unhide HY2
        clear HY1 HY2
        generalize txt (FB ++ (witW ++ [32] ++ Lib.itoa wi)) = F at *
        refine (unhide HWN wr).mono ?_
        rintro e w2 ⟨bb, rfl, hbb, hb2⟩
        obtain rfl := hbb trivial
        have HK2 := hide (Kp.ofBelow hb2)
        clear hbb hb2 HWN
        go_wp2_with fail
        refine (unhide HTK w2).mono ?_
        rintro e w3 ⟨v3, rfl, -, hb3⟩
        clear hY1 hY2
        have HK3 := hide (((unhide HW).trans (unhide HK2) (by simp)).trans ((Kp.ofBelow hb3).trans (Kp.alloc w3 (.cells #[.int .i64 (tsA TS), .int .i64 (tsC TS)] 61)) (by simp)) (by simp))
        clear hb3 HTK HK2
        generalize tsA TS = TA at *
        generalize tsC TS = TC at *
        by_cases hz : TC = 0
        · obtain rfl : (F, (0 : Int)) = R := by rw [← unhide HR, if_pos hz]
          subst hz
          clear HR
          dsimp only
          go_wp2
          exact bodyPost_ret (results_tmp2 rfl _ _ _) rfl ⟨rfl, unhide HK3⟩
        · obtain rfl : ((⟨#[]⟩ : ByteArray), (2 : Int)) = R := by rw [← unhide HR, if_neg hz]
          have gz : (TC = 0) = False := eq_false hz
          have gz2 : (TC == 0) = false := beq_eq_false_iff_ne.2 hz
          clear HR
          dsimp only
          go_wp2
          exact bodyPost_ret (results_tmp2 rfl _ _ _) rfl ⟨rfl, unhide HK3⟩
  · have hcd := pc_code ⟨stgs l, wi⟩
    have h120 : (pcR ⟨stgs l, wi⟩).2 = 120 := by rcases hcd with h | h; exact absurd h h0; exact h
    have hwr : wrP ⟨stgs l, wi⟩ = (⟨#[]⟩, 120) := by unfold wrP; rw [if_neg h0, h120]
    rw [hwr]
    rw [h120] at HCK
    obtain ⟨⟨c0, c1, hlt⟩, HW⟩ := unhide HPC _ (Kp.refl _ _)
    clear h0 hcd h120 hwr h hok hsz k0
    generalize (pcR ⟨stgs l, wi⟩).1 = PA at *
    go_enter Tryz.func24, Tryz.ntmps24
    go_wp2_with fail
    refine (unhide HCK).mono ?_
    rintro e w1 ⟨rfl, hk1⟩
    have HK1 := hide ((unhide HW).trans hk1 (by simp))
    clear HCK hk1 c0 c1
    go_wp2
    exact bodyPost_ret (results_tmp2 rfl _ _ _) rfl ⟨rfl, unhide HK1⟩
end Go.Proofs.YtjijhefmbmdbeaaGreatDoor
