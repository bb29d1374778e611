/-
  The document's Nodes: the walk.
-/
import Derived.Test.YtjijhefmbmdbeaaGreatDoorD48
import Derived.BigQuiet
import Derived.Deep.RegionHeld
namespace Go.Proofs.YtjijhefmbmdbeaaGreatDoor
open Go.RowKit Go.Shelf

set_option maxHeartbeats 4000000 in
set_option maxRecDepth 100000 in
theorem rnnodes_any (sa : Option Addr) (sc : Nat) (l : List SR) (wi : Int) (w : World) (h : StsAt w sa l) (hok : ∀ r ∈ l, r.s.ok) (hv : HvS l) (hl : l.length ≤ 9223372036854775807) :
    Calls Tryz.prog 19 #[.agg #[.slice sa l.length sc, .int .i64 wi]] w fun e w' => ∃ v, e = .returned (.tuple #[v, .int .i64 (nnE ⟨stgs l, wi⟩)]) ∧ OwnsD w.heap.size w' v (nnL ⟨stgs l, wi⟩) ∧ Kp [] w w' := by
  have k0 := Kp.alloc w (.cells #[.slice sa l.length sc, .int .i64 wi] 24)
  have hP := CBox.new w #[.slice sa l.length sc, .int .i64 wi] 24
  have BD := hide (rbad_any sa sc l wi _ (h.kp k0) hok hv hl)
  have hcode := pc_code ⟨stgs l, wi⟩
  have ALL : Hid ((pcR ⟨stgs l, wi⟩).2 = 0 → 1 ≤ l.length ∧ l.length ≤ 8 ∧ (stgs l).length = l.length ∧ (∀ (n : Nd) W, Kp [] w W → Calls Tryz.prog 15 #[.agg #[.slice sa l.length sc, .int .i64 wi], .agg n.c] W fun e w' => e = .returned (.int .i64 (if mayN (stgs l) n then 0 else 170)) ∧ Kp [] W w') ∧ (∀ (s : Nat), 1 ≤ s → s ≤ l.length → ∀ W, Kp [] w W → Calls Tryz.prog 31 #[.agg #[.slice sa l.length sc, .int .i64 wi], .int .i64 (s : Int)] W fun e w' => e = .returned (.agg (bgN (stgs l) s).c) ∧ Kp [] W w') ∧ (∀ (n : Nd) (lo ta : Bool) W, mayN (stgs l) n = true → Kp [] w W → Calls Tryz.prog 27 #[.agg #[.slice sa l.length sc, .int .i64 wi], .agg n.c, .bool lo, .bool ta] W fun e w' => e = .returned (.agg (stpN (stgs l) n lo ta).c) ∧ Kp [] W w')) := hide (fun h0 => by
    obtain ⟨p1, p2, -, -⟩ := pc_ok h0
    dsimp only at p1 p2
    rw [stgs_len] at p1 p2
    refine ⟨p1, p2, stgs_len l, fun n W hk => ?_, fun s h1 h2 W hk => rbegun1_any sa sc l wi s W (h.kp hk) hl h1 h2, fun n lo ta W hm hk => rgo_any sa sc l wi n lo ta W (h.kp hk) hl hm⟩
    have := rncheck_any sa sc l wi n W (h.kp hk) hok hv hl
    unfold nkE at this
    rwa [if_pos h0] at this)
  have HL : Hid (nnL ⟨stgs l, wi⟩ = if (pcR ⟨stgs l, wi⟩).2 = 0 then ndsR (stgs l) else []) := hide rfl
  have HE : Hid (nnE ⟨stgs l, wi⟩ = (pcR ⟨stgs l, wi⟩).2) := hide rfl
  generalize (pcR ⟨stgs l, wi⟩).2 = PC at *
  generalize nnE ⟨stgs l, wi⟩ = EE at *
  generalize nnL ⟨stgs l, wi⟩ = LL at *
  obtain ⟨L, hL⟩ : ∃ L, stgs l = L := ⟨_, rfl⟩
  rw [hL] at ALL HL
  clear h hok hv hl hL
  generalize l.length = nn at *
  have HK0 := hide k0
  have HP0 := hide hP
  have c0 := hP.cell (i := 0) (v := .slice sa nn sc) rfl
  have c1 := hP.cell (i := 1) (v := .int .i64 wi) rfl
  clear k0 hP
  go_enter Tryz.func19, Tryz.ntmps19
  go_wp2_with fail
  refine (unhide BD).mono ?_
  rintro e w1 ⟨rfl, hk1⟩
  have HK1 := hide ((unhide HK0).trans hk1 (by simp))
  have HP1 := hide ((unhide HP0).kp hk1 (by simp))
  clear BD hk1 HK0 HP0 c0 c1
  have hE := unhide HE
  have hLL := unhide HL
  clear HE HL
  subst hE
  rcases hcode with rfl | rfl
  · rw [if_pos rfl] at hLL
    subst hLL
    obtain ⟨p1, p8, hLn, hck, hbg, hgo⟩ := unhide ALL rfl
    have g0 : ((0 : Int) != 0) = false := rfl
    have HCK := hide hck
    have HBG := hide hbg
    have HGO := hide hgo
    have HLN := hide hLn
    clear ALL hck hbg hgo hLn
    go_wp2_with fail
    go_loopw [4, 5] (fun v i wr => ∃ (k : Nat) (a : Option Addr) (c NL : Nat), k ≤ nn ∧ i = .int .i64 ((k : Int) + 1) ∧ v = .slice a NL c ∧ Hid (NL = ((allN k).filter (mayN L)).length) ∧ Hid (RnS w wr #[.slice sa nn sc, .int .i64 wi] (.slice a NL c) ((allN k).filter (mayN L)))) (fun _ i _ => nn + 1 - (intOf i).toNat)
    case atStart => exact ⟨0, none, 0, 0, by omega, rfl, rfl, hide rfl, hide ⟨unhide HP1, OwnsD.nil _ _, unhide HK1⟩⟩
    case round =>
      obtain ⟨k, a, c, NL, hk, rfl, rfl, HNL, HB⟩ := hrel
      clear HP1 HK1
      have p0 := (unhide HB).p.cell (i := 0) (v := .slice sa nn sc) rfl
      by_cases hlt : k < nn
      · have hli : ((k : Int) + 1) ≤ (nn : Int) := by omega
        go_wp2_with fail
        go_loopw [4, 6] (fun v i wr => ∃ (j : Nat) (a : Option Addr) (c NL : Nat), j ≤ 4 ∧ i = .int .i64 (3 - (j : Int)) ∧ v = .slice a NL c ∧ Hid (NL = ((preM k j).filter (mayN L)).length) ∧ Hid (RnS w wr #[.slice sa nn sc, .int .i64 wi] (.slice a NL c) ((preM k j).filter (mayN L)))) (fun _ i _ => (intOf i + 1).toNat)
        case atStart => exact ⟨0, a, c, NL, by omega, rfl, rfl, by rw [preM_zero]; exact HNL, by rw [preM_zero]; exact HB⟩
        case round =>
          obtain ⟨j, a, c, NL, hj, rfl, rfl, HNL, HB⟩ := hrel
          clear p0
          have p0 := (unhide HB).p.cell (i := 0) (v := .slice sa nn sc) rfl
          have p1' := (unhide HB).p.cell (i := 1) (v := .int .i64 wi) rfl
          by_cases hlt2 : j < 4
          · have hj4 : j = 0 ∨ j = 1 ∨ j = 2 ∨ j = 3 := by omega
            clear hlt2 hj
            rcases hj4 with rfl | rfl | rfl | rfl
            · have hix : (3 - (((0 : Nat) : Nat) : Int)) = 3 := by decide
              have CK1 := hide (unhide HCK ⟨((k : Int) + 1), true, true⟩ _ ((unhide HB).k.trans (Kp.alloc wr (.cells #[.int .i64 ((k : Int) + 1), .bool true, .bool true] 26)) (by simp)))
              have HNX : Hid ((preM k 1).filter (mayN L) = if mayN L ⟨((k : Int) + 1), true, true⟩ = true then (preM k 0).filter (mayN L) ++ [⟨((k : Int) + 1), true, true⟩] else (preM k 0).filter (mayN L)) := hide (by
                rw [show preM k 1 = preM k 0 ++ [⟨((k : Int) + 1), true, true⟩] from preM_next (by omega), List.filter_append]
                by_cases e : mayN L ⟨((k : Int) + 1), true, true⟩ = true
                · rw [if_pos e, List.filter_cons_of_pos e, List.filter_nil]
                · rw [if_neg e, List.filter_cons_of_neg e, List.filter_nil, List.append_nil])
              have hlen := preM_len k 0 (mayN L)
              have hR1 := (unhide HB).kp (Kp.alloc wr (.cells #[.int .i64 ((k : Int) + 1), .bool true, .bool true] 26))
              have hnb := CBox.new wr #[.int .i64 ((k : Int) + 1), .bool true, .bool true] 26
              have v0 := hnb.cell (i := 0) (v := .int .i64 ((k : Int) + 1)) rfl
              have v1 := hnb.cell (i := 1) (v := .bool true) rfl
              have v2 := hnb.cell (i := 2) (v := .bool true) rfl
              have q0 := hR1.p.cell (i := 0) (v := .slice sa nn sc) rfl
              have q1 := hR1.p.cell (i := 1) (v := .int .i64 wi) rfl
              have HR1 := hide hR1
              have HNB := hide hnb
              unfold Nd.c at CK1
              dsimp only at CK1
              rw [hix]
              clear hR1 hnb HB HCK HBG HGO hix
              cases hh : mayN L ⟨((k : Int) + 1), true, true⟩ with
              | true =>
                have hnx := unhide HNX
                rw [if_pos hh] at hnx
                rw [hh, if_pos rfl] at CK1
                clear HNX hh
                go_wp2_with fail
                refine (unhide CK1).mono ?_
                rintro e w4 ⟨rfl, hk4⟩
                have hR4 := (unhide HR1).kp hk4
                have hnb4 := (unhide HNB).kp hk4 (by simp)
                obtain ⟨g', cap', w5, hrun, hR5⟩ := hR4.put ⟨((k : Int) + 1), true, true⟩ (by omega) 41
                rw [← unhide HNL, ← hnx] at hR5
                rw [← unhide HNL] at hrun
                have HNF : Hid (NL + 1 = ((preM k 1).filter (mayN L)).length) := hide (by rw [hnx, List.length_append, unhide HNL]; rfl)
                have HRUN := hide hrun
                have HR5 := hide hR5
                have u0 := hnb4.cell (i := 0) (v := .int .i64 ((k : Int) + 1)) rfl
                have u1 := hnb4.cell (i := 1) (v := .bool true) rfl
                have u2 := hnb4.cell (i := 2) (v := .bool true) rfl
                clear CK1 hk4 hR4 hnb4 hrun hR5 hnx HNL HR1 HNB v0 v1 v2 q0 q1 p0 p1' hlen
                go_wp2_with (at_builtin; refine wpList_app_run rfl _ _ _ rfl rfl rfl (unhide HRUN) ?_)
                go_roundw
                case rel => exact ⟨1, _, _, _, by omega, rfl, rfl, HNF, HR5⟩
                case measure => simp [intOf]
              | false =>
                have hnx := unhide HNX
                rw [if_neg (by rw [hh]; simp)] at hnx
                rw [hh, if_neg (by simp)] at CK1
                rw [← hnx] at HNL HR1
                clear HNX hh hnx
                go_wp2_with fail
                refine (unhide CK1).mono ?_
                rintro e w4 ⟨rfl, hk4⟩
                have HR4 := hide ((unhide HR1).kp hk4)
                clear CK1 hk4 HR1 HNB v0 v1 v2 q0 q1 p0 p1' hlen
                go_wp2_with fail
                go_roundw
                case rel => exact ⟨1, _, _, _, by omega, rfl, rfl, HNL, HR4⟩
                case measure => simp [intOf]
            · have hix : (3 - (((1 : Nat) : Nat) : Int)) = 2 := by decide
              have CK1 := hide (unhide HCK ⟨((k : Int) + 1), true, false⟩ _ ((unhide HB).k.trans (Kp.alloc wr (.cells #[.int .i64 ((k : Int) + 1), .bool true, .bool false] 26)) (by simp)))
              have HNX : Hid ((preM k 2).filter (mayN L) = if mayN L ⟨((k : Int) + 1), true, false⟩ = true then (preM k 1).filter (mayN L) ++ [⟨((k : Int) + 1), true, false⟩] else (preM k 1).filter (mayN L)) := hide (by
                rw [show preM k 2 = preM k 1 ++ [⟨((k : Int) + 1), true, false⟩] from preM_next (by omega), List.filter_append]
                by_cases e : mayN L ⟨((k : Int) + 1), true, false⟩ = true
                · rw [if_pos e, List.filter_cons_of_pos e, List.filter_nil]
                · rw [if_neg e, List.filter_cons_of_neg e, List.filter_nil, List.append_nil])
              have hlen := preM_len k 1 (mayN L)
              have hR1 := (unhide HB).kp (Kp.alloc wr (.cells #[.int .i64 ((k : Int) + 1), .bool true, .bool false] 26))
              have hnb := CBox.new wr #[.int .i64 ((k : Int) + 1), .bool true, .bool false] 26
              have v0 := hnb.cell (i := 0) (v := .int .i64 ((k : Int) + 1)) rfl
              have v1 := hnb.cell (i := 1) (v := .bool true) rfl
              have v2 := hnb.cell (i := 2) (v := .bool false) rfl
              have q0 := hR1.p.cell (i := 0) (v := .slice sa nn sc) rfl
              have q1 := hR1.p.cell (i := 1) (v := .int .i64 wi) rfl
              have HR1 := hide hR1
              have HNB := hide hnb
              unfold Nd.c at CK1
              dsimp only at CK1
              rw [hix]
              clear hR1 hnb HB HCK HBG HGO hix
              cases hh : mayN L ⟨((k : Int) + 1), true, false⟩ with
              | true =>
                have hnx := unhide HNX
                rw [if_pos hh] at hnx
                rw [hh, if_pos rfl] at CK1
                clear HNX hh
                go_wp2_with fail
                refine (unhide CK1).mono ?_
                rintro e w4 ⟨rfl, hk4⟩
                have hR4 := (unhide HR1).kp hk4
                have hnb4 := (unhide HNB).kp hk4 (by simp)
                obtain ⟨g', cap', w5, hrun, hR5⟩ := hR4.put ⟨((k : Int) + 1), true, false⟩ (by omega) 41
                rw [← unhide HNL, ← hnx] at hR5
                rw [← unhide HNL] at hrun
                have HNF : Hid (NL + 1 = ((preM k 2).filter (mayN L)).length) := hide (by rw [hnx, List.length_append, unhide HNL]; rfl)
                have HRUN := hide hrun
                have HR5 := hide hR5
                have u0 := hnb4.cell (i := 0) (v := .int .i64 ((k : Int) + 1)) rfl
                have u1 := hnb4.cell (i := 1) (v := .bool true) rfl
                have u2 := hnb4.cell (i := 2) (v := .bool false) rfl
                clear CK1 hk4 hR4 hnb4 hrun hR5 hnx HNL HR1 HNB v0 v1 v2 q0 q1 p0 p1' hlen
                go_wp2_with (at_builtin; refine wpList_app_run rfl _ _ _ rfl rfl rfl (unhide HRUN) ?_)
                go_roundw
                case rel => exact ⟨2, _, _, _, by omega, rfl, rfl, HNF, HR5⟩
                case measure => simp [intOf]
              | false =>
                have hnx := unhide HNX
                rw [if_neg (by rw [hh]; simp)] at hnx
                rw [hh, if_neg (by simp)] at CK1
                rw [← hnx] at HNL HR1
                clear HNX hh hnx
                go_wp2_with fail
                refine (unhide CK1).mono ?_
                rintro e w4 ⟨rfl, hk4⟩
                have HR4 := hide ((unhide HR1).kp hk4)
                clear CK1 hk4 HR1 HNB v0 v1 v2 q0 q1 p0 p1' hlen
                go_wp2_with fail
                go_roundw
                case rel => exact ⟨2, _, _, _, by omega, rfl, rfl, HNL, HR4⟩
                case measure => simp [intOf]
            · have hix : (3 - (((2 : Nat) : Nat) : Int)) = 1 := by decide
              have CK1 := hide (unhide HCK ⟨((k : Int) + 1), false, true⟩ _ ((unhide HB).k.trans (Kp.alloc wr (.cells #[.int .i64 ((k : Int) + 1), .bool false, .bool true] 26)) (by simp)))
              have HNX : Hid ((preM k 3).filter (mayN L) = if mayN L ⟨((k : Int) + 1), false, true⟩ = true then (preM k 2).filter (mayN L) ++ [⟨((k : Int) + 1), false, true⟩] else (preM k 2).filter (mayN L)) := hide (by
                rw [show preM k 3 = preM k 2 ++ [⟨((k : Int) + 1), false, true⟩] from preM_next (by omega), List.filter_append]
                by_cases e : mayN L ⟨((k : Int) + 1), false, true⟩ = true
                · rw [if_pos e, List.filter_cons_of_pos e, List.filter_nil]
                · rw [if_neg e, List.filter_cons_of_neg e, List.filter_nil, List.append_nil])
              have hlen := preM_len k 2 (mayN L)
              have hR1 := (unhide HB).kp (Kp.alloc wr (.cells #[.int .i64 ((k : Int) + 1), .bool false, .bool true] 26))
              have hnb := CBox.new wr #[.int .i64 ((k : Int) + 1), .bool false, .bool true] 26
              have v0 := hnb.cell (i := 0) (v := .int .i64 ((k : Int) + 1)) rfl
              have v1 := hnb.cell (i := 1) (v := .bool false) rfl
              have v2 := hnb.cell (i := 2) (v := .bool true) rfl
              have q0 := hR1.p.cell (i := 0) (v := .slice sa nn sc) rfl
              have q1 := hR1.p.cell (i := 1) (v := .int .i64 wi) rfl
              have HR1 := hide hR1
              have HNB := hide hnb
              unfold Nd.c at CK1
              dsimp only at CK1
              rw [hix]
              clear hR1 hnb HB HCK HBG HGO hix
              cases hh : mayN L ⟨((k : Int) + 1), false, true⟩ with
              | true =>
                have hnx := unhide HNX
                rw [if_pos hh] at hnx
                rw [hh, if_pos rfl] at CK1
                clear HNX hh
                go_wp2_with fail
                refine (unhide CK1).mono ?_
                rintro e w4 ⟨rfl, hk4⟩
                have hR4 := (unhide HR1).kp hk4
                have hnb4 := (unhide HNB).kp hk4 (by simp)
                obtain ⟨g', cap', w5, hrun, hR5⟩ := hR4.put ⟨((k : Int) + 1), false, true⟩ (by omega) 41
                rw [← unhide HNL, ← hnx] at hR5
                rw [← unhide HNL] at hrun
                have HNF : Hid (NL + 1 = ((preM k 3).filter (mayN L)).length) := hide (by rw [hnx, List.length_append, unhide HNL]; rfl)
                have HRUN := hide hrun
                have HR5 := hide hR5
                have u0 := hnb4.cell (i := 0) (v := .int .i64 ((k : Int) + 1)) rfl
                have u1 := hnb4.cell (i := 1) (v := .bool false) rfl
                have u2 := hnb4.cell (i := 2) (v := .bool true) rfl
                clear CK1 hk4 hR4 hnb4 hrun hR5 hnx HNL HR1 HNB v0 v1 v2 q0 q1 p0 p1' hlen
                go_wp2_with (at_builtin; refine wpList_app_run rfl _ _ _ rfl rfl rfl (unhide HRUN) ?_)
                go_roundw
                case rel => exact ⟨3, _, _, _, by omega, rfl, rfl, HNF, HR5⟩
                case measure => simp [intOf]
              | false =>
                have hnx := unhide HNX
                rw [if_neg (by rw [hh]; simp)] at hnx
                rw [hh, if_neg (by simp)] at CK1
                rw [← hnx] at HNL HR1
                clear HNX hh hnx
                go_wp2_with fail
                refine (unhide CK1).mono ?_
                rintro e w4 ⟨rfl, hk4⟩
                have HR4 := hide ((unhide HR1).kp hk4)
                clear CK1 hk4 HR1 HNB v0 v1 v2 q0 q1 p0 p1' hlen
                go_wp2_with fail
                go_roundw
                case rel => exact ⟨3, _, _, _, by omega, rfl, rfl, HNL, HR4⟩
                case measure => simp [intOf]
            · have hix : (3 - (((3 : Nat) : Nat) : Int)) = 0 := by decide
              have CK1 := hide (unhide HCK ⟨((k : Int) + 1), false, false⟩ _ ((unhide HB).k.trans (Kp.alloc wr (.cells #[.int .i64 ((k : Int) + 1), .bool false, .bool false] 26)) (by simp)))
              have HNX : Hid ((preM k 4).filter (mayN L) = if mayN L ⟨((k : Int) + 1), false, false⟩ = true then (preM k 3).filter (mayN L) ++ [⟨((k : Int) + 1), false, false⟩] else (preM k 3).filter (mayN L)) := hide (by
                rw [show preM k 4 = preM k 3 ++ [⟨((k : Int) + 1), false, false⟩] from preM_next (by omega), List.filter_append]
                by_cases e : mayN L ⟨((k : Int) + 1), false, false⟩ = true
                · rw [if_pos e, List.filter_cons_of_pos e, List.filter_nil]
                · rw [if_neg e, List.filter_cons_of_neg e, List.filter_nil, List.append_nil])
              have hlen := preM_len k 3 (mayN L)
              have hR1 := (unhide HB).kp (Kp.alloc wr (.cells #[.int .i64 ((k : Int) + 1), .bool false, .bool false] 26))
              have hnb := CBox.new wr #[.int .i64 ((k : Int) + 1), .bool false, .bool false] 26
              have v0 := hnb.cell (i := 0) (v := .int .i64 ((k : Int) + 1)) rfl
              have v1 := hnb.cell (i := 1) (v := .bool false) rfl
              have v2 := hnb.cell (i := 2) (v := .bool false) rfl
              have q0 := hR1.p.cell (i := 0) (v := .slice sa nn sc) rfl
              have q1 := hR1.p.cell (i := 1) (v := .int .i64 wi) rfl
              have HR1 := hide hR1
              have HNB := hide hnb
              unfold Nd.c at CK1
              dsimp only at CK1
              rw [hix]
              clear hR1 hnb HB HCK HBG HGO hix
              cases hh : mayN L ⟨((k : Int) + 1), false, false⟩ with
              | true =>
                have hnx := unhide HNX
                rw [if_pos hh] at hnx
                rw [hh, if_pos rfl] at CK1
                clear HNX hh
                go_wp2_with fail
                refine (unhide CK1).mono ?_
                rintro e w4 ⟨rfl, hk4⟩
                have hR4 := (unhide HR1).kp hk4
                have hnb4 := (unhide HNB).kp hk4 (by simp)
                obtain ⟨g', cap', w5, hrun, hR5⟩ := hR4.put ⟨((k : Int) + 1), false, false⟩ (by omega) 41
                rw [← unhide HNL, ← hnx] at hR5
                rw [← unhide HNL] at hrun
                have HNF : Hid (NL + 1 = ((preM k 4).filter (mayN L)).length) := hide (by rw [hnx, List.length_append, unhide HNL]; rfl)
                have HRUN := hide hrun
                have HR5 := hide hR5
                have u0 := hnb4.cell (i := 0) (v := .int .i64 ((k : Int) + 1)) rfl
                have u1 := hnb4.cell (i := 1) (v := .bool false) rfl
                have u2 := hnb4.cell (i := 2) (v := .bool false) rfl
                clear CK1 hk4 hR4 hnb4 hrun hR5 hnx HNL HR1 HNB v0 v1 v2 q0 q1 p0 p1' hlen
                go_wp2_with (at_builtin; refine wpList_app_run rfl _ _ _ rfl rfl rfl (unhide HRUN) ?_)
                go_roundw
                case rel => exact ⟨4, _, _, _, by omega, rfl, rfl, HNF, HR5⟩
                case measure => simp [intOf]
              | false =>
                have hnx := unhide HNX
                rw [if_neg (by rw [hh]; simp)] at hnx
                rw [hh, if_neg (by simp)] at CK1
                rw [← hnx] at HNL HR1
                clear HNX hh hnx
                go_wp2_with fail
                refine (unhide CK1).mono ?_
                rintro e w4 ⟨rfl, hk4⟩
                have HR4 := hide ((unhide HR1).kp hk4)
                clear CK1 hk4 HR1 HNB v0 v1 v2 q0 q1 p0 p1' hlen
                go_wp2_with fail
                go_roundw
                case rel => exact ⟨4, _, _, _, by omega, rfl, rfl, HNL, HR4⟩
                case measure => simp [intOf]
          · obtain rfl : j = 4 := by omega
            have hix : (3 - (((4 : Nat) : Nat) : Int)) = -1 := by decide
            rw [hix]
            rw [preM_four] at HNL HB
            have HB3 := HB
            clear HB HCK HBG HGO p0 p1' hix
            go_wp2_with fail
            go_roundw
            case rel => exact ⟨k + 1, a, c, NL, by omega, by go_num, rfl, HNL, HB3⟩
            case measure => simp [intOf]; omega
      · obtain rfl : k = nn := by omega
        have hni : ((k : Int) + 1 ≤ (k : Int)) = False := by simp; omega
        obtain ⟨al, hal⟩ : ∃ al : List Nd, al = mayL L := ⟨_, rfl⟩
        have hAL : (allN k).filter (mayN L) = al := by rw [hal]; unfold mayL; rw [unhide HLN]
        rw [hAL] at HNL HB
        have HAL := hide hal
        clear hAL hal
        have hN32 : NL ≤ 36 := by
          have h2 := List.length_filter_le (mayN L) (allN L.length)
          rw [allN_len] at h2
          have h3 := unhide HLN
          have h4 := unhide HAL
          unfold mayL at h4
          rw [← h4] at h2
          have h5 := unhide HNL
          omega
        have hne : al ≠ [] := fun e => by
          have hm : bgN L 1 ∈ mayL L := mayL_has.2 (bg_may (by omega) (by have := unhide HLN; omega))
          rw [← unhide HAL, e] at hm
          cases hm
        obtain ⟨g, hg, hgV⟩ : ∃ g, a = some ⟨g, 0, none⟩ ∧ g < wr.heap.size := by
          rcases (unhide HB).r.at with ⟨_, e⟩ | ⟨g, cap, e, _, h3, _⟩
          · exact absurd e hne
          · injection e with e1 e2 e3
            exact ⟨g, e1, h3⟩
        subst hg
        have hmk := mk_bools NL (by omega) wr
        have hpz := (unhide HB).kp (Kp.alloc wr (.cells (knC (List.replicate NL false)) 4))
        have hkb := CBox.new wr (knC (List.replicate NL false)) 4
        have HKS : Hid (KnS L al (List.replicate NL false)) := hide ⟨by rw [List.length_replicate]; exact unhide HNL, fun i h1 h2 hk => by simp at hk⟩
        have hlo : w.heap.size < wr.heap.size := (Array.getElem?_eq_some_iff.1 (unhide HB).p).1
        obtain ⟨gk, hgk⟩ : ∃ gk, wr.heap.size = gk := ⟨_, rfl⟩
        rw [hgk] at hkb hmk hgV hlo
        have HKW : Hid (KnW w (wr.alloc (.cells (knC (List.replicate NL false)) 4)) #[.slice sa k sc, .int .i64 wi] g NL c al gk (List.replicate NL false)) := hide ⟨hpz, hkb, by omega, hlo, (unhide HNL).symm, List.length_replicate⟩
        have HMAY : Hid (∀ i (h : i < al.length), mayN L al[i] = true) := hide (fun i h => mayL_has.1 (by rw [← unhide HAL]; exact List.getElem_mem h))
        have hkL : k ≤ 8 := p8
        clear hpz HB hkb hlo hgV hne
        go_wp2_with fail
        generalize wr.alloc (.cells (knC (List.replicate NL false)) 4) = V at *
        clear hgk hmk
        go_loopw [9] (fun gv wr => ∃ (gb : Bool) (kn : List Bool), gv = .bool gb ∧ Hid (KnW w wr #[.slice sa k sc, .int .i64 wi] g NL c al gk kn) ∧ Hid (KnS L al kn ∧ (gb = false → ∀ i (h : i < al.length) (h' : i < kn.length), kn[i] = false → Far L al kn al[i]))) (fun gv wr => falses (rowW gk NL wr) + bOf gv)
        case atStart => exact ⟨true, _, rfl, HKW, hide ⟨unhide HKS, fun e => by cases e⟩⟩
        case round =>
          obtain ⟨gb, kn0, rfl, HW0, HS0⟩ := hrel
          clear HKW HKS
          cases gb with
          | true =>
            have HM0 : Hid (falses (rowW gk NL wr) = falses kn0) := hide (by rw [← (unhide HW0).kl, rowW_is (unhide HW0).b])
            have HSW0 : Hid (SwS L al kn0 kn0 false 0) := hide ⟨fun _ => ⟨rfl, fun i _ _ hi => by omega⟩, fun e => by cases e⟩
            go_wp2_with fail
            go_loopw [9, 10] (fun gv iv wr => ∃ (gb : Bool) (j : Nat) (kn : List Bool), j ≤ NL ∧ gv = .bool gb ∧ iv = .int .i64 (j : Int) ∧ Hid (KnW w wr #[.slice sa k sc, .int .i64 wi] g NL c al gk kn) ∧ Hid (KnS L al kn ∧ SwS L al kn0 kn gb j)) (fun _ iv _ => NL - (intOf iv).toNat)
            case atStart => exact ⟨false, 0, kn0, Nat.zero_le _, rfl, rfl, HW0, hide ⟨(unhide HS0).1, unhide HSW0⟩⟩
            case round =>
              obtain ⟨gb, j, kn, hj, rfl, rfl, HW1, HS1⟩ := hrel
              clear HW0 HS0 HSW0
              by_cases hlt : j < NL
              · have hli : (j : Int) < (NL : Int) := by omega
                have hjk : j < kn.length := by rw [(unhide HW1).kl]; exact hlt
                have hja : j < al.length := by rw [(unhide HW1).nl]; exact hlt
                have hkj := (unhide HW1).known j hjk
                have hgl := (unhide HW1).lt
                cases hkb : kn[j] with
                | true =>
                  rw [hkb] at hkj
                  have HS2 := hide (And.intro (unhide HS1).1 ((unhide HS1).2.skip hjk hkb))
                  clear HS1 hkb
                  go_wp2_with fail
                  go_roundw
                  case rel => exact ⟨gb, j + 1, kn, by omega, rfl, by go_num, HW1, HS2⟩
                  case measure => simp [intOf]; omega
                | false =>
                  rw [hkb] at hkj
                  obtain ⟨x0, x1, x2⟩ := (unhide HW1).node j hja
                  obtain ⟨p0, p1'⟩ := (unhide HW1).pat
                  have hmy := unhide HMAY j hja
                  obtain ⟨hs1, hs2⟩ : 1 ≤ al[j].st.toNat ∧ al[j].st.toNat ≤ k ∧ ((al[j].st.toNat : Nat) : Int) = al[j].st := by
                    obtain ⟨h1, _⟩ := may_split hmy
                    obtain ⟨g1, g2⟩ := isS_iff.1 h1
                    have := unhide HLN
                    refine ⟨by omega, by omega, by omega⟩
                  have BG0 := fun W (hk : Kp [] w W) => unhide HBG al[j].st.toNat hs1 hs2.1 W hk
                  rw [hs2.2] at BG0
                  have BG1 := hide (fun W (hk : Kp [] wr W) => BG0 W ((unhide HW1).r.k.trans hk (by simp)))
                  have EQ := fun W => eqN 9998 al[j] (bgN L al[j].st.toNat) W
                  have HIS : Hid (IsS L al kn al[j] (ndE al[j] (bgN L al[j].st.toNat)) 0) := hide (IsS.start hmy)
                  generalize ndE al[j] (bgN L al[j].st.toNat) = B0 at *
                  generalize bgN L al[j].st.toNat = BN at *
                  have HSX : Hid (∀ W, Kp [] wr W → W.cell? ⟨w.heap.size, 0, none⟩ = some (.slice sa k sc) ∧ W.cell? ⟨w.heap.size, 1, none⟩ = some (.int .i64 wi) ∧ W.cell? ⟨g, j * 3, none⟩ = some (.int .i64 al[j].st) ∧ W.cell? ⟨g, j * 3 + 1, none⟩ = some (.bool al[j].lp) ∧ W.cell? ⟨g, j * 3 + 2, none⟩ = some (.bool al[j].tk)) := hide (fun W hk => ⟨hk.cell p0 (by simp), hk.cell p1' (by simp), hk.cell x0 (by simp), hk.cell x1 (by simp), hk.cell x2 (by simp)⟩)
                  have HKD := hide (Kp.drew wr)
                  obtain ⟨Y, hY⟩ : ∃ Y : Nd, al[j] = Y := ⟨_, rfl⟩
                  have HY := hide hY
                  rw [hY] at BG1 EQ HIS HSX x0 x1 x2 hs1 hs2
                  have EQ' : ∀ W, (Op.equalIn 10000 26 (.agg #[.int .i64 Y.st, .bool Y.lp, .bool Y.tk]) (.agg #[.int .i64 BN.st, .bool BN.lp, .bool BN.tk])).run Tryz.prog W = .ok B0 W := EQ
                  have HBC : Hid (BN.c = #[.int .i64 BN.st, .bool BN.lp, .bool BN.tk]) := hide rfl
                  rw [unhide HBC] at BG1
                  have HKB := hide hkb
                  have HKN := hide (unhide HS1).1
                  clear hY hmy BG0 EQ hkb HBC
                  go_upto_region 21 with fail
                  go_cut [11] (fun b wc => b = .bool B0 ∧ Hid (Kp [] wr wc))
                  case first =>
                    clear HCK HBG HGO HIS HW1 HS1 HMAY HAL HLN HY
                    refine wp_region_held_drew (S := fun W => W.cell? ⟨w.heap.size, 0, none⟩ = some (.slice sa k sc) ∧ W.cell? ⟨w.heap.size, 1, none⟩ = some (.int .i64 wi) ∧ W.cell? ⟨g, j * 3, none⟩ = some (.int .i64 Y.st) ∧ W.cell? ⟨g, j * 3 + 1, none⟩ = some (.bool Y.lp) ∧ W.cell? ⟨g, j * 3 + 2, none⟩ = some (.bool Y.tk)) (by kernel_rfl) (unhide HSX _ (unhide HKD)) (fun hHeld => ?_)
                    show wpAnyH _ _ _ _ _ 13 (Array.replicate 13 false) _ _
                    refine wpAnyH_take (i := 0) (oi := { dst := some 60, op := Op.move (Operand.tmp 4), type := 41, pos := "ref.go:111", after := #[], guard := none }) (v := ?_) rfl (by kernel_rfl) (by kernel_rfl) (by kernel_rfl) (fun _ _ _ h => h) (Or.inl ⟨by rfl, ?_⟩) (by assumption) ?_
                    rotate_left 1
                    · intro w0 hSw
                      (try dsimp only at hSw)
                      go_simp
                      (try with_reducible rfl)
                    try simp only [Act.put, List.setIfInBounds_toArray, List.set_cons_zero, List.set_cons_succ]
                    refine wpAnyH_take (i := 1) (oi := { dst := some 61, op := Op.move (Operand.tmp 10), type := 3, pos := "ref.go:111", after := #[], guard := none }) (v := ?_) rfl (by kernel_rfl) (by kernel_rfl) (by kernel_rfl) (fun _ _ _ h => h) (Or.inl ⟨by rfl, ?_⟩) (by assumption) ?_
                    rotate_left 1
                    · intro w0 hSw
                      (try dsimp only at hSw)
                      go_simp
                      (try with_reducible rfl)
                    try simp only [Act.put, List.setIfInBounds_toArray, List.set_cons_zero, List.set_cons_succ]
                    refine wpAnyH_take (i := 2) (oi := { dst := some 62, op := Op.indexAddr 41 (Operand.tmp 60) (Operand.tmp 61), type := 0, pos := "ref.go:111", after := #[{ on := 0, ground := Ground.data }, { on := 1, ground := Ground.data }], guard := none }) (v := ?_) rfl (by kernel_rfl) (by kernel_rfl) (by kernel_rfl) (fun _ _ _ h => h) (Or.inl ⟨by rfl, ?_⟩) (by assumption) ?_
                    rotate_left 1
                    · intro w0 hSw
                      (try dsimp only at hSw)
                      go_simp
                      (try with_reducible rfl)
                    try simp only [Act.put, List.setIfInBounds_toArray, List.set_cons_zero, List.set_cons_succ]
                    refine wpAnyH_take (i := 3) (oi := { dst := some 63, op := Op.load 26 (Operand.tmp 62), type := 26, pos := "ref.go:111", after := #[{ on := 2, ground := Ground.data }], guard := none }) (v := ?_) rfl (by kernel_rfl) (by kernel_rfl) (by kernel_rfl) (fun _ _ _ h => h) (Or.inl ⟨by rfl, ?_⟩) (by assumption) ?_
                    rotate_left 1
                    · intro w0 hSw
                      (try dsimp only at hSw)
                      go_simp
                      (try with_reducible rfl)
                    try simp only [Act.put, List.setIfInBounds_toArray, List.set_cons_zero, List.set_cons_succ]
                    refine wpAnyH_take (i := 4) (oi := { dst := some 64, op := Op.load 24 (Operand.tmp 1), type := 24, pos := "ref.go:111", after := #[], guard := none }) (v := ?_) rfl (by kernel_rfl) (by kernel_rfl) (by kernel_rfl) (fun _ _ _ h => h) (Or.inl ⟨by rfl, ?_⟩) (by assumption) ?_
                    rotate_left 1
                    · intro w0 hSw
                      (try dsimp only at hSw)
                      go_simp
                      (try with_reducible rfl)
                    try simp only [Act.put, List.setIfInBounds_toArray, List.set_cons_zero, List.set_cons_succ]
                    refine wpAnyH_take (i := 5) (oi := { dst := some 65, op := Op.move (Operand.tmp 4), type := 41, pos := "ref.go:111", after := #[], guard := none }) (v := ?_) rfl (by kernel_rfl) (by kernel_rfl) (by kernel_rfl) (fun _ _ _ h => h) (Or.inl ⟨by rfl, ?_⟩) (by assumption) ?_
                    rotate_left 1
                    · intro w0 hSw
                      (try dsimp only at hSw)
                      go_simp
                      (try with_reducible rfl)
                    try simp only [Act.put, List.setIfInBounds_toArray, List.set_cons_zero, List.set_cons_succ]
                    refine wpAnyH_take (i := 6) (oi := { dst := some 66, op := Op.move (Operand.tmp 10), type := 3, pos := "ref.go:111", after := #[], guard := none }) (v := ?_) rfl (by kernel_rfl) (by kernel_rfl) (by kernel_rfl) (fun _ _ _ h => h) (Or.inl ⟨by rfl, ?_⟩) (by assumption) ?_
                    rotate_left 1
                    · intro w0 hSw
                      (try dsimp only at hSw)
                      go_simp
                      (try with_reducible rfl)
                    try simp only [Act.put, List.setIfInBounds_toArray, List.set_cons_zero, List.set_cons_succ]
                    refine wpAnyH_take (i := 7) (oi := { dst := some 67, op := Op.indexAddr 41 (Operand.tmp 65) (Operand.tmp 66), type := 0, pos := "ref.go:111", after := #[{ on := 5, ground := Ground.data }, { on := 6, ground := Ground.data }], guard := none }) (v := ?_) rfl (by kernel_rfl) (by kernel_rfl) (by kernel_rfl) (fun _ _ _ h => h) (Or.inl ⟨by rfl, ?_⟩) (by assumption) ?_
                    rotate_left 1
                    · intro w0 hSw
                      (try dsimp only at hSw)
                      go_simp
                      (try with_reducible rfl)
                    try simp only [Act.put, List.setIfInBounds_toArray, List.set_cons_zero, List.set_cons_succ]
                    refine wpAnyH_take (i := 8) (oi := { dst := some 68, op := Op.fieldAddr 26 (Operand.tmp 67) 0, type := 0, pos := "ref.go:111", after := #[{ on := 7, ground := Ground.data }], guard := none }) (v := ?_) rfl (by kernel_rfl) (by kernel_rfl) (by kernel_rfl) (fun _ _ _ h => h) (Or.inl ⟨by rfl, ?_⟩) (by assumption) ?_
                    rotate_left 1
                    · intro w0 hSw
                      (try dsimp only at hSw)
                      go_simp
                      (try with_reducible rfl)
                    try simp only [Act.put, List.setIfInBounds_toArray, List.set_cons_zero, List.set_cons_succ]
                    refine wpAnyH_take (i := 9) (oi := { dst := some 69, op := Op.load 3 (Operand.tmp 68), type := 3, pos := "ref.go:111", after := #[{ on := 8, ground := Ground.data }], guard := none }) (v := ?_) rfl (by kernel_rfl) (by kernel_rfl) (by kernel_rfl) (fun _ _ _ h => h) (Or.inl ⟨by rfl, ?_⟩) (by assumption) ?_
                    rotate_left 1
                    · intro w0 hSw
                      (try dsimp only at hSw)
                      go_simp
                      (try with_reducible rfl)
                    try simp only [Act.put, List.setIfInBounds_toArray, List.set_cons_zero, List.set_cons_succ]
                    refine wpAnyH_ready (rs := [10]) (by kernel_rfl) (by simp) ?_
                    refine AllReadyH.cons (o := { dst := some 70, op := Op.call { callee := Callee.value (Operand.func 31), args := #[Operand.tmp 64, Operand.tmp 69], argTypes := #[24, 3] }, type := 26, pos := "ref.go:111", after := #[{ on := 4, ground := Ground.data }, { on := 9, ground := Ground.data }], guard := none }) rfl (fun K hK => ?_) AllReadyH.nil
                    go_simp
                    go_at_call 31
                    refine (unhide BG1 _ (unhide HKD)).mono ?_
                    rintro e w5 ⟨rfl, hk5⟩
                    have HK5 := hide ((unhide HKD).trans hk5 (by simp))
                    clear hk5
                    dsimp only
                    refine hK.out _ _ ?_ (fun hHeld => ?_)
                    · exact unhide HSX _ (unhide HK5)
                    clear hK K
                    try simp only [Act.put, List.setIfInBounds_toArray, List.set_cons_zero, List.set_cons_succ]
                    refine wpAnyH_take (i := 11) (oi := { dst := some 71, op := Op.binOp BinOp.eql 26 (Operand.tmp 63) (Operand.tmp 70) 26, type := 4, pos := "ref.go:111", after := #[{ on := 3, ground := Ground.data }, { on := 10, ground := Ground.data }], guard := none }) (v := ?_) rfl (by kernel_rfl) (by kernel_rfl) (by kernel_rfl) (fun _ _ _ h => h) (Or.inl ⟨by rfl, ?_⟩) (by assumption) ?_
                    rotate_left 1
                    · intro w0 hSw
                      (try dsimp only at hSw)
                      go_simp
                      (try with_reducible rfl)
                    try simp only [Act.put, List.setIfInBounds_toArray, List.set_cons_zero, List.set_cons_succ]
                    refine wpAnyH_take (i := 12) (oi := { dst := some 11, op := Op.assign (Operand.tmp 71), type := 4, pos := "ref.go:111", after := #[{ on := 11, ground := Ground.data }, { on := 10, ground := Ground.chain }, { on := 0, ground := Ground.phase }, { on := 1, ground := Ground.phase }, { on := 2, ground := Ground.phase }, { on := 3, ground := Ground.phase }, { on := 4, ground := Ground.phase }, { on := 5, ground := Ground.phase }, { on := 6, ground := Ground.phase }, { on := 7, ground := Ground.phase }, { on := 8, ground := Ground.phase }, { on := 9, ground := Ground.phase }, { on := 10, ground := Ground.phase }, { on := 11, ground := Ground.phase }], guard := none }) (v := ?_) rfl (by kernel_rfl) (by kernel_rfl) (by kernel_rfl) (fun _ _ _ h => h) (Or.inl ⟨by rfl, ?_⟩) (by assumption) ?_
                    rotate_left 1
                    · intro w0 hSw
                      (try dsimp only at hSw)
                      go_simp
                      (try with_reducible rfl)
                    try simp only [Act.put, List.setIfInBounds_toArray, List.set_cons_zero, List.set_cons_succ]
                    refine wpAnyH_done (by kernel_rfl) ?_ _
                    go_wp2
                    go_meet
                    exact ⟨rfl, HK5⟩
                  case rest =>
                  obtain ⟨rfl, HKc⟩ := hcut
                  have HW2 := hide ((unhide HW1).kp (unhide HKc))
                  have HSN : Hid (∀ b : Bool, IsS L al kn Y b NL ∨ b = true ∧ rch L Y = true → KnS L al (kn.set j b) ∧ SwS L al kn0 (kn.set j b) (gb || b) (j + 1)) := hide (fun b hb => by
                    have hnl := (unhide HW1).nl
                    have hkl := (unhide HW1).kl
                    refine ⟨(unhide HS1).1.set j b (fun e hi => ?_), (unhide HS1).2.next hjk (by omega) (unhide HKB) (fun e => ?_)⟩
                    · rw [unhide HY]
                      rcases hb with hb | hb
                      · exact hb.1 e
                      · exact hb.2
                    · rw [unhide HY]
                      rcases hb with hb | hb
                      · rw [e, ← hnl] at hb
                        exact hb.far
                      · rw [hb.1] at e
                        cases e)
                  clear HW1 BG1 EQ' HSX HKD HKc x0 x1 x2 p0 p1' hkj hgl HS1
                  go_wp2_with fail
                  go_loopw [11, 12] (fun b iv wr => ∃ (bb : Bool) (m : Nat), m ≤ NL ∧ b = .bool bb ∧ iv = .int .i64 (m : Int) ∧ Hid (KnW w wr #[.slice sa k sc, .int .i64 wi] g NL c al gk kn) ∧ Hid (IsS L al kn Y bb m)) (fun _ iv _ => NL - (intOf iv).toNat)
                  case atStart => exact ⟨B0, 0, Nat.zero_le _, rfl, rfl, HW2, HIS⟩
                  case round =>
                    obtain ⟨bb, m, hm, rfl, rfl, HW3, HS3⟩ := hrel
                    clear HW2 HIS
                    have hkj := (unhide HW3).known j hjk
                    have hkf := (unhide HW3).b.froz j
                    have hgl := (unhide HW3).lt
                    cases bb with
                    | true =>
                      have HN := hide (unhide HSN true (Or.inr ⟨rfl, (unhide HS3).1 rfl⟩))
                      have HWN := hide ((unhide HW3).set j true)
                      clear HSN HW3 HS3
                      by_cases hmn : m < NL
                      · have hmi : (m : Int) < (NL : Int) := by omega
                        cases gb with
                        | false =>
                          go_wp2_with fail
                          go_roundw
                          case rel => exact ⟨_, j + 1, _, by omega, rfl, by go_num, HWN, HN⟩
                          case measure => simp [intOf]; omega
                        | true =>
                          go_wp2_with fail
                          go_roundw
                          case rel => exact ⟨_, j + 1, _, by omega, rfl, by go_num, HWN, HN⟩
                          case measure => simp [intOf]; omega
                      · have hmi : ((m : Int) < (NL : Int)) = False := by simp; omega
                        cases gb with
                        | false =>
                          go_wp2_with fail
                          go_roundw
                          case rel => exact ⟨_, j + 1, _, by omega, rfl, by go_num, HWN, HN⟩
                          case measure => simp [intOf]; omega
                        | true =>
                          go_wp2_with fail
                          go_roundw
                          case rel => exact ⟨_, j + 1, _, by omega, rfl, by go_num, HWN, HN⟩
                          case measure => simp [intOf]; omega
                    | false =>
                      by_cases hmn : m < NL
                      · have hmi : (m : Int) < (NL : Int) := by omega
                        have hmk : m < kn.length := by rw [(unhide HW3).kl]; exact hmn
                        have hma : m < al.length := by rw [(unhide HW3).nl]; exact hmn
                        have hkm := (unhide HW3).known m hmk
                        clear hkj hkf
                        cases hkb2 : kn[m] with
                        | false =>
                          rw [hkb2] at hkm
                          have HS4 := hide ((unhide HS3).skip hmk hkb2)
                          clear HS3 HSN hkb2
                          go_wp2_with fail
                          go_loopw [11, 13] (fun b hv wr' => b = .bool false ∧ hv = .int .i64 0 ∧ wr' = wr) (fun _ _ _ => 0)
                          case atStart => exact ⟨rfl, rfl, rfl⟩
                          case round =>
                            obtain ⟨rfl, rfl, rfl⟩ := hrel
                            go_wp2_with fail
                            go_roundw
                            case rel => exact ⟨false, m + 1, by omega, rfl, by go_num, HW3, HS4⟩
                            case measure => simp [intOf]; omega
                        | true =>
                          rw [hkb2] at hkm
                          have HRX := hide ((unhide HKN).2 m hma hmk hkb2)
                          have HS4 := hide ((unhide HS3).known al[m])
                          obtain ⟨X, hX⟩ : ∃ X : Nd, al[m] = X := ⟨_, rfl⟩
                          have HXE := hide hX
                          rw [hX] at HRX HS4
                          have HKM := hide hkb2
                          clear HS3 HSN hkb2 hX
                          go_wp2_with fail
                          go_loopw [11, 13] (fun b hv wr => ∃ (bb : Bool) (h : Nat), h ≤ 4 ∧ b = .bool bb ∧ hv = .int .i64 (h : Int) ∧ Hid (KnW w wr #[.slice sa k sc, .int .i64 wi] g NL c al gk kn) ∧ Hid (IsH L al kn Y bb m X h)) (fun _ hv _ => 4 - (intOf hv).toNat)
                          case atStart => exact ⟨false, 0, by omega, rfl, rfl, HW3, HS4⟩
                          case round =>
                            obtain ⟨bb, h, hh, rfl, rfl, HW5, HS5⟩ := hrel
                            clear HW3 HS4 hkm hgl
                            have hkm := (unhide HW5).known m hmk
                            have hgl := (unhide HW5).lt
                            rw [unhide HKM] at hkm
                            by_cases hh4 : h < 4
                            · have hhi : (h : Int) < 4 := by omega
                              obtain ⟨x0, x1, x2⟩ := (unhide HW5).node m hma
                              rw [unhide HXE] at x0 x1 x2
                              obtain ⟨p0, p1'⟩ := (unhide HW5).pat
                              have ST1 := hide (fun W (hk : Kp [] wr W) => unhide HGO X (decide (h / 2 = 1)) (decide (h % 2 = 1)) W (rch_may (unhide HRX)) ((unhide HW5).r.k.trans hk (by simp)))
                              have HNX := hide ((unhide HS5).next (unhide HRX))
                              have HYC : Hid ((stpN L X (decide (h / 2 = 1)) (decide (h % 2 = 1))).cw = (psN L X (decide (h / 2 = 1)) (decide (h % 2 = 1))).live ∧ ((stpN L X (decide (h / 2 = 1)) (decide (h % 2 = 1))).cw = true → (stpN L X (decide (h / 2 = 1)) (decide (h % 2 = 1))).wt = psN L X (decide (h / 2 = 1)) (decide (h % 2 = 1)))) := hide ⟨rfl, fun e => if_pos e⟩
                              have f1 : ((h : Int) / 2 == 1) = decide (h / 2 = 1) := by
                                rw [Bool.eq_iff_iff]; simp; omega
                              have f2 : ((h : Int) % 2 == 1) = decide (h % 2 = 1) := by
                                rw [Bool.eq_iff_iff]; simp; omega
                              have f3 : (h : Int).tdiv 2 = (h : Int) / 2 := Int.tdiv_eq_ediv_of_nonneg (by omega)
                              have f4 : (h : Int).tmod 2 = (h : Int) % 2 := Int.tmod_eq_emod_of_nonneg (by omega)
                              have f5 : IntKind.i64.wrap ((h : Int) / 2) = (h : Int) / 2 := by
                                have : h = 0 ∨ h = 1 ∨ h = 2 ∨ h = 3 := by omega
                                rcases this with rfl | rfl | rfl | rfl <;> rfl
                              generalize decide (h / 2 = 1) = lo at *
                              generalize decide (h % 2 = 1) = ta at *
                              generalize (stpN L X lo ta) = Z at *
                              generalize (psN L X lo ta) = PZ at *
                              have HSK : Hid (∀ W, Kp [] wr W → W.cell? ⟨w.heap.size, 0, none⟩ = some (.slice sa k sc) ∧ W.cell? ⟨w.heap.size, 1, none⟩ = some (.int .i64 wi) ∧ W.cell? ⟨g, m * 3, none⟩ = some (.int .i64 X.st) ∧ W.cell? ⟨g, m * 3 + 1, none⟩ = some (.bool X.lp) ∧ W.cell? ⟨g, m * 3 + 2, none⟩ = some (.bool X.tk)) := hide (fun W hk => ⟨hk.cell p0 (by simp), hk.cell p1' (by simp), hk.cell x0 (by simp), hk.cell x1 (by simp), hk.cell x2 (by simp)⟩)
                              have HK0 : Hid (Kp [] wr wr.drew) := hide (Kp.drew wr)
                              have HKA : Hid (Kp [] wr (wr.alloc (.cells #[.int .i64 0, .bool false, .bool false, .int .i64 0, .bool false, .bool false, .int .i64 0, .bool false, .bool false, .bool false, .bool false, .bool false] 29)).drew) := hide ((Kp.alloc _ _).trans (Kp.drew _) (by simp))
                              have HZB : Hid (CBox wr.heap.size zS.c 29 (wr.alloc (.cells #[.int .i64 0, .bool false, .bool false, .int .i64 0, .bool false, .bool false, .int .i64 0, .bool false, .bool false, .bool false, .bool false, .bool false] 29)).drew) := hide ((CBox.new wr zS.c 29).kp (Kp.drew _) (by simp))
                              have HXC : Hid (X.c = #[.int .i64 X.st, .bool X.lp, .bool X.tk]) := hide rfl
                              have HZC : Hid (Z.c = #[.int .i64 Z.lp.st, .bool Z.lp.lp, .bool Z.lp.tk, .int .i64 Z.tk.st, .bool Z.tk.lp, .bool Z.tk.tk, .int .i64 Z.wt.st, .bool Z.wt.lp, .bool Z.wt.tk, .bool Z.cl, .bool Z.ct, .bool Z.cw]) := hide rfl
                              rw [unhide HXC] at ST1
                              clear HXC
                              go_upto_region 28 with fail
                              go_cut [14] (fun p wc => ∃ gx, p = .pointer (some ⟨gx, 0, none⟩) ∧ Hid (Kp [] wr wc ∧ CBox gx Z.c 29 wc))
                              case first =>
                                clear HCK HBG HGO HS5 HNX HMAY HAL HLN HY HYC HRX HXE HKM HKB HKN HW5
                                rw [unhide HZC] at ST1
                                go_region_held3 (fun W => W.cell? ⟨w.heap.size, 0, none⟩ = some (.slice sa k sc) ∧ W.cell? ⟨w.heap.size, 1, none⟩ = some (.int .i64 wi) ∧ W.cell? ⟨g, m * 3, none⟩ = some (.int .i64 X.st) ∧ W.cell? ⟨g, m * 3 + 1, none⟩ = some (.bool X.lp) ∧ W.cell? ⟨g, m * 3 + 2, none⟩ = some (.bool X.tk))
                                  (first | exact unhide HSK _ (unhide (by with_reducible assumption)))
                                  (first
                                    | (go_at_call 27; (with_reducible refine (unhide ST1 _ (unhide HKA)).mono ?_); rintro r z3 ⟨rfl, hk3⟩; have HK3 := hide ((unhide HKA).trans hk3 (by simp)); have hzb := (unhide HZB).kp hk3 (by simp); obtain ⟨⟨z0, z1, z2, z3', z4, z5, z6, z7, z8, z9, z10, z11⟩, f0, f1, f2, f3, f4, f5, f6, f7, f8, f9, f10, f11⟩ := zs_cells hzb; have HK5 := hide (steps_put (unhide HK3) hzb (Nat.le_refl _) Z).2; have HEND := hide (And.intro (unhide HK5) (steps_put (unhide HK3) hzb (Nat.le_refl _) Z).1); unfold putS at HK5 HEND; clear hk3 hzb)
                                    | (go_at_call 27; (with_reducible refine (unhide ST1 _ (unhide HK0)).mono ?_); rintro r z3 ⟨rfl, hk3⟩; have HK3 := hide ((unhide HK0).trans hk3 (by simp)); have HK4 := hide ((unhide HK3).trans (Kp.alloc z3 (.cells zS.c 29)) (by simp)); have HK5 := hide ((unhide HK3).trans (Kp.alloc z3 (.cells Z.c 29)) (by simp)); have HEND := hide (And.intro (unhide HK5) (CBox.new z3 Z.c 29)); unfold zS zN Sps.c at HK4; unfold Sps.c at HK5; dsimp only at HK4 HK5; clear hk3))
                                all_goals (go_wp2; go_meet; exact ⟨_, rfl, HEND⟩)
                              case rest =>
                              obtain ⟨gx, rfl, HQ⟩ := hcut
                              clear HSK HK0 HKA HZB ST1 f1 f2 f3 f4 f5
                              have hYB := (unhide HQ).2
                              rw [unhide HZC] at hYB
                              have hgx : gx < wc.heap.size := (Array.getElem?_eq_some_iff.1 hYB).1
                              have HW7 : Hid (∀ W, Kp [] wc W → KnW w W #[.slice sa k sc, .int .i64 wi] g NL c al gk kn) := hide (fun W hk => ((unhide HW5).kp (unhide HQ).1).kp hk)
                              obtain ⟨y0, y1, y2⟩ := (unhide HW7 wc (Kp.refl _ _)).node j hja
                              have hgl2 := World.block_lt_of_cell? _ _ y0
                              rw [unhide HY] at y0 y1 y2
                              have z6 := hYB.cell (i := 6) (v := .int .i64 Z.wt.st) rfl
                              have z7 := hYB.cell (i := 7) (v := .bool Z.wt.lp) rfl
                              have z8 := hYB.cell (i := 8) (v := .bool Z.wt.tk) rfl
                              have z11 := hYB.cell (i := 11) (v := .bool Z.cw) rfl
                              have EQ := fun W => eqN 9998 Z.wt Y W
                              unfold Nd.c at EQ
                              obtain ⟨yc1, yc2⟩ := unhide HYC
                              clear HYC HZC HQ HW5 HS5 hYB hkm hgl x0 x1 x2 p0 p1' HXE HKM HRX
                              have hcw : Z.cw = PZ.live := yc1
                              have hwt : Z.cw = true → Z.wt = PZ := yc2
                              clear yc1 yc2
                              obtain ⟨ZL, ZT, ZW, zc, zt, zw⟩ := Z
                              dsimp only at z6 z7 z8 z11 EQ hcw hwt
                              have HCW := hide hcw
                              have HWT := hide hwt
                              clear hcw hwt
                              cases bb with
                              | true =>
                                have HN2 : Hid (IsH L al kn Y true m X (h + 1)) := hide (by have := unhide HNX; rwa [Bool.true_or] at this)
                                clear HNX HCW HWT EQ
                                cases zw with
                                | false =>
                                  go_wp2_with fail
                                  go_quiet (fail)
                                  go_wp2_with fail
                                  go_roundw
                                  case rel => exact ⟨_, h + 1, by omega, rfl, by go_num, hide (unhide HW7 _ (by first | exact Kp.refl _ _ | exact Kp.drew _ | exact Kp.drewQ _ _)), HN2⟩
                                  case measure => simp [intOf]; omega
                                | true =>
                                  go_wp2_with fail
                                  go_quiet (fail)
                                  go_wp2_with fail
                                  go_roundw
                                  case rel => exact ⟨_, h + 1, by omega, rfl, by go_num, hide (unhide HW7 _ (by first | exact Kp.refl _ _ | exact Kp.drew _ | exact Kp.drewQ _ _)), HN2⟩
                                  case measure => simp [intOf]; omega
                              | false =>
                                cases zw with
                                | false =>
                                  have HN2 : Hid (IsH L al kn Y false m X (h + 1)) := hide (by have := unhide HNX; rwa [← unhide HCW, Bool.false_and, Bool.false_or] at this)
                                  clear HNX HCW HWT EQ
                                  go_wp2_with fail
                                  go_quiet (fail)
                                  go_wp2_with fail
                                  go_roundw
                                  case rel => exact ⟨_, h + 1, by omega, rfl, by go_num, hide (unhide HW7 _ (by first | exact Kp.refl _ _ | exact Kp.drew _ | exact Kp.drewQ _ _)), HN2⟩
                                  case measure => simp [intOf]; omega
                                | true =>
                                  have HN2 : Hid (IsH L al kn Y (ndE ZW Y) m X (h + 1)) := hide (by have := unhide HNX; rwa [← unhide HCW, Bool.true_and, Bool.false_or, ← unhide HWT rfl] at this)
                                  generalize ndE ZW Y = BY at *
                                  clear HNX HCW HWT
                                  go_wp2_with fail
                                  go_quiet (fail)
                                  go_wp2_with fail
                                  go_roundw
                                  case rel => exact ⟨_, h + 1, by omega, rfl, by go_num, hide (unhide HW7 _ (by first | exact Kp.refl _ _ | exact Kp.drew _ | exact Kp.drewQ _ _)), HN2⟩
                                  case measure => simp [intOf]; omega
                            · obtain rfl : h = 4 := by omega
                              have hhi : ((4 : Nat) : Int) = 4 := rfl
                              have HS6 := hide (IsH.done hma (by rw [unhide HXE]; exact unhide HS5))
                              rw [hhi]
                              clear HS5
                              go_wp2_with fail
                              go_roundw
                              case rel => exact ⟨bb, m + 1, by omega, rfl, by go_num, HW5, HS6⟩
                              case measure => simp [intOf]; omega
                      · have hmi : ((m : Int) < (NL : Int)) = False := by simp; omega
                        obtain rfl : m = NL := by omega
                        have HN := hide (unhide HSN false (Or.inl (unhide HS3)))
                        have HWN := hide ((unhide HW3).set j false)
                        clear HSN HW3 HS3
                        cases gb with
                        | false =>
                          go_wp2_with fail
                          go_roundw
                          case rel => exact ⟨_, j + 1, _, by omega, rfl, by go_num, HWN, HN⟩
                          case measure => simp [intOf]; omega
                        | true =>
                          go_wp2_with fail
                          go_roundw
                          case rel => exact ⟨_, j + 1, _, by omega, rfl, by go_num, HWN, HN⟩
                          case measure => simp [intOf]; omega
              · obtain rfl : j = NL := by omega
                have hli : ((j : Int) < (j : Int)) = False := by simp
                have HS2 : Hid (KnS L al kn ∧ (gb = false → ∀ i (h : i < al.length) (h' : i < kn.length), kn[i] = false → Far L al kn al[i])) := hide ⟨(unhide HS1).1, fun e i h h' hk => ((unhide HS1).2.1 e).2 i h h' (by have := (unhide HW1).kl; omega) hk⟩
                have HM1 : Hid (falses (rowW gk j wr) + bOf (.bool gb) < falses kn0 + 1) := hide (by
                  rw [← (unhide HW1).kl, rowW_is (unhide HW1).b]
                  cases gb with
                  | false => rw [((unhide HS1).2.1 rfl).1]; show _ + 0 < _; omega
                  | true => have := (unhide HS1).2.2 rfl; show _ + 1 < _; omega)
                clear HS1
                go_wp2_with fail
                go_roundw
                case rel => exact ⟨gb, kn, rfl, HW1, HS2⟩
                case measure =>
                  have h1 := unhide HM1
                  have h2 := unhide HM0
                  show _ < _ + 1
                  rw [h2]
                  exact h1
          | false =>
            have HTD : Hid (outN al kn0 NL = ndsR L) := hide (by
              have hnl := (unhide HW0).nl
              have hkl := (unhide HW0).kl
              rw [outN_all (by omega), unhide HAL]
              have hks := (unhide HS0).1
              have hcl := (unhide HS0).2 rfl
              rw [unhide HAL] at hks hcl
              have hll : kn0.length = (mayL L).length := hks.1
              exact told_nds hll (fun i h1 h2 => hks.fin hcl i h1 h2))
            have HLN2 := hide (fun m => outN_len al kn0 m)
            have hnl2 : al.length ≤ 36 := by have := (unhide HW0).nl; omega
            clear HS0 HCK HBG HGO HMAY HAL HLN
            go_wp2_with fail
            go_loopw [15, 16] (fun o iv wr => ∃ (m : Nat) (a' : Option Addr) (c' N' : Nat), m ≤ NL ∧ iv = .int .i64 (m : Int) ∧ o = .slice a' N' c' ∧ Hid (N' = (outN al kn0 m).length) ∧ Hid (KnW w wr #[.slice sa k sc, .int .i64 wi] g NL c al gk kn0) ∧ Hid (OwnsD (gk + 1) wr (.slice a' N' c') (outN al kn0 m))) (fun _ iv _ => NL - (intOf iv).toNat)
            case atStart => exact ⟨0, none, 0, 0, Nat.zero_le _, rfl, rfl, hide rfl, HW0, hide (OwnsD.nil _ _)⟩
            case round =>
              obtain ⟨m, a', c', N', hm, rfl, rfl, HN1, HW1, HO1⟩ := hrel
              clear HW0
              by_cases hmn : m < NL
              · have hmi : (m : Int) < (NL : Int) := by omega
                have hmk : m < kn0.length := by rw [(unhide HW1).kl]; exact hmn
                have hma : m < al.length := by rw [(unhide HW1).nl]; exact hmn
                have hkm := (unhide HW1).known m hmk
                have hgl := (unhide HW1).lt
                have hnx := outN_next hma hmk
                cases hkb : kn0[m] with
                | false =>
                  rw [hkb] at hkm
                  rw [if_neg (by rw [hkb]; simp), List.append_nil] at hnx
                  rw [← hnx] at HN1 HO1
                  clear hkb hnx
                  go_wp2_with fail
                  go_roundw
                  case rel => exact ⟨m + 1, _, _, _, by omega, by go_num, rfl, HN1, HW1, HO1⟩
                  case measure => simp [intOf]; omega
                | true =>
                  rw [hkb] at hkm
                  rw [if_pos hkb] at hnx
                  obtain ⟨x0, x1, x2⟩ := (unhide HW1).node m hma
                  have hgl2 := World.block_lt_of_cell? _ _ x0
                  have hlen := unhide HLN2 m
                  obtain ⟨g', cap', w5, hrun, hW5, hO5⟩ := (unhide HW1).put (unhide HO1) al[m] (by omega) 41
                  rw [← unhide HN1] at hrun
                  rw [← unhide HN1, ← hnx] at hO5
                  have HNF : Hid (N' + 1 = (outN al kn0 (m + 1)).length) := hide (by rw [hnx, List.length_append, unhide HN1]; rfl)
                  have HRUN := hide hrun
                  have HW5 := hide hW5
                  have HO5 := hide hO5
                  generalize al[m] = X at *
                  clear hkb hnx hrun hW5 hO5 HN1 HO1 hlen
                  go_wp2_with (at_builtin; refine wpList_app_run rfl _ _ _ rfl rfl rfl (unhide HRUN) ?_)
                  go_roundw
                  case rel => exact ⟨m + 1, _, _, _, by omega, by go_num, rfl, HNF, HW5, HO5⟩
                  case measure => simp [intOf]; omega
              · obtain rfl : m = NL := by omega
                have hmi : ((m : Int) < (m : Int)) = False := by simp
                have HF : Hid (OwnsD w.heap.size wr (.slice a' N' c') (ndsR L) ∧ Kp [] w wr) := hide ⟨by rw [← unhide HTD]; exact (unhide HO1).base (by have := (unhide HW1).lo; omega), (unhide HW1).r.k⟩
                clear HN1 HW1 HO1
                go_wp2
                exact bodyPost_ret (results_tmp2 rfl _ _ _) rfl ⟨_, rfl, (unhide HF).1, (unhide HF).2⟩
  · rw [if_neg (by omega)] at hLL
    subst hLL
    have g0 : ((120 : Int) != 0) = true := rfl
    clear ALL
    go_wp2
    exact bodyPost_ret (results_tmp2 rfl _ _ _) rfl ⟨_, rfl, OwnsD.nil _ _, unhide HK1⟩
end Go.Proofs.YtjijhefmbmdbeaaGreatDoor
