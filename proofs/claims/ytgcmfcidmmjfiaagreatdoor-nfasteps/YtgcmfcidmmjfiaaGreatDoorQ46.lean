/-
  NfaSteps: which nodes may be, where a partial match stands behind an event, and whether it is final, is as the document has it.
  NfaSteps is proved: for every pattern, every node and every event's number the law NfaSteps returns true (which nodes may be, where a partial match stands behind an event, and whether it is final, is as the document has it), and its arguments read behind the call as before. Condition: the packages' tables and words, and strconv's and math/bits' variables, read as their own texts lay them (the card ties that to the program).
-/
import Derived.Test.YtgcmfcidmmjfiaaGreatDoorQ42
import Derived.Test.YtgcmfcidmmjfiaaGreatDoorQ43
import Derived.Test.YtgcmfcidmmjfiaaGreatDoorQ44
import Derived.Test.YtgcmfcidmmjfiaaGreatDoorQ45
import Derived.Test.YtgcmfcidmmjfiaaGreatDoorQ23
import Derived.Test.YtgcmfcidmmjfiaaGreatDoorCards
import Derived.Test.YtgcmfcidmmjfiaaGreatDoorTie
import Derived.Test.YtgcmfcidmmjfiaaGreatDoorQ06
import Derived.SizedLaws
import Derived.ProofKit
import Derived.OpenShut
import Derived.Deep.DeepHandedRow
import Derived.Lib.LaidTab
namespace Go.Proofs.YtgcmfcidmmjfiaaGreatDoor
open Go.RowKit Go.Shelf

theorem rs_ok {l rs : List SR} (e : stgs rs = stgs l) (h : ∀ r ∈ l, r.s.ok) : ∀ r ∈ rs, r.s.ok := fun r hr => by
  have hm : r.s ∈ stgs rs := by unfold stgs; exact List.mem_map_of_mem hr
  rw [e] at hm
  unfold stgs at hm
  obtain ⟨r', hr', e'⟩ := List.mem_map.1 hm
  rw [← e']
  exact h r' hr'
theorem rs_len {l rs : List SR} (e : stgs rs = stgs l) : rs.length = l.length := by have := congrArg List.length e; rwa [stgs_len, stgs_len] at this
theorem rs_cd {l rs : List SR} (e : stgs rs = stgs l) (h : ∀ r ∈ l, r.hv) : ∀ r ∈ rs, r.s.cd.length ≤ 9223372036854775807 := fun r hr => by
  have hm : r.s ∈ stgs rs := by unfold stgs; exact List.mem_map_of_mem hr
  rw [e] at hm
  unfold stgs at hm
  obtain ⟨r', hr', e'⟩ := List.mem_map.1 hm
  rw [← e']
  have := (h r' hr').1
  omega
theorem nd_cells {g : Nat} {n : Nd} {W : World} (h : CBox g n.c 26 W) : W.cell? ⟨g, 0, none⟩ = some (.int .i64 n.st) ∧ W.cell? ⟨g, 1, none⟩ = some (.bool n.lp) ∧ W.cell? ⟨g, 2, none⟩ = some (.bool n.tk) := ⟨h.cell rfl, h.cell rfl, h.cell rfl⟩
set_option maxHeartbeats 4000000 in
set_option maxRecDepth 100000 in
theorem nsteps_walk (sa : Option Addr) (sc : Nat) (l : List SR) (wi : Int) (n : Nd) (E : Int) (w : World) (hl : l.length ≤ 9223372036854775807) (h : StsAt w sa l) (hok : ∀ r ∈ l, r.s.ok) (hwt : l.length * 56 ≤ 140737488351232 ∧ (sa = none → sc = 0) ∧ ∀ r ∈ l, r.hv) (hT : TbE w) :
    Calls Tryz.prog 3 #[.agg #[.slice sa l.length sc, .int .i64 wi], .agg n.c, .int .i64 E] w fun e w' => e = .returned (.bool true) ∧ Kp [] w w' := by
  obtain ⟨hw1, hw2, hw3⟩ := hwt
  have hHv : HvS l := fun r hr p hp => (hw3 r hr).2.2.2 p hp
  have B0 := PnB.new w #[.slice sa l.length sc, .int .i64 wi] n
  have CP := hide (copyPattern_any sa sc l wi _ (h.kp B0.k) hw2 hw1 (fun r hr => ⟨(hw3 r hr).2.2.1, (hw3 r hr).1⟩))
  obtain ⟨P, hP⟩ : ∃ P : Ptn, P = ⟨stgs l, wi⟩ := ⟨_, rfl⟩
  -- what either side tells, in any later world
  have RS := hide (fun (lo ta : Bool) W (hk : Kp [] w W) => rnstep_any sa sc l wi n lo ta W (h.kp hk) hok hHv hl)
  have RF := hide (fun W (hk : Kp [] w W) => rnfinal_any sa sc l wi n W (h.kp hk) hok hHv hl)
  have RB := hide (fun W (hk : Kp [] w W) => rnbegun_any sa sc l wi E W (h.kp hk) hok hHv hl)
  have RC := hide (fun W (hk : Kp [] w W) => rncheck_any sa sc l wi n W (h.kp hk) hok hHv hl)
  have OWN : Hid (∀ (g cap : Nat) (rs : List SR), stgs rs = stgs l → (∀ (lo ta : Bool) W, Kp [] w W → StsAt W (some ⟨g, 0, none⟩) rs → Calls Tryz.prog 10 #[.agg #[.slice (some ⟨g, 0, none⟩) l.length cap, .int .i64 wi], .agg n.c, .bool lo, .bool ta] W fun e w' => e = .returned (.tuple #[.agg (nsS P n lo ta).c, .int .i64 (nkE P n)]) ∧ Kp [] W w') ∧ (∀ W, Kp [] w W → StsAt W (some ⟨g, 0, none⟩) rs → Calls Tryz.prog 12 #[.agg #[.slice (some ⟨g, 0, none⟩) l.length cap, .int .i64 wi], .agg n.c] W fun e w' => e = .returned (.tuple #[.bool (nfB P n), .int .i64 (nkE P n)]) ∧ Kp [] W w') ∧ (∀ W, Kp [] w W → StsAt W (some ⟨g, 0, none⟩) rs → Calls Tryz.prog 14 #[.agg #[.slice (some ⟨g, 0, none⟩) l.length cap, .int .i64 wi], .int .i64 E] W fun e w' => e = .returned (.tuple #[.agg (nbN P E).c, .int .i64 (nbE P E)]) ∧ Kp [] W w') ∧ (∀ W, Kp [] w W → StsAt W (some ⟨g, 0, none⟩) rs → Calls Tryz.prog 16 #[.agg #[.slice (some ⟨g, 0, none⟩) l.length cap, .int .i64 wi], .agg n.c] W fun e w' => e = .returned (.int .i64 (nkE P n)) ∧ Kp [] W w') ∧ (∀ W, Kp [] w W → StsAt W (some ⟨g, 0, none⟩) rs → Calls Tryz.prog 18 #[.agg #[.slice (some ⟨g, 0, none⟩) l.length cap, .int .i64 wi], .agg #[.slice sa l.length sc, .int .i64 wi]] W fun e w' => e = .returned (.bool true) ∧ Kp [] W w')) := hide (fun g cap rs e => by
    have he : (⟨stgs rs, wi⟩ : Ptn) = P := by rw [hP, e]
    have hlr := rs_len e
    refine ⟨fun lo ta W hk hs => ?_, fun W hk hs => ?_, fun W hk hs => ?_, fun W hk hs => ?_, fun W hk hs => ?_⟩
    · have := nstep_any (some ⟨g, 0, none⟩) cap rs wi n lo ta W hs (hT.kp hk (by simp)) (rs_ok e hok) (by omega)
      rwa [he, hlr] at this
    · have := nfinal_any (some ⟨g, 0, none⟩) cap rs wi n W hs (hT.kp hk (by simp)) (rs_ok e hok) (by omega)
      rwa [he, hlr] at this
    · have := nbegun_any (some ⟨g, 0, none⟩) cap rs wi E W hs (hT.kp hk (by simp)) (rs_ok e hok) (by omega)
      rwa [he, hlr] at this
    · have := ncheck_any (some ⟨g, 0, none⟩) cap rs wi n W hs (hT.kp hk (by simp)) (rs_ok e hok) (by omega)
      rwa [he, hlr] at this
    · have := samePattern_true (some ⟨g, 0, none⟩) sa cap sc rs l wi W hs (h.kp hk) e (by omega) (rs_cd e hw3)
      rwa [hlr] at this)
  have WK := hide (fun W (hk : Kp [] w W) => nworks_any W (hT.kp hk (by simp)))
  rw [← hP] at RS RF RB RC
  clear h hok hl hT hw1 hw2 hw3 hHv hP
  obtain ⟨L, hL⟩ : ∃ L, stgs l = L := ⟨_, rfl⟩
  rw [hL] at CP OWN
  clear hL
  generalize l.length = nn at *
  obtain ⟨⟨p0, p1⟩, c0, c1, c2⟩ := B0.cells
  have HB0 := hide B0
  have HNC : Hid (n.c = #[.int .i64 n.st, .bool n.lp, .bool n.tk]) := hide rfl
  rw [unhide HNC] at HB0 p0 p1 c0 c1 c2 CP RS RF RC OWN ⊢
  clear B0
  go_enter Tryz.func3, Tryz.ntmps3
  go_wp2_with fail
  refine (unhide CP).mono ?_
  rintro e w1 ⟨g, cap, rs, rfl, hsr, hse, hcap, hk1, hg, -⟩
  obtain ⟨oS, oF, oB, oC, oM⟩ := unhide OWN g cap rs hse
  have ka := Kp.alloc w1 (.cells #[.slice (some ⟨g, 0, none⟩) nn cap, .int .i64 wi] 24)
  have hbo := CBox.new w1 #[.slice (some ⟨g, 0, none⟩) nn cap, .int .i64 wi] 24
  obtain ⟨go, hgo⟩ : ∃ go, w1.heap.size = go := ⟨_, rfl⟩
  rw [hgo] at hbo
  have HV : Hid (∀ W, Kp [] (w1.alloc (.cells #[.slice (some ⟨g, 0, none⟩) nn cap, .int .i64 wi] 24)) W → (W.cell? ⟨w.heap.size, 0, none⟩ = some (.slice sa nn sc) ∧ W.cell? ⟨w.heap.size, 1, none⟩ = some (.int .i64 wi) ∧ W.cell? ⟨w.heap.size + 1, 0, none⟩ = some (.int .i64 n.st) ∧ W.cell? ⟨w.heap.size + 1, 1, none⟩ = some (.bool n.lp) ∧ W.cell? ⟨w.heap.size + 1, 2, none⟩ = some (.bool n.tk) ∧ W.cell? ⟨go, 0, none⟩ = some (.slice (some ⟨g, 0, none⟩) nn cap) ∧ W.cell? ⟨go, 1, none⟩ = some (.int .i64 wi)) ∧ Hid (Kp [] w W ∧ StsAt W (some ⟨g, 0, none⟩) rs)) := hide (fun W hk => by
    have hb := (((unhide HB0).kp hk1).kp ka).kp hk
    obtain ⟨⟨q0, q1⟩, q2, q3, q4⟩ := hb.cells
    exact ⟨⟨q0, q1, q2, q3, q4, (hbo.kp hk (by simp)).cell rfl, (hbo.kp hk (by simp)).cell rfl⟩, hide ⟨hb.k, (hsr.kp ka).kp hk⟩⟩)
  have OS := hide (fun lo ta W (hk : Kp [] _ W) => oS lo ta W (unhide (unhide HV W hk).2).1 (unhide (unhide HV W hk).2).2)
  have OF := hide (fun W (hk : Kp [] _ W) => oF W (unhide (unhide HV W hk).2).1 (unhide (unhide HV W hk).2).2)
  have OB := hide (fun W (hk : Kp [] _ W) => oB W (unhide (unhide HV W hk).2).1 (unhide (unhide HV W hk).2).2)
  have OC := hide (fun W (hk : Kp [] _ W) => oC W (unhide (unhide HV W hk).2).1 (unhide (unhide HV W hk).2).2)
  have OM := hide (fun W (hk : Kp [] _ W) => oM W (unhide (unhide HV W hk).2).1 (unhide (unhide HV W hk).2).2)
  have QS := hide (fun lo ta W (hk : Kp [] _ W) => unhide RS lo ta W (unhide (unhide HV W hk).2).1)
  have QF := hide (fun W (hk : Kp [] _ W) => unhide RF W (unhide (unhide HV W hk).2).1)
  have QB := hide (fun W (hk : Kp [] _ W) => unhide RB W (unhide (unhide HV W hk).2).1)
  have QC := hide (fun W (hk : Kp [] _ W) => unhide RC W (unhide (unhide HV W hk).2).1)
  have QW := hide (fun W (hk : Kp [] _ W) => unhide WK W (unhide (unhide HV W hk).2).1)
  clear CP OWN RS RF RB RC WK oS oF oB oC oM ka hbo hsr hse hk1 HB0 p0 p1 c0 c1 c2 hcap hg
  go_upto_region 2 with fail
  generalize w1.alloc (.cells #[.slice (some ⟨g, 0, none⟩) nn cap, .int .i64 wi] 24) = V at *
  clear hgo
  go_cut [8, 9] (fun u v wc => ∃ lo ta : Bool, u = .bool lo ∧ v = .bool ta ∧ wc = V)
  case first =>
    clear HV OS OF OB OC OM QS QF QB QC QW
    go_wp2
    go_meet
    exact ⟨_, _, rfl, rfl, rfl⟩
  case rest =>
  obtain ⟨lo, ta, rfl, rfl, hwc⟩ := hcut
  subst hwc
  have OS1 := hide (unhide OS lo ta)
  have QS1 := hide (unhide QS lo ta)
  clear OS QS
  generalize nsS P n lo ta = X at *
  generalize nkE P n = R at *
  generalize nfB P n = F at *
  generalize nbN P E = B at *
  generalize nbE P E = BE at *
  have HXC : Hid (X.c = #[.int .i64 X.lp.st, .bool X.lp.lp, .bool X.lp.tk, .int .i64 X.tk.st, .bool X.tk.lp, .bool X.tk.tk, .int .i64 X.wt.st, .bool X.wt.lp, .bool X.wt.tk, .bool X.cl, .bool X.ct, .bool X.cw]) := hide rfl
  have HBC : Hid (B.c = #[.int .i64 B.st, .bool B.lp, .bool B.tk]) := hide rfl
  rw [unhide HXC] at OS1 QS1
  rw [unhide HBC] at OB QB
  obtain ⟨⟨q0, q1, q2, q3, q4, q5, q6⟩, -⟩ := unhide HV wc (Kp.refl _ _)
  go_wp2_with fail
  refine (unhide OS1 _ (Kp.refl _ _)).mono ?_
  rintro e w2 ⟨rfl, hk2⟩
  have K2 := hide (hk2.trans (Kp.alloc w2 (.cells #[.int .i64 X.lp.st, .bool X.lp.lp, .bool X.lp.tk, .int .i64 X.tk.st, .bool X.tk.lp, .bool X.tk.tk, .int .i64 X.wt.st, .bool X.wt.lp, .bool X.wt.tk, .bool X.cl, .bool X.ct, .bool X.cw] 29)) (by simp))
  have X2 := hide (CBox.new w2 #[.int .i64 X.lp.st, .bool X.lp.lp, .bool X.lp.tk, .int .i64 X.tk.st, .bool X.tk.lp, .bool X.tk.tk, .int .i64 X.wt.st, .bool X.wt.lp, .bool X.wt.tk, .bool X.cl, .bool X.ct, .bool X.cw] 29)
  obtain ⟨gx, hgx⟩ : ∃ gx, w2.heap.size = gx := ⟨_, rfl⟩
  rw [hgx] at X2
  obtain ⟨⟨r0, r1, r2, r3, r4, r5, r6⟩, -⟩ := unhide HV _ (unhide K2)
  clear q0 q1 q2 q3 q4 q5 q6 hk2 OS1
  go_wp2_with fail
  generalize w2.alloc (.cells #[.int .i64 X.lp.st, .bool X.lp.lp, .bool X.lp.tk, .int .i64 X.tk.st, .bool X.tk.lp, .bool X.tk.tk, .int .i64 X.wt.st, .bool X.wt.lp, .bool X.wt.tk, .bool X.cl, .bool X.ct, .bool X.cw] 29) = V2 at *
  clear hgx
  refine (unhide QS1 _ (unhide K2)).mono ?_
  rintro e w3 ⟨rfl, hk3⟩
  have k3 := hk3.trans (Kp.alloc w3 (.cells #[.int .i64 X.lp.st, .bool X.lp.lp, .bool X.lp.tk, .int .i64 X.tk.st, .bool X.tk.lp, .bool X.tk.tk, .int .i64 X.wt.st, .bool X.wt.lp, .bool X.wt.tk, .bool X.cl, .bool X.ct, .bool X.cw] 29)) (by simp)
  have K3 := hide ((unhide K2).trans k3 (by simp))
  have X3 := hide ((unhide X2).kp k3 (by simp))
  have Y3 := hide (CBox.new w3 #[.int .i64 X.lp.st, .bool X.lp.lp, .bool X.lp.tk, .int .i64 X.tk.st, .bool X.tk.lp, .bool X.tk.tk, .int .i64 X.wt.st, .bool X.wt.lp, .bool X.wt.tk, .bool X.cl, .bool X.ct, .bool X.cw] 29)
  obtain ⟨gy, hgy⟩ : ∃ gy, w3.heap.size = gy := ⟨_, rfl⟩
  rw [hgy] at Y3
  obtain ⟨⟨q0, q1, q2, q3, q4, q5, q6⟩, -⟩ := unhide HV _ (unhide K3)
  clear r0 r1 r2 r3 r4 r5 r6 hk3 k3 QS1 X2 K2
  go_wp2_with fail
  generalize w3.alloc (.cells #[.int .i64 X.lp.st, .bool X.lp.lp, .bool X.lp.tk, .int .i64 X.tk.st, .bool X.tk.lp, .bool X.tk.tk, .int .i64 X.wt.st, .bool X.wt.lp, .bool X.wt.tk, .bool X.cl, .bool X.ct, .bool X.cw] 29) = V3 at *
  clear hgy
  refine (unhide OF _ (unhide K3)).mono ?_
  rintro e w4 ⟨rfl, hk4⟩
  have K4 := hide ((unhide K3).trans hk4 (by simp))
  have X4 := hide ((unhide X3).kp hk4 (by simp))
  have Y4 := hide ((unhide Y3).kp hk4 (by simp))
  obtain ⟨⟨r0, r1, r2, r3, r4, r5, r6⟩, -⟩ := unhide HV _ (unhide K4)
  clear q0 q1 q2 q3 q4 q5 q6 hk4 OF X3 Y3 K3
  go_wp2_with fail
  refine (unhide QF _ (unhide K4)).mono ?_
  rintro e w5 ⟨rfl, hk5⟩
  have K5 := hide ((unhide K4).trans hk5 (by simp))
  have X5 := hide ((unhide X4).kp hk5 (by simp))
  have Y5 := hide ((unhide Y4).kp hk5 (by simp))
  obtain ⟨⟨q0, q1, q2, q3, q4, q5, q6⟩, -⟩ := unhide HV _ (unhide K5)
  clear r0 r1 r2 r3 r4 r5 r6 hk5 QF X4 Y4 K4
  go_wp2_with fail
  refine (unhide OB _ (unhide K5)).mono ?_
  rintro e w6 ⟨rfl, hk6⟩
  have k6 := hk6.trans (Kp.alloc w6 (.cells #[.int .i64 B.st, .bool B.lp, .bool B.tk] 26)) (by simp)
  have K6 := hide ((unhide K5).trans k6 (by simp))
  have X6 := hide ((unhide X5).kp k6 (by simp))
  have Y6 := hide ((unhide Y5).kp k6 (by simp))
  have C6 := hide (CBox.new w6 #[.int .i64 B.st, .bool B.lp, .bool B.tk] 26)
  obtain ⟨gc, hgc⟩ : ∃ gc, w6.heap.size = gc := ⟨_, rfl⟩
  rw [hgc] at C6
  obtain ⟨⟨r0, r1, r2, r3, r4, r5, r6⟩, -⟩ := unhide HV _ (unhide K6)
  clear q0 q1 q2 q3 q4 q5 q6 hk6 k6 OB X5 Y5 K5
  go_wp2_with fail
  generalize w6.alloc (.cells #[.int .i64 B.st, .bool B.lp, .bool B.tk] 26) = V6 at *
  clear hgc
  refine (unhide QB _ (unhide K6)).mono ?_
  rintro e w7 ⟨rfl, hk7⟩
  have k7 := hk7.trans (Kp.alloc w7 (.cells #[.int .i64 B.st, .bool B.lp, .bool B.tk] 26)) (by simp)
  have K7 := hide ((unhide K6).trans k7 (by simp))
  have X7 := hide ((unhide X6).kp k7 (by simp))
  have Y7 := hide ((unhide Y6).kp k7 (by simp))
  have C7 := hide ((unhide C6).kp k7 (by simp))
  have D7 := hide (CBox.new w7 #[.int .i64 B.st, .bool B.lp, .bool B.tk] 26)
  obtain ⟨gd, hgd⟩ : ∃ gd, w7.heap.size = gd := ⟨_, rfl⟩
  rw [hgd] at D7
  clear r0 r1 r2 r3 r4 r5 r6 hk7 k7 QB X6 Y6 C6 K6
  have EX := fun W => eqS 9997 X X W
  have EB := fun W => eqN 9998 B B W
  rw [spE_self, unhide HXC] at EX
  rw [ndE_self, unhide HBC] at EB
  have rr : (R == R) = true := by simp
  have ff : (F == F) = true := by simp
  have bb : (BE == BE) = true := by simp
  go_wp2_with fail
  generalize w7.alloc (.cells #[.int .i64 B.st, .bool B.lp, .bool B.tk] 26) = V7 at *
  clear hgd
  have HSK : Hid (∀ W, Kp [] V7 W → (W.cell? ⟨w.heap.size, 0, none⟩ = some (.slice sa nn sc) ∧ W.cell? ⟨w.heap.size, 1, none⟩ = some (.int .i64 wi) ∧ W.cell? ⟨w.heap.size + 1, 0, none⟩ = some (.int .i64 n.st) ∧ W.cell? ⟨w.heap.size + 1, 1, none⟩ = some (.bool n.lp) ∧ W.cell? ⟨w.heap.size + 1, 2, none⟩ = some (.bool n.tk) ∧ W.cell? ⟨go, 0, none⟩ = some (.slice (some ⟨g, 0, none⟩) nn cap) ∧ W.cell? ⟨go, 1, none⟩ = some (.int .i64 wi)) ∧ (W.cell? ⟨gx, 0, none⟩ = some (.int .i64 X.lp.st) ∧ W.cell? ⟨gx, 1, none⟩ = some (.bool X.lp.lp) ∧ W.cell? ⟨gx, 2, none⟩ = some (.bool X.lp.tk) ∧ W.cell? ⟨gx, 3, none⟩ = some (.int .i64 X.tk.st) ∧ W.cell? ⟨gx, 4, none⟩ = some (.bool X.tk.lp) ∧ W.cell? ⟨gx, 5, none⟩ = some (.bool X.tk.tk) ∧ W.cell? ⟨gx, 6, none⟩ = some (.int .i64 X.wt.st) ∧ W.cell? ⟨gx, 7, none⟩ = some (.bool X.wt.lp) ∧ W.cell? ⟨gx, 8, none⟩ = some (.bool X.wt.tk) ∧ W.cell? ⟨gx, 9, none⟩ = some (.bool X.cl) ∧ W.cell? ⟨gx, 10, none⟩ = some (.bool X.ct) ∧ W.cell? ⟨gx, 11, none⟩ = some (.bool X.cw)) ∧ (W.cell? ⟨gy, 0, none⟩ = some (.int .i64 X.lp.st) ∧ W.cell? ⟨gy, 1, none⟩ = some (.bool X.lp.lp) ∧ W.cell? ⟨gy, 2, none⟩ = some (.bool X.lp.tk) ∧ W.cell? ⟨gy, 3, none⟩ = some (.int .i64 X.tk.st) ∧ W.cell? ⟨gy, 4, none⟩ = some (.bool X.tk.lp) ∧ W.cell? ⟨gy, 5, none⟩ = some (.bool X.tk.tk) ∧ W.cell? ⟨gy, 6, none⟩ = some (.int .i64 X.wt.st) ∧ W.cell? ⟨gy, 7, none⟩ = some (.bool X.wt.lp) ∧ W.cell? ⟨gy, 8, none⟩ = some (.bool X.wt.tk) ∧ W.cell? ⟨gy, 9, none⟩ = some (.bool X.cl) ∧ W.cell? ⟨gy, 10, none⟩ = some (.bool X.ct) ∧ W.cell? ⟨gy, 11, none⟩ = some (.bool X.cw)) ∧ (W.cell? ⟨gc, 0, none⟩ = some (.int .i64 B.st) ∧ W.cell? ⟨gc, 1, none⟩ = some (.bool B.lp) ∧ W.cell? ⟨gc, 2, none⟩ = some (.bool B.tk)) ∧ (W.cell? ⟨gd, 0, none⟩ = some (.int .i64 B.st) ∧ W.cell? ⟨gd, 1, none⟩ = some (.bool B.lp) ∧ W.cell? ⟨gd, 2, none⟩ = some (.bool B.tk))) := hide (fun W hk => by
    obtain ⟨qb, -⟩ := unhide HV W ((unhide K7).trans hk (by simp))
    exact ⟨qb, st12_cells (s := X) ((unhide X7).kp hk (by simp)), st12_cells (s := X) ((unhide Y7).kp hk (by simp)), nd_cells (n := B) ((unhide C7).kp hk (by simp)), nd_cells (n := B) ((unhide D7).kp hk (by simp))⟩)
  have HK0 : Hid (Kp [] V7 V7.drew) := hide (Kp.drew V7)
  have HB7 : Hid (∀ W, Kp [] V7 W → Kp [] wc W) := hide (fun W hk => (unhide K7).trans hk (by simp))
  clear X7 Y7 C7 D7
  go_region_held3 (fun W => (W.cell? ⟨w.heap.size, 0, none⟩ = some (.slice sa nn sc) ∧ W.cell? ⟨w.heap.size, 1, none⟩ = some (.int .i64 wi) ∧ W.cell? ⟨w.heap.size + 1, 0, none⟩ = some (.int .i64 n.st) ∧ W.cell? ⟨w.heap.size + 1, 1, none⟩ = some (.bool n.lp) ∧ W.cell? ⟨w.heap.size + 1, 2, none⟩ = some (.bool n.tk) ∧ W.cell? ⟨go, 0, none⟩ = some (.slice (some ⟨g, 0, none⟩) nn cap) ∧ W.cell? ⟨go, 1, none⟩ = some (.int .i64 wi)) ∧ (W.cell? ⟨gx, 0, none⟩ = some (.int .i64 X.lp.st) ∧ W.cell? ⟨gx, 1, none⟩ = some (.bool X.lp.lp) ∧ W.cell? ⟨gx, 2, none⟩ = some (.bool X.lp.tk) ∧ W.cell? ⟨gx, 3, none⟩ = some (.int .i64 X.tk.st) ∧ W.cell? ⟨gx, 4, none⟩ = some (.bool X.tk.lp) ∧ W.cell? ⟨gx, 5, none⟩ = some (.bool X.tk.tk) ∧ W.cell? ⟨gx, 6, none⟩ = some (.int .i64 X.wt.st) ∧ W.cell? ⟨gx, 7, none⟩ = some (.bool X.wt.lp) ∧ W.cell? ⟨gx, 8, none⟩ = some (.bool X.wt.tk) ∧ W.cell? ⟨gx, 9, none⟩ = some (.bool X.cl) ∧ W.cell? ⟨gx, 10, none⟩ = some (.bool X.ct) ∧ W.cell? ⟨gx, 11, none⟩ = some (.bool X.cw)) ∧ (W.cell? ⟨gy, 0, none⟩ = some (.int .i64 X.lp.st) ∧ W.cell? ⟨gy, 1, none⟩ = some (.bool X.lp.lp) ∧ W.cell? ⟨gy, 2, none⟩ = some (.bool X.lp.tk) ∧ W.cell? ⟨gy, 3, none⟩ = some (.int .i64 X.tk.st) ∧ W.cell? ⟨gy, 4, none⟩ = some (.bool X.tk.lp) ∧ W.cell? ⟨gy, 5, none⟩ = some (.bool X.tk.tk) ∧ W.cell? ⟨gy, 6, none⟩ = some (.int .i64 X.wt.st) ∧ W.cell? ⟨gy, 7, none⟩ = some (.bool X.wt.lp) ∧ W.cell? ⟨gy, 8, none⟩ = some (.bool X.wt.tk) ∧ W.cell? ⟨gy, 9, none⟩ = some (.bool X.cl) ∧ W.cell? ⟨gy, 10, none⟩ = some (.bool X.ct) ∧ W.cell? ⟨gy, 11, none⟩ = some (.bool X.cw)) ∧ (W.cell? ⟨gc, 0, none⟩ = some (.int .i64 B.st) ∧ W.cell? ⟨gc, 1, none⟩ = some (.bool B.lp) ∧ W.cell? ⟨gc, 2, none⟩ = some (.bool B.tk)) ∧ (W.cell? ⟨gd, 0, none⟩ = some (.int .i64 B.st) ∧ W.cell? ⟨gd, 1, none⟩ = some (.bool B.lp) ∧ W.cell? ⟨gd, 2, none⟩ = some (.bool B.tk)))
    (first | exact unhide HSK _ (unhide (by with_reducible assumption)))
    (first
      | (go_at_call 19; (refine (unhide QW _ (unhide HB7 _ (unhide HK3))).mono ?_); rintro r z4 ⟨rfl, hz4⟩; have HK4 := hide ((unhide HK3).trans hz4 (by simp)); clear hz4)
      | (go_at_call 18; (refine (unhide OM _ (unhide HB7 _ (unhide HK2))).mono ?_); rintro r z3 ⟨rfl, hz3⟩; have HK3 := hide ((unhide HK2).trans hz3 (by simp)); clear hz3)
      | (go_at_call 17; (refine (unhide QC _ (unhide HB7 _ (unhide HK1))).mono ?_); rintro r z2 ⟨rfl, hz2⟩; have HK2 := hide ((unhide HK1).trans hz2 (by simp)); clear hz2)
      | (go_at_call 16; (refine (unhide OC _ (unhide HB7 _ (unhide HK0))).mono ?_); rintro r z1 ⟨rfl, hz1⟩; have HK1 := hide ((unhide HK0).trans hz1 (by simp)); clear hz1))
  go_wp2
  go_ret
  have hfin := unhide (unhide HV _ (unhide HB7 _ (unhide HK4))).2
  exact ⟨rfl, hfin.1⟩
end Go.Proofs.YtgcmfcidmmjfiaaGreatDoor
namespace Go.Proofs.YtgcmfcidmmjfiaaGreatDoor.nfaSteps
open Go.ChangeShapes Go.WideShapes Go.ChangeAt Go.RowKit
open Go.ChangeMaps (open_string shut_string)

theorem own : ownKnob Tryz.prog.godebug = none := by kernel_rfl
theorem laidOut : laidOutB Tryz.prog = true := by kernel_rfl
set_option maxRecDepth 100000 in
/-- What the walk gives, for every argument and every world that holds the table. -/
theorem contract (H : Type) (enc : TypeId × Value → H) (W : World) (base : Nat) (args : Array Value) (ds gs : List (DataW H)) (before : List MemPlace)
    (hval : ∀ (j : Nat) t v, Tryz.f3.params[j]? = some t → args[j]? = some v → Value.okWide Tryz.prog W .any base t v)
    (hW : DataW.Whole enc Tryz.prog Tryz.f3.params.toList Rows.nfaStepsSpec.vars false W args.toList ds gs before) (hsz0 : (DataW.weightsEach Tryz.prog (Tryz.f3.params.toList ++ (OpenSpec.ofChange Rows.nfaStepsSpec).bare.plain.varTypes Tryz.prog) (ds ++ gs)).all (· ≤ reachBytes) = true) (hL : laidMetH Tryz.prog Rows.nfaStepsRow.laid W) :
    Calls Tryz.prog 3 args W fun e W' => ∃ v, e = .returned v ∧ Rows.nfaStepsSpec.post enc Tryz.prog Tryz.f3 false true false false W args v W' := by
  have hW' := hW
  obtain ⟨p, q, hA0, hV, rfl, hfz, hnd⟩ := hW
  have hA : DataW.TrodAll enc Tryz.prog W 0 (fun _ => true) true Tryz.f3.params.toList args.toList ds p := hA0
  rw [Tryz.params3] at hA hval
  have hsz : (DataW.weightsEach Tryz.prog (Tryz.f3.params.toList ++ Rows.nfaStepsSpec.plain.varTypes Tryz.prog) (ds ++ gs)).all (· ≤ reachBytes) = true := hsz0
  rw [Tryz.params3] at hsz
  obtain ⟨v0, vs0, d0, ds0, p0, q0, hargs, rfl, rfl, h0, r0⟩ := trodAll_cons hA
  obtain ⟨v1, vs1, d1, ds1, p1, q1, rfl, rfl, rfl, h1, r1⟩ := trodAll_cons r0
  obtain ⟨v2, vs2, d2, ds2, p2, q2, rfl, rfl, rfl, h2, r2⟩ := trodAll_cons r1
  obtain ⟨rfl, rfl, rfl⟩ := trodAll_nil r2
  obtain rfl : args = #[v0, v1, v2] := by cases args; simp_all
  obtain ⟨rfl, rfl⟩ := trodVars_none hV
  have z0 : ∀ n ∈ d0.weights Tryz.prog 24, n ≤ reachBytes := fun n hn => of_decide_eq_true (List.all_eq_true.1 hsz n (DataW.weights_mem_each (j := 0) (t := 24) (d := d0) rfl rfl n hn))
  have h0k := h0
  obtain ⟨cs0, rfl, y0⟩ := okWide_struct Tryz.underlying24 (hval 0 24 v0 rfl rfl)
  obtain ⟨fuel0, hf0⟩ := h0
  obtain ⟨sa0, sc0, st0, wi0, rfl, b10, b20, b30, b40, b50⟩ := open_pattern y0 (by simpa [Value.cells] using hf0)
  clear hf0
  have h1k := h1
  obtain ⟨cs1, rfl, z1⟩ := okWide_struct Tryz.underlying26 (hval 1 26 v1 rfl rfl)
  obtain ⟨fuel1, hf1⟩ := h1
  obtain ⟨nd1, rfl⟩ := open_node z1 (by simpa [Value.cells] using hf1)
  clear hf1
  obtain ⟨x2, rfl, rfl, rfl, wx2⟩ := open_int Tryz.underlying3 (hval 2 3 v2 rfl rfl) h2
  clear hA0
  simp only [List.append_nil] at hW'
  have hlt0 : ∀ x ∈ p0, x.block < W.heap.size := fun x hx => by simpa using hW'.lt x (by simp [hx])
  have hlt1 : ∀ x ∈ p1, x.block < W.heap.size := fun x hx => by simpa using hW'.lt x (by simp [hx])
  refine (nsteps_walk sa0 sc0 st0 wi0 nd1 x2 W b10 b20 b30 (b50 z0) (tbE hL)).mono fun e W' ⟨he, hg0⟩ => ?_
  subst he
  have hg := hg0.below (Nat.le_refl W.heap.size) (by simp)
  exact ⟨_, rfl, _, _, _, [], p0 ++ (p1 ++ ([] ++ [])), [], hW', trodAll_cons_mk (shut_bool Tryz.underlying4 _) trodAll_mk0, trodAll_cons_mk (Below.trod laidOut (by kernel_rfl) (of_decide_eq_true (by kernel_rfl)) h0k hg hlt0) (trodAll_cons_mk (Below.trod laidOut (by kernel_rfl) (of_decide_eq_true (by kernel_rfl)) h1k hg hlt1) (trodAll_cons_mk (shut_int Tryz.underlying3 wx2) trodAll_mk0)), rfl, hg.frame _, fun h => by cases h⟩

theorem laid_met (os : Os) : laidMet Tryz.prog Rows.nfaStepsRow.laid ({ World.holding Tryz.prog os ⟨errBlks, #[], []⟩ with heap := putL (World.holding Tryz.prog os ⟨errBlks, #[], []⟩).heap }.forCall (fun _ _ => 0) ⟨#[], #[.agg #[.slice none 0 0, .int .i64 0], .agg #[.int .i64 0, .bool false, .bool false], .int .i64 0], []⟩).memory :=
  laidMet_of_run' 8 (by kernel_rfl) (by kernel_rfl)
theorem reads (os : Os) {H : Type} (enc : TypeId × Value → H) : ∃ places, DataW.whole enc Tryz.prog ({ World.holding Tryz.prog os ⟨errBlks, #[], []⟩ with heap := putL (World.holding Tryz.prog os ⟨errBlks, #[], []⟩).heap }.forCall (fun _ _ => 0) ⟨#[], #[.agg #[.slice none 0 0, .int .i64 0], .agg #[.int .i64 0, .bool false, .bool false], .int .i64 0], []⟩).memory Tryz.f3.params.toList Rows.nfaStepsSpec.vars false #[Value.agg #[.slice none 0 0, .int .i64 0], Value.agg #[.int .i64 0, .bool false, .bool false], Value.int .i64 0].toList 8 = some ([.agg [.nil, .lit (.int .i64 0)], .agg [.lit (.int .i64 0), .lit (.bool false), .lit (.bool false)], .lit (.int .i64 0)], [], places) :=
  ⟨[], by kernel_rfl⟩
set_option maxRecDepth 100000 in
theorem lifted (os : Os) (started : os.Started) (H : Type) (enc : TypeId × Value → H) (F : Stop.Interp) :
    ReturnsInHanded {} Tryz.checked os 3 .any ((OpenSpec.ofChange Rows.nfaStepsSpec).preRow enc Tryz.prog Tryz.f3 Rows.nfaStepsRow.domain false Rows.nfaStepsRow.laid) (((OpenSpec.ofChange Rows.nfaStepsSpec).at F).post enc Tryz.prog Tryz.f3 false true false false) := by
  obtain ⟨places, hx⟩ := reads os enc
  refine returnsInHanded_of_row (C := Tryz.checked) (s := OpenSpec.ofChange Rows.nfaStepsSpec) own started (by kernel_rfl) Tryz.func3
    (witness_row_at (enc := enc) (C := Tryz.checked) false { World.holding Tryz.prog os ⟨errBlks, #[], []⟩ with heap := putL (World.holding Tryz.prog os ⟨errBlks, #[], []⟩).heap } #[.agg #[.slice none 0 0, .int .i64 0], .agg #[.int .i64 0, .bool false, .bool false], .int .i64 0] rfl (by kernel_rfl) (by kernel_rfl) (by kernel_rfl)
      (OpenSpec.preRow_of_cond 8 hx (by kernel_rfl) (fun k hk => by cases hk) (by kernel_rfl) (laid_met os))) ?_
  intro W base args ds gs before hval hW _ _ hsz hL _ _
  exact contract H enc W base args ds gs before hval hW hsz hL
theorem said : Rows.NfaStepsSaid :=
  OpenClaim.holds_of_cond 3 Tryz.f3 rfl rfl rfl rfl rfl rfl rfl ⟨rfl, rfl, rfl, rfl, rfl⟩ rfl rfl rfl rfl rfl (by kernel_rfl) Tryz.func3 (by kernel_rfl)
    (of_decide_eq_true (by kernel_rfl)) (by unfold Func.isWrapper; first | (rw [if_pos (by decide +kernel)]; kernel_rfl) | (rw [if_neg (by decide +kernel)]; exact ⟨rfl, rfl⟩))
    (fun os started H enc _ F => by rw [OpenClaim.pre_eq_preRow]; exact lifted os started H enc F)
/-- No parameter wants a stand-in; the program's own looks are off. -/
theorem plain (f : FuncId) (fn : Func) (hf : Tryz.pinned.checked.prog.funcNamed "weaver/weaverlaw13.NfaSteps" = some f) (hfn : Tryz.pinned.checked.prog.funcs[f]? = some fn) :
    true = Tryz.pinned.checked.prog.looks [] ∧ ∀ (j : Nat) t, fn.params[j]? = some t → Tryz.pinned.checked.prog.wantsStandIn t = false := by
  obtain rfl : f = 3 := Option.some.inj ((show Tryz.prog.funcNamed "weaver/weaverlaw13.NfaSteps" = some 3 by kernel_rfl).symm.trans hf) |>.symm
  obtain rfl : fn = Tryz.f3 := (Option.some.inj (Tryz.func3.symm.trans hfn)).symm
  refine ⟨by kernel_rfl, fun j t ht => ?_⟩
  rw [Tryz.params3] at ht
  have hm := Array.mem_of_getElem? ht
  simp at hm
  rcases hm with rfl | rfl | rfl
  · exact (show Tryz.prog.wantsStandIn 24 = false by kernel_rfl)
  · exact (show Tryz.prog.wantsStandIn 26 = false by kernel_rfl)
  · exact (show Tryz.prog.wantsStandIn 3 = false by kernel_rfl)
end Go.Proofs.YtgcmfcidmmjfiaaGreatDoor.nfaSteps
namespace Go.Proofs.YtgcmfcidmmjfiaaGreatDoor
/-- The card. -/
theorem nfaSteps_card : Rows.NfaStepsCardSaid :=
  Claim7.holds_tied_plain_at .later [] _ _ _ _ nfaSteps.said (fun _ h => by cases h) (by kernel_rfl) (fun _ h => by cases h) nfaSteps_row_tie rfl ⟨rfl, rfl⟩ (by kernel_rfl) rfl nfaSteps.plain (by kernel_rfl)
end Go.Proofs.YtgcmfcidmmjfiaaGreatDoor
