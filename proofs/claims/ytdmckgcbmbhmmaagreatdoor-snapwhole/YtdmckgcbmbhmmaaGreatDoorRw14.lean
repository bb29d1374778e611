/-
  add: a change that waits; Sync, Remove, Rename, Cut, Read, Write of a disk.
  Sync, Remove, Rename, Cut, Read of a disk.
  Cut, Read of a disk.
  Write of a disk.
-/
import Derived.Test.YtdmckgcbmbhmmaaGreatDoorRw13
import Derived.Deep.AppendLies
import Derived.SliceStrings
namespace Go.Proofs.YtdmckgcbmbhmmaaGreatDoor
open Go.RowKit

section
variable {w w1 w2 : World} {p : Nat} {F : List Nat} {d d1 d2 : Dk}
theorem Did.then (h : Did w F p d1 w1) (hn : ∀ F1, DiskAt w1 p d1 F1 → Did w1 F1 p d2 w2) : Did w F p d2 w2 := by
  obtain ⟨F1, hd, hk, hF⟩ := h
  obtain ⟨F2, hd2, hk2, hF2⟩ := hn F1 hd
  refine ⟨F2, hd2, hk.trans hk2 hF, fun k hm => ?_⟩
  rcases hF2 k hm with h1 | h1
  · exact hF k h1
  · have := hk.size; exact Or.inr (by omega)
theorem Did.pre (hk : Kp [] w w1) (hn : Did w1 F p d1 w2) : Did w F p d1 w2 := by
  obtain ⟨F2, hd2, hk2, hF2⟩ := hn
  refine ⟨F2, hd2, (hk.mono (by simp)).trans hk2 (fun x hx => Or.inl hx), fun k hm => ?_⟩
  rcases hF2 k hm with h1 | h1
  · exact Or.inl h1
  · have := hk.size; exact Or.inr (by omega)
end
theorem chV_one (c : Chg) : (chV c).oneCell' = true := by cases c <;> rfl
theorem DkAt.newWait {w w1 : World} {p bs bn : Nat} {wv v' : Value} {Ls Ln : List Nat} {d : Dk} {cs : List Chg} (h : DkAt w p bs bn wv Ls Ln d) (hg : w.grownBy w1 wv.ownBlock) (hw : WaitsAt w1 v' cs) (hl : v'.ownBlock = wv.ownBlock ∨ v'.ownBlock = some w.heap.size) :
    DkAt (w1.setCell ⟨p, 2, none⟩ v') p bs bn v' Ls Ln { d with wait := cs } ∧ Kp (foot p bs bn wv Ls Ln) w (w1.setCell ⟨p, 2, none⟩ v') ∧ ∀ k ∈ foot p bs bn v' Ls Ln, k ∈ foot p bs bn wv Ls Ln ∨ w.heap.size ≤ k := by
  obtain ⟨q1, q2, q3, q4, q5, q6, q7, q8, q9⟩ := h.pm
  have nw : ∀ k, (∀ j, wv.ownBlock = some j → j ≠ k) → k ∉ wv.ownBlock.toList := fun k hk hm => hk k (by simpa using hm) rfl
  have np : ∀ k, k ≠ p → k ∉ [p] := fun k hk hm => hk (by simpa using hm)
  have k1 := Kp.of hg
  have k2 := kp_set w1 p 2 v'
  have b1 := h.box.kp k1 (nw p (fun j hj => (q3 j hj).1))
  have s1 := (h.safe.kp k1 (nw bs (fun j hj => (q3 j hj).2.1)) (fun k hm => nw k (fun j hj e => (q3 j hj).2.2.2.1 (by rw [e]; exact hm)))).kp k2 (np _ q1.symm) (fun k hm => np k (fun e => q4 (by rw [← e]; exact hm)))
  have n1 := (h.now.kp k1 (nw bn (fun j hj => (q3 j hj).2.2.1)) (fun k hm => nw k (fun j hj e => (q3 j hj).2.2.2.2 (by rw [e]; exact hm)))).kp k2 (np _ q2.symm) (fun k hm => np k (fun e => q5 (by rw [← e]; exact hm)))
  have hlt := h.lt
  refine ⟨⟨b1.set 2 v', s1, n1, hw.kp k2 (fun k hk => np k ?_), h.ne, h.dis⟩, (k1.mono (by unfold foot; simp; intro a ha; simp [ha])).trans k2 (by unfold foot; simp), fun k hk => ?_⟩
  · rcases hl with h1 | h1
    · exact (q3 k (by rw [← h1]; exact hk)).1
    · rw [h1] at hk; simp at hk; omega
  · unfold foot at *
    simp only [List.mem_cons, List.mem_append, Option.mem_toList] at hk ⊢
    rcases hk with h1 | h1 | h1 | h1 | h1
    · exact Or.inl (Or.inl h1)
    · exact Or.inl (Or.inr (Or.inl h1))
    · exact Or.inl (Or.inr (Or.inr (Or.inl h1)))
    · rcases hl with h2 | h2
      · exact Or.inl (Or.inr (Or.inr (Or.inr (Or.inl (by rw [← h2]; exact h1)))))
      · rw [h2] at h1; simp at h1; exact Or.inr (by omega)
    · exact Or.inl (Or.inr (Or.inr (Or.inr (Or.inr h1))))
theorem foot_now {p bs bn : Nat} {wv : Value} {Ls Ln Ln' : List Nat} {n : Nat} (h : ∀ k ∈ Ln', k ∈ Ln ∨ n ≤ k) : ∀ k ∈ foot p bs bn wv Ls Ln', k ∈ foot p bs bn wv Ls Ln ∨ n ≤ k := fun k hk => by
  unfold foot at *
  simp only [List.mem_cons, List.mem_append] at hk ⊢
  rcases hk with h1 | h1 | h1 | h1 | h1 | h1
  · simp [h1]
  · simp [h1]
  · simp [h1]
  · simp [h1]
  · simp [h1]
  · rcases h k h1 with h2 | h2
    · simp [h2]
    · exact Or.inr h2
theorem foot_safe {p bs bn : Nat} {wv : Value} {Ls Ls' Ln : List Nat} {n : Nat} (h : ∀ k ∈ Ls', k ∈ Ls ∨ n ≤ k) : ∀ k ∈ foot p bs bn wv Ls' Ln, k ∈ foot p bs bn wv Ls Ln ∨ n ≤ k := fun k hk => by
  unfold foot at *
  simp only [List.mem_cons, List.mem_append] at hk ⊢
  rcases hk with h1 | h1 | h1 | h1 | h1 | h1
  · simp [h1]
  · simp [h1]
  · simp [h1]
  · simp [h1]
  · rcases h k h1 with h2 | h2
    · simp [h2]
    · exact Or.inr h2
  · simp [h1]
set_option maxHeartbeats 2000000 in
set_option maxRecDepth 100000 in
theorem add_any (c : Chg) (p : Nat) (d : Dk) (F : List Nat) (w : World) (h : DiskAt w p d F) (hc : Can d.now c) :
    Calls Tryz.prog 53 #[.pointer (some ⟨p, 0, none⟩), chV c] w fun e w' => e = .returned (.int .i64 d.doE) ∧ Did w F p (d.doD c) w' := by
  have hinv := h.inv.doD hc
  have hfew := h.inv.few
  have tk := takes_any p d F w h
  have HD0 := hide h
  obtain ⟨T, x, hcv⟩ : ∃ T x, chV c = .iface T x := by cases c <;> exact ⟨_, _, rfl⟩
  rw [hcv]
  have hone : (Value.iface T x).oneCell' = true := by rw [← hcv]; exact chV_one c
  have HCV := hide hcv
  clear hcv
  obtain ⟨bs, bn, wv, Ls, Ln, ha, hF, _⟩ := id h
  have hcl := ha.cells
  obtain ⟨ad, cap, hwv, _⟩ := ha.wait.form
  rw [hwv] at hcl
  unfold Dk.doE Dk.doD at *
  by_cases hfull : 1024 ≤ d.wait.length
  · rw [if_pos hfull] at hinv
    rw [if_pos hfull, if_pos hfull]
    have hl : (d.wait.length : Int) = 1024 := by omega
    have g : ((d.wait.length : Int) == 1024) = true := beq_iff_eq.2 hl
    clear h ha hF hc tk hinv hfull hl hfew
    generalize d.wait.length = n at *
    go_enter Tryz.func53, Tryz.ntmps53
    go_wp2
    go_ret
    exact ⟨rfl, (unhide HD0).did⟩
  · rw [if_neg hfull] at hinv
    rw [if_neg hfull, if_neg hfull]
    have g : ((d.wait.length : Int) == 1024) = false := beq_eq_false_iff_ne.2 (by omega)
    have TK := hide tk
    have HC := hide hc
    have HI := hide hinv
    have hlt : d.wait.length < 1024 := by omega
    clear h ha hF hc tk hinv hfew hfull
    cases hrb : d.readyB with
    | false =>
      rw [hrb] at TK
      have HRB := hide hrb
      clear hrb
      generalize d.wait.length = n at *
      go_enter Tryz.func53, Tryz.ntmps53
      go_wp2_with fail
      refine (unhide TK).mono ?_
      rintro e w1 ⟨rfl, hd1⟩
      have HD1 := hide hd1
      clear hd1
      go_wp2
      go_ret
      exact ⟨rfl, unhide HD1⟩
    | true =>
      rw [hrb] at TK HI
      rw [if_pos rfl] at HI
      obtain ⟨e1, e2, e3⟩ := ready_now d
      have HE := hide (And.intro e1 (And.intro e2 e3))
      have HRB := hide hrb
      clear hrb e1 e2 e3
      obtain ⟨i0, hi, hz0, hz1, hz2⟩ := info_parts info_chg
      go_enter Tryz.func53, Tryz.ntmps53
      go_wp2_with fail
      refine (unhide TK).mono ?_
      rintro e w1 ⟨rfl, hd1⟩
      obtain ⟨F1, hD1, hk1, hF1⟩ := hd1
      obtain ⟨bs1, bn1, wv1, Ls1, Ln1, ha1, rfl, _⟩ := hD1
      obtain ⟨E1, E2, E3⟩ := unhide HE
      have ap := apply_any c bn1 _ Ln1 w1 ha1.now (by rw [E1]; exact (unhide HC).1)
      rw [unhide HCV, E1] at ap
      have c1 := ha1.cells
      have HA := hide ap
      have HA1 := hide ha1
      have HF1 := hide hF1
      clear hcl ap ha1 E1 E2 E3 hF1
      go_wp2_with fail
      refine (unhide HA).mono ?_
      rintro e w2 ⟨rfl, hm2⟩
      obtain ⟨Ln2, ha2, hk2, hL2⟩ := (unhide HA1).newNow hm2
      have c2 := ha2.cells
      have fr2 := ha2.frozs
      have hw2 := ha2.wait
      obtain ⟨E1, E2, E3⟩ := unhide HE
      dsimp only at hw2
      rw [E3] at hw2
      have hown : w2.ownsRow 0 88 1 wv1 d.wait.length (d.wait.map chV) := hw2
      have HA2 := hide ha2
      have HL2 := hide hL2
      have hpm := ha2.pm
      have hwp : ∀ k, wv1.ownBlock = some k → k ≠ p := fun k hk => (hpm.2.2.1 k hk).1
      have hp2 := ha2.lt
      have HK2 := hide hk2
      clear c1 ha2 hm2 HA E1 E2 E3 hL2 hw2 hpm hk2
      have hpc : ∀ W, (w2.alloc (.cells #[.iface T x] 88)).grownBy W wv1.ownBlock → W.frozen? ⟨p, 2, none⟩ = false ∧ W.cell? ⟨p, 2, none⟩ = some wv1 := fun W hg => by
        have h1 := hg.block p (by simp; omega) (fun e => hwp p e.symm rfl)
        rw [Below.heap_alloc _ _ _ hp2] at h1
        exact ⟨(World.frozen?_of_block (w := w2) h1).trans fr2.2.2.1, (World.cell?_of_block (w := w2) h1).trans c2.2.2.1⟩
      have HPC := hide hpc
      clear hpc
      go_wp2_with (at_builtin; refine wpList_append_lies _ rfl _ _ 56 rfl 0 88 i0 .nilIface 1 16 Tryz.underlying56 hi hz0 hz1 hz2 rfl (by decide) wv1 d.wait.length (d.wait.map chV) rfl (hown.alloc _) ⟨w2.heap.size, 0, none⟩ 1 1 [.iface T x] rfl rfl (cell_one_new _ _ _) (by intro u hu; simp at hu; subst hu; exact hone) (by omega) (by unfold maxLen; omega) (by omega) (by simp) _ rfl ?_; intro g3 cap3 w3 hown' hgrow hat3 hlt3; have HAT := hide hat3; clear hat3; have fr3 := unhide HPC w3 hgrow)
      have ha3 := (unhide HA2).kp (Kp.alloc w2 (.cells #[.iface T x] 88)) (by simp)
      have hw3 : WaitsAt w3 (.slice (some ⟨g3, 0, none⟩) (d.wait.length + 1) cap3) (d.wait ++ [c]) := by
        unfold WaitsAt
        rw [List.length_append, List.map_append, List.map_cons, List.map_nil, unhide HCV]
        exact hown'
      have hz : (w2.alloc (.cells #[.iface T x] 88)).heap.size = w2.heap.size + 1 := by simp
      have hloc : (Value.slice (some ⟨g3, 0, none⟩) (d.wait.length + 1) cap3).ownBlock = wv1.ownBlock ∨ (Value.slice (some ⟨g3, 0, none⟩) (d.wait.length + 1) cap3).ownBlock = some (w2.alloc (.cells #[.iface T x] 88)).heap.size := by
        rcases unhide HAT with h1 | h1
        · exact Or.inl h1.symm
        · exact Or.inr (by rw [h1]; simp [Value.ownBlock])
      obtain ⟨hD4, hk4, hF4⟩ := ha3.newWait hgrow hw3 hloc
      have hDid : Did w F p { d.ready with wait := d.wait ++ [c], now := made d.now c } (w3.setCell ⟨p, 2, none⟩ (.slice (some ⟨g3, 0, none⟩) (d.wait.length + 1) cap3)) := by
        have hs1 := hk1.size
        have hs2 := (unhide HK2).size
        have kA : Kp F w w2 := hk1.trans (unhide HK2) (fun y hy => unhide HF1 y (by
          unfold foot
          rw [List.mem_cons] at hy
          rcases hy with rfl | hy <;> simp_all))
        have kB : Kp F w (w3.setCell ⟨p, 2, none⟩ (.slice (some ⟨g3, 0, none⟩) (d.wait.length + 1) cap3)) := (kA.trans (Kp.alloc w2 (.cells #[.iface T x] 88)) (by simp)).trans hk4 (fun y hy => by
          rcases foot_now (unhide HL2) y hy with h1 | h1
          · exact unhide HF1 y h1
          · exact Or.inr (by omega))
        refine Did.of hD4 (unhide HI) kB (fun y hy => ?_)
        rcases hF4 y hy with h1 | h1
        · rcases foot_now (unhide HL2) y h1 with h2 | h2
          · exact unhide HF1 y h2
          · exact Or.inr (by omega)
        · exact Or.inr (by omega)
      have HDID := hide hDid
      clear hDid hD4 hk4 hF4 ha3 hw3 hloc
      go_wp2
      go_ret
      exact ⟨rfl, unhide HDID⟩
end Go.Proofs.YtdmckgcbmbhmmaaGreatDoor
namespace Go.Proofs.YtdmckgcbmbhmmaaGreatDoor
open Go.RowKit

theorem dnm_len {n : ByteArray} (h : dnm n = true) : n.size ≤ 32 := by
  unfold dnm at h
  simp only [Bool.and_eq_true, decide_eq_true_eq] at h
  exact h.1.2
theorem DiskAt.nowP {w : World} {p : Nat} {d : Dk} {F : List Nat} (h : DiskAt w p d F) (n : ByteArray) : ∃ bn l clock Ln ad cap, (∀ W, Kp [] w W → W.cell? ⟨p, 1, none⟩ = some (.map (some bn)) ∧ MapIs W bn l clock ∧ FilesAt W bn d.now Ln ∧ Row W (valE l n) (hasF d.now n)) ∧ (findE l n).isSome = (getF d.now n).isSome ∧ valE l n = .slice ad (hasF d.now n).length cap ∧ l.length = d.now.length := by
  obtain ⟨bs, bn, wv, Ls, Ln, ha, rfl, _⟩ := h
  obtain ⟨l, clock, hm, hr, hp, hL, hn⟩ := id ha.now
  have hv := val_row hm.nm hr hp n
  obtain ⟨ad, cap, he, _⟩ := hv.form
  refine ⟨bn, l, clock, Ln, ad, cap, fun W hk => ⟨hk.cell ha.cells.2.1 (by simp), hm.kp hk (by simp), ha.now.kp hk (by simp) (by simp), hv.kp hk (by simp)⟩, ?_, he, ?_⟩
  · rw [findE_get hp hm.nm]; cases findE l n <;> rfl
  · rw [← hp.length_eq, List.length_map]
theorem DkAt.clearWait {w : World} {p bs bn : Nat} {wv : Value} {Ls Ln : List Nat} {d : Dk} (h : DkAt w p bs bn wv Ls Ln d) : DkAt (w.setCell ⟨p, 2, none⟩ nilS) p bs bn nilS Ls Ln { d with wait := [] } := by
  obtain ⟨q1, q2, q3, q4, q5, _⟩ := h.pm
  have np : ∀ k, k ≠ p → k ∉ [p] := fun k hk hm => hk (by simpa using hm)
  have k2 := kp_set w p 2 nilS
  exact ⟨h.box.set 2 nilS, h.safe.kp k2 (np _ q1.symm) (fun k hm => np k (fun e => q4 (by rw [← e]; exact hm))), h.now.kp k2 (np _ q2.symm) (fun k hm => np k (fun e => q5 (by rw [← e]; exact hm))), WaitsAt.nil _, h.ne, h.dis⟩
theorem foot_clear {p bs bn : Nat} {wv : Value} {Ls Ln : List Nat} : ∀ k ∈ foot p bs bn nilS Ls Ln, k ∈ foot p bs bn wv Ls Ln := fun k hk => by
  unfold foot at *
  simp only [nilS, Value.ownBlock, Option.toList_none, List.nil_append, List.mem_cons, List.mem_append] at hk ⊢
  rcases hk with h | h | h | h | h <;> simp [h]
set_option maxHeartbeats 1000000 in
set_option maxRecDepth 100000 in
theorem sync_any (p : Nat) (d : Dk) (F : List Nat) (w : World) (h : DiskAt w p d F) :
    Calls Tryz.prog 42 #[.pointer (some ⟨p, 0, none⟩)] w fun e w' => e = .returned (.int .i64 d.syE) ∧ Did w F p d.syD w' := by
  have tk := takes_any p d F w h
  have hin := h.inv
  have TK := hide tk
  unfold Dk.syE Dk.syD
  clear tk h
  cases hrb : d.readyB with
  | false =>
    rw [hrb] at TK
    have HRB := hide hrb
    clear hrb
    go_enter Tryz.func42, Tryz.ntmps42
    go_wp2_with fail
    refine (unhide TK).mono ?_
    rintro e w1 ⟨rfl, hd1⟩
    have HD1 := hide hd1
    clear hd1
    go_wp2
    go_ret
    exact ⟨rfl, unhide HD1⟩
  | true =>
    rw [hrb] at TK
    obtain ⟨e1, e2, e3⟩ := ready_now d
    have hir := hin.ready
    have hI : Inv { d.ready with safe := d.now, wait := [] } := ⟨e1.symm, trivial, hin.now, by simp, hir.left0, hir.left1⟩
    have HI := hide hI
    have HE := hide (And.intro e1 (And.intro e2 e3))
    have HIN := hide hin
    have HRB := hide hrb
    clear hrb e1 e2 e3 hI hir hin
    go_enter Tryz.func42, Tryz.ntmps42
    go_wp2_with fail
    refine (unhide TK).mono ?_
    rintro e w1 ⟨rfl, hd1⟩
    obtain ⟨F1, hD1, hk1, hF1⟩ := hd1
    obtain ⟨bs1, bn1, wv1, Ls1, Ln1, ha1, rfl, _⟩ := hD1
    obtain ⟨E1, E2, E3⟩ := unhide HE
    have hin := unhide HIN
    have st := settle_any p bs1 bn1 wv1 Ls1 Ln1 d.ready d.ready.wait.length w1 ha1 (Nat.le_refl _) (by rw [E2, E3]; exact hin.can)
    rw [List.take_length, E2, E3, hin.play] at st
    obtain ⟨ad, cap, hwv, _⟩ := ha1.wait.form
    rw [E3] at hwv
    have c1 := ha1.cells
    rw [hwv] at c1
    have ST := hide st
    have HF1 := hide hF1
    clear st E1 E2 E3 hin ha1 hwv hF1
    generalize d.wait.length = n at *
    go_wp2_with fail
    refine (unhide ST).mono ?_
    rintro e w2 ⟨rfl, Ls2, ha2, hk2, hL2⟩
    have fr2 := ha2.frozs
    have c2 := ha2.cells
    have hD : Did w F p { d.ready with safe := d.now, wait := [] } (w2.setCell ⟨p, 2, none⟩ nilS) := by
      have hs1 := hk1.size
      have hF1 := unhide HF1
      have kA : Kp F w w2 := hk1.trans hk2 (fun y hy => hF1 y (by
        unfold foot
        rw [List.mem_cons] at hy
        rcases hy with rfl | hy <;> simp_all))
      have kB : Kp F w (w2.setCell ⟨p, 2, none⟩ nilS) := kA.trans (kp_set w2 p 2 nilS) (fun y hy => hF1 y (by
        unfold foot
        simp at hy
        simp [hy]))
      refine Did.of ha2.clearWait (unhide HI) kB (fun y hy => ?_)
      rcases foot_safe hL2 y (foot_clear y hy) with h1 | h1
      · exact hF1 y h1
      · exact Or.inr (by omega)
    have HD := hide hD
    clear hD ha2 hk2 hL2 c1
    go_wp2
    go_ret
    exact ⟨rfl, unhide HD⟩
theorem badN_30 {d : Dk} {n : ByteArray} (h : dnm n = false) : d.badN n = 30 := if_pos h
theorem badN_5 {d : Dk} {n : ByteArray} (h : dnm n = true) (hg : (getF d.now n).isSome = false) : d.badN n = 5 := by unfold Dk.badN; rw [if_neg (by simp [h]), if_neg (by simp [hg])]
theorem badN_0 {d : Dk} {n : ByteArray} (h : dnm n = true) (hg : (getF d.now n).isSome = true) : d.badN n = 0 := by unfold Dk.badN; rw [if_neg (by simp [h]), if_pos hg]
end Go.Proofs.YtdmckgcbmbhmmaaGreatDoor
namespace Go.Proofs.YtdmckgcbmbhmmaaGreatDoor
open Go.RowKit

theorem Row.string {w : World} {v : Value} {l : List UInt8} (h : Row w v l) : (convert 91 9 v).run Tryz.prog w = .ok (.string ⟨l.toArray⟩) w := by
  obtain ⟨_, ⟨rfl, h0⟩ | ⟨g, cp, cur, rfl, hb, hh, hn, hm, hs, htk⟩⟩ := id h
  · obtain rfl : l = [] := List.eq_nil_of_length_eq_zero h0
    exact run_convert_bytes_nil w 91 5 Tryz.underlying91 Tryz.underlying5 0 0 9 Tryz.underlying9
  · have := run_convert_bytes_arg (P := Tryz.prog) w 91 5 Tryz.underlying91 Tryz.underlying5 g 0 l.length cp (l.map fun b => (b.toNat : Int)) (by simp) (fun i hi => by
      rw [Nat.zero_add]
      have c := World.ownsRow.cellAt h i (by omega)
      rw [c]
      unfold byteC
      simp [List.getElem?_eq_getElem hi, List.getD]) 9 Tryz.underlying9
    rw [strOf_bytes] at this
    exact this
set_option maxHeartbeats 2000000 in
set_option maxRecDepth 100000 in
theorem read_any (n : ByteArray) (p : Nat) (d : Dk) (F : List Nat) (w : World) (h : DiskAt w p d F) (hn : n.size ≤ 9223372036854775807) :
    Calls Tryz.prog 47 #[.pointer (some ⟨p, 0, none⟩), .string n] w fun e w' => e = .returned (.tuple #[.string (d.rdS n), .int .i64 (d.rdE n)]) ∧ w' = w := by
  have nm := dname_any n w hn
  unfold Dk.rdS Dk.rdE
  cases hd : dnm n with
  | false =>
    rw [hd] at nm
    have NM := hide nm
    rw [badN_30 hd, if_neg (by decide)]
    clear h nm hd
    go_enter Tryz.func47, Tryz.ntmps47
    go_wp2_with fail
    refine (unhide NM).mono ?_
    rintro e w1 ⟨rfl, rfl⟩
    go_wp2
    go_ret2
    exact ⟨rfl, rfl⟩
  | true =>
    rw [hd] at nm
    have NM := hide nm
    obtain ⟨bn, l, clock, Ln, ad, cap, hW, hf, hv, hl⟩ := h.nowP n
    obtain ⟨c1, hm, _, hrow⟩ := hW w (Kp.refl _ _)
    have HF := hide hf
    cases hg : (getF d.now n).isSome with
    | false =>
      rw [hg] at HF
      rw [badN_5 hd hg, if_neg (by decide)]
      have HV := hide hv
      clear h nm hd hW hf hv hl hg hrow
      generalize (hasF d.now n).length = H at *
      go_enter Tryz.func47, Tryz.ntmps47
      go_wp2_with fail
      refine (unhide NM).mono ?_
      rintro e w1 ⟨rfl, rfl⟩
      go_wp2_with (at_lookup; refine wpList_lookOk rfl _ _ rfl rfl hm _ rfl _ (unhide HV) false (unhide HF) ?_)
      go_wp2
      go_ret2
      exact ⟨rfl, rfl⟩
    | true =>
      rw [hg] at HF
      rw [badN_0 hd hg, if_pos rfl]
      have hstr := hrow.string
      generalize hve : valE l n = v at *
      have HV := hide hve
      clear h nm hd hW hf hv hl hg hrow hve
      go_enter Tryz.func47, Tryz.ntmps47
      go_wp2_with fail
      refine (unhide NM).mono ?_
      rintro e w1 ⟨rfl, rfl⟩
      go_wp2_with (at_lookup; refine wpList_lookOk rfl _ _ rfl rfl hm _ rfl _ (unhide HV) true (unhide HF) ?_)
      go_wp2
      go_ret2
      exact ⟨rfl, rfl⟩
end Go.Proofs.YtdmckgcbmbhmmaaGreatDoor
namespace Go.Proofs.YtdmckgcbmbhmmaaGreatDoor
open Go.RowKit

set_option maxHeartbeats 4000000 in
set_option maxRecDepth 100000 in
theorem write_any (n : ByteArray) (m : Int) (s : ByteArray) (p : Nat) (d : Dk) (F : List Nat) (w : World) (h : DiskAt w p d F) (hn : n.size ≤ 9223372036854775807) (_hm0 : -9223372036854775808 ≤ m) (_hm1 : m ≤ 9223372036854775807) (hs : s.size ≤ 9223372036854775807) :
    Calls Tryz.prog 20 #[.pointer (some ⟨p, 0, none⟩), .string n, .int .i64 m, .string s] w fun e w' => e = .returned (.int .i64 (d.wrE n m s)) ∧ Did w F p (d.wrD n m s) w' := by
  have nm := dname_any n w hn
  cases hd : dnm n with
  | false =>
    rw [hd] at nm
    have NM := hide nm
    have HD := hide h.did
    have hbc : d.badW n m s = 30 := if_pos hd
    rw [show d.wrE n m s = 30 by simp [Dk.wrE, hbc], show d.wrD n m s = d by simp [Dk.wrD, hbc]]
    clear h nm hd hbc
    go_enter Tryz.func20, Tryz.ntmps20
    go_wp2_with fail
    refine (unhide NM).mono ?_
    rintro e w1 ⟨rfl, rfl⟩
    go_wp2
    go_ret
    exact ⟨rfl, unhide HD⟩
  | true =>
    rw [hd] at nm
    have NM := hide nm
    have hlen := dnm_len hd
    have hroom := h.inv.now
    have hHT := hasF_le (fs := d.now) n
    obtain ⟨bn, l, clock, Ln, ad, cap, hW, hf, hv, hl⟩ := h.nowP n
    obtain ⟨c1, hm, hfl, _⟩ := hW w (Kp.refl _ _)
    have HV := hide hv
    have HF := hide hf
    by_cases hm0 : m < 0
    · skip
      have hbc : d.badW n m s = 1 := by unfold Dk.badW; rw [if_neg (by simp [hd]), if_pos (Or.inl hm0)]
      rw [show d.wrE n m s = 1 by simp [Dk.wrE, hbc], show d.wrD n m s = d by simp [Dk.wrD, hbc]]
      have HD := hide h.did
      clear h nm hd hW hf hv hl hbc hfl hroom hHT
      generalize (hasF d.now n).length = H at *
      generalize (getF d.now n).isSome = fl at *
      go_enter Tryz.func20, Tryz.ntmps20
      go_wp2_with fail
      refine (unhide NM).mono ?_
      rintro e w1 ⟨rfl, rfl⟩
      go_wp2_with (at_lookup; refine wpList_lookOk rfl _ _ rfl rfl hm _ rfl _ (unhide HV) fl (unhide HF) ?_)
      go_wp2
      go_ret
      exact ⟨rfl, unhide HD⟩
    by_cases hm1 : ((hasF d.now n).length : Int) < m
    · skip
      have hbc : d.badW n m s = 1 := by unfold Dk.badW; rw [if_neg (by simp [hd]), if_pos (Or.inr hm1)]
      rw [show d.wrE n m s = 1 by simp [Dk.wrE, hbc], show d.wrD n m s = d by simp [Dk.wrD, hbc]]
      have HD := hide h.did
      clear h nm hd hW hf hv hl hbc hfl hroom hHT
      generalize (hasF d.now n).length = H at *
      generalize (getF d.now n).isSome = fl at *
      go_enter Tryz.func20, Tryz.ntmps20
      go_wp2_with fail
      refine (unhide NM).mono ?_
      rintro e w1 ⟨rfl, rfl⟩
      go_wp2_with (at_lookup; refine wpList_lookOk rfl _ _ rfl rfl hm _ rfl _ (unhide HV) fl (unhide HF) ?_)
      go_wp2
      go_ret
      exact ⟨rfl, unhide HD⟩
    have hT := hroom.1.1
    have sz := size_any bn d.now Ln w hfl hT
    have SZ := hide sz
    have HW := hide hW
    clear sz
    have hg1 : ((d.now.length : Int) == 64) = decide (d.now.length = 64) := by
      rw [Bool.eq_iff_iff]; simp; omega
    by_cases hG : 262144 - (total d.now : Int) < max 0 ((s.size : Int) - (((hasF d.now n).length : Int) - m))
    · skip
      have hbc : d.badW n m s = 32 := by unfold Dk.badW; rw [if_neg (by simp [hd]), if_neg (by omega), if_pos (by unfold Dk.fullW Dk.grows; simp [hG])]
      rw [show d.wrE n m s = 32 by simp [Dk.wrE, hbc], show d.wrD n m s = d by simp [Dk.wrD, hbc]]
      have HD := hide (fun W hk => h.did' (w' := W) hk)
      clear h nm hd hW hf hv hl hbc hfl hroom
      generalize (hasF d.now n).length = H at *
      generalize total d.now = T at *
      generalize (getF d.now n).isSome = fl at *
      go_enter Tryz.func20, Tryz.ntmps20
      go_wp2_with fail
      refine (unhide NM).mono ?_
      rintro e w1 ⟨rfl, rfl⟩
      go_wp2_with (at_lookup; refine wpList_lookOk rfl _ _ rfl rfl hm _ rfl _ (unhide HV) fl (unhide HF) ?_)
      refine (unhide SZ).mono ?_
      rintro e w2 ⟨rfl, hk2⟩
      obtain ⟨c2, hm2, _, _⟩ := unhide HW w2 hk2
      clear c1 hm
      go_wp2
      go_ret
      exact ⟨rfl, unhide HD w2 hk2⟩
    cases hg : (getF d.now n).isSome with
    | true =>
      rw [hg] at HF
      have hbc : d.badW n m s = 0 := by unfold Dk.badW; rw [if_neg (by simp [hd]), if_neg (by omega), if_neg (by unfold Dk.fullW Dk.grows; simp [hG, hg])]
      obtain ⟨hcan, _, _⟩ := can_wr hroom h.nodup hbc
      rw [show d.wrE n m s = d.doE by simp [Dk.wrE, hbc], show d.wrD n m s = d.doD (.wr n m.toNat s) by simp [Dk.wrD, hbc]]
      obtain ⟨u, rfl⟩ := Int.eq_ofNat_of_zero_le (by omega : 0 ≤ m)
      rw [Int.toNat_natCast] at *
      have cl1 := fun W => clone_any n W (by omega)
      have hss := hcan.1.2
      have cl2 := fun W => clone_any s W (by omega)
      have ad' := fun W (hk : Kp [] w W) => add_any (.wr n u s) p d F W (h.kp hk (by simp)) hcan
      have CL1 := hide cl1
      have CL2 := hide cl2
      have AD := hide ad'
      clear hg hg1
      clear h nm hd hW hf hv hl hbc hfl hroom cl1 cl2 ad' hcan hss
      generalize (hasF d.now n).length = H at *
      generalize total d.now = T at *
      go_enter Tryz.func20, Tryz.ntmps20
      go_wp2_with fail
      refine (unhide NM).mono ?_
      rintro e w1 ⟨rfl, rfl⟩
      go_wp2_with (at_lookup; refine wpList_lookOk rfl _ _ rfl rfl hm _ rfl _ (unhide HV) true (unhide HF) ?_)
      refine (unhide SZ).mono ?_
      rintro e w2 ⟨rfl, hk2⟩
      obtain ⟨c2, hm2, _, _⟩ := unhide HW w2 hk2
      clear c1 hm
      go_wp2_with fail
      refine (unhide CL1 w2).mono ?_
      rintro e w3 ⟨rfl, hb3⟩
      clear c2 hm2
      go_wp2_with fail
      refine (unhide CL2 w3).mono ?_
      rintro e w4 ⟨rfl, hb4⟩
      have hk4 := (hk2.trans (Kp.ofBelow hb3) (by simp)).trans (Kp.ofBelow hb4) (by simp)
      go_wp2_with fail
      refine (unhide AD w4 hk4).mono ?_
      rintro e w5 ⟨rfl, hd5⟩
      have HD := hide (Did.pre hk4 hd5)
      clear hd5
      go_wp2
      go_ret
      exact ⟨rfl, unhide HD⟩
    | false =>
      rw [hg] at HF
      by_cases h64 : d.now.length = 64
      · skip
        have hbc : d.badW n m s = 32 := by unfold Dk.badW; rw [if_neg (by simp [hd]), if_neg (by omega), if_pos (by unfold Dk.fullW; simp [hg, h64])]
        rw [show d.wrE n m s = 32 by simp [Dk.wrE, hbc], show d.wrD n m s = d by simp [Dk.wrD, hbc]]
        have HD := hide (fun W hk => h.did' (w' := W) hk)
        have hl64 : l.length = 64 := hl.trans h64
        have g64 : ((l.length : Int) == 64) = true := beq_iff_eq.2 (by omega)
        clear hg hg1 h64 hl64
        clear h nm hd hW hf hv hl hbc hfl hroom
        generalize (hasF d.now n).length = H at *
        generalize total d.now = T at *
        go_enter Tryz.func20, Tryz.ntmps20
        go_wp2_with fail
        refine (unhide NM).mono ?_
        rintro e w1 ⟨rfl, rfl⟩
        go_wp2_with (at_lookup; refine wpList_lookOk rfl _ _ rfl rfl hm _ rfl _ (unhide HV) false (unhide HF) ?_)
        refine (unhide SZ).mono ?_
        rintro e w2 ⟨rfl, hk2⟩
        obtain ⟨c2, hm2, _, _⟩ := unhide HW w2 hk2
        clear c1 hm
        have hlr := hm2.len (P := Tryz.prog) Tryz.underlying55 3
        generalize l.length = ll at *
        go_wp2
        go_ret
        exact ⟨rfl, unhide HD w2 hk2⟩
      · skip
        have hbc : d.badW n m s = 0 := by unfold Dk.badW; rw [if_neg (by simp [hd]), if_neg (by omega), if_neg (by unfold Dk.fullW Dk.grows; simp [hG, hg, h64])]
        obtain ⟨hcan, _, _⟩ := can_wr hroom h.nodup hbc
        rw [show d.wrE n m s = d.doE by simp [Dk.wrE, hbc], show d.wrD n m s = d.doD (.wr n m.toNat s) by simp [Dk.wrD, hbc]]
        obtain ⟨u, rfl⟩ := Int.eq_ofNat_of_zero_le (by omega : 0 ≤ m)
        rw [Int.toNat_natCast] at *
        have cl1 := fun W => clone_any n W (by omega)
        have hss := hcan.1.2
        have cl2 := fun W => clone_any s W (by omega)
        have ad' := fun W (hk : Kp [] w W) => add_any (.wr n u s) p d F W (h.kp hk (by simp)) hcan
        have CL1 := hide cl1
        have CL2 := hide cl2
        have AD := hide ad'
        have hl64 : l.length ≠ 64 := fun e => h64 (hl.symm.trans e)
        have g64 : ((l.length : Int) == 64) = false := beq_eq_false_iff_ne.2 (by omega)
        clear hg hg1 h64 hl64
        clear h nm hd hW hf hv hl hbc hfl hroom cl1 cl2 ad' hcan hss
        generalize (hasF d.now n).length = H at *
        generalize total d.now = T at *
        go_enter Tryz.func20, Tryz.ntmps20
        go_wp2_with fail
        refine (unhide NM).mono ?_
        rintro e w1 ⟨rfl, rfl⟩
        go_wp2_with (at_lookup; refine wpList_lookOk rfl _ _ rfl rfl hm _ rfl _ (unhide HV) false (unhide HF) ?_)
        refine (unhide SZ).mono ?_
        rintro e w2 ⟨rfl, hk2⟩
        obtain ⟨c2, hm2, _, _⟩ := unhide HW w2 hk2
        clear c1 hm
        have hlr := hm2.len (P := Tryz.prog) Tryz.underlying55 3
        generalize l.length = ll at *
        go_wp2_with fail
        refine (unhide CL1 w2).mono ?_
        rintro e w3 ⟨rfl, hb3⟩
        clear c2 hm2
        go_wp2_with fail
        refine (unhide CL2 w3).mono ?_
        rintro e w4 ⟨rfl, hb4⟩
        have hk4 := (hk2.trans (Kp.ofBelow hb3) (by simp)).trans (Kp.ofBelow hb4) (by simp)
        go_wp2_with fail
        refine (unhide AD w4 hk4).mono ?_
        rintro e w5 ⟨rfl, hd5⟩
        have HD := hide (Did.pre hk4 hd5)
        clear hd5
        go_wp2
        go_ret
        exact ⟨rfl, unhide HD⟩
end Go.Proofs.YtdmckgcbmbhmmaaGreatDoor
