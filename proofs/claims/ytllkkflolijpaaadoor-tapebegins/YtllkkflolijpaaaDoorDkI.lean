/-
  Sync, Remove, Rename, Cut, Read of a disk.
-/
import Derived.Test.YtllkkflolijpaaaDoorDkH
namespace Go.Proofs.YtllkkflolijpaaaDoor
open Go.RowKit

theorem dnm_len {n : ByteArray} (h : dnm n = true) : n.size ≤ 32 := by
  unfold dnm at h
  simp only [Bool.and_eq_true, decide_eq_true_eq] at h
  exact h.1.2
theorem DiskAt.nowP {w : World} {p : Nat} {d : Dk} {F : List Nat} (h : DiskAt w p d F) (n : ByteArray) : ∃ bn l clock Ln ad cap, (∀ W, Kp [] w W → W.cell? ⟨p, 1, none⟩ = some (.map (some bn)) ∧ MapIs W bn l clock ∧ FilesAt W bn d.now Ln ∧ Row W (valE l n) (hasF d.now n)) ∧ (findE l n).isSome = (getF d.now n).isSome ∧ valE l n = .slice ad (hasF d.now n).length cap ∧ l.length = d.now.length := by
  obtain ⟨bs, bn, wv, Ls, Ln, ha, rfl, _⟩ := h
  obtain ⟨l, clock, hm, hr, hp, hL, hn⟩ := id ha.now
  have hv := val_row hm.nm hr hp n
  obtain ⟨ad, cap, he, _⟩ := hv.form
  refine ⟨bn, l, clock, Ln, ad, cap, fun W hk => ⟨hk.cell ha.cells.2.1 (by simp), hm.kp hk (by simp), ha.now.kp hk (by simp) (by simp), hv.kp hk (by simp)⟩, ?_, he, ?_⟩
  · rw [findE_get hp hm.nm]; cases findE l n <;> rfl
  · rw [← hp.length_eq, List.length_map]
theorem DkAt.clearWait {w : World} {p bs bn : Nat} {wv : Value} {Ls Ln : List Nat} {d : Dk} (h : DkAt w p bs bn wv Ls Ln d) : DkAt (w.setCell ⟨p, 2, none⟩ nilS) p bs bn nilS Ls Ln { d with wait := [] } := by
  obtain ⟨q1, q2, q3, q4, q5, _⟩ := h.pm
  have np : ∀ k, k ≠ p → k ∉ [p] := fun k hk hm => hk (by simpa using hm)
  have k2 := kp_set w p 2 nilS
  exact ⟨h.box.set 2 nilS, h.safe.kp k2 (np _ q1.symm) (fun k hm => np k (fun e => q4 (by rw [← e]; exact hm))), h.now.kp k2 (np _ q2.symm) (fun k hm => np k (fun e => q5 (by rw [← e]; exact hm))), WaitsAt.nil _, h.ne, h.dis⟩
theorem foot_clear {p bs bn : Nat} {wv : Value} {Ls Ln : List Nat} : ∀ k ∈ foot p bs bn nilS Ls Ln, k ∈ foot p bs bn wv Ls Ln := fun k hk => by
  unfold foot at *
  simp only [nilS, Value.ownBlock, Option.toList_none, List.nil_append, List.mem_cons, List.mem_append] at hk ⊢
  rcases hk with h | h | h | h | h <;> simp [h]
set_option maxHeartbeats 1000000 in
set_option maxRecDepth 100000 in
theorem sync_any (p : Nat) (d : Dk) (F : List Nat) (w : World) (h : DiskAt w p d F) :
    Calls Tryd.prog 24 #[.pointer (some ⟨p, 0, none⟩)] w fun e w' => e = .returned (.int .i64 d.syE) ∧ Did w F p d.syD w' := by
  have tk := takes_any p d F w h
  have hin := h.inv
  have TK := hide tk
  unfold Dk.syE Dk.syD
  clear tk h
  cases hrb : d.readyB with
  | false =>
    rw [hrb] at TK
    have HRB := hide hrb
    clear hrb
    go_enter Tryd.func24, Tryd.ntmps24
    go_wp2_with fail
    refine (unhide TK).mono ?_
    rintro e w1 ⟨rfl, hd1⟩
    have HD1 := hide hd1
    clear hd1
    go_wp2
    go_ret
    exact ⟨rfl, unhide HD1⟩
  | true =>
    rw [hrb] at TK
    obtain ⟨e1, e2, e3⟩ := ready_now d
    have hir := hin.ready
    have hI : Inv { d.ready with safe := d.now, wait := [] } := ⟨e1.symm, trivial, hin.now, by simp, hir.left0, hir.left1⟩
    have HI := hide hI
    have HE := hide (And.intro e1 (And.intro e2 e3))
    have HIN := hide hin
    have HRB := hide hrb
    clear hrb e1 e2 e3 hI hir hin
    go_enter Tryd.func24, Tryd.ntmps24
    go_wp2_with fail
    refine (unhide TK).mono ?_
    rintro e w1 ⟨rfl, hd1⟩
    obtain ⟨F1, hD1, hk1, hF1⟩ := hd1
    obtain ⟨bs1, bn1, wv1, Ls1, Ln1, ha1, rfl, _⟩ := hD1
    obtain ⟨E1, E2, E3⟩ := unhide HE
    have hin := unhide HIN
    have st := settle_any p bs1 bn1 wv1 Ls1 Ln1 d.ready d.ready.wait.length w1 ha1 (Nat.le_refl _) (by rw [E2, E3]; exact hin.can)
    rw [List.take_length, E2, E3, hin.play] at st
    obtain ⟨ad, cap, hwv, _⟩ := ha1.wait.form
    rw [E3] at hwv
    have c1 := ha1.cells
    rw [hwv] at c1
    have ST := hide st
    have HF1 := hide hF1
    clear st E1 E2 E3 hin ha1 hwv hF1
    generalize d.wait.length = n at *
    go_wp2_with fail
    refine (unhide ST).mono ?_
    rintro e w2 ⟨rfl, Ls2, ha2, hk2, hL2⟩
    have fr2 := ha2.frozs
    have c2 := ha2.cells
    have hD : Did w F p { d.ready with safe := d.now, wait := [] } (w2.setCell ⟨p, 2, none⟩ nilS) := by
      have hs1 := hk1.size
      have hF1 := unhide HF1
      have kA : Kp F w w2 := hk1.trans hk2 (fun y hy => hF1 y (by
        unfold foot
        rw [List.mem_cons] at hy
        rcases hy with rfl | hy <;> simp_all))
      have kB : Kp F w (w2.setCell ⟨p, 2, none⟩ nilS) := kA.trans (kp_set w2 p 2 nilS) (fun y hy => hF1 y (by
        unfold foot
        simp at hy
        simp [hy]))
      refine Did.of ha2.clearWait (unhide HI) kB (fun y hy => ?_)
      rcases foot_safe hL2 y (foot_clear y hy) with h1 | h1
      · exact hF1 y h1
      · exact Or.inr (by omega)
    have HD := hide hD
    clear hD ha2 hk2 hL2 c1
    go_wp2
    go_ret
    exact ⟨rfl, unhide HD⟩
theorem badN_30 {d : Dk} {n : ByteArray} (h : dnm n = false) : d.badN n = 30 := if_pos h
theorem badN_5 {d : Dk} {n : ByteArray} (h : dnm n = true) (hg : (getF d.now n).isSome = false) : d.badN n = 5 := by unfold Dk.badN; rw [if_neg (by simp [h]), if_neg (by simp [hg])]
theorem badN_0 {d : Dk} {n : ByteArray} (h : dnm n = true) (hg : (getF d.now n).isSome = true) : d.badN n = 0 := by unfold Dk.badN; rw [if_neg (by simp [h]), if_pos hg]
end Go.Proofs.YtllkkflolijpaaaDoor
