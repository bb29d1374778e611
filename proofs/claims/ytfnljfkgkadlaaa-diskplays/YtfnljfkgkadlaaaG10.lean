/-
  Write of a disk.
-/
import Derived.Test.YtfnljfkgkadlaaaG09
namespace Go.Proofs.Ytfnljfkgkadlaaa
open Go.RowKit

set_option maxHeartbeats 4000000 in
set_option maxRecDepth 100000 in
theorem write_any (n : ByteArray) (m : Int) (s : ByteArray) (p : Nat) (d : Dk) (F : List Nat) (w : World) (h : DiskAt w p d F) (hn : n.size ≤ 9223372036854775807) (_hm0 : -9223372036854775808 ≤ m) (_hm1 : m ≤ 9223372036854775807) (hs : s.size ≤ 9223372036854775807) :
    Calls Try.prog 10 #[.pointer (some ⟨p, 0, none⟩), .string n, .int .i64 m, .string s] w fun e w' => e = .returned (.int .i64 (d.wrE n m s)) ∧ Did w F p (d.wrD n m s) w' := by
  have nm := dname_any n w hn
  cases hd : dnm n with
  | false =>
    rw [hd] at nm
    have NM := hide nm
    have HD := hide h.did
    have hbc : d.badW n m s = 30 := if_pos hd
    rw [show d.wrE n m s = 30 by simp [Dk.wrE, hbc], show d.wrD n m s = d by simp [Dk.wrD, hbc]]
    clear h nm hd hbc
    go_enter Try.func10, Try.ntmps10
    go_wp2_with fail
    refine (unhide NM).mono ?_
    rintro e w1 ⟨rfl, rfl⟩
    go_wp2
    go_ret
    exact ⟨rfl, unhide HD⟩
  | true =>
    rw [hd] at nm
    have NM := hide nm
    have hlen := dnm_len hd
    have hroom := h.inv.now
    have hHT := hasF_le (fs := d.now) n
    obtain ⟨bn, l, clock, Ln, ad, cap, hW, hf, hv, hl⟩ := h.nowP n
    obtain ⟨c1, hm, hfl, _⟩ := hW w (Kp.refl _ _)
    have HV := hide hv
    have HF := hide hf
    by_cases hm0 : m < 0
    · skip
      have hbc : d.badW n m s = 1 := by unfold Dk.badW; rw [if_neg (by simp [hd]), if_pos (Or.inl hm0)]
      rw [show d.wrE n m s = 1 by simp [Dk.wrE, hbc], show d.wrD n m s = d by simp [Dk.wrD, hbc]]
      have HD := hide h.did
      clear h nm hd hW hf hv hl hbc hfl hroom hHT
      generalize (hasF d.now n).length = H at *
      generalize (getF d.now n).isSome = fl at *
      go_enter Try.func10, Try.ntmps10
      go_wp2_with fail
      refine (unhide NM).mono ?_
      rintro e w1 ⟨rfl, rfl⟩
      go_wp2_with (at_lookup; refine wpList_lookOk rfl _ _ rfl rfl hm _ rfl _ (unhide HV) fl (unhide HF) ?_)
      go_wp2
      go_ret
      exact ⟨rfl, unhide HD⟩
    by_cases hm1 : ((hasF d.now n).length : Int) < m
    · skip
      have hbc : d.badW n m s = 1 := by unfold Dk.badW; rw [if_neg (by simp [hd]), if_pos (Or.inr hm1)]
      rw [show d.wrE n m s = 1 by simp [Dk.wrE, hbc], show d.wrD n m s = d by simp [Dk.wrD, hbc]]
      have HD := hide h.did
      clear h nm hd hW hf hv hl hbc hfl hroom hHT
      generalize (hasF d.now n).length = H at *
      generalize (getF d.now n).isSome = fl at *
      go_enter Try.func10, Try.ntmps10
      go_wp2_with fail
      refine (unhide NM).mono ?_
      rintro e w1 ⟨rfl, rfl⟩
      go_wp2_with (at_lookup; refine wpList_lookOk rfl _ _ rfl rfl hm _ rfl _ (unhide HV) fl (unhide HF) ?_)
      go_wp2
      go_ret
      exact ⟨rfl, unhide HD⟩
    have hT := hroom.1.1
    have sz := size_any bn d.now Ln w hfl hT
    have SZ := hide sz
    have HW := hide hW
    clear sz
    have hg1 : ((d.now.length : Int) == 64) = decide (d.now.length = 64) := by
      rw [Bool.eq_iff_iff]; simp; omega
    by_cases hG : 262144 - (total d.now : Int) < max 0 ((s.size : Int) - (((hasF d.now n).length : Int) - m))
    · skip
      have hbc : d.badW n m s = 32 := by unfold Dk.badW; rw [if_neg (by simp [hd]), if_neg (by omega), if_pos (by unfold Dk.fullW Dk.grows; simp [hG])]
      rw [show d.wrE n m s = 32 by simp [Dk.wrE, hbc], show d.wrD n m s = d by simp [Dk.wrD, hbc]]
      have HD := hide (fun W hk => h.did' (w' := W) hk)
      clear h nm hd hW hf hv hl hbc hfl hroom
      generalize (hasF d.now n).length = H at *
      generalize total d.now = T at *
      generalize (getF d.now n).isSome = fl at *
      go_enter Try.func10, Try.ntmps10
      go_wp2_with fail
      refine (unhide NM).mono ?_
      rintro e w1 ⟨rfl, rfl⟩
      go_wp2_with (at_lookup; refine wpList_lookOk rfl _ _ rfl rfl hm _ rfl _ (unhide HV) fl (unhide HF) ?_)
      refine (unhide SZ).mono ?_
      rintro e w2 ⟨rfl, hk2⟩
      obtain ⟨c2, hm2, _, _⟩ := unhide HW w2 hk2
      clear c1 hm
      go_wp2
      go_ret
      exact ⟨rfl, unhide HD w2 hk2⟩
    cases hg : (getF d.now n).isSome with
    | true =>
      rw [hg] at HF
      have hbc : d.badW n m s = 0 := by unfold Dk.badW; rw [if_neg (by simp [hd]), if_neg (by omega), if_neg (by unfold Dk.fullW Dk.grows; simp [hG, hg])]
      obtain ⟨hcan, _, _⟩ := can_wr hroom h.nodup hbc
      rw [show d.wrE n m s = d.doE by simp [Dk.wrE, hbc], show d.wrD n m s = d.doD (.wr n m.toNat s) by simp [Dk.wrD, hbc]]
      obtain ⟨u, rfl⟩ := Int.eq_ofNat_of_zero_le (by omega : 0 ≤ m)
      rw [Int.toNat_natCast] at *
      have cl1 := fun W => clone_any n W (by omega)
      have hss := hcan.1.2
      have cl2 := fun W => clone_any s W (by omega)
      have ad' := fun W (hk : Kp [] w W) => add_any (.wr n u s) p d F W (h.kp hk (by simp)) hcan
      have CL1 := hide cl1
      have CL2 := hide cl2
      have AD := hide ad'
      clear hg hg1
      clear h nm hd hW hf hv hl hbc hfl hroom cl1 cl2 ad' hcan hss
      generalize (hasF d.now n).length = H at *
      generalize total d.now = T at *
      go_enter Try.func10, Try.ntmps10
      go_wp2_with fail
      refine (unhide NM).mono ?_
      rintro e w1 ⟨rfl, rfl⟩
      go_wp2_with (at_lookup; refine wpList_lookOk rfl _ _ rfl rfl hm _ rfl _ (unhide HV) true (unhide HF) ?_)
      refine (unhide SZ).mono ?_
      rintro e w2 ⟨rfl, hk2⟩
      obtain ⟨c2, hm2, _, _⟩ := unhide HW w2 hk2
      clear c1 hm
      go_wp2_with fail
      refine (unhide CL1 w2).mono ?_
      rintro e w3 ⟨rfl, hb3⟩
      clear c2 hm2
      go_wp2_with fail
      refine (unhide CL2 w3).mono ?_
      rintro e w4 ⟨rfl, hb4⟩
      have hk4 := (hk2.trans (Kp.ofBelow hb3) (by simp)).trans (Kp.ofBelow hb4) (by simp)
      go_wp2_with fail
      refine (unhide AD w4 hk4).mono ?_
      rintro e w5 ⟨rfl, hd5⟩
      have HD := hide (Did.pre hk4 hd5)
      clear hd5
      go_wp2
      go_ret
      exact ⟨rfl, unhide HD⟩
    | false =>
      rw [hg] at HF
      by_cases h64 : d.now.length = 64
      · skip
        have hbc : d.badW n m s = 32 := by unfold Dk.badW; rw [if_neg (by simp [hd]), if_neg (by omega), if_pos (by unfold Dk.fullW; simp [hg, h64])]
        rw [show d.wrE n m s = 32 by simp [Dk.wrE, hbc], show d.wrD n m s = d by simp [Dk.wrD, hbc]]
        have HD := hide (fun W hk => h.did' (w' := W) hk)
        have hl64 : l.length = 64 := hl.trans h64
        have g64 : ((l.length : Int) == 64) = true := beq_iff_eq.2 (by omega)
        clear hg hg1 h64 hl64
        clear h nm hd hW hf hv hl hbc hfl hroom
        generalize (hasF d.now n).length = H at *
        generalize total d.now = T at *
        go_enter Try.func10, Try.ntmps10
        go_wp2_with fail
        refine (unhide NM).mono ?_
        rintro e w1 ⟨rfl, rfl⟩
        go_wp2_with (at_lookup; refine wpList_lookOk rfl _ _ rfl rfl hm _ rfl _ (unhide HV) false (unhide HF) ?_)
        refine (unhide SZ).mono ?_
        rintro e w2 ⟨rfl, hk2⟩
        obtain ⟨c2, hm2, _, _⟩ := unhide HW w2 hk2
        clear c1 hm
        have hlr := hm2.len (P := Try.prog) Try.underlying34 3
        generalize l.length = ll at *
        go_wp2
        go_ret
        exact ⟨rfl, unhide HD w2 hk2⟩
      · skip
        have hbc : d.badW n m s = 0 := by unfold Dk.badW; rw [if_neg (by simp [hd]), if_neg (by omega), if_neg (by unfold Dk.fullW Dk.grows; simp [hG, hg, h64])]
        obtain ⟨hcan, _, _⟩ := can_wr hroom h.nodup hbc
        rw [show d.wrE n m s = d.doE by simp [Dk.wrE, hbc], show d.wrD n m s = d.doD (.wr n m.toNat s) by simp [Dk.wrD, hbc]]
        obtain ⟨u, rfl⟩ := Int.eq_ofNat_of_zero_le (by omega : 0 ≤ m)
        rw [Int.toNat_natCast] at *
        have cl1 := fun W => clone_any n W (by omega)
        have hss := hcan.1.2
        have cl2 := fun W => clone_any s W (by omega)
        have ad' := fun W (hk : Kp [] w W) => add_any (.wr n u s) p d F W (h.kp hk (by simp)) hcan
        have CL1 := hide cl1
        have CL2 := hide cl2
        have AD := hide ad'
        have hl64 : l.length ≠ 64 := fun e => h64 (hl.symm.trans e)
        have g64 : ((l.length : Int) == 64) = false := beq_eq_false_iff_ne.2 (by omega)
        clear hg hg1 h64 hl64
        clear h nm hd hW hf hv hl hbc hfl hroom cl1 cl2 ad' hcan hss
        generalize (hasF d.now n).length = H at *
        generalize total d.now = T at *
        go_enter Try.func10, Try.ntmps10
        go_wp2_with fail
        refine (unhide NM).mono ?_
        rintro e w1 ⟨rfl, rfl⟩
        go_wp2_with (at_lookup; refine wpList_lookOk rfl _ _ rfl rfl hm _ rfl _ (unhide HV) false (unhide HF) ?_)
        refine (unhide SZ).mono ?_
        rintro e w2 ⟨rfl, hk2⟩
        obtain ⟨c2, hm2, _, _⟩ := unhide HW w2 hk2
        clear c1 hm
        have hlr := hm2.len (P := Try.prog) Try.underlying34 3
        generalize l.length = ll at *
        go_wp2_with fail
        refine (unhide CL1 w2).mono ?_
        rintro e w3 ⟨rfl, hb3⟩
        clear c2 hm2
        go_wp2_with fail
        refine (unhide CL2 w3).mono ?_
        rintro e w4 ⟨rfl, hb4⟩
        have hk4 := (hk2.trans (Kp.ofBelow hb3) (by simp)).trans (Kp.ofBelow hb4) (by simp)
        go_wp2_with fail
        refine (unhide AD w4 hk4).mono ?_
        rintro e w5 ⟨rfl, hd5⟩
        have HD := hide (Did.pre hk4 hd5)
        clear hd5
        go_wp2
        go_ret
        exact ⟨rfl, unhide HD⟩
end Go.Proofs.Ytfnljfkgkadlaaa
