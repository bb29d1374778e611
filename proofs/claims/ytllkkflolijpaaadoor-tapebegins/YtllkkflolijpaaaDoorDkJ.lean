/-
  Cut, Read of a disk.
-/
import Derived.Test.YtllkkflolijpaaaDoorDkI
import Derived.SliceStrings
namespace Go.Proofs.YtllkkflolijpaaaDoor
open Go.RowKit

theorem Row.string {w : World} {v : Value} {l : List UInt8} (h : Row w v l) : (convert 45 9 v).run Tryd.prog w = .ok (.string ⟨l.toArray⟩) w := by
  obtain ⟨_, ⟨rfl, h0⟩ | ⟨g, cp, cur, rfl, hb, hh, hn, hm, hs, htk⟩⟩ := id h
  · obtain rfl : l = [] := List.eq_nil_of_length_eq_zero h0
    exact run_convert_bytes_nil w 45 5 Tryd.underlying45 Tryd.underlying5 0 0 9 Tryd.underlying9
  · have := run_convert_bytes_arg (P := Tryd.prog) w 45 5 Tryd.underlying45 Tryd.underlying5 g 0 l.length cp (l.map fun b => (b.toNat : Int)) (by simp) (fun i hi => by
      rw [Nat.zero_add]
      have c := World.ownsRow.cellAt h i (by omega)
      rw [c]
      unfold byteC
      simp [List.getElem?_eq_getElem hi, List.getD]) 9 Tryd.underlying9
    rw [strOf_bytes] at this
    exact this
set_option maxHeartbeats 2000000 in
set_option maxRecDepth 100000 in
theorem read_any (n : ByteArray) (p : Nat) (d : Dk) (F : List Nat) (w : World) (h : DiskAt w p d F) (hn : n.size ≤ 9223372036854775807) :
    Calls Tryd.prog 16 #[.pointer (some ⟨p, 0, none⟩), .string n] w fun e w' => e = .returned (.tuple #[.string (d.rdS n), .int .i64 (d.rdE n)]) ∧ w' = w := by
  have nm := dname_any n w hn
  unfold Dk.rdS Dk.rdE
  cases hd : dnm n with
  | false =>
    rw [hd] at nm
    have NM := hide nm
    rw [badN_30 hd, if_neg (by decide)]
    clear h nm hd
    go_enter Tryd.func16, Tryd.ntmps16
    go_wp2_with fail
    refine (unhide NM).mono ?_
    rintro e w1 ⟨rfl, rfl⟩
    go_wp2
    go_ret2
    exact ⟨rfl, rfl⟩
  | true =>
    rw [hd] at nm
    have NM := hide nm
    obtain ⟨bn, l, clock, Ln, ad, cap, hW, hf, hv, hl⟩ := h.nowP n
    obtain ⟨c1, hm, _, hrow⟩ := hW w (Kp.refl _ _)
    have HF := hide hf
    cases hg : (getF d.now n).isSome with
    | false =>
      rw [hg] at HF
      rw [badN_5 hd hg, if_neg (by decide)]
      have HV := hide hv
      clear h nm hd hW hf hv hl hg hrow
      generalize (hasF d.now n).length = H at *
      go_enter Tryd.func16, Tryd.ntmps16
      go_wp2_with fail
      refine (unhide NM).mono ?_
      rintro e w1 ⟨rfl, rfl⟩
      go_wp2_with (at_lookup; refine wpList_lookOk rfl _ _ rfl rfl hm _ rfl _ (unhide HV) false (unhide HF) ?_)
      go_wp2
      go_ret2
      exact ⟨rfl, rfl⟩
    | true =>
      rw [hg] at HF
      rw [badN_0 hd hg, if_pos rfl]
      have hstr := hrow.string
      generalize hve : valE l n = v at *
      have HV := hide hve
      clear h nm hd hW hf hv hl hg hrow hve
      go_enter Tryd.func16, Tryd.ntmps16
      go_wp2_with fail
      refine (unhide NM).mono ?_
      rintro e w1 ⟨rfl, rfl⟩
      go_wp2_with (at_lookup; refine wpList_lookOk rfl _ _ rfl rfl hm _ rfl _ (unhide HV) true (unhide HF) ?_)
      go_wp2
      go_ret2
      exact ⟨rfl, rfl⟩
set_option maxHeartbeats 2000000 in
set_option maxRecDepth 100000 in
theorem cut_any (n : ByteArray) (m : Int) (p : Nat) (d : Dk) (F : List Nat) (w : World) (h : DiskAt w p d F) (hn : n.size ≤ 9223372036854775807) (_hm0 : -9223372036854775808 ≤ m) (_hm1 : m ≤ 9223372036854775807) :
    Calls Tryd.prog 41 #[.pointer (some ⟨p, 0, none⟩), .string n, .int .i64 m] w fun e w' => e = .returned (.int .i64 (d.ctE n m)) ∧ Did w F p (d.ctD n m) w' := by
  have nm := dname_any n w hn
  cases hd : dnm n with
  | false =>
    rw [hd] at nm
    have NM := hide nm
    have HD := hide h.did
    rw [show d.ctE n m = 30 by simp [Dk.ctE, Dk.badC, badN_30 hd], show d.ctD n m = d by simp [Dk.ctD, Dk.badC, badN_30 hd]]
    clear h nm hd
    go_enter Tryd.func41, Tryd.ntmps41
    go_wp2_with fail
    refine (unhide NM).mono ?_
    rintro e w1 ⟨rfl, rfl⟩
    go_wp2
    go_ret
    exact ⟨rfl, unhide HD⟩
  | true =>
    rw [hd] at nm
    have NM := hide nm
    have hlen := dnm_len hd
    obtain ⟨bn, l, clock, Ln, ad, cap, hW, hf, hv, hl⟩ := h.nowP n
    obtain ⟨c1, hm, _, _⟩ := hW w (Kp.refl _ _)
    have HV := hide hv
    have HF := hide hf
    cases hg : (getF d.now n).isSome with
    | false =>
      rw [hg] at HF
      rw [show d.ctE n m = 5 by simp [Dk.ctE, Dk.badC, badN_5 hd hg], show d.ctD n m = d by simp [Dk.ctD, Dk.badC, badN_5 hd hg]]
      have HD := hide h.did
      clear h nm hd hW hf hv hl hg
      generalize (hasF d.now n).length = H at *
      go_enter Tryd.func41, Tryd.ntmps41
      go_wp2_with fail
      refine (unhide NM).mono ?_
      rintro e w1 ⟨rfl, rfl⟩
      go_wp2_with (at_lookup; refine wpList_lookOk rfl _ _ rfl rfl hm _ rfl _ (unhide HV) false (unhide HF) ?_)
      go_wp2
      go_ret
      exact ⟨rfl, unhide HD⟩
    | true =>
      rw [hg] at HF
      by_cases hm0 : m < 0
      · have hbc : d.badC n m = 1 := by unfold Dk.badC; rw [if_pos (badN_0 hd hg), if_pos (Or.inl hm0)]
        rw [show d.ctE n m = 1 by simp [Dk.ctE, hbc], show d.ctD n m = d by simp [Dk.ctD, hbc]]
        have HD := hide h.did
        clear h nm hd hW hf hv hl hg hbc
        generalize (hasF d.now n).length = H at *
        go_enter Tryd.func41, Tryd.ntmps41
        go_wp2_with fail
        refine (unhide NM).mono ?_
        rintro e w1 ⟨rfl, rfl⟩
        go_wp2_with (at_lookup; refine wpList_lookOk rfl _ _ rfl rfl hm _ rfl _ (unhide HV) true (unhide HF) ?_)
        go_wp2
        go_ret
        exact ⟨rfl, unhide HD⟩
      by_cases hm1 : ((hasF d.now n).length : Int) < m
      · have hbc : d.badC n m = 1 := by unfold Dk.badC; rw [if_pos (badN_0 hd hg), if_pos (Or.inr hm1)]
        rw [show d.ctE n m = 1 by simp [Dk.ctE, hbc], show d.ctD n m = d by simp [Dk.ctD, hbc]]
        have HD := hide h.did
        clear h nm hd hW hf hv hl hg hbc
        generalize (hasF d.now n).length = H at *
        go_enter Tryd.func41, Tryd.ntmps41
        go_wp2_with fail
        refine (unhide NM).mono ?_
        rintro e w1 ⟨rfl, rfl⟩
        go_wp2_with (at_lookup; refine wpList_lookOk rfl _ _ rfl rfl hm _ rfl _ (unhide HV) true (unhide HF) ?_)
        go_wp2
        go_ret
        exact ⟨rfl, unhide HD⟩
      have hbc : d.badC n m = 0 := by unfold Dk.badC; rw [if_pos (badN_0 hd hg), if_neg (by omega)]
      obtain ⟨hcan, _, _⟩ := can_ct h.inv.now h.nodup hbc
      rw [show d.ctE n m = d.doE by simp [Dk.ctE, hbc], show d.ctD n m = d.doD (.ct n m.toNat) by simp [Dk.ctD, hbc]]
      obtain ⟨u, rfl⟩ := Int.eq_ofNat_of_zero_le (by omega : 0 ≤ m)
      rw [Int.toNat_natCast] at *
      have cl := clone_any n w (by omega)
      have ad' := fun W (hk : Kp [] w W) => add_any (.ct n u) p d F W (h.kp hk (by simp)) hcan
      have CL := hide cl
      have AD := hide ad'
      have H0 := hide h
      clear h nm hd hW hf hv hl hg cl ad' hcan hbc
      generalize (hasF d.now n).length = H at *
      go_enter Tryd.func41, Tryd.ntmps41
      go_wp2_with fail
      refine (unhide NM).mono ?_
      rintro e w1 ⟨rfl, rfl⟩
      go_wp2_with (at_lookup; refine wpList_lookOk rfl _ _ rfl rfl hm _ rfl _ (unhide HV) true (unhide HF) ?_)
      refine (unhide CL).mono ?_
      rintro e w2 ⟨rfl, hb2⟩
      clear c1
      go_wp2_with fail
      refine (unhide AD w2 (Kp.ofBelow hb2)).mono ?_
      rintro e w3 ⟨rfl, hd3⟩
      have HD := hide (Did.pre (Kp.ofBelow hb2) hd3)
      clear hd3 hm
      go_wp2
      go_ret
      exact ⟨rfl, unhide HD⟩
end Go.Proofs.YtllkkflolijpaaaDoor
