/-
  Snapshots: Read, Put and Commit, of numbers below a hundred.
  Names of a disk, and what is read by them.
  Snapshots: what is collected.
  A number from 0 to n - 1: the plain fact.
-/
import Derived.Test.YtdmckgcbmbhmmaaGreatDoorRw21
import Derived.Test.YtdmckgcbmbhmmaaGreatDoorRw16
import Derived.Test.YtdmckgcbmbhmmaaGreatDoorRw17
import Derived.Deep.AppendLies
import Derived.Test.YtdmckgcbmbhmmaaGreatDoorRw18
import Derived.Test.YtdmckgcbmbhmmaaGreatDoorRw01
namespace Go.Proofs.YtdmckgcbmbhmmaaGreatDoor
open Go.RowKit

section
variable {w0 w : World} {p : Nat} {d : Dk}
set_option maxHeartbeats 1000000 in
set_option maxRecDepth 100000 in
theorem read_sn (h : OwnD w0 w p d) (hT : TabW w0) (c t : Nat) (hc : 1 ≤ c ∧ c < 100) (ht : t ≤ 32) :
    Calls Tryz.prog 10 #[.pointer (some ⟨p, 0, none⟩), .int .i64 (c : Int), .int .i64 (t : Int)] w fun e w' => e = .returned (.tuple #[.string (d.reS c t), .int .i64 (d.reE c t)]) ∧ Kp [] w w' := by
  obtain ⟨e1, e2⟩ := re_eq (d := d) (c := c) (t := t) ⟨hc.1, by omega⟩ ht
  rw [e1, e2]
  have I1 := isSnap_any (c : Int) w
  have I2 := isTask_any (t : Int) w
  rw [decide_eq_true (show (1 : Int) ≤ (c : Int) ∧ (c : Int) ≤ 1073741824 by omega)] at I1
  rw [decide_eq_true (show (0 : Int) ≤ (t : Int) ∧ (t : Int) ≤ 32 by omega)] at I2
  have F1 := hide (fileName_any c t w hc.2 (by omega))
  have R1 := hide (readFr_any h hT (sNm c t) (by have := dnm_len (sNm_dnm c t (by omega) ht); omega))
  have J1 := hide I1
  have J2 := hide I2
  clear I1 I2 e1 e2 h hT hc ht
  generalize sNm c t = n at *
  generalize d.oneS n = s at *
  generalize d.oneE n = E at *
  go_enter Tryz.func10, Tryz.ntmps10
  go_wp2_with fail
  refine (unhide J1).mono ?_
  rintro e w1 ⟨rfl, rfl⟩
  go_wp2_with fail
  refine (unhide J2).mono ?_
  rintro e w1 ⟨rfl, rfl⟩
  go_wp2_with fail
  refine (unhide F1).mono ?_
  rintro e w1 ⟨rfl, rfl⟩
  go_wp2_with fail
  refine (unhide R1).mono ?_
  rintro e w1 ⟨rfl, k1⟩
  have K1 := hide k1
  clear k1
  go_wp2
  go_ret2
  exact ⟨rfl, unhide K1⟩
set_option maxHeartbeats 1000000 in
set_option maxRecDepth 100000 in
theorem there_any (h : OwnD w0 w p d) (hT : TabW w0) (c n : Nat) (hc : 1 ≤ c ∧ c < 100) (hn : n ≤ 33) :
    Calls Tryz.prog 32 #[.pointer (some ⟨p, 0, none⟩), .int .i64 (c : Int), .int .i64 (n : Int)] w fun e w' => e = .returned (.bool (d.allB c n)) ∧ Kp [] w w' := by
  have hB := allB_iff (d := d) (c := c) (n := n)
  have RD := hide (fun W t (hw : Kp [] w W) (ht : t ≤ 32) => readFr_any (h.kp hw) hT (sNm c t) (by have := dnm_len (sNm_dnm c t (by omega) ht); omega))
  have FN := hide (fun t W (ht : t < 100) => fileName_any c t W hc.2 ht)
  have HB := hide hB
  clear hB h hT hc
  generalize d.allB c n = B at *
  go_enter Tryz.func32, Tryz.ntmps32
  go_wp2
  go_loopw [11] (fun i wr => ∃ k : Nat, k ≤ n ∧ i = .int .i64 (k : Int) ∧ Hid (Kp [] w wr ∧ ∀ t, t < k → d.oneE (sNm c t) = 0)) (fun i _ => n - (intOf i).toNat)
  case atStart => exact ⟨0, Nat.zero_le _, rfl, hide ⟨Kp.refl _ _, fun t ht => absurd ht (by omega)⟩⟩
  case round =>
    obtain ⟨k, hk, rfl, HK⟩ := hrel
    by_cases hlt : k < n
    · have hli : (k : Int) < (n : Int) := by omega
      have F1 := hide (unhide FN k wr (by omega))
      have R1 := hide (unhide RD wr k (unhide HK).1 (by omega))
      by_cases he : d.oneE (sNm c k) = 0
      · have HS : Hid (∀ W, Kp [] wr W → Kp [] w W ∧ ∀ t, t < k + 1 → d.oneE (sNm c t) = 0) := hide (fun W hW => ⟨(unhide HK).1.trans hW (by simp), fun t ht => by
          rcases Nat.lt_succ_iff_lt_or_eq.1 ht with h | rfl
          · exact (unhide HK).2 t h
          · exact he⟩)
        rw [he] at R1
        clear he HK
        generalize d.oneS (sNm c k) = s at *
        generalize sNm c k = nm at *
        go_wp2_with fail
        refine (unhide F1).mono ?_
        rintro e w1 ⟨rfl, rfl⟩
        go_wp2_with fail
        refine (unhide R1).mono ?_
        rintro e w1 ⟨rfl, k1⟩
        have HN := hide (unhide HS w1 k1)
        clear k1 HS R1 F1
        go_wp2
        go_roundw
        case rel => exact ⟨k + 1, by omega, by go_num, HN⟩
        case measure => simp [intOf]; omega
      · have hB0 : B = false := by
          cases B with
          | false => rfl
          | true => exact absurd ((unhide HB).1 rfl k hlt) he
        subst hB0
        have n0 : (d.oneE (sNm c k) != 0) = true := by rw [bne_iff_ne]; exact he
        have HW := hide (unhide HK).1
        clear he HK
        generalize d.oneS (sNm c k) = s at *
        generalize d.oneE (sNm c k) = E at *
        generalize sNm c k = nm at *
        go_wp2_with fail
        refine (unhide F1).mono ?_
        rintro e w1 ⟨rfl, rfl⟩
        go_wp2_with fail
        refine (unhide R1).mono ?_
        rintro e w1 ⟨rfl, k1⟩
        have HN := hide ((unhide HW).trans k1 (by simp))
        clear k1 HW R1 F1
        go_wp2
        go_ret
        exact ⟨rfl, unhide HN⟩
    · obtain rfl : k = n := by omega
      have hB1 : B = true := (unhide HB).2 (unhide HK).2
      subst hB1
      go_wp2
      go_ret
      exact ⟨rfl, (unhide HK).1⟩
set_option maxHeartbeats 1000000 in
set_option maxRecDepth 100000 in
theorem put_any (h : OwnD w0 w p d) (hT : TabW w0) (c t : Nat) (b : ByteArray) (hc : 1 ≤ c ∧ c < 100) (ht : t ≤ 32) (hb : b.size ≤ 65536) :
    Calls Tryz.prog 12 #[.pointer (some ⟨p, 0, none⟩), .int .i64 (c : Int), .int .i64 (t : Int), .string b] w fun e w' => e = .returned (.int .i64 (d.put c t b).1) ∧ OwnD w0 w' p (d.put c t b).2 ∧ Oth [] w w' := by
  rw [put_eq (d := d) (c := c) (t := t) (b := b) ⟨hc.1, by omega⟩ ht hb]
  have I1 := isSnap_any (c : Int) w
  have I2 := isTask_any (t : Int) w
  rw [decide_eq_true (show (1 : Int) ≤ (c : Int) ∧ (c : Int) ≤ 1073741824 by omega)] at I1
  rw [decide_eq_true (show (0 : Int) ≤ (t : Int) ∧ (t : Int) ≤ 32 by omega)] at I2
  have fr := frame_any b w (by omega) (hT.kp' h.bel)
  rw [show frE b = 0 from if_neg (by omega)] at fr
  have FR := hide fr
  have AH := hide (fun W (hw : OwnD w0 W p d) => ahead_any hw hT (c : Int))
  have FN := hide (fun W => fileName_any c t W hc.2 (by omega))
  have hfs : (frS b).size ≤ 9223372036854775807 := by rw [frS_siz b hb]; omega
  have AN := hide (fun W (hw : OwnD w0 W p d) => anew_any hw (sNm c t) (frS b) (by have := dnm_len (sNm_dnm c t (by omega) ht); omega) hfs)
  have J1 := hide I1
  have J2 := hide I2
  have H0 := hide h
  clear I1 I2 fr h hT hc ht hb hfs
  generalize sNm c t = n at *
  generalize frS b = s at *
  generalize d.ahE (c : Int) = E at *
  generalize d.anew n s = R at *
  obtain ⟨E2, d2⟩ := R
  dsimp only at AN
  by_cases hE : E = 0
  · subst hE
    rw [if_pos rfl]
    dsimp only
    go_enter Tryz.func12, Tryz.ntmps12
    go_wp2_with fail
    refine (unhide J1).mono ?_
    rintro e w1 ⟨rfl, rfl⟩
    go_wp2_with fail
    refine (unhide J2).mono ?_
    rintro e w1 ⟨rfl, rfl⟩
    go_wp2_with fail
    refine (unhide FR).mono ?_
    rintro e w1 ⟨rfl, k1⟩
    have K1 := hide (Kp.ofBelow k1)
    clear k1 J1 J2 FR
    go_wp2_with fail
    refine (unhide AH w1 ((unhide H0).kp (unhide K1))).mono ?_
    rintro e w2 ⟨rfl, k2⟩
    have K2 := hide ((unhide K1).trans k2 (by simp))
    clear k2 K1 AH
    go_wp2_with fail
    refine (unhide FN w2).mono ?_
    rintro e w3 ⟨rfl, rfl⟩
    go_wp2_with fail
    refine (unhide AN _ ((unhide H0).kp (unhide K2))).mono ?_
    rintro e w4 ⟨rfl, o4, t4⟩
    have T4 := hide (And.intro o4 ((Oth.of (unhide K2) []).trans t4))
    clear o4 t4 K2 H0 AN FN
    go_wp2
    go_ret
    exact ⟨rfl, unhide T4⟩
  · rw [if_neg hE]
    have n0 : (E != 0) = true := by rw [bne_iff_ne]; exact hE
    dsimp only
    clear AN hE
    go_enter Tryz.func12, Tryz.ntmps12
    go_wp2_with fail
    refine (unhide J1).mono ?_
    rintro e w1 ⟨rfl, rfl⟩
    go_wp2_with fail
    refine (unhide J2).mono ?_
    rintro e w1 ⟨rfl, rfl⟩
    go_wp2_with fail
    refine (unhide FR).mono ?_
    rintro e w1 ⟨rfl, k1⟩
    have K1 := hide (Kp.ofBelow k1)
    clear k1 J1 J2 FR
    go_wp2_with fail
    refine (unhide AH w1 ((unhide H0).kp (unhide K1))).mono ?_
    rintro e w2 ⟨rfl, k2⟩
    have K2 := hide ((unhide K1).trans k2 (by simp))
    clear k2 K1 AH
    go_wp2
    go_ret
    exact ⟨rfl, (unhide H0).kp (unhide K2), Oth.of (unhide K2) []⟩
set_option maxHeartbeats 1000000 in
set_option maxRecDepth 100000 in
theorem commit_any (h : OwnD w0 w p d) (hT : TabW w0) (c n : Nat) (s : ByteArray) (hc : 1 ≤ c ∧ c < 100) (hn : 1 ≤ n ∧ n ≤ 33) (hs : s.size ≤ 500) :
    Calls Tryz.prog 13 #[.pointer (some ⟨p, 0, none⟩), .int .i64 (c : Int), .int .i64 (n : Int), .string s] w fun e w' => e = .returned (.int .i64 (d.commit c n s).1) ∧ OwnD w0 w' p (d.commit c n s).2 ∧ Oth [] w w' := by
  rw [commit_eq (d := d) (c := c) (n := n) (s := s) ⟨hc.1, by omega⟩ hn hs]
  have I1 := isSnap_any (c : Int) w
  have I2 := isCount_any (n : Int) w
  rw [decide_eq_true (show (1 : Int) ≤ (c : Int) ∧ (c : Int) ≤ 1073741824 by omega)] at I1
  rw [decide_eq_true (show (1 : Int) ≤ (n : Int) ∧ (n : Int) ≤ 33 by omega)] at I2
  have AH := hide (ahead_any h hT (c : Int))
  have TH := hide (fun W (hw : OwnD w0 W p d) => there_any hw hT c n hc hn.2)
  have PL := hide (fun W (hw : OwnD w0 W p d) => place_any hw hT (c : Int) (n : Int) s ⟨by omega, by omega⟩ ⟨by omega, by omega⟩ (by omega))
  have J1 := hide I1
  have J2 := hide I2
  have H0 := hide h
  clear I1 I2 h hT hc hn
  generalize mfB (c : Int) (n : Int) s = b at *
  generalize d.ahE (c : Int) = E at *
  generalize d.allB c n = B at *
  generalize d.place b = R at *
  obtain ⟨E2, d2⟩ := R
  dsimp only at PL
  by_cases hE : E = 0
  · subst hE
    rw [if_pos rfl]
    cases B with
    | true =>
      rw [if_pos rfl]
      dsimp only
      go_enter Tryz.func13, Tryz.ntmps13
      go_wp2_with fail
      refine (unhide J1).mono ?_
      rintro e w1 ⟨rfl, rfl⟩
      go_wp2_with fail
      refine (unhide J2).mono ?_
      rintro e w1 ⟨rfl, rfl⟩
      go_wp2_with fail
      refine (unhide AH).mono ?_
      rintro e w1 ⟨rfl, k1⟩
      have K1 := hide k1
      clear k1 J1 J2 AH
      go_wp2_with fail
      refine (unhide TH w1 ((unhide H0).kp (unhide K1))).mono ?_
      rintro e w2 ⟨rfl, k2⟩
      have K2 := hide ((unhide K1).trans k2 (by simp))
      clear k2 K1 TH
      go_wp2_with fail
      refine (unhide PL w2 ((unhide H0).kp (unhide K2))).mono ?_
      rintro e w4 ⟨rfl, o4, t4⟩
      have T4 := hide (And.intro o4 ((Oth.of (unhide K2) []).trans t4))
      clear o4 t4 K2 H0 PL
      go_wp2
      go_ret
      exact ⟨rfl, unhide T4⟩
    | false =>
      rw [if_neg (by decide)]
      dsimp only
      go_enter Tryz.func13, Tryz.ntmps13
      go_wp2_with fail
      refine (unhide J1).mono ?_
      rintro e w1 ⟨rfl, rfl⟩
      go_wp2_with fail
      refine (unhide J2).mono ?_
      rintro e w1 ⟨rfl, rfl⟩
      go_wp2_with fail
      refine (unhide AH).mono ?_
      rintro e w1 ⟨rfl, k1⟩
      have K1 := hide k1
      clear k1 J1 J2 AH
      go_wp2_with fail
      refine (unhide TH w1 ((unhide H0).kp (unhide K1))).mono ?_
      rintro e w2 ⟨rfl, k2⟩
      have K2 := hide ((unhide K1).trans k2 (by simp))
      clear k2 K1 TH PL
      go_wp2
      go_ret
      exact ⟨rfl, (unhide H0).kp (unhide K2), Oth.of (unhide K2) []⟩
  · rw [if_neg hE]
    have n0 : (E != 0) = true := by rw [bne_iff_ne]; exact hE
    dsimp only
    clear PL TH hE
    go_enter Tryz.func13, Tryz.ntmps13
    go_wp2_with fail
    refine (unhide J1).mono ?_
    rintro e w1 ⟨rfl, rfl⟩
    go_wp2_with fail
    refine (unhide J2).mono ?_
    rintro e w1 ⟨rfl, rfl⟩
    go_wp2_with fail
    refine (unhide AH).mono ?_
    rintro e w1 ⟨rfl, k1⟩
    have K1 := hide k1
    clear k1 J1 J2 AH
    go_wp2
    go_ret
    exact ⟨rfl, (unhide H0).kp (unhide K1), Oth.of (unhide K1) []⟩
end
end Go.Proofs.YtdmckgcbmbhmmaaGreatDoor
namespace Go.Proofs.YtdmckgcbmbhmmaaGreatDoor
open Go.RowKit

set_option maxHeartbeats 1000000 in
theorem names_any (p : Nat) (d : Dk) (F : List Nat) (w : World) (h : DiskAt w p d F) :
    Calls Tryz.prog 21 #[.pointer (some ⟨p, 0, none⟩)] w fun e w' => ∃ v, e = .returned v ∧ TxRow w' v (nmL d.now) ∧ Kp [] w w' ∧ ∀ k, v.ownBlock = some k → w.heap.size ≤ k := by
  have hroom := h.inv.now
  obtain ⟨bs, bn, wv, Ls, Ln, ha, rfl, _⟩ := h
  have c := ha.cells
  have nf := names_files bn d.now Ln w ha.now hroom
  have NF := hide nf
  clear nf ha hroom
  go_enter Tryz.func21, Tryz.ntmps21
  go_wp2_with fail
  refine (unhide NF).mono ?_
  rintro e w1 ⟨v, rfl, h1, h2, h3⟩
  have H1 := hide h1
  have H3 := hide h3
  clear h1 h3 c
  go_wp2
  go_ret
  exact ⟨v, rfl, unhide H1, h2, unhide H3⟩
theorem nmL_read {d : Dk} (hr : Room d.now) (hn : (d.now.map (·.1)).Nodup) {s : ByteArray} (hs : s ∈ nmL d.now) : d.rdE s = 0 ∧ d.rdS s = ⟨(hasF d.now s).toArray⟩ ∧ s.size ≤ 32 := by
  obtain ⟨x, hx⟩ := nmL_mem hs
  have hd := hr.2 _ hx
  have e := badN_0 (d := d) hd (by rw [getF_mem hn hx]; rfl)
  exact ⟨e, by unfold Dk.rdS; rw [if_pos e], dnm_len hd⟩
end Go.Proofs.YtdmckgcbmbhmmaaGreatDoor
namespace Go.Proofs.YtdmckgcbmbhmmaaGreatDoor
open Go.RowKit

theorem dnm_ascii {s : ByteArray} (h : dnm s = true) : ∀ b ∈ s.data.toList, b.toNat < 128 := fun b hb => by
  unfold dnm at h
  rw [Bool.and_eq_true, List.all_eq_true] at h
  have := h.2 b hb
  unfold dnb at this
  simp at this
  omega
theorem TxRow.oth {X : List Nat} {w w' : World} {v : Value} {l : List ByteArray} (h : TxRow w v l) (hk : Oth X w w') (hF : ∀ k, v.ownBlock = some k → k ∉ X) : TxRow w' v l := by
  obtain ⟨h1, h2 | ⟨g, cp, cur, rfl, hb, hh, r⟩⟩ := h
  · exact ⟨h1, Or.inl h2⟩
  · exact ⟨h1, Or.inr ⟨g, cp, cur, rfl, hb, hk.block g _ _ _ hh (by decide) (by decide) (by decide) (hF g rfl), r⟩⟩
theorem nmL_dnm {d : Dk} (h : Inv d) {s : ByteArray} (hs : s ∈ nmL d.now) : dnm s = true := by
  obtain ⟨x, hx⟩ := nmL_mem hs
  exact h.now.2 _ hx
theorem clF_cons (c : Int) (n : ByteArray) (l : List ByteArray) (k : Int) (d : Dk) : clF c (n :: l) k d = if otB c n = true then (if d.rmE n = 0 then clF c l (k + 1) (d.rmD n) else (0, d.rmE n, d.rmD n)) else clF c l k d := rfl
section
variable {w0 w : World} {p : Nat} {d : Dk}
set_option maxHeartbeats 2000000 in
set_option maxRecDepth 100000 in
theorem others_any (h : OwnD w0 w p d) (c : Int) :
    Calls Tryz.prog 27 #[.pointer (some ⟨p, 0, none⟩), .int .i64 c] w fun e w' => e = .returned (.tuple #[.int .i64 (clF c (nmL d.now) 0 d).1, .int .i64 (clF c (nmL d.now) 0 d).2.1]) ∧ OwnD w0 w' p (clF c (nmL d.now) 0 d).2.2 ∧ Oth [] w w' := by
  have NM := hide (let ⟨F, hd, _⟩ := h; names_any p d F w hd)
  have hdn : ∀ s ∈ nmL d.now, dnm s = true := fun s hs => nmL_dnm h.inv hs
  have hlen : (nmL d.now).length ≤ 64 := by rw [nmL_len]; exact h.inv.now.1.2
  generalize hR : clF c (nmL d.now) 0 d = R at *
  generalize nmL d.now = NS at *
  have HR := hide hR
  have HD := hide hdn
  have H0 := hide h
  clear hR hdn h
  obtain ⟨Ra, Re, Rd⟩ := R
  dsimp only
  go_enter Tryz.func27, Tryz.ntmps27
  go_wp2_with fail
  refine (unhide NM).mono ?_
  rintro e w1 ⟨v, rfl, h1, hk1, h3⟩
  have H1 := hide h1
  have O1 := hide ((unhide H0).kp hk1)
  have T1 := hide (Oth.of hk1 [])
  obtain ⟨_, ⟨rfl, h0⟩ | ⟨g, cap, cur, rfl, _, hh, hnc, hcm, hcs, htk⟩⟩ := h1
  · obtain rfl : NS = [] := List.eq_nil_of_length_eq_zero h0
    have hR := unhide HR
    injection hR with e1 e2
    injection e2 with e2 e3
    subst e1 e2 e3
    clear hk1 h3 HR
    go_wp2
    go_loopw [15, 6, 8, 9, 10, 11] (fun i o _ _ _ _ wr => i = .int .i64 0 ∧ wr = w1 ∧ o = .int .i64 0) (fun _ _ _ _ _ _ _ => 0)
    case atStart => exact ⟨rfl, rfl, rfl⟩
    case round =>
      obtain ⟨rfl, rfl, rfl⟩ := hrel
      go_wp2
      go_ret2
      exact ⟨rfl, unhide O1, unhide T1⟩
  · unfold maxLen at hcm
    clear hh hcs htk h3 hk1
    have HI : Hid (∃ dk, OwnD w0 w1 p dk ∧ Oth [] w w1 ∧ TxRow w1 (.slice (some ⟨g, 0, none⟩) NS.length cap) NS ∧ clF c (NS.drop 0) ((0 : Nat) : Int) dk = (Ra, Re, Rd)) := hide ⟨d, unhide O1, unhide T1, unhide H1, unhide HR⟩
    clear O1 T1 H1 HR H0 NM
    go_wp2
    go_loopw [15, 6, 8, 9, 10, 11] (fun i o _ _ _ _ wr => ∃ (k gk : Nat), k ≤ NS.length ∧ gk ≤ k ∧ i = .int .i64 (k : Int) ∧ o = .int .i64 (gk : Int) ∧ Hid (∃ dk, OwnD w0 wr p dk ∧ Oth [] w wr ∧ TxRow wr (.slice (some ⟨g, 0, none⟩) NS.length cap) NS ∧ clF c (NS.drop k) (gk : Int) dk = (Ra, Re, Rd))) (fun i _ _ _ _ _ _ => NS.length - (intOf i).toNat)
    case atStart => exact ⟨0, 0, Nat.zero_le _, Nat.le_refl _, rfl, rfl, HI⟩
    case round =>
      obtain ⟨k, gk, hk, hgk, rfl, rfl, HK⟩ := hrel
      clear HI
      obtain ⟨dk, ok, tk, rk, ck⟩ := unhide HK
      clear HK
      by_cases hlt : k < NS.length
      · have hli : (k : Int) < (NS.length : Int) := by omega
        have c1 := rk.cell k hlt
        have hdn := unhide HD NS[k] (List.getElem_mem hlt)
        rw [List.drop_eq_getElem_cons hlt, clF_cons] at ck
        generalize NS[k] = s at *
        have hsz := dnm_len hdn
        have so := snOf_any s.data.toList wr (by rw [snL]; omega) (dnm_ascii hdn)
        rw [snA] at so
        have SO := hide so
        have OK := hide ok
        have TK := hide tk
        have RK := hide rk
        have hot : otB c s = match snP s.data.toList with | some q => decide ((q.1 : Int) ≠ c) | none => false := rfl
        clear so ok tk rk hdn
        generalize snP s.data.toList = P at *
        cases P with
        | none =>
          dsimp only at hot
          rw [hot, if_neg (by decide)] at ck
          have CK := hide ck
          clear hot ck hsz
          dsimp only [Option.map, Option.getD, Option.isSome] at SO
          go_wp2_with fail
          refine (unhide SO).mono ?_
          rintro e w2 ⟨rfl, k2⟩
          have HN : Hid (∃ dk, OwnD w0 w2 p dk ∧ Oth [] w w2 ∧ TxRow w2 (.slice (some ⟨g, 0, none⟩) NS.length cap) NS ∧ clF c (NS.drop (k + 1)) (gk : Int) dk = (Ra, Re, Rd)) := hide ⟨dk, (unhide OK).kp k2, (unhide TK).trans (Oth.of k2 []), (unhide RK).kp k2 (by simp), unhide CK⟩
          clear k2 OK TK RK CK SO
          go_wp2
          go_roundw
          case rel => exact ⟨k + 1, gk, by omega, by omega, by go_num, rfl, HN⟩
          case measure => simp [intOf]; omega
        | some q =>
          obtain ⟨qc, qt⟩ := q
          dsimp only at hot
          dsimp only [Option.map, Option.getD, Option.isSome] at SO
          by_cases hq : (qc : Int) = c
          · rw [hot, if_neg (by simp [hq])] at ck
            have CK := hide ck
            have hqe : ((qc : Int) == c) = true := by rw [beq_iff_eq]; exact hq
            clear hot ck hsz hq
            go_wp2_with fail
            refine (unhide SO).mono ?_
            rintro e w2 ⟨rfl, k2⟩
            have HN : Hid (∃ dk, OwnD w0 w2 p dk ∧ Oth [] w w2 ∧ TxRow w2 (.slice (some ⟨g, 0, none⟩) NS.length cap) NS ∧ clF c (NS.drop (k + 1)) (gk : Int) dk = (Ra, Re, Rd)) := hide ⟨dk, (unhide OK).kp k2, (unhide TK).trans (Oth.of k2 []), (unhide RK).kp k2 (by simp), unhide CK⟩
            clear k2 OK TK RK CK SO
            go_wp2
            go_roundw
            case rel => exact ⟨k + 1, gk, by omega, by omega, by go_num, rfl, HN⟩
            case measure => simp [intOf]; omega
          · rw [hot, if_pos (by simp [hq])] at ck
            have hqe : ((qc : Int) == c) = false := beq_eq_false_iff_ne.2 hq
            have RM := hide (fun W (hw : OwnD w0 W p dk) => hw.rm2 s (by omega))
            clear hot hsz hq
            generalize dk.rmE s = E at *
            generalize dk.rmD s = d2 at *
            by_cases hE : E = 0
            · subst hE
              rw [if_pos rfl] at ck
              have CK := hide ck
              clear ck
              go_wp2_with fail
              refine (unhide SO).mono ?_
              rintro e w2 ⟨rfl, k2⟩
              have O2 := hide ((unhide OK).kp k2)
              have T2 := hide ((unhide TK).trans (Oth.of k2 []))
              have R2 := hide ((unhide RK).kp k2 (by simp))
              clear k2 OK TK RK SO
              go_wp2_with fail
              refine (unhide RM w2 (unhide O2)).mono ?_
              rintro e w3 ⟨rfl, o3, t3⟩
              have HN : Hid (∃ dk, OwnD w0 w3 p dk ∧ Oth [] w w3 ∧ TxRow w3 (.slice (some ⟨g, 0, none⟩) NS.length cap) NS ∧ clF c (NS.drop (k + 1)) ((gk + 1 : Nat) : Int) dk = (Ra, Re, Rd)) := hide ⟨d2, o3, (unhide T2).trans t3, (unhide R2).oth t3 (by simp), unhide CK⟩
              clear o3 t3 O2 T2 R2 CK RM
              go_wp2
              go_roundw
              case rel => exact ⟨k + 1, gk + 1, by omega, by omega, by go_num, by go_num, HN⟩
              case measure => simp [intOf]; omega
            · rw [if_neg hE] at ck
              injection ck with e1 e2
              injection e2 with e2 e3
              subst e1 e2 e3
              have n0 : (E != 0) = true := by rw [bne_iff_ne]; exact hE
              clear hE
              go_wp2_with fail
              refine (unhide SO).mono ?_
              rintro e w2 ⟨rfl, k2⟩
              have O2 := hide ((unhide OK).kp k2)
              have T2 := hide ((unhide TK).trans (Oth.of k2 []))
              clear k2 OK TK RK SO
              go_wp2_with fail
              refine (unhide RM w2 (unhide O2)).mono ?_
              rintro e w3 ⟨rfl, o3, t3⟩
              have T3 := hide (And.intro o3 ((unhide T2).trans t3))
              clear o3 t3 O2 T2 RM
              go_wp2
              go_ret2
              exact ⟨rfl, unhide T3⟩
      · obtain rfl : k = NS.length := by omega
        rw [List.drop_length] at ck
        injection ck with e1 e2
        injection e2 with e2 e3
        subst e1 e2 e3
        have T3 := hide (And.intro ok tk)
        clear ok tk rk
        go_wp2
        go_ret2
        exact ⟨rfl, unhide T3⟩
set_option maxHeartbeats 1000000 in
set_option maxRecDepth 100000 in
theorem coll_any (h : OwnD w0 w p d) (hT : TabW w0) :
    Calls Tryz.prog 11 #[.pointer (some ⟨p, 0, none⟩)] w fun e w' => e = .returned (.tuple #[.int .i64 d.coll.1, .int .i64 d.coll.2.1]) ∧ OwnD w0 w' p d.coll.2.2 ∧ Oth [] w w' := by
  have RM := hide (readMf_any h hT)
  have CL := hide (fun W (hw : OwnD w0 W p d) => others_any hw d.laM.c)
  have H0 := hide h
  have hC : d.coll = if d.laE = 0 then clF d.laM.c (nmL d.now) 0 d else (0, d.laE, d) := rfl
  generalize d.coll = C at *
  generalize d.laM = M at *
  obtain ⟨mc, mt, ms⟩ := M
  dsimp only at RM CL hC
  generalize clF mc (nmL d.now) 0 d = D at *
  generalize d.laE = E at *
  obtain ⟨Da, De, Dd⟩ := D
  dsimp only at CL
  clear h hT
  by_cases hE : E = 0
  · subst hE
    rw [if_pos rfl] at hC
    subst hC
    dsimp only
    go_enter Tryz.func11, Tryz.ntmps11
    go_wp2_with fail
    refine (unhide RM).mono ?_
    rintro e w1 ⟨rfl, k1⟩
    have k2 := k1.trans (Kp.alloc w1 (.cells #[.int .i64 mc, .int .i64 mt, .string ms] 64)) (by simp)
    have mb := CBox.new w1 #[.int .i64 mc, .int .i64 mt, .string ms] 64
    have m0 := mb.cell (i := 0) (v := .int .i64 mc) rfl
    have K2 := hide k2
    clear k1 k2 mb
    go_wp2_with fail
    refine (unhide CL _ ((unhide H0).kp (unhide K2))).mono ?_
    rintro e w3 ⟨rfl, o3, t3⟩
    have T3 := hide (And.intro o3 ((Oth.of (unhide K2) []).trans t3))
    clear o3 t3 K2 H0 CL
    go_wp2
    go_ret2
    exact ⟨rfl, unhide T3⟩
  · rw [if_neg hE] at hC
    subst hC
    have n0 : (E != 0) = true := by rw [bne_iff_ne]; exact hE
    dsimp only
    clear hE CL
    go_enter Tryz.func11, Tryz.ntmps11
    go_wp2_with fail
    refine (unhide RM).mono ?_
    rintro e w1 ⟨rfl, k1⟩
    have k2 := k1.trans (Kp.alloc w1 (.cells #[.int .i64 mc, .int .i64 mt, .string ms] 64)) (by simp)
    have K2 := hide k2
    clear k1 k2
    go_wp2
    go_ret2
    exact ⟨rfl, (unhide H0).kp (unhide K2), Oth.of (unhide K2) []⟩
end
end Go.Proofs.YtdmckgcbmbhmmaaGreatDoor
namespace Go.Proofs.YtdmckgcbmbhmmaaGreatDoor

theorem among_eq (x n : Int) (hn : 0 < n) : (x.tmod n + n).tmod n = x % n := by
  rcases Int.lt_or_le x 0 with h | h
  · have h1 := Int.tmod_eq_emod (a := x) (b := n)
    have h2 := Int.emod_nonneg x (by omega : n ≠ 0)
    have h3 := Int.emod_lt_of_pos x hn
    by_cases hd : n ∣ x
    · have e : x % n = 0 := Int.emod_eq_zero_of_dvd hd
      rw [h1, if_pos (Or.inr hd), e]
      simp
    · rw [h1, if_neg (by omega), show (n.natAbs : Int) = n by omega, show x % n - n + n = x % n by omega, Int.tmod_eq_emod_of_nonneg h2, Int.emod_emod_of_dvd x (Int.dvd_refl n)]
  · rw [Int.tmod_eq_emod_of_nonneg h, Int.tmod_eq_emod_of_nonneg (by have := Int.emod_nonneg x (by omega : n ≠ 0); omega)]
    simp
end Go.Proofs.YtdmckgcbmbhmmaaGreatDoor
