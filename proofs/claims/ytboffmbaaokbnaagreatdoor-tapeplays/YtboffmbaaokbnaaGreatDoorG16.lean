/-
  The document's disk: may a name be?
  The document's disk: what is wrong with a name of a file that must be there.
  The document's disk: its struct; may a change, or a sync, be made?
  The document's disk: a fuse, a sync.
  The document's disk: New, Read.
  The document's disk: Names.
  The document's disk: rows of changes; a row copied, and one more.
  The document's disk: a change, where there is no room, and where the fuse has burnt.
-/
import Derived.Test.YtboffmbaaokbnaaGreatDoorG13
import Derived.Test.YtboffmbaaokbnaaGreatDoorG15
import Derived.Deep.QuietTactic
import Derived.BigQuiet
import Derived.Deep.AppendLies
import Derived.Deep.RegionLaw
namespace Go.Proofs.YtboffmbaaokbnaaGreatDoor
open Go.RowKit

set_option maxHeartbeats 4000000 in
set_option maxRecDepth 100000 in
theorem named_any (s : ByteArray) (w : World) (hs : s.size ≤ 9223372036854775807) :
    Calls Tryz.prog 63 #[.string s] w fun e w' => e = .returned (.bool (dnm s)) ∧ w' = w := by
  by_cases h1 : s = ⟨#[]⟩
  · subst h1
    have : dnm ⟨#[]⟩ = false := by decide
    rw [this]
    clear this
    go_enter Tryz.func63, Tryz.ntmps63
    go_wp2
    go_ret
    exact ⟨rfl, rfl⟩
  · have h1s : 1 ≤ s.size := by
      rcases Nat.eq_zero_or_pos s.size with h | h
      · refine absurd ?_ h1
        apply ByteArray.ext
        exact Array.eq_empty_of_size_eq_zero h
      · exact h
    have hq1 := strNe h1
    have hq2 : s.toList ≠ (⟨#[]⟩ : ByteArray).toList := beq_eq_false_iff_ne.1 hq1
    have hq3 : s.toList ≠ [] := fun e => hq2 (by rw [e, ByteArray.toList_eq])
    have hq4 : (s.toList == []) = false := beq_eq_false_iff_ne.2 hq3
    clear hq2 hq1
    by_cases h2 : s.size ≤ 32
    · have hn : dnm s = s.data.toList.all dnb := by unfold dnm; simp [h1s, h2]
      rw [hn]
      clear hn
      generalize hR : s.data.toList.all dnb = R
      have HR := hide hR
      clear hR
      have hlen : s.data.toList.length = s.size := Array.length_toList
      have h2i : ¬ ((32 : Int) < (s.size : Int)) := by omega
      go_enter Tryz.func63, Tryz.ntmps63
      go_wp2
      go_loopw [3, 4] (fun i _ wr => ∃ k : Nat, k ≤ s.size ∧ i = .int .i64 (k : Int) ∧ wr = w ∧ Hid (∀ c ∈ s.data.toList.take k, dnb c = true)) (fun i _ _ => s.size - (intOf i).toNat)
      case atStart => exact ⟨0, Nat.zero_le _, rfl, rfl, hide (by simp)⟩
      case round =>
        obtain ⟨k, hk, rfl, rfl, HK⟩ := hrel
        by_cases hlt : k < s.size
        · have hget : s[k] ∈ s.data.toList := by
            have : s[k] = s.data.toList[k]'(by omega) := rfl
            rw [this]; exact List.getElem_mem _
          have hsn : s.data.toList.take (k + 1) = s.data.toList.take k ++ [s[k]] := by
            rw [List.take_succ_eq_append_getElem (by omega)]; rfl
          have HG := hide hget
          have HS := hide hsn
          have hli : (k : Int) < (s.size : Int) := by omega
          have hdb : dnb s[k] = true ↔ ((97 ≤ s[k].toNat ∧ s[k].toNat ≤ 122) ∨ (48 ≤ s[k].toNat ∧ s[k].toNat ≤ 57) ∨ s[k].toNat = 46) := by
            unfold dnb
            simp only [Bool.or_eq_true, Bool.and_eq_true, decide_eq_true_eq]
            omega
          have HDB := hide hdb
          clear hget hsn hlen hdb
          have hcs : (97 ≤ s[k].toNat ∧ s[k].toNat ≤ 122) ∨ (48 ≤ s[k].toNat ∧ s[k].toNat ≤ 57) ∨ s[k].toNat = 46 ∨ 122 < s[k].toNat ∨ (57 < s[k].toNat ∧ s[k].toNat < 97) ∨ (s[k].toNat < 48 ∧ s[k].toNat ≠ 46) := by omega
          rcases hcs with ⟨t1, t2⟩ | ⟨t1, t2⟩ | t1 | t1 | ⟨t1, t2⟩ | ⟨t1, t2⟩
          · have HB : Hid (dnb s[k] = true) := hide ((unhide HDB).2 (by omega))
            have u0 : (97 : Int) ≤ (s[k].toNat : Int) := by omega
            have u1 : (s[k].toNat : Int) ≤ 122 := by omega
            go_wp2
            go_roundw
            case rel => exact ⟨k + 1, by omega, by go_num, by trivial, hide (fun c hc => by
              rw [unhide HS, List.mem_append] at hc
              rcases hc with hc | hc
              · exact unhide HK c hc
              · rw [List.mem_singleton] at hc; rw [hc]; exact unhide HB)⟩
            case measure => simp [intOf]; omega
          · have HB : Hid (dnb s[k] = true) := hide ((unhide HDB).2 (by omega))
            have u0 : ¬ ((97 : Int) ≤ (s[k].toNat : Int)) := by omega
            have u1 : (48 : Int) ≤ (s[k].toNat : Int) := by omega
            have u2 : (s[k].toNat : Int) ≤ 57 := by omega
            go_wp2
            go_roundw
            case rel => exact ⟨k + 1, by omega, by go_num, by trivial, hide (fun c hc => by
              rw [unhide HS, List.mem_append] at hc
              rcases hc with hc | hc
              · exact unhide HK c hc
              · rw [List.mem_singleton] at hc; rw [hc]; exact unhide HB)⟩
            case measure => simp [intOf]; omega
          · have HB : Hid (dnb s[k] = true) := hide ((unhide HDB).2 (by omega))
            have u0 : ¬ ((97 : Int) ≤ (s[k].toNat : Int)) := by omega
            have u1 : ¬ ((48 : Int) ≤ (s[k].toNat : Int)) := by omega
            have u2 : (s[k].toNat : Int) = 46 := by omega
            go_wp2
            go_roundw
            case rel => exact ⟨k + 1, by omega, by go_num, by trivial, hide (fun c hc => by
              rw [unhide HS, List.mem_append] at hc
              rcases hc with hc | hc
              · exact unhide HK c hc
              · rw [List.mem_singleton] at hc; rw [hc]; exact unhide HB)⟩
            case measure => simp [intOf]; omega
          · have HB : Hid (dnb s[k] ≠ true) := hide (fun h => by have := (unhide HDB).1 h; omega)
            have hall : s.data.toList.all dnb = false := List.all_eq_false.2 ⟨_, unhide HG, unhide HB⟩
            have hRf : R = false := (unhide HR).symm.trans hall
            clear hall
            have u0 : (97 : Int) ≤ (s[k].toNat : Int) := by omega
            have u1 : ¬ ((s[k].toNat : Int) ≤ 122) := by omega
            have u2 : (48 : Int) ≤ (s[k].toNat : Int) := by omega
            have u3 : ¬ ((s[k].toNat : Int) ≤ 57) := by omega
            have u4 : ¬ ((s[k].toNat : Int) = 46) := by omega
            have v4 : (((s[k].toNat : Nat) : Int) == 46) = false := beq_eq_false_iff_ne.2 u4
            subst hRf
            go_wp2
            go_ret
            exact ⟨rfl, rfl⟩
          · have HB : Hid (dnb s[k] ≠ true) := hide (fun h => by have := (unhide HDB).1 h; omega)
            have hall : s.data.toList.all dnb = false := List.all_eq_false.2 ⟨_, unhide HG, unhide HB⟩
            have hRf : R = false := (unhide HR).symm.trans hall
            clear hall
            have u0 : ¬ ((97 : Int) ≤ (s[k].toNat : Int)) := by omega
            have u1 : (48 : Int) ≤ (s[k].toNat : Int) := by omega
            have u2 : ¬ ((s[k].toNat : Int) ≤ 57) := by omega
            have u3 : ¬ ((s[k].toNat : Int) = 46) := by omega
            have v3 : (((s[k].toNat : Nat) : Int) == 46) = false := beq_eq_false_iff_ne.2 u3
            subst hRf
            go_wp2
            go_ret
            exact ⟨rfl, rfl⟩
          · have HB : Hid (dnb s[k] ≠ true) := hide (fun h => by have := (unhide HDB).1 h; omega)
            have hall : s.data.toList.all dnb = false := List.all_eq_false.2 ⟨_, unhide HG, unhide HB⟩
            have hRf : R = false := (unhide HR).symm.trans hall
            clear hall
            have u0 : ¬ ((97 : Int) ≤ (s[k].toNat : Int)) := by omega
            have u1 : ¬ ((48 : Int) ≤ (s[k].toNat : Int)) := by omega
            have u2 : ¬ ((s[k].toNat : Int) = 46) := by omega
            have v2 : (((s[k].toNat : Nat) : Int) == 46) = false := beq_eq_false_iff_ne.2 u2
            subst hRf
            go_wp2
            go_ret
            exact ⟨rfl, rfl⟩
        · obtain rfl : k = s.size := by omega
          have hRt : R = true := by
            rw [← unhide HR]
            refine List.all_eq_true.2 fun c hc => unhide HK c ?_
            rw [← hlen, List.take_length]; exact hc
          subst hRt
          clear hlen
          go_wp2
          go_ret
          exact ⟨rfl, rfl⟩
    · have : dnm s = false := by unfold dnm; simp [h1s, h2]
      rw [this]
      have h2i : (32 : Int) < (s.size : Int) := by omega
      clear this h2
      go_enter Tryz.func63, Tryz.ntmps63
      go_wp2
      go_ret
      exact ⟨rfl, rfl⟩
end Go.Proofs.YtboffmbaaokbnaaGreatDoor
namespace Go.Proofs.YtboffmbaaokbnaaGreatDoor
open Go.RowKit

set_option maxHeartbeats 1000000 in
set_option maxRecDepth 100000 in
theorem known_any (n : ByteArray) (p : Nat) (vn : Value) (d : Dk) (w : World) (hc : w.cell? ⟨p, 2, none⟩ = some vn) (h : FlRow w vn d.now) (hn : n.size ≤ 9223372036854775807) :
    Calls Tryz.prog 70 #[.pointer (some ⟨p, 0, none⟩), .string n] w fun e w' => ∃ z : Int, e = .returned (.tuple #[.int .i64 z, .int .i64 (d.badN n)]) ∧ w' = w ∧ (d.badN n = 0 → z = ((hasF d.now n).length : Int)) := by
  have NM := hide (named_any n w hn)
  have FI := hide (find_any vn d.now n w h)
  have HH := hide h
  cases hd : dnm n with
  | false =>
    rw [hd] at NM
    rw [badN_30 hd]
    clear h hd FI
    go_enter Tryz.func70, Tryz.ntmps70
    go_wp2_with fail
    refine (unhide NM).mono ?_
    rintro e w1 ⟨rfl, rfl⟩
    go_wp2
    go_ret2
    exact ⟨0, rfl, rfl, fun h => by cases h⟩
  | true =>
    rw [hd] at NM
    have HD := hide hd
    clear h hd
    go_enter Tryz.func70, Tryz.ntmps70
    go_wp2_with fail
    refine (unhide NM).mono ?_
    rintro e w1 ⟨rfl, rfl⟩
    go_wp2_with fail
    refine (unhide FI).mono ?_
    rintro e w2 ⟨r, rfl, rfl, hr⟩
    obtain ⟨k, hk, rfl, hkn, hg⟩ | ⟨rfl, hg⟩ := hr
    · obtain ⟨_, hLn⟩ | ⟨g, cap, rfl, hcp, hm⟩ := (unhide HH).shape
      · rw [hLn] at hk; exact absurd hk (by simp)
      have c2 := ((unhide HH).cell k hk).2
      have e0 : d.badN n = 0 := badN_0 (unhide HD) (by rw [hg]; rfl)
      have HHS : Hid ((⟨d.now[k].2.toArray⟩ : ByteArray) = hasS d.now n) := hide (by unfold hasS hasF; rw [hg]; rfl)
      rw [unhide HHS] at c2
      have HZ : Hid ((hasS d.now n).size = (hasF d.now n).length) := hide (by simp [hasS, ByteArray.size])
      have hki : (k : Int) < (d.now.length : Int) := by omega
      clear hkn hg HHS
      have E0 := hide e0
      clear e0
      generalize hasS d.now n = hs at *
      go_wp2
      go_ret2
      exact ⟨(hs.size : Int), by rw [unhide E0]; rfl, rfl, fun _ => by rw [unhide HZ]⟩
    · have e5 : d.badN n = 5 := badN_5 (unhide HD) (by rw [hg]; rfl)
      have E5 := hide e5
      clear e5 hg
      go_wp2
      go_ret2
      exact ⟨0, by rw [unhide E5]; rfl, rfl, fun h => by rw [unhide E5] at h; cases h⟩
end Go.Proofs.YtboffmbaaokbnaaGreatDoor
namespace Go.Proofs.YtboffmbaaokbnaaGreatDoor
open Go.RowKit

def rfC (vs vw vn : Value) (left : Int) (down : Bool) : Array Value := #[vs, vw, vn, .int .i64 left, .bool down]
set_option maxHeartbeats 1000000 in
set_option maxRecDepth 100000 in
theorem rready_any (p : Nat) (vs vw vn : Value) (d : Dk) (w : World) (h : CBox p (rfC vs vw vn d.left d.down) 50 w) (h0 : -1 ≤ d.left) (h1 : d.left ≤ 9223372036854775807) :
    Calls Tryz.prog 52 #[.pointer (some ⟨p, 0, none⟩)] w fun e w' => e = .returned (.bool d.readyB) ∧ CBox p (rfC vs vw vn d.ready.left d.ready.down) 50 w' ∧ Kp [p] w w' := by
  obtain ⟨sf, nw, wt, left, down⟩ := d
  dsimp only at h h0 h1
  have c3 : w.cell? ⟨p, 3, none⟩ = some (.int .i64 left) := h.cell rfl
  have c4 : w.cell? ⟨p, 4, none⟩ = some (.bool down) := h.cell rfl
  have f3 := h.froz 3
  have f4 := h.froz 4
  have HS3 := hide (fun v => h.set 3 v)
  have HS4 := hide (fun v => h.set 4 v)
  have H := hide h
  clear h
  cases down with
  | true =>
    have e1 : (Dk.mk sf nw wt left true).readyB = false := rfl
    have e2 : (Dk.mk sf nw wt left true).ready = ⟨sf, nw, wt, left, true⟩ := rfl
    rw [e1, e2]
    clear e1 e2
    go_enter Tryz.func52, Tryz.ntmps52
    go_wp2
    go_ret
    exact ⟨rfl, unhide HS4 (.bool true), Kp.set _ _ _ _⟩
  | false =>
    by_cases hz : left = 0
    · subst hz
      have e1 : (Dk.mk sf nw wt 0 false).readyB = false := rfl
      have e2 : (Dk.mk sf nw wt 0 false).ready = ⟨sf, nw, wt, 0, true⟩ := rfl
      rw [e1, e2]
      clear e1 e2
      go_enter Tryz.func52, Tryz.ntmps52
      go_wp2
      go_ret
      exact ⟨rfl, unhide HS4 (.bool true), Kp.set _ _ _ _⟩
    · have e1 : (Dk.mk sf nw wt left false).readyB = true := by unfold Dk.readyB; simp [hz]
      have e2 : (Dk.mk sf nw wt left false).ready = ⟨sf, nw, wt, if left = -1 then -1 else left - 1, false⟩ := by unfold Dk.ready; rw [if_pos e1]
      rw [e1, e2]
      clear e1 e2
      have hzb : (left == 0) = false := beq_eq_false_iff_ne.2 hz
      by_cases hm : left = -1
      · subst hm
        dsimp only
        rw [if_pos rfl]
        go_enter Tryz.func52, Tryz.ntmps52
        go_wp2
        go_ret
        exact ⟨rfl, unhide H, Kp.refl _ _⟩
      · have hp : (0 : Int) < left := by omega
        dsimp only
        rw [if_neg hm]
        go_enter Tryz.func52, Tryz.ntmps52
        go_wp2
        go_ret
        exact ⟨rfl, unhide HS3 (.int .i64 (left - 1)), Kp.set _ _ _ _⟩
end Go.Proofs.YtboffmbaaokbnaaGreatDoor
namespace Go.Proofs.YtboffmbaaokbnaaGreatDoor
open Go.RowKit

set_option maxHeartbeats 1000000 in
set_option maxRecDepth 100000 in
theorem rfuse_any (p : Nat) (vs vw vn : Value) (d : Dk) (n : Int) (w : World) (h : CBox p (rfC vs vw vn d.left d.down) 50 w) :
    Calls Tryz.prog 25 #[.pointer (some ⟨p, 0, none⟩), .int .i64 n] w fun e w' => e = .returned (.int .i64 (Dk.fuE n)) ∧ CBox p (rfC vs vw vn (d.fuD n).left (d.fuD n).down) 50 w' ∧ Kp [p] w w' := by
  have c3 : w.cell? ⟨p, 3, none⟩ = some (.int .i64 d.left) := h.cell rfl
  have f3 := h.froz 3
  have HS3 := hide (h.set 3 (.int .i64 n))
  have H := hide h
  clear h
  unfold Dk.fuE Dk.fuD
  by_cases hn : n < 0
  · rw [if_pos hn, if_pos hn]
    go_enter Tryz.func25, Tryz.ntmps25
    go_wp2
    go_ret
    exact ⟨rfl, unhide H, Kp.refl _ _⟩
  · rw [if_neg hn, if_neg hn]
    go_enter Tryz.func25, Tryz.ntmps25
    go_wp2
    go_ret
    exact ⟨rfl, unhide HS3, Kp.set _ _ _ _⟩
set_option maxHeartbeats 1000000 in
set_option maxRecDepth 100000 in
theorem rsync_any (p : Nat) (vs vw vn : Value) (hv : ∃ ad n cap, vn = .slice ad n cap) (d : Dk) (w : World) (h : CBox p (rfC vs vw vn d.left d.down) 50 w) (h0 : -1 ≤ d.left) (h1 : d.left ≤ 9223372036854775807) :
    Calls Tryz.prog 19 #[.pointer (some ⟨p, 0, none⟩)] w fun e w' => e = .returned (.int .i64 d.syE) ∧ (d.readyB = true → CBox p (rfC vn (.slice none 0 0) vn d.syD.left d.syD.down) 50 w') ∧ (d.readyB = false → CBox p (rfC vs vw vn d.syD.left d.syD.down) 50 w') ∧ Kp [p] w w' := by
  obtain ⟨ad, n, cap, rfl⟩ := hv
  have RD := hide (rready_any p vs vw (.slice ad n cap) d w h h0 h1)
  unfold Dk.syE Dk.syD
  clear h
  cases hr : d.readyB with
  | false =>
    rw [hr] at RD
    rw [if_neg (by simp), if_neg (by simp)]
    go_enter Tryz.func19, Tryz.ntmps19
    go_wp2_with fail
    refine (unhide RD).mono ?_
    rintro e w1 ⟨rfl, b1, k1⟩
    have B1 := hide b1
    clear b1
    go_wp2
    go_ret
    exact ⟨rfl, fun h => by simp at h, fun _ => unhide B1, k1⟩
  | true =>
    rw [hr] at RD
    rw [if_pos rfl, if_pos rfl]
    go_enter Tryz.func19, Tryz.ntmps19
    go_wp2_with fail
    refine (unhide RD).mono ?_
    rintro e w1 ⟨rfl, b1, k1⟩
    have c2 : w1.cell? ⟨p, 2, none⟩ = some (.slice ad n cap) := b1.cell rfl
    have c0 : w1.cell? ⟨p, 0, none⟩ = some vs := b1.cell rfl
    have f0 := b1.froz 0
    have bb := b1.set 0 (.slice ad n cap)
    have c1 : (w1.setCell ⟨p, 0, none⟩ (.slice ad n cap)).cell? ⟨p, 1, none⟩ = some vw := bb.cell rfl
    have f1 := bb.froz 1
    have B2 := hide (bb.set 1 (.slice none 0 0))
    have K2 := hide ((k1.trans (Kp.set w1 p 0 (.slice ad n cap)) (by simp)).trans (Kp.set (w1.setCell ⟨p, 0, none⟩ (.slice ad n cap)) p 1 (.slice none 0 0)) (by simp))
    clear b1 bb k1
    go_wp2
    go_ret
    exact ⟨rfl, fun _ => unhide B2, fun h => by simp at h, unhide K2⟩
end Go.Proofs.YtboffmbaaokbnaaGreatDoor
namespace Go.Proofs.YtboffmbaaokbnaaGreatDoor
open Go.RowKit

set_option maxHeartbeats 400000 in
theorem rnew_any (w : World) : Calls Tryz.prog 6 #[] w fun e w' => e = .returned (.pointer (some ⟨w.heap.size, 0, none⟩)) ∧ w' = w.alloc (.cells (rfC (.slice none 0 0) (.slice none 0 0) (.slice none 0 0) (-1) false) 50) := by
  go_enter Tryz.func6, Tryz.ntmps6
  go_wp2
  go_ret
  exact ⟨rfl, rfl⟩
/-- A file's place, where there is one. -/
theorem find_at (v : Value) (fs : Fs) (n : ByteArray) (w : World) (h : FlRow w v fs) (hn : (fs.map (·.1)).Nodup) (k : Nat) (hk : k < fs.length) (he : fs[k].1 = n) :
    Calls Tryz.prog 64 #[v, .string n] w fun e w' => e = .returned (.int .i64 (k : Int)) ∧ w' = w :=
  (find_any v fs n w h).mono fun e w' ⟨r, h1, h2, h3⟩ => by
    rcases h3 with ⟨j, hj, rfl, h4, _⟩ | ⟨_, h4⟩
    · have hp := List.pairwise_iff_getElem.1 hn
      have : j = k := by
        rcases Nat.lt_trichotomy j k with hlt | heq | hgt
        · exact (hp j k (by simpa using hj) (by simpa using hk) hlt (by simp [h4, he])).elim
        · exact heq
        · exact (hp k j (by simpa using hk) (by simpa using hj) hgt (by simp [h4, he])).elim
      subst this
      exact ⟨h1, h2⟩
    · exfalso
      have hm : (n, fs[k].2) ∈ fs := by
        have := List.getElem_mem hk
        rw [← he]
        exact this
      rw [getF_mem hn hm] at h4
      cases h4
theorem getF_idx {fs : Fs} {n : ByteArray} (h : (getF fs n).isSome = true) : ∃ k, ∃ hk : k < fs.length, fs[k].1 = n ∧ getF fs n = some fs[k].2 := by
  cases hg : getF fs n with
  | none => rw [hg] at h; cases h
  | some b =>
    obtain ⟨k, hk, e⟩ := List.mem_iff_getElem.1 (getF_some hg)
    exact ⟨k, hk, by rw [e], by rw [e]⟩
set_option maxHeartbeats 1000000 in
set_option maxRecDepth 100000 in
theorem rread_any (n : ByteArray) (p : Nat) (vn : Value) (d : Dk) (w : World) (hc : w.cell? ⟨p, 2, none⟩ = some vn) (h : FlRow w vn d.now) (hnd : (d.now.map (·.1)).Nodup) (hn : n.size ≤ 9223372036854775807) :
    Calls Tryz.prog 43 #[.pointer (some ⟨p, 0, none⟩), .string n] w fun e w' => e = .returned (.tuple #[.string (d.rdS n), .int .i64 (d.rdE n)]) ∧ Kp [] w w' := by
  have KN := hide (known_any n p vn d w hc h hn)
  unfold Dk.rdS Dk.rdE
  by_cases hb : d.badN n = 0
  · obtain ⟨hd1, hd2⟩ := badN_some hb
    obtain ⟨k, hk, he, hg⟩ := getF_idx hd2
    have FI := hide (fun W (hW : Kp [] w W) => find_at vn d.now n W (h.kp hW (by simp)) hnd k hk he)
    obtain ⟨_, hLn⟩ | ⟨g, cap, rfl, hcp, hm⟩ := h.shape
    · rw [hLn] at hk; exact absurd hk (by simp)
    have c2 := (h.cell k hk).2
    have HHS : Hid ((⟨d.now[k].2.toArray⟩ : ByteArray) = ⟨(hasF d.now n).toArray⟩) := hide (by unfold hasF; rw [hg]; rfl)
    rw [unhide HHS] at c2
    rw [hb, if_pos rfl]
    rw [hb] at KN
    have hki : (k : Int) < (d.now.length : Int) := by omega
    generalize (⟨(hasF d.now n).toArray⟩ : ByteArray) = S at *
    clear h hnd hd1 hd2 he hg hb
    go_enter Tryz.func43, Tryz.ntmps43
    go_wp2_with fail
    refine (unhide KN).mono ?_
    rintro e w1 ⟨z, rfl, rfl, _⟩
    go_wp2_with fail
    go_quiet (first | (go_at_call 64; exact Calls.quiet_of_same (unhide FI _ (Kp.drewQ _ _))))
    have HK := hide (Kp.drewQ w1 nq)
    go_wp2
    go_ret2
    exact ⟨rfl, unhide HK⟩
  · rw [if_neg hb]
    have hbb : (d.badN n != 0) = true := by simpa using hb
    clear h hnd
    generalize d.badN n = bb at *
    go_enter Tryz.func43, Tryz.ntmps43
    go_wp2_with fail
    refine (unhide KN).mono ?_
    rintro e w1 ⟨z, rfl, rfl, _⟩
    go_wp2
    go_ret2
    exact ⟨rfl, Kp.refl _ _⟩
end Go.Proofs.YtboffmbaaokbnaaGreatDoor
namespace Go.Proofs.YtboffmbaaokbnaaGreatDoor
open Go.RowKit

theorem info_str3 : (Tryz.prog.info? 9).map (fun i => (i.zero, i.size, i.bytes)) = some (some (.string ⟨#[]⟩), 1, 16) := by kernel_rfl
theorem one_new3 (w : World) (x : Value) (t : TypeId) : ∀ (j : Nat) (u : Value), [x][j]? = some u → (w.alloc (.cells #[x] t)).cell? ((⟨w.heap.size, 0, none⟩ : Addr).add j) = some u := fun j u hj => by
  match j, hj with
  | 0, hj =>
    simp at hj
    subst hj
    exact (CBox.new w #[x] t).cell rfl
/-- The files' names, as cells. -/
def nmC (fs : Fs) : List Value := fs.map fun q => .string q.1
theorem nmC_snoc (fs : Fs) (k : Nat) (h : k < fs.length) : nmC (fs.take (k + 1)) = nmC (fs.take k) ++ [.string fs[k].1] := by
  unfold nmC
  rw [List.take_succ_eq_append_getElem h, List.map_append]; rfl
set_option maxHeartbeats 1000000 in
set_option maxRecDepth 100000 in
theorem rnames_any (p : Nat) (vn : Value) (d : Dk) (w : World) (hc : w.cell? ⟨p, 2, none⟩ = some vn) (h : FlRow w vn d.now) (hl : d.now.length ≤ 1000000) :
    Calls Tryz.prog 32 #[.pointer (some ⟨p, 0, none⟩)] w fun e w' => ∃ v, e = .returned v ∧ w'.ownsRow 0 9 1 v d.now.length (nmC d.now) ∧ Kp [] w w' ∧ ∀ k, v.ownBlock = some k → w.heap.size ≤ k := by
  obtain ⟨i0, hi, hz0, hz1, hz2⟩ := info_parts info_str3
  generalize d.now = fs at *
  obtain ⟨rfl, rfl⟩ | ⟨g, cap, rfl, hcp, hm⟩ := h.shape
  · clear h
    go_enter Tryz.func32, Tryz.ntmps32
    go_wp2
    go_loopw [3, 4] (fun o i wr => o = .slice none 0 0 ∧ i = .int .i64 0 ∧ wr = w) (fun _ _ _ => 0)
    case atStart => exact ⟨rfl, rfl, rfl⟩
    case round =>
      obtain ⟨rfl, rfl, rfl⟩ := hrel
      go_wp2
      go_ret
      exact ⟨_, rfl, World.ownsRow_nil _ _ _ _, Kp.refl _ _, fun k hk => by simp [Value.ownBlock] at hk⟩
  · have HH := hide h
    have HC := hide hc
    clear h hc
    have hc := unhide HC
    go_enter Tryz.func32, Tryz.ntmps32
    go_wp2
    go_loopw [3, 4] (fun o i wr => ∃ (k : Nat) (ov : Value), k ≤ fs.length ∧ i = .int .i64 (k : Int) ∧ ov = o ∧ Kp [] w wr ∧ Hid (wr.ownsRow 0 9 1 ov k (nmC (fs.take k))) ∧ Hid (∀ j, ov.ownBlock = some j → w.heap.size ≤ j)) (fun _ i _ => fs.length - (intOf i).toNat)
    case atStart => exact ⟨0, _, Nat.zero_le _, rfl, rfl, Kp.refl _ _, hide (World.ownsRow_nil _ _ _ _), hide (fun j hj => by simp [Value.ownBlock] at hj)⟩
    case round =>
      clear hc
      obtain ⟨k, ov, hk, rfl, rfl, hkp, HO, HB⟩ := hrel
      have hc := hkp.cell (unhide HC) (by simp)
      by_cases hlt : k < fs.length
      · have hli : (k : Int) < (fs.length : Int) := by omega
        have c1 := (((unhide HH).kp hkp (by simp)).cell k hlt).1
        have HNS := hide (nmC_snoc fs k hlt)
        generalize fs[k].1 = nm at *
        generalize hTK : nmC (fs.take k) = TK at *
        have hown : wr.ownsRow 0 9 1 ov k TK := unhide HO
        have HSZ := hide hkp.size
        clear hTK
        go_wp2_with (at_builtin; refine wpList_append_lies _ rfl _ _ 62 rfl 0 9 i0 (.string ⟨#[]⟩) 1 16 Tryz.underlying62 hi hz0 hz1 hz2 rfl (by decide) ov k TK rfl (hown.alloc _) ⟨wr.heap.size, 0, none⟩ 1 1 [.string nm] rfl rfl (one_new3 _ _ _) (by intro u hu; simp at hu; subst hu; rfl) (by omega) (by unfold maxLen; omega) (by omega) (by simp) _ rfl ?_; intro g3 cap3 w3 hown' hgrow hat3 hlt3; have HAT := hide hat3; clear hat3)
        have hal := Kp.alloc wr (.cells #[.string nm] 9)
        have hz : (wr.alloc (.cells #[.string nm] 9)).heap.size = wr.heap.size + 1 := by simp
        have hk3 : Kp [] w w3 := (hkp.trans hal (by simp)).trans (Kp.of hgrow) (fun x hx => Or.inr (unhide HB x (by simpa using hx)))
        have HO3 : Hid (w3.ownsRow 0 9 1 (.slice (some ⟨g3, 0, none⟩) (k + 1) cap3) (k + 1) (nmC (fs.take (k + 1)))) := hide (by rw [unhide HNS]; exact hown')
        have HB3 : Hid (∀ j, (Value.slice (some ⟨g3, 0, none⟩) (k + 1) cap3).ownBlock = some j → w.heap.size ≤ j) := hide (fun j hj => by
          have e1 : g3 = j := by simpa [Value.ownBlock] using hj
          subst e1
          rcases unhide HAT with h1 | h1
          · exact unhide HB g3 h1
          · have := unhide HSZ; omega)
        clear hown hown' hgrow HAT hal hz HNS
        go_wp2
        go_roundw
        case rel => exact ⟨k + 1, _, by omega, by go_num, rfl, hk3, HO3, HB3⟩
        case measure => simp [intOf]; omega
      · have hli : ¬ ((k : Int) < (fs.length : Int)) := by omega
        obtain rfl : k = fs.length := by omega
        have HO3 : Hid (wr.ownsRow 0 9 1 ov fs.length (nmC fs)) := hide (by have := unhide HO; rw [List.take_length] at this; exact this)
        clear HO
        go_wp2
        go_ret
        exact ⟨_, rfl, unhide HO3, hkp, unhide HB⟩
end Go.Proofs.YtboffmbaaokbnaaGreatDoor
namespace Go.Proofs.YtboffmbaaokbnaaGreatDoor
open Go.RowKit

theorem info_chgR : (Tryz.prog.info? 96).map (fun i => (i.zero, i.size, i.bytes)) = some (some (.agg #[.int .i64 0, .string ⟨#[]⟩, .string ⟨#[]⟩, .int .i64 0, .string ⟨#[]⟩]), 5, 64) := by kernel_rfl
/-- Changes lie in a row of their own. -/
def ChRow (w : World) (v : Value) (cs : List Chg) : Prop := w.ownsRow 0 96 5 v cs.length (cs.flatMap fun c => (chA c).toList)
theorem ChRow.nil (w : World) : ChRow w (.slice none 0 0) [] := World.ownsRow_nil _ _ _ _
theorem ChRow.kp {F : List Nat} {w w' : World} {v : Value} {cs : List Chg} (h : ChRow w v cs) (hk : Kp F w w') (hF : ∀ k, v.ownBlock = some k → k ∉ F) : ChRow w' v cs := by
  obtain ⟨h1, h2 | ⟨g, cp, cur, rfl, hb, hh, r⟩⟩ := h
  · exact ⟨h1, Or.inl h2⟩
  · exact ⟨h1, Or.inr ⟨g, cp, cur, rfl, hb, (hk.block g (Array.getElem?_eq_some_iff.1 hh).1 (hF g rfl)).trans hh, r⟩⟩
theorem ChRow.lt {w : World} {v : Value} {cs : List Chg} (h : ChRow w v cs) {k : Nat} (hk : v.ownBlock = some k) : k < w.heap.size := (World.ownsRow.lt h k hk).2
theorem ChRow.shape {w : World} {v : Value} {cs : List Chg} (h : ChRow w v cs) : (v = .slice none 0 0 ∧ cs = []) ∨ ∃ g cap, v = .slice (some ⟨g, 0, none⟩) cs.length cap ∧ cs.length ≤ cap ∧ cap ≤ 9223372036854775807 := by
  obtain ⟨_, ⟨rfl, h0⟩ | ⟨g, cap, cur, rfl, _, _, hn, hm, _⟩⟩ := h
  · exact Or.inl ⟨rfl, List.eq_nil_of_length_eq_zero h0⟩
  · exact Or.inr ⟨g, cap, rfl, hn, by unfold maxLen at hm; omega⟩
theorem chA_size (c : Chg) : (chA c).size = 5 := by cases c <;> rfl
theorem chA_one (c : Chg) : ∀ u ∈ (chA c).toList, u.oneCell' = true := fun u hu => by
  cases c <;> (simp [chA] at hu; rcases hu with rfl | rfl | rfl | rfl | rfl <;> rfl)
theorem chCells_len (cs : List Chg) : (cs.flatMap fun c => (chA c).toList).length = cs.length * 5 := by
  induction cs with
  | nil => rfl
  | cons c cs ih => rw [List.flatMap_cons, List.length_append, ih, Array.length_toList, chA_size, List.length_cons]; omega
theorem chCells_one (cs : List Chg) : ∀ u ∈ cs.flatMap (fun c => (chA c).toList), u.oneCell' = true := fun u hu => by
  obtain ⟨c, _, h⟩ := List.mem_flatMap.1 hu
  exact chA_one c u h
/-- A row of changes put at the end of another one that is the call's own. -/
theorem appChs {w : World} {hv ov : Value} {A cs : List Chg} (h : ChRow w hv cs) (ho : ChRow w ov A) (hov : ov ≠ .slice none 0 0) (hl : A.length + cs.length ≤ 1000000) (ty : TypeId) :
    ∃ v' w', (Builtin.append_ #[48, 48] ty #[ov, hv]).run Tryz.prog w = .ok v' w' ∧ ChRow w' v' (A ++ cs) ∧ w.grownBy w' ov.ownBlock ∧ (v'.ownBlock = ov.ownBlock ∨ v'.ownBlock = some w.heap.size) ∧ ∃ g cap, v' = .slice (some ⟨g, 0, none⟩) (A ++ cs).length cap := by
  obtain ⟨i0, hi, hz0, hz1, hz2⟩ := info_parts info_chgR
  obtain ⟨e, _⟩ | ⟨g2, cap2, rfl, hc2, hm2⟩ := ho.shape
  · exact absurd e hov
  obtain ⟨rfl, rfl⟩ | ⟨g, cap, rfl, hc, hm⟩ := h.shape
  · refine ⟨_, w, run_append_owned_none (P := Tryz.prog) (w := w) 0 _ ty 96 i0 5 Tryz.underlying48 hi _ _ _ ho, by simpa using ho, World.grownBy.refl _ _, Or.inl rfl, g2, cap2, by simp⟩
  · by_cases h0 : cs = []
    · subst h0
      refine ⟨.slice (some ⟨g2, 0, none⟩) A.length cap2, w, ?_, by simpa using ho, World.grownBy.refl _ _, Or.inl rfl, g2, cap2, by simp⟩
      have := run_append_room_cells (P := Tryz.prog) (w := w) 48 ty 96 i0 Tryz.underlying48 hi g2 0 A.length cap2 ⟨g, 0, none⟩ 0 cap [] (by simp) (fun j u hj => by simp at hj) (fun u hu => by cases hu) (by omega) (fun j hj => absurd hj (by simp)) (fun j hj => absurd hj (by simp))
      simpa [World.setCells] using this
    · have hpos : 0 < cs.length := List.length_pos_iff.2 h0
      obtain ⟨g3, cap3, w', hr, h1, h2, h3, _⟩ := run_append_lies (P := Tryz.prog) (w := w) 48 ty 0 96 i0 (.agg #[.int .i64 0, .string ⟨#[]⟩, .string ⟨#[]⟩, .int .i64 0, .string ⟨#[]⟩]) 5 64 Tryz.underlying48 hi hz0 hz1 hz2 rfl (by decide) _ _ _ ho ⟨g, 0, none⟩ cs.length cap (cs.flatMap fun c => (chA c).toList) (chCells_len cs) (fun j u hj => World.ownsRow.cells h (g := g) rfl j u hj) (chCells_one cs) hpos (by unfold maxLen; omega) (by omega) (Nat.zero_le _) _ rfl
      refine ⟨_, w', hr, ?_, h2, ?_, g3, cap3, by rw [List.length_append]⟩
      · unfold ChRow
        rw [List.length_append, List.flatMap_append]
        exact h1
      · rcases h3 with h3 | h3
        · exact Or.inl h3.symm
        · exact Or.inr (by rw [h3]; rfl)
theorem ChRow.empty (w : World) : ChRow (w.alloc (.cells #[] 96)) (.slice (some ⟨w.heap.size, 0, none⟩) 0 0) [] :=
  ⟨rfl, Or.inr ⟨w.heap.size, 0, #[], rfl, Nat.zero_le _, CBox.new w _ _, Nat.le_refl _, by unfold maxLen; omega, rfl, rfl⟩⟩
theorem ChRow.snoc {w : World} {v : Value} {A : List Chg} {c : Chg} (h : w.ownsRow 0 96 5 v (A.length + 1) ((A.flatMap fun c => (chA c).toList) ++ (chA c).toList)) : ChRow w v (A ++ [c]) := by
  unfold ChRow
  rw [List.length_append, List.flatMap_append]
  simpa using h
end Go.Proofs.YtboffmbaaokbnaaGreatDoor
namespace Go.Proofs.YtboffmbaaokbnaaGreatDoor
open Go.RowKit

/-- The document's disk lies there. -/
structure RfAt (w : World) (p : Nat) (d : Dk) (vs vw vn : Value) : Prop where
  box : CBox p (rfC vs vw vn d.left d.down) 50 w
  wait : ChRow w vw d.wait
  now : FlRow w vn d.now
theorem chA_form (c : Chg) : ∃ (a x : Int) (n m s : ByteArray), chA c = #[.int .i64 a, .string n, .string m, .int .i64 x, .string s] := by
  cases c with
  | wr n pos d => exact ⟨_, _, _, _, _, rfl⟩
  | ct n len => exact ⟨_, _, _, _, _, rfl⟩
  | rn a b => exact ⟨_, _, _, _, _, rfl⟩
  | rm n => exact ⟨_, _, _, _, _, rfl⟩
set_option maxHeartbeats 1000000 in
set_option maxRecDepth 100000 in
theorem rdo_full (c : Chg) (p : Nat) (vs vw vn : Value) (d : Dk) (w : World) (h : RfAt w p d vs vw vn) (hl : 1024 ≤ d.wait.length) :
    Calls Tryz.prog 66 #[.pointer (some ⟨p, 0, none⟩), .agg (chA c)] w fun e w' => e = .returned (.int .i64 32) ∧ Kp [] w w' := by
  obtain ⟨a, x, n, m, s, e⟩ := chA_form c
  rw [e]
  obtain ⟨rfl, h0⟩ | ⟨g, cap, rfl, hcp, hm⟩ := h.wait.shape
  · rw [h0] at hl; simp at hl
  have HK := hide (Kp.alloc w (.cells #[.int .i64 a, .string n, .string m, .int .i64 x, .string s] 96))
  have c1 : (w.alloc (.cells #[.int .i64 a, .string n, .string m, .int .i64 x, .string s] 96)).cell? ⟨p, 1, none⟩ = some (.slice (some ⟨g, 0, none⟩) d.wait.length cap) := (h.box.kp (unhide HK) (by simp)).cell rfl
  have hli : (1024 : Int) ≤ (d.wait.length : Int) := by omega
  clear h e
  generalize d.wait.length = N at *
  go_enter Tryz.func66, Tryz.ntmps66
  go_wp2
  go_ret
  exact ⟨rfl, unhide HK⟩
set_option maxHeartbeats 1000000 in
set_option maxRecDepth 100000 in
theorem rdo_down (c : Chg) (p : Nat) (vs vw vn : Value) (d : Dk) (w : World) (h : RfAt w p d vs vw vn) (hl : ¬ 1024 ≤ d.wait.length) (hr : d.readyB = false) (h0 : -1 ≤ d.left) (h1 : d.left ≤ 9223372036854775807) :
    Calls Tryz.prog 66 #[.pointer (some ⟨p, 0, none⟩), .agg (chA c)] w fun e w' => e = .returned (.int .i64 31) ∧ CBox p (rfC vs vw vn d.ready.left d.ready.down) 50 w' ∧ Kp [p] w w' := by
  obtain ⟨a, x, n, m, s, e⟩ := chA_form c
  rw [e]
  obtain ⟨ad, cap, hvw⟩ : ∃ ad cap, vw = .slice ad d.wait.length cap := by
    obtain ⟨rfl, h0⟩ | ⟨g, cap, rfl, hcp, hm⟩ := h.wait.shape
    · exact ⟨_, _, by rw [h0]; rfl⟩
    · exact ⟨_, _, rfl⟩
  subst hvw
  have hka := Kp.alloc w (.cells #[.int .i64 a, .string n, .string m, .int .i64 x, .string s] 96)
  have bx := h.box.kp hka (by simp)
  have c1 : (w.alloc (.cells #[.int .i64 a, .string n, .string m, .int .i64 x, .string s] 96)).cell? ⟨p, 1, none⟩ = some (.slice ad d.wait.length cap) := bx.cell rfl
  have RD := rready_any p vs (.slice ad d.wait.length cap) vn d _ bx h0 h1
  rw [hr] at RD
  have RD := hide RD
  have hk0 : Kp [p] w (w.alloc (.cells #[.int .i64 a, .string n, .string m, .int .i64 x, .string s] 96)) := hka.mono (by simp)
  have HK := hide hk0
  have hli : ¬ ((1024 : Int) ≤ (d.wait.length : Int)) := by omega
  clear h e hka bx hk0
  generalize d.wait.length = N at *
  generalize d.ready = d2 at *
  go_enter Tryz.func66, Tryz.ntmps66
  go_wp2_with fail
  refine (unhide RD).mono ?_
  rintro r w1 ⟨rfl, b1, k1⟩
  have HB := hide b1
  have HK1 := hide ((unhide HK).trans k1 (fun _ hx => Or.inl hx))
  clear b1 k1
  go_wp2
  go_ret
  exact ⟨rfl, unhide HB, unhide HK1⟩
end Go.Proofs.YtboffmbaaokbnaaGreatDoor
