/-
  The document's disk: files, with a change made upon them (a write).
  The document's disk: may a name be?
-/
import Derived.Test.YtfnljfkgkadlaaaG15
import Derived.Test.YtfnljfkgkadlaaaG12
namespace Go.Proofs.Ytfnljfkgkadlaaa
open Go.RowKit

theorem from_string (hs : ByteArray) (m : Nat) (hm : m ≤ hs.size) (W : World) : (Instr.slice 9 (.string hs) (some (.int .i64 (m : Int))) none none).run Try.prog W = .ok (.string ⟨(hs.data.toList.drop m).toArray⟩) W := by
  simp [Instr.slice, run_underlying Try.underlying9, Instr.sliceBounds, Instr.sliceBound, asIntOf, Result.andThen]
  rw [if_pos hm]
  dsimp only
  congr 2
  apply ByteArray.ext
  apply Array.ext'
  simp
  have hdl : hs.data.toList.length = hs.size := Array.length_toList
  rw [List.take_of_length_le (by rw [List.length_drop, hdl]; exact Nat.le_refl _)]
theorem app_data (a b : ByteArray) : (a ++ b).data.toList = a.data.toList ++ b.data.toList := by simp
set_option maxHeartbeats 600000 in
set_option maxRecDepth 100000 in
theorem made_wr (v : Value) (fs : Fs) (n : ByteArray) (pos : Nat) (d : ByteArray) (hfit : pos ≤ (hasF fs n).length) (hfit2 : (hasF fs n).length + d.size ≤ 524288) (w : World) (h : FlRow w v fs) (hl : fs.length ≤ 1000000) :
    Calls Try.prog 44 #[v, .agg (chA (.wr n pos d))] w fun e w' => ∃ v', e = .returned v' ∧ FlRow w' v' (made fs (.wr n pos d)) ∧ Kp [] w w' ∧ ∀ k, v'.ownBlock = some k → w.heap.size ≤ k := by
  have hzz : (hasS fs n).size = (hasF fs n).length := by simp [hasS, ByteArray.size]
  have HLEN : Hid (pos ≤ (hasS fs n).size) := hide (by omega)
  have HSM : Hid ((hasS fs n).size ≤ 524288) := hide (by omega)
  have hdd : d.size ≤ 524288 := by omega
  have hpp : pos ≤ 524288 := by omega
  clear hzz hfit hfit2
  show Calls Try.prog 44 #[v, .agg #[.int .i64 0, .string n, .string ⟨#[]⟩, .int .i64 (pos : Int), .string d]] w _
  have hk0 := Kp.alloc w (.cells #[.int .i64 0, .string n, .string ⟨#[]⟩, .int .i64 (pos : Int), .string d] 70)
  have bx0 := CBox.new w #[.int .i64 0, .string n, .string ⟨#[]⟩, .int .i64 (pos : Int), .string d] 70
  have hbx : ∀ W, Kp [] (w.alloc (.cells #[.int .i64 0, .string n, .string ⟨#[]⟩, .int .i64 (pos : Int), .string d] 70)) W → CBox w.heap.size #[.int .i64 0, .string n, .string ⟨#[]⟩, .int .i64 (pos : Int), .string d] 70 W := fun W hk => bx0.kp hk (by simp)
  have h0 := h.kp hk0 (by simp)
  have hfi := find_any v fs n (w.alloc (.cells #[.int .i64 0, .string n, .string ⟨#[]⟩, .int .i64 (pos : Int), .string d] 70)) h0
  have hsz0 : (w.alloc (.cells #[.int .i64 0, .string n, .string ⟨#[]⟩, .int .i64 (pos : Int), .string d] 70)).heap.size = w.heap.size + 1 := by simp
  have HFI := hide hfi
  have HBX := hide hbx
  have H0 := hide h0
  have HK0 := hide hk0
  have HSZ := hide hsz0
  have b1 : (w.alloc (.cells #[.int .i64 0, .string n, .string ⟨#[]⟩, .int .i64 (pos : Int), .string d] 70)).cell? ⟨w.heap.size, 0, none⟩ = some #[.int .i64 0, .string n, .string ⟨#[]⟩, .int .i64 (pos : Int), .string d][0] := bx0.cell rfl
  have b2 : (w.alloc (.cells #[.int .i64 0, .string n, .string ⟨#[]⟩, .int .i64 (pos : Int), .string d] 70)).cell? ⟨w.heap.size, 1, none⟩ = some #[.int .i64 0, .string n, .string ⟨#[]⟩, .int .i64 (pos : Int), .string d][1] := bx0.cell rfl
  clear hfi hbx h0 hk0 hsz0 h bx0
  go_enter Try.func44, Try.ntmps44
  go_wp2_with fail
  refine (unhide HFI).mono ?_
  rintro e w1 ⟨r, rfl, rfl, hr⟩
  clear HFI b1 b2
  generalize w.alloc (.cells #[.int .i64 0, .string n, .string ⟨#[]⟩, .int .i64 (pos : Int), .string d] 70) = W0 at *
  have b1 : W0.cell? ⟨w.heap.size, 0, none⟩ = some #[.int .i64 0, .string n, .string ⟨#[]⟩, .int .i64 (pos : Int), .string d][0] := (unhide HBX _ (Kp.refl _ _)).cell rfl
  have b2 : W0.cell? ⟨w.heap.size, 1, none⟩ = some #[.int .i64 0, .string n, .string ⟨#[]⟩, .int .i64 (pos : Int), .string d][1] := (unhide HBX _ (Kp.refl _ _)).cell rfl
  have b3 : W0.cell? ⟨w.heap.size, 2, none⟩ = some #[.int .i64 0, .string n, .string ⟨#[]⟩, .int .i64 (pos : Int), .string d][2] := (unhide HBX _ (Kp.refl _ _)).cell rfl
  have b4 : W0.cell? ⟨w.heap.size, 3, none⟩ = some #[.int .i64 0, .string n, .string ⟨#[]⟩, .int .i64 (pos : Int), .string d][3] := (unhide HBX _ (Kp.refl _ _)).cell rfl
  have b5 : W0.cell? ⟨w.heap.size, 4, none⟩ = some #[.int .i64 0, .string n, .string ⟨#[]⟩, .int .i64 (pos : Int), .string d][4] := (unhide HBX _ (Kp.refl _ _)).cell rfl
  dsimp at b1 b2 b3 b4 b5
  obtain ⟨k, hk, rfl, hn, hg⟩ | ⟨rfl, hg⟩ := hr
  · obtain ⟨_, hLn⟩ | ⟨g, cap, rfl, hc, hm⟩ := (unhide H0).shape
    · rw [hLn] at hk; exact absurd hk (by simp)
    have c2 := ((unhide H0).cell k hk).2
    have HHS : Hid (⟨fs[k].2.toArray⟩ = hasS fs n) := hide (by unfold hasS hasF; rw [hg]; rfl)
    rw [unhide HHS] at c2
    have hki : (k : Int) < (fs.length : Int) := by omega
    clear hn hg HHS
    have hpl := unhide HLEN
    have hsl := cut_string (hasS fs n) pos hpl
    obtain ⟨p1, hp1⟩ : ∃ p1 : ByteArray, (⟨((hasS fs n).data.toList.take pos).toArray⟩ : ByteArray) = p1 := ⟨_, rfl⟩
    have HP1 : Hid (p1.data.toList = (hasF fs n).take pos) := hide (by rw [← hp1, hasS_data])
    rw [hp1] at hsl
    have hps : p1.size ≤ 524288 := by
      have e1 : p1.size = p1.data.toList.length := Array.length_toList.symm
      rw [e1, unhide HP1, List.length_take]; omega
    have hq1 : p1.size + d.size ≤ 9223372036854775807 := by omega
    have ha1 : ∀ W, (Op.stringOp .add p1 d).run Try.prog W = .ok (.string (p1 ++ d)) W := fun W => run_string_add_sum W p1 d hq1
    have hb1 : (9223372036854775807 < p1.size + d.size) = False := eq_false (by omega)
    clear hp1
    have hds : d.data.toList.length = d.size := Array.length_toList
    by_cases hend : pos + d.size < (hasS fs n).size
    · have hei : (pos : Int) + (d.size : Int) < ((hasS fs n).size : Int) := by omega
      have hsf : ∀ W, (Instr.slice 9 (.string (hasS fs n)) (some (.int .i64 ((pos : Int) + (d.size : Int)))) none none).run Try.prog W = .ok (.string ⟨((hasS fs n).data.toList.drop (pos + d.size)).toArray⟩) W := fun W => by
        have := from_string (hasS fs n) (pos + d.size) (by omega) W
        rw [Int.natCast_add] at this; exact this
      obtain ⟨s1, hs1⟩ : ∃ s1 : ByteArray, (⟨((hasS fs n).data.toList.drop (pos + d.size)).toArray⟩ : ByteArray) = s1 := ⟨_, rfl⟩
      have HOV : Hid ((p1 ++ d ++ s1).data.toList = over (hasF fs n) pos d.data.toList) := hide (by
        rw [app_data, app_data, unhide HP1, ← hs1, hasS_data, over, hds])
      rw [hs1] at hsf
      have hss : s1.size ≤ 524288 := by
        have e1 : s1.size = s1.data.toList.length := Array.length_toList.symm
        have e2 : (hasS fs n).data.toList.length = (hasS fs n).size := Array.length_toList
        have := unhide HSM
        rw [e1, ← hs1]
        simp only [List.length_drop, e2]
        omega
      have hq2 : p1.size + d.size + s1.size ≤ 9223372036854775807 := by omega
      have ha2 : ∀ W, (Op.stringOp .add (p1 ++ d) s1).run Try.prog W = .ok (.string (p1 ++ d ++ s1)) W := fun W => run_string_add_sum W (p1 ++ d) s1 (by rw [ByteArray.size_append]; exact hq2)
      have hb2 : (9223372036854775807 < p1.size + d.size + s1.size) = False := eq_false (by omega)
      have hz : ((hasS fs n).size : Int) ≤ 1000000 := by have := unhide HSM; omega
      have hdz : (d.size : Int) ≤ 1000000 := by omega
      clear hs1 hds HP1
      generalize hasS fs n = hs at *
      have hdq := Kp.drew W0
      have HWI := hide (with_any (.slice (some ⟨g, 0, none⟩) fs.length cap) fs n (p1 ++ d ++ s1) W0.drew ((unhide H0).kp hdq (by simp)) hl)
      have cA : W0.drew.cell? ⟨w.heap.size, 1, none⟩ = some (.string n) ∧ W0.drew.cell? ⟨w.heap.size, 3, none⟩ = some (.int .i64 (pos : Int)) ∧ W0.drew.cell? ⟨w.heap.size, 4, none⟩ = some (.string d) := ⟨(unhide HBX _ hdq).cell rfl, (unhide HBX _ hdq).cell rfl, (unhide HBX _ hdq).cell rfl⟩
      go_wp2_with fail
      go_region_held3 (fun W => W.cell? ⟨w.heap.size, 1, none⟩ = some (.string n) ∧ W.cell? ⟨w.heap.size, 3, none⟩ = some (.int .i64 (pos : Int)) ∧ W.cell? ⟨w.heap.size, 4, none⟩ = some (.string d)) (first | with_reducible exact cA | with_reducible exact cB)
        (first
          | (go_at_call 50; refine (unhide HWI).mono ?_; rintro e w2 ⟨v', rfl, h2, hk2, hf2⟩; have hkk := hdq.trans hk2 (by simp); have cB : w2.cell? ⟨w.heap.size, 1, none⟩ = some (.string n) ∧ w2.cell? ⟨w.heap.size, 3, none⟩ = some (.int .i64 (pos : Int)) ∧ w2.cell? ⟨w.heap.size, 4, none⟩ = some (.string d) := ⟨(unhide HBX _ hkk).cell rfl, (unhide HBX _ hkk).cell rfl, (unhide HBX _ hkk).cell rfl⟩; have H2 := hide h2; have HF2 := hide hf2; clear h2 hf2))
      have HF3 : Hid (∀ k, v'.ownBlock = some k → w.heap.size ≤ k) := hide (fun k hk => by have h1 := unhide HF2 k hk; have := unhide HSZ; have e1 : W0.drew.heap.size = W0.heap.size := rfl; omega)
      go_wp2
      go_ret
      refine ⟨_, rfl, ?_, (unhide HK0).trans hkk (by simp), unhide HF3⟩
      show FlRow w2 v' (withF fs n (over (hasF fs n) pos d.data.toList))
      rw [← unhide HOV]
      exact unhide H2
    · have hei : ¬ ((pos : Int) + (d.size : Int) < ((hasS fs n).size : Int)) := by omega
      have HOV : Hid ((p1 ++ d).data.toList = over (hasF fs n) pos d.data.toList) := hide (by
        have hz : (hasS fs n).size = (hasF fs n).length := by simp [hasS, ByteArray.size]
        rw [app_data, unhide HP1, over, hds, List.drop_of_length_le (by omega), List.append_nil])
      have hz : ((hasS fs n).size : Int) ≤ 1000000 := by have := unhide HSM; omega
      have hdz : (d.size : Int) ≤ 1000000 := by omega
      clear hds HP1
      generalize hasS fs n = hs at *
      have hdq := Kp.drew W0
      have HWI := hide (with_any (.slice (some ⟨g, 0, none⟩) fs.length cap) fs n (p1 ++ d) W0.drew ((unhide H0).kp hdq (by simp)) hl)
      have cA : W0.drew.cell? ⟨w.heap.size, 1, none⟩ = some (.string n) ∧ W0.drew.cell? ⟨w.heap.size, 3, none⟩ = some (.int .i64 (pos : Int)) ∧ W0.drew.cell? ⟨w.heap.size, 4, none⟩ = some (.string d) := ⟨(unhide HBX _ hdq).cell rfl, (unhide HBX _ hdq).cell rfl, (unhide HBX _ hdq).cell rfl⟩
      go_wp2_with fail
      go_region_held3 (fun W => W.cell? ⟨w.heap.size, 1, none⟩ = some (.string n) ∧ W.cell? ⟨w.heap.size, 3, none⟩ = some (.int .i64 (pos : Int)) ∧ W.cell? ⟨w.heap.size, 4, none⟩ = some (.string d)) (first | with_reducible exact cA | with_reducible exact cB)
        (first
          | (go_at_call 50; refine (unhide HWI).mono ?_; rintro e w2 ⟨v', rfl, h2, hk2, hf2⟩; have hkk := hdq.trans hk2 (by simp); have cB : w2.cell? ⟨w.heap.size, 1, none⟩ = some (.string n) ∧ w2.cell? ⟨w.heap.size, 3, none⟩ = some (.int .i64 (pos : Int)) ∧ w2.cell? ⟨w.heap.size, 4, none⟩ = some (.string d) := ⟨(unhide HBX _ hkk).cell rfl, (unhide HBX _ hkk).cell rfl, (unhide HBX _ hkk).cell rfl⟩; have H2 := hide h2; have HF2 := hide hf2; clear h2 hf2))
      have HF3 : Hid (∀ k, v'.ownBlock = some k → w.heap.size ≤ k) := hide (fun k hk => by have h1 := unhide HF2 k hk; have := unhide HSZ; have e1 : W0.drew.heap.size = W0.heap.size := rfl; omega)
      go_wp2
      go_ret
      refine ⟨_, rfl, ?_, (unhide HK0).trans hkk (by simp), unhide HF3⟩
      show FlRow w2 v' (withF fs n (over (hasF fs n) pos d.data.toList))
      rw [← unhide HOV]
      exact unhide H2
  · have HHS : Hid ((⟨#[]⟩ : ByteArray) = hasS fs n) := hide (by unfold hasS hasF; rw [hg]; rfl)
    clear hg
    have hl0 : pos = 0 := by
      have h1 := unhide HLEN
      rw [← unhide HHS] at h1
      have : (⟨#[]⟩ : ByteArray).size = 0 := rfl
      omega
    subst hl0
    have HH0 : Hid (hasF fs n = []) := hide (by have h1 := hasS_data fs n; rw [← unhide HHS] at h1; exact h1.symm)
    clear HHS HLEN HSM
    have hsl : ∀ W, (Instr.slice 9 (.string ⟨#[]⟩) none (some (.int .i64 0)) none).run Try.prog W = .ok (.string ⟨#[]⟩) W := fun W => cut_string ⟨#[]⟩ 0 (by decide) W
    have hei : ¬ ((d.size : Int) < 0) := by omega
    have hq1 : d.size ≤ 9223372036854775807 := by omega
    have ha1 : ∀ W, (Op.stringOp .add ⟨#[]⟩ d).run Try.prog W = .ok (.string (⟨#[]⟩ ++ d)) W := fun W => run_string_add_sum W ⟨#[]⟩ d (by rw [show (⟨#[]⟩ : ByteArray).size = 0 from rfl]; omega)
    have hb1 : (9223372036854775807 < d.size) = False := eq_false (by omega)
    have hdz : (d.size : Int) ≤ 1000000 := by omega
    have hdq := Kp.drew W0
    have HWI := hide (with_any v fs n (⟨#[]⟩ ++ d) W0.drew ((unhide H0).kp hdq (by simp)) hl)
    have cA : W0.drew.cell? ⟨w.heap.size, 1, none⟩ = some (.string n) ∧ W0.drew.cell? ⟨w.heap.size, 3, none⟩ = some (.int .i64 0) ∧ W0.drew.cell? ⟨w.heap.size, 4, none⟩ = some (.string d) := ⟨(unhide HBX _ hdq).cell rfl, (unhide HBX _ hdq).cell rfl, (unhide HBX _ hdq).cell rfl⟩
    go_wp2_with fail
    go_region_held3 (fun W => W.cell? ⟨w.heap.size, 1, none⟩ = some (.string n) ∧ W.cell? ⟨w.heap.size, 3, none⟩ = some (.int .i64 0) ∧ W.cell? ⟨w.heap.size, 4, none⟩ = some (.string d)) (first | with_reducible exact cA | with_reducible exact cB)
      (first
        | (go_at_call 50; refine (unhide HWI).mono ?_; rintro e w2 ⟨v', rfl, h2, hk2, hf2⟩; have hkk := hdq.trans hk2 (by simp); have cB : w2.cell? ⟨w.heap.size, 1, none⟩ = some (.string n) ∧ w2.cell? ⟨w.heap.size, 3, none⟩ = some (.int .i64 0) ∧ w2.cell? ⟨w.heap.size, 4, none⟩ = some (.string d) := ⟨(unhide HBX _ hkk).cell rfl, (unhide HBX _ hkk).cell rfl, (unhide HBX _ hkk).cell rfl⟩; have H2 := hide h2; have HF2 := hide hf2; clear h2 hf2))
    have HF3 : Hid (∀ k, v'.ownBlock = some k → w.heap.size ≤ k) := hide (fun k hk => by have h1 := unhide HF2 k hk; have := unhide HSZ; have e1 : W0.drew.heap.size = W0.heap.size := rfl; omega)
    go_wp2
    go_ret
    refine ⟨_, rfl, ?_, (unhide HK0).trans hkk (by simp), unhide HF3⟩
    show FlRow w2 v' (withF fs n (over (hasF fs n) 0 d.data.toList))
    rw [unhide HH0]
    have h9 := unhide H2
    rw [app_data] at h9
    simpa [over] using h9
end Go.Proofs.Ytfnljfkgkadlaaa
namespace Go.Proofs.Ytfnljfkgkadlaaa
open Go.RowKit

set_option maxHeartbeats 4000000 in
set_option maxRecDepth 100000 in
theorem named_any (s : ByteArray) (w : World) (hs : s.size ≤ 9223372036854775807) :
    Calls Try.prog 34 #[.string s] w fun e w' => e = .returned (.bool (dnm s)) ∧ w' = w := by
  by_cases h1 : s = ⟨#[]⟩
  · subst h1
    have : dnm ⟨#[]⟩ = false := by decide
    rw [this]
    clear this
    go_enter Try.func34, Try.ntmps34
    go_wp2
    go_ret
    exact ⟨rfl, rfl⟩
  · have h1s : 1 ≤ s.size := by
      rcases Nat.eq_zero_or_pos s.size with h | h
      · refine absurd ?_ h1
        apply ByteArray.ext
        exact Array.eq_empty_of_size_eq_zero h
      · exact h
    have hq1 := strNe h1
    have hq2 : s.toList ≠ (⟨#[]⟩ : ByteArray).toList := beq_eq_false_iff_ne.1 hq1
    have hq3 : s.toList ≠ [] := fun e => hq2 (by rw [e, ByteArray.toList_eq])
    have hq4 : (s.toList == []) = false := beq_eq_false_iff_ne.2 hq3
    clear hq2 hq1
    by_cases h2 : s.size ≤ 32
    · have hn : dnm s = s.data.toList.all dnb := by unfold dnm; simp [h1s, h2]
      rw [hn]
      clear hn
      generalize hR : s.data.toList.all dnb = R
      have HR := hide hR
      clear hR
      have hlen : s.data.toList.length = s.size := Array.length_toList
      have h2i : ¬ ((32 : Int) < (s.size : Int)) := by omega
      go_enter Try.func34, Try.ntmps34
      go_wp2
      go_loopw [3, 4] (fun i _ wr => ∃ k : Nat, k ≤ s.size ∧ i = .int .i64 (k : Int) ∧ wr = w ∧ Hid (∀ c ∈ s.data.toList.take k, dnb c = true)) (fun i _ _ => s.size - (intOf i).toNat)
      case atStart => exact ⟨0, Nat.zero_le _, rfl, rfl, hide (by simp)⟩
      case round =>
        obtain ⟨k, hk, rfl, rfl, HK⟩ := hrel
        by_cases hlt : k < s.size
        · have hget : s[k] ∈ s.data.toList := by
            have : s[k] = s.data.toList[k]'(by omega) := rfl
            rw [this]; exact List.getElem_mem _
          have hsn : s.data.toList.take (k + 1) = s.data.toList.take k ++ [s[k]] := by
            rw [List.take_succ_eq_append_getElem (by omega)]; rfl
          have HG := hide hget
          have HS := hide hsn
          have hli : (k : Int) < (s.size : Int) := by omega
          have hdb : dnb s[k] = true ↔ ((97 ≤ s[k].toNat ∧ s[k].toNat ≤ 122) ∨ (48 ≤ s[k].toNat ∧ s[k].toNat ≤ 57) ∨ s[k].toNat = 46) := by
            unfold dnb
            simp only [Bool.or_eq_true, Bool.and_eq_true, decide_eq_true_eq]
            omega
          have HDB := hide hdb
          clear hget hsn hlen hdb
          have hcs : (97 ≤ s[k].toNat ∧ s[k].toNat ≤ 122) ∨ (48 ≤ s[k].toNat ∧ s[k].toNat ≤ 57) ∨ s[k].toNat = 46 ∨ 122 < s[k].toNat ∨ (57 < s[k].toNat ∧ s[k].toNat < 97) ∨ (s[k].toNat < 48 ∧ s[k].toNat ≠ 46) := by omega
          rcases hcs with ⟨t1, t2⟩ | ⟨t1, t2⟩ | t1 | t1 | ⟨t1, t2⟩ | ⟨t1, t2⟩
          · have HB : Hid (dnb s[k] = true) := hide ((unhide HDB).2 (by omega))
            have u0 : (97 : Int) ≤ (s[k].toNat : Int) := by omega
            have u1 : (s[k].toNat : Int) ≤ 122 := by omega
            go_wp2
            go_roundw
            case rel => exact ⟨k + 1, by omega, by go_num, by trivial, hide (fun c hc => by
              rw [unhide HS, List.mem_append] at hc
              rcases hc with hc | hc
              · exact unhide HK c hc
              · rw [List.mem_singleton] at hc; rw [hc]; exact unhide HB)⟩
            case measure => simp [intOf]; omega
          · have HB : Hid (dnb s[k] = true) := hide ((unhide HDB).2 (by omega))
            have u0 : ¬ ((97 : Int) ≤ (s[k].toNat : Int)) := by omega
            have u1 : (48 : Int) ≤ (s[k].toNat : Int) := by omega
            have u2 : (s[k].toNat : Int) ≤ 57 := by omega
            go_wp2
            go_roundw
            case rel => exact ⟨k + 1, by omega, by go_num, by trivial, hide (fun c hc => by
              rw [unhide HS, List.mem_append] at hc
              rcases hc with hc | hc
              · exact unhide HK c hc
              · rw [List.mem_singleton] at hc; rw [hc]; exact unhide HB)⟩
            case measure => simp [intOf]; omega
          · have HB : Hid (dnb s[k] = true) := hide ((unhide HDB).2 (by omega))
            have u0 : ¬ ((97 : Int) ≤ (s[k].toNat : Int)) := by omega
            have u1 : ¬ ((48 : Int) ≤ (s[k].toNat : Int)) := by omega
            have u2 : (s[k].toNat : Int) = 46 := by omega
            go_wp2
            go_roundw
            case rel => exact ⟨k + 1, by omega, by go_num, by trivial, hide (fun c hc => by
              rw [unhide HS, List.mem_append] at hc
              rcases hc with hc | hc
              · exact unhide HK c hc
              · rw [List.mem_singleton] at hc; rw [hc]; exact unhide HB)⟩
            case measure => simp [intOf]; omega
          · have HB : Hid (dnb s[k] ≠ true) := hide (fun h => by have := (unhide HDB).1 h; omega)
            have hall : s.data.toList.all dnb = false := List.all_eq_false.2 ⟨_, unhide HG, unhide HB⟩
            have hRf : R = false := (unhide HR).symm.trans hall
            clear hall
            have u0 : (97 : Int) ≤ (s[k].toNat : Int) := by omega
            have u1 : ¬ ((s[k].toNat : Int) ≤ 122) := by omega
            have u2 : (48 : Int) ≤ (s[k].toNat : Int) := by omega
            have u3 : ¬ ((s[k].toNat : Int) ≤ 57) := by omega
            have u4 : ¬ ((s[k].toNat : Int) = 46) := by omega
            have v4 : (((s[k].toNat : Nat) : Int) == 46) = false := beq_eq_false_iff_ne.2 u4
            subst hRf
            go_wp2
            go_ret
            exact ⟨rfl, rfl⟩
          · have HB : Hid (dnb s[k] ≠ true) := hide (fun h => by have := (unhide HDB).1 h; omega)
            have hall : s.data.toList.all dnb = false := List.all_eq_false.2 ⟨_, unhide HG, unhide HB⟩
            have hRf : R = false := (unhide HR).symm.trans hall
            clear hall
            have u0 : ¬ ((97 : Int) ≤ (s[k].toNat : Int)) := by omega
            have u1 : (48 : Int) ≤ (s[k].toNat : Int) := by omega
            have u2 : ¬ ((s[k].toNat : Int) ≤ 57) := by omega
            have u3 : ¬ ((s[k].toNat : Int) = 46) := by omega
            have v3 : (((s[k].toNat : Nat) : Int) == 46) = false := beq_eq_false_iff_ne.2 u3
            subst hRf
            go_wp2
            go_ret
            exact ⟨rfl, rfl⟩
          · have HB : Hid (dnb s[k] ≠ true) := hide (fun h => by have := (unhide HDB).1 h; omega)
            have hall : s.data.toList.all dnb = false := List.all_eq_false.2 ⟨_, unhide HG, unhide HB⟩
            have hRf : R = false := (unhide HR).symm.trans hall
            clear hall
            have u0 : ¬ ((97 : Int) ≤ (s[k].toNat : Int)) := by omega
            have u1 : ¬ ((48 : Int) ≤ (s[k].toNat : Int)) := by omega
            have u2 : ¬ ((s[k].toNat : Int) = 46) := by omega
            have v2 : (((s[k].toNat : Nat) : Int) == 46) = false := beq_eq_false_iff_ne.2 u2
            subst hRf
            go_wp2
            go_ret
            exact ⟨rfl, rfl⟩
        · obtain rfl : k = s.size := by omega
          have hRt : R = true := by
            rw [← unhide HR]
            refine List.all_eq_true.2 fun c hc => unhide HK c ?_
            rw [← hlen, List.take_length]; exact hc
          subst hRt
          clear hlen
          go_wp2
          go_ret
          exact ⟨rfl, rfl⟩
    · have : dnm s = false := by unfold dnm; simp [h1s, h2]
      rw [this]
      have h2i : (32 : Int) < (s.size : Int) := by omega
      clear this h2
      go_enter Try.func34, Try.ntmps34
      go_wp2
      go_ret
      exact ⟨rfl, rfl⟩
end Go.Proofs.Ytfnljfkgkadlaaa
