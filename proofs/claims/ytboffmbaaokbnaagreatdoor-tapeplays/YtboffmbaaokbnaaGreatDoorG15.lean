/-
  The document's disk: files, with a change made upon them (a cut).
  The document's disk: files, with a change made upon them (a rename).
  The document's disk: files, with a change made upon them (a write).
-/
import Derived.Test.YtboffmbaaokbnaaGreatDoorG14
namespace Go.Proofs.YtboffmbaaokbnaaGreatDoor
open Go.RowKit

theorem cut_string (hs : ByteArray) (m : Nat) (hm : m ≤ hs.size) (W : World) : (Instr.slice 9 (.string hs) none (some (.int .i64 (m : Int))) none).run Tryz.prog W = .ok (.string ⟨(hs.data.toList.take m).toArray⟩) W := by
  simp [Instr.slice, run_underlying Tryz.underlying9, Instr.sliceBounds, Instr.sliceBound, asIntOf, Result.andThen]
  rw [if_pos hm]
  dsimp only
  congr 2
  apply ByteArray.ext
  apply Array.ext'
  simp
set_option maxHeartbeats 600000 in
set_option maxRecDepth 100000 in
theorem made_ct (v : Value) (fs : Fs) (n : ByteArray) (len : Nat) (hfit : len ≤ (hasF fs n).length) (w : World) (h : FlRow w v fs) (hl : fs.length ≤ 1000000) :
    Calls Tryz.prog 59 #[v, .agg (chA (.ct n len))] w fun e w' => ∃ v', e = .returned v' ∧ FlRow w' v' (made fs (.ct n len)) ∧ Kp [] w w' ∧ ∀ k, v'.ownBlock = some k → w.heap.size ≤ k := by
  have HLEN : Hid (len ≤ (hasS fs n).size) := hide (by have : (hasS fs n).size = (hasF fs n).length := by simp [hasS, ByteArray.size]
                                                       omega)
  have HHD : Hid ((⟨((hasS fs n).data.toList.take len).toArray⟩ : ByteArray).data.toList = (hasF fs n).take len) := hide (by simp [hasS])
  show Calls Tryz.prog 59 #[v, .agg #[.int .i64 1, .string n, .string ⟨#[]⟩, .int .i64 (len : Int), .string ⟨#[]⟩]] w _
  have hk0 := Kp.alloc w (.cells #[.int .i64 1, .string n, .string ⟨#[]⟩, .int .i64 (len : Int), .string ⟨#[]⟩] 96)
  have bx0 := CBox.new w #[.int .i64 1, .string n, .string ⟨#[]⟩, .int .i64 (len : Int), .string ⟨#[]⟩] 96
  have hbx : ∀ W, Kp [] (w.alloc (.cells #[.int .i64 1, .string n, .string ⟨#[]⟩, .int .i64 (len : Int), .string ⟨#[]⟩] 96)) W → CBox w.heap.size #[.int .i64 1, .string n, .string ⟨#[]⟩, .int .i64 (len : Int), .string ⟨#[]⟩] 96 W := fun W hk => bx0.kp hk (by simp)
  have h0 := h.kp hk0 (by simp)
  have hfi := find_any v fs n (w.alloc (.cells #[.int .i64 1, .string n, .string ⟨#[]⟩, .int .i64 (len : Int), .string ⟨#[]⟩] 96)) h0
  have hsz0 : (w.alloc (.cells #[.int .i64 1, .string n, .string ⟨#[]⟩, .int .i64 (len : Int), .string ⟨#[]⟩] 96)).heap.size = w.heap.size + 1 := by simp
  have HFI := hide hfi
  have HBX := hide hbx
  have H0 := hide h0
  have HK0 := hide hk0
  have HSZ := hide hsz0
  have b1 : (w.alloc (.cells #[.int .i64 1, .string n, .string ⟨#[]⟩, .int .i64 (len : Int), .string ⟨#[]⟩] 96)).cell? ⟨w.heap.size, 0, none⟩ = some #[.int .i64 1, .string n, .string ⟨#[]⟩, .int .i64 (len : Int), .string ⟨#[]⟩][0] := bx0.cell rfl
  have b2 : (w.alloc (.cells #[.int .i64 1, .string n, .string ⟨#[]⟩, .int .i64 (len : Int), .string ⟨#[]⟩] 96)).cell? ⟨w.heap.size, 1, none⟩ = some #[.int .i64 1, .string n, .string ⟨#[]⟩, .int .i64 (len : Int), .string ⟨#[]⟩][1] := bx0.cell rfl
  clear hfi hbx h0 hk0 hsz0 h bx0
  go_enter Tryz.func59, Tryz.ntmps59
  go_wp2_with fail
  refine (unhide HFI).mono ?_
  rintro e w1 ⟨r, rfl, rfl, hr⟩
  clear HFI b1 b2
  generalize w.alloc (.cells #[.int .i64 1, .string n, .string ⟨#[]⟩, .int .i64 (len : Int), .string ⟨#[]⟩] 96) = W0 at *
  have b1 : W0.cell? ⟨w.heap.size, 0, none⟩ = some #[.int .i64 1, .string n, .string ⟨#[]⟩, .int .i64 (len : Int), .string ⟨#[]⟩][0] := (unhide HBX _ (Kp.refl _ _)).cell rfl
  have b2 : W0.cell? ⟨w.heap.size, 1, none⟩ = some #[.int .i64 1, .string n, .string ⟨#[]⟩, .int .i64 (len : Int), .string ⟨#[]⟩][1] := (unhide HBX _ (Kp.refl _ _)).cell rfl
  have b3 : W0.cell? ⟨w.heap.size, 2, none⟩ = some #[.int .i64 1, .string n, .string ⟨#[]⟩, .int .i64 (len : Int), .string ⟨#[]⟩][2] := (unhide HBX _ (Kp.refl _ _)).cell rfl
  have b4 : W0.cell? ⟨w.heap.size, 3, none⟩ = some #[.int .i64 1, .string n, .string ⟨#[]⟩, .int .i64 (len : Int), .string ⟨#[]⟩][3] := (unhide HBX _ (Kp.refl _ _)).cell rfl
  have b5 : W0.cell? ⟨w.heap.size, 4, none⟩ = some #[.int .i64 1, .string n, .string ⟨#[]⟩, .int .i64 (len : Int), .string ⟨#[]⟩][4] := (unhide HBX _ (Kp.refl _ _)).cell rfl
  dsimp at b1 b2 b3 b4 b5
  obtain ⟨k, hk, rfl, hn, hg⟩ | ⟨rfl, hg⟩ := hr
  · obtain ⟨_, hLn⟩ | ⟨g, cap, rfl, hc, hm⟩ := (unhide H0).shape
    · rw [hLn] at hk; exact absurd hk (by simp)
    have c2 := ((unhide H0).cell k hk).2
    have HHS : Hid (⟨fs[k].2.toArray⟩ = hasS fs n) := hide (by unfold hasS hasF; rw [hg]; rfl)
    rw [unhide HHS] at c2
    have hki : (k : Int) < (fs.length : Int) := by omega
    clear hn hg HHS
    have hsl := cut_string (hasS fs n) len (unhide HLEN)
    have hdq := Kp.drew W0
    have HWI := hide (with_any (.slice (some ⟨g, 0, none⟩) fs.length cap) fs n ⟨((hasS fs n).data.toList.take len).toArray⟩ W0.drew ((unhide H0).kp hdq (by simp)) hl)
    have cA : W0.drew.cell? ⟨w.heap.size, 1, none⟩ = some (.string n) ∧ W0.drew.cell? ⟨w.heap.size, 3, none⟩ = some (.int .i64 (len : Int)) := ⟨(unhide HBX _ hdq).cell rfl, (unhide HBX _ hdq).cell rfl⟩
    generalize hasS fs n = hs at *
    go_wp2_with fail
    go_region_held3 (fun W => W.cell? ⟨w.heap.size, 1, none⟩ = some (.string n) ∧ W.cell? ⟨w.heap.size, 3, none⟩ = some (.int .i64 (len : Int))) (first | with_reducible exact cA | with_reducible exact cB)
      (first
        | (go_at_call 79; refine (unhide HWI).mono ?_; rintro e w2 ⟨v', rfl, h2, hk2, hf2⟩; have hkk := hdq.trans hk2 (by simp); have cB : w2.cell? ⟨w.heap.size, 1, none⟩ = some (.string n) ∧ w2.cell? ⟨w.heap.size, 3, none⟩ = some (.int .i64 (len : Int)) := ⟨(unhide HBX _ hkk).cell rfl, (unhide HBX _ hkk).cell rfl⟩; have H2 := hide h2; have HF2 := hide hf2; clear h2 hf2))
    have HF3 : Hid (∀ k, v'.ownBlock = some k → w.heap.size ≤ k) := hide (fun k hk => by have h1 := unhide HF2 k hk; have := unhide HSZ; have e1 : W0.drew.heap.size = W0.heap.size := rfl; omega)
    go_wp2
    go_ret
    refine ⟨_, rfl, ?_, (unhide HK0).trans hkk (by simp), unhide HF3⟩
    have := unhide H2
    rw [unhide HHD] at this
    exact this
  · have HHS : Hid ((⟨#[]⟩ : ByteArray) = hasS fs n) := hide (by unfold hasS hasF; rw [hg]; rfl)
    clear hg
    have hl0 : len = 0 := by
      have h1 := unhide HLEN
      rw [← unhide HHS] at h1
      have : (⟨#[]⟩ : ByteArray).size = 0 := rfl
      omega
    subst hl0
    have HH0 : Hid (hasF fs n = []) := hide (by have h1 := hasS_data fs n; rw [← unhide HHS] at h1; exact h1.symm)
    clear HHS HLEN HHD
    have hsl : ∀ W, (Instr.slice 9 (.string ⟨#[]⟩) none (some (.int .i64 0)) none).run Tryz.prog W = .ok (.string ⟨#[]⟩) W := fun W => cut_string ⟨#[]⟩ 0 (by decide) W
    have hdq := Kp.drew W0
    have HWI := hide (with_any v fs n ⟨#[]⟩ W0.drew ((unhide H0).kp hdq (by simp)) hl)
    have cA : W0.drew.cell? ⟨w.heap.size, 1, none⟩ = some (.string n) ∧ W0.drew.cell? ⟨w.heap.size, 3, none⟩ = some (.int .i64 0) := ⟨(unhide HBX _ hdq).cell rfl, (unhide HBX _ hdq).cell rfl⟩
    go_wp2_with fail
    go_region_held3 (fun W => W.cell? ⟨w.heap.size, 1, none⟩ = some (.string n) ∧ W.cell? ⟨w.heap.size, 3, none⟩ = some (.int .i64 0)) (first | with_reducible exact cA | with_reducible exact cB)
      (first
        | (go_at_call 79; refine (unhide HWI).mono ?_; rintro e w2 ⟨v', rfl, h2, hk2, hf2⟩; have hkk := hdq.trans hk2 (by simp); have cB : w2.cell? ⟨w.heap.size, 1, none⟩ = some (.string n) ∧ w2.cell? ⟨w.heap.size, 3, none⟩ = some (.int .i64 0) := ⟨(unhide HBX _ hkk).cell rfl, (unhide HBX _ hkk).cell rfl⟩; have H2 := hide h2; have HF2 := hide hf2; clear h2 hf2))
    have HF3 : Hid (∀ k, v'.ownBlock = some k → w.heap.size ≤ k) := hide (fun k hk => by have h1 := unhide HF2 k hk; have := unhide HSZ; have e1 : W0.drew.heap.size = W0.heap.size := rfl; omega)
    go_wp2
    go_ret
    refine ⟨_, rfl, ?_, (unhide HK0).trans hkk (by simp), unhide HF3⟩
    show FlRow w2 v' (withF fs n ((hasF fs n).take 0))
    rw [unhide HH0]
    exact unhide H2
end Go.Proofs.YtboffmbaaokbnaaGreatDoor
namespace Go.Proofs.YtboffmbaaokbnaaGreatDoor
open Go.RowKit

set_option maxHeartbeats 600000 in
set_option maxRecDepth 100000 in
theorem made_rn (v : Value) (fs : Fs) (a b : ByteArray) (w : World) (h : FlRow w v fs) (hl : fs.length ≤ 1000000) :
    Calls Tryz.prog 59 #[v, .agg (chA (.rn a b))] w fun e w' => ∃ v', e = .returned v' ∧ FlRow w' v' (made fs (.rn a b)) ∧ Kp [] w w' ∧ ∀ k, v'.ownBlock = some k → w.heap.size ≤ k := by
  show Calls Tryz.prog 59 #[v, .agg #[.int .i64 2, .string a, .string b, .int .i64 0, .string ⟨#[]⟩]] w _
  have hk0 := Kp.alloc w (.cells #[.int .i64 2, .string a, .string b, .int .i64 0, .string ⟨#[]⟩] 96)
  have bx0 := CBox.new w #[.int .i64 2, .string a, .string b, .int .i64 0, .string ⟨#[]⟩] 96
  have hbx : ∀ W, Kp [] (w.alloc (.cells #[.int .i64 2, .string a, .string b, .int .i64 0, .string ⟨#[]⟩] 96)) W → CBox w.heap.size #[.int .i64 2, .string a, .string b, .int .i64 0, .string ⟨#[]⟩] 96 W := fun W hk => bx0.kp hk (by simp)
  have h0 := h.kp hk0 (by simp)
  have hfi := find_any v fs a (w.alloc (.cells #[.int .i64 2, .string a, .string b, .int .i64 0, .string ⟨#[]⟩] 96)) h0
  have hsz0 : (w.alloc (.cells #[.int .i64 2, .string a, .string b, .int .i64 0, .string ⟨#[]⟩] 96)).heap.size = w.heap.size + 1 := by simp
  have HFI := hide hfi
  have HBX := hide hbx
  have H0 := hide h0
  have HK0 := hide hk0
  have HSZ := hide hsz0
  have b1 : (w.alloc (.cells #[.int .i64 2, .string a, .string b, .int .i64 0, .string ⟨#[]⟩] 96)).cell? ⟨w.heap.size, 0, none⟩ = some #[.int .i64 2, .string a, .string b, .int .i64 0, .string ⟨#[]⟩][0] := bx0.cell rfl
  have b2 : (w.alloc (.cells #[.int .i64 2, .string a, .string b, .int .i64 0, .string ⟨#[]⟩] 96)).cell? ⟨w.heap.size, 1, none⟩ = some #[.int .i64 2, .string a, .string b, .int .i64 0, .string ⟨#[]⟩][1] := bx0.cell rfl
  clear hfi hbx h0 hk0 hsz0 h bx0
  go_enter Tryz.func59, Tryz.ntmps59
  go_wp2_with fail
  refine (unhide HFI).mono ?_
  rintro e w1 ⟨r, rfl, rfl, hr⟩
  clear HFI b1 b2
  generalize w.alloc (.cells #[.int .i64 2, .string a, .string b, .int .i64 0, .string ⟨#[]⟩] 96) = W0 at *
  have b1 : W0.cell? ⟨w.heap.size, 0, none⟩ = some #[.int .i64 2, .string a, .string b, .int .i64 0, .string ⟨#[]⟩][0] := (unhide HBX _ (Kp.refl _ _)).cell rfl
  have b2 : W0.cell? ⟨w.heap.size, 1, none⟩ = some #[.int .i64 2, .string a, .string b, .int .i64 0, .string ⟨#[]⟩][1] := (unhide HBX _ (Kp.refl _ _)).cell rfl
  have b3 : W0.cell? ⟨w.heap.size, 2, none⟩ = some #[.int .i64 2, .string a, .string b, .int .i64 0, .string ⟨#[]⟩][2] := (unhide HBX _ (Kp.refl _ _)).cell rfl
  have b4 : W0.cell? ⟨w.heap.size, 3, none⟩ = some #[.int .i64 2, .string a, .string b, .int .i64 0, .string ⟨#[]⟩][3] := (unhide HBX _ (Kp.refl _ _)).cell rfl
  have b5 : W0.cell? ⟨w.heap.size, 4, none⟩ = some #[.int .i64 2, .string a, .string b, .int .i64 0, .string ⟨#[]⟩][4] := (unhide HBX _ (Kp.refl _ _)).cell rfl
  dsimp at b1 b2 b3 b4 b5
  obtain ⟨k, hk, rfl, hn, hg⟩ | ⟨rfl, hg⟩ := hr
  · obtain ⟨_, hLn⟩ | ⟨g, cap, rfl, hc, hm⟩ := (unhide H0).shape
    · rw [hLn] at hk; exact absurd hk (by simp)
    have c2 := ((unhide H0).cell k hk).2
    have HHS : Hid (⟨fs[k].2.toArray⟩ = hasS fs a) := hide (by unfold hasS hasF; rw [hg]; rfl)
    rw [unhide HHS] at c2
    have hki : (k : Int) < (fs.length : Int) := by omega
    clear hn hg HHS
    have hdq := Kp.drew W0
    have HWO := hide (without_any (.slice (some ⟨g, 0, none⟩) fs.length cap) fs a W0.drew ((unhide H0).kp hdq (by simp)) hl)
    have HWI := hide (fun (W : World) (v1 : Value) (h1 : FlRow W v1 (without fs a)) => with_any v1 (without fs a) b (hasS fs a) W h1 (Nat.le_trans (without_le fs a) hl))
    have cA : W0.drew.cell? ⟨w.heap.size, 1, none⟩ = some (.string a) ∧ W0.drew.cell? ⟨w.heap.size, 2, none⟩ = some (.string b) := ⟨(unhide HBX _ hdq).cell rfl, (unhide HBX _ hdq).cell rfl⟩
    go_wp2_with fail
    go_region_held3 (fun W => W.cell? ⟨w.heap.size, 1, none⟩ = some (.string a) ∧ W.cell? ⟨w.heap.size, 2, none⟩ = some (.string b)) (first | with_reducible exact cA | with_reducible exact cB | with_reducible exact cC)
      (first
        | (go_at_call 79; refine (unhide HWI w2 v1 (unhide H2)).mono ?_; rintro e w3 ⟨v', rfl, h3, hk3, hf3⟩; have hk4 := hkk.trans hk3 (by simp); have cC : w3.cell? ⟨w.heap.size, 1, none⟩ = some (.string a) ∧ w3.cell? ⟨w.heap.size, 2, none⟩ = some (.string b) := ⟨(unhide HBX _ hk4).cell rfl, (unhide HBX _ hk4).cell rfl⟩; have H3 := hide h3; have HF3 := hide hf3; clear h3 hf3)
        | (go_at_call 80; refine (unhide HWO).mono ?_; rintro e w2 ⟨v1, rfl, h2, hk2, hf2⟩; have hkk := hdq.trans hk2 (by simp); have cB : w2.cell? ⟨w.heap.size, 1, none⟩ = some (.string a) ∧ w2.cell? ⟨w.heap.size, 2, none⟩ = some (.string b) := ⟨(unhide HBX _ hkk).cell rfl, (unhide HBX _ hkk).cell rfl⟩; have H2 := hide h2; clear h2 hf2))
    have HF4 : Hid (∀ k, v'.ownBlock = some k → w.heap.size ≤ k) := hide (fun k hk => by have h1 := unhide HF3 k hk; have := unhide HSZ; have := hkk.size; omega)
    go_wp2
    go_ret
    refine ⟨_, rfl, ?_, (unhide HK0).trans hk4 (by simp), unhide HF4⟩
    show FlRow w3 v' (withF (without fs a) b (hasF fs a))
    rw [← hasS_data fs a]
    exact unhide H3
  · have HHS : Hid ((⟨#[]⟩ : ByteArray) = hasS fs a) := hide (by unfold hasS hasF; rw [hg]; rfl)
    clear hg
    have HH0 : Hid (hasF fs a = []) := hide (by have h1 := hasS_data fs a; rw [← unhide HHS] at h1; exact h1.symm)
    clear HHS
    have hdq := Kp.drew W0
    have HWO := hide (without_any v fs a W0.drew ((unhide H0).kp hdq (by simp)) hl)
    have HWI := hide (fun (W : World) (v1 : Value) (h1 : FlRow W v1 (without fs a)) => with_any v1 (without fs a) b ⟨#[]⟩ W h1 (Nat.le_trans (without_le fs a) hl))
    have cA : W0.drew.cell? ⟨w.heap.size, 1, none⟩ = some (.string a) ∧ W0.drew.cell? ⟨w.heap.size, 2, none⟩ = some (.string b) := ⟨(unhide HBX _ hdq).cell rfl, (unhide HBX _ hdq).cell rfl⟩
    go_wp2_with fail
    go_region_held3 (fun W => W.cell? ⟨w.heap.size, 1, none⟩ = some (.string a) ∧ W.cell? ⟨w.heap.size, 2, none⟩ = some (.string b)) (first | with_reducible exact cA | with_reducible exact cB | with_reducible exact cC)
      (first
        | (go_at_call 79; refine (unhide HWI w2 v1 (unhide H2)).mono ?_; rintro e w3 ⟨v', rfl, h3, hk3, hf3⟩; have hk4 := hkk.trans hk3 (by simp); have cC : w3.cell? ⟨w.heap.size, 1, none⟩ = some (.string a) ∧ w3.cell? ⟨w.heap.size, 2, none⟩ = some (.string b) := ⟨(unhide HBX _ hk4).cell rfl, (unhide HBX _ hk4).cell rfl⟩; have H3 := hide h3; have HF3 := hide hf3; clear h3 hf3)
        | (go_at_call 80; refine (unhide HWO).mono ?_; rintro e w2 ⟨v1, rfl, h2, hk2, hf2⟩; have hkk := hdq.trans hk2 (by simp); have cB : w2.cell? ⟨w.heap.size, 1, none⟩ = some (.string a) ∧ w2.cell? ⟨w.heap.size, 2, none⟩ = some (.string b) := ⟨(unhide HBX _ hkk).cell rfl, (unhide HBX _ hkk).cell rfl⟩; have H2 := hide h2; clear h2 hf2))
    have HF4 : Hid (∀ k, v'.ownBlock = some k → w.heap.size ≤ k) := hide (fun k hk => by have h1 := unhide HF3 k hk; have := unhide HSZ; have := hkk.size; omega)
    go_wp2
    go_ret
    refine ⟨_, rfl, ?_, (unhide HK0).trans hk4 (by simp), unhide HF4⟩
    show FlRow w3 v' (withF (without fs a) b (hasF fs a))
    rw [unhide HH0]
    exact unhide H3
end Go.Proofs.YtboffmbaaokbnaaGreatDoor
namespace Go.Proofs.YtboffmbaaokbnaaGreatDoor
open Go.RowKit

theorem from_string (hs : ByteArray) (m : Nat) (hm : m ≤ hs.size) (W : World) : (Instr.slice 9 (.string hs) (some (.int .i64 (m : Int))) none none).run Tryz.prog W = .ok (.string ⟨(hs.data.toList.drop m).toArray⟩) W := by
  simp [Instr.slice, run_underlying Tryz.underlying9, Instr.sliceBounds, Instr.sliceBound, asIntOf, Result.andThen]
  rw [if_pos hm]
  dsimp only
  congr 2
  apply ByteArray.ext
  apply Array.ext'
  simp
  have hdl : hs.data.toList.length = hs.size := Array.length_toList
  rw [List.take_of_length_le (by rw [List.length_drop, hdl]; exact Nat.le_refl _)]
theorem app_data (a b : ByteArray) : (a ++ b).data.toList = a.data.toList ++ b.data.toList := by simp
set_option maxHeartbeats 600000 in
set_option maxRecDepth 100000 in
theorem made_wr (v : Value) (fs : Fs) (n : ByteArray) (pos : Nat) (d : ByteArray) (hfit : pos ≤ (hasF fs n).length) (hfit2 : (hasF fs n).length + d.size ≤ 524288) (w : World) (h : FlRow w v fs) (hl : fs.length ≤ 1000000) :
    Calls Tryz.prog 59 #[v, .agg (chA (.wr n pos d))] w fun e w' => ∃ v', e = .returned v' ∧ FlRow w' v' (made fs (.wr n pos d)) ∧ Kp [] w w' ∧ ∀ k, v'.ownBlock = some k → w.heap.size ≤ k := by
  have hzz : (hasS fs n).size = (hasF fs n).length := by simp [hasS, ByteArray.size]
  have HLEN : Hid (pos ≤ (hasS fs n).size) := hide (by omega)
  have HSM : Hid ((hasS fs n).size ≤ 524288) := hide (by omega)
  have hdd : d.size ≤ 524288 := by omega
  have hpp : pos ≤ 524288 := by omega
  clear hzz hfit hfit2
  show Calls Tryz.prog 59 #[v, .agg #[.int .i64 0, .string n, .string ⟨#[]⟩, .int .i64 (pos : Int), .string d]] w _
  have hk0 := Kp.alloc w (.cells #[.int .i64 0, .string n, .string ⟨#[]⟩, .int .i64 (pos : Int), .string d] 96)
  have bx0 := CBox.new w #[.int .i64 0, .string n, .string ⟨#[]⟩, .int .i64 (pos : Int), .string d] 96
  have hbx : ∀ W, Kp [] (w.alloc (.cells #[.int .i64 0, .string n, .string ⟨#[]⟩, .int .i64 (pos : Int), .string d] 96)) W → CBox w.heap.size #[.int .i64 0, .string n, .string ⟨#[]⟩, .int .i64 (pos : Int), .string d] 96 W := fun W hk => bx0.kp hk (by simp)
  have h0 := h.kp hk0 (by simp)
  have hfi := find_any v fs n (w.alloc (.cells #[.int .i64 0, .string n, .string ⟨#[]⟩, .int .i64 (pos : Int), .string d] 96)) h0
  have hsz0 : (w.alloc (.cells #[.int .i64 0, .string n, .string ⟨#[]⟩, .int .i64 (pos : Int), .string d] 96)).heap.size = w.heap.size + 1 := by simp
  have HFI := hide hfi
  have HBX := hide hbx
  have H0 := hide h0
  have HK0 := hide hk0
  have HSZ := hide hsz0
  have b1 : (w.alloc (.cells #[.int .i64 0, .string n, .string ⟨#[]⟩, .int .i64 (pos : Int), .string d] 96)).cell? ⟨w.heap.size, 0, none⟩ = some #[.int .i64 0, .string n, .string ⟨#[]⟩, .int .i64 (pos : Int), .string d][0] := bx0.cell rfl
  have b2 : (w.alloc (.cells #[.int .i64 0, .string n, .string ⟨#[]⟩, .int .i64 (pos : Int), .string d] 96)).cell? ⟨w.heap.size, 1, none⟩ = some #[.int .i64 0, .string n, .string ⟨#[]⟩, .int .i64 (pos : Int), .string d][1] := bx0.cell rfl
  clear hfi hbx h0 hk0 hsz0 h bx0
  go_enter Tryz.func59, Tryz.ntmps59
  go_wp2_with fail
  refine (unhide HFI).mono ?_
  rintro e w1 ⟨r, rfl, rfl, hr⟩
  clear HFI b1 b2
  generalize w.alloc (.cells #[.int .i64 0, .string n, .string ⟨#[]⟩, .int .i64 (pos : Int), .string d] 96) = W0 at *
  have b1 : W0.cell? ⟨w.heap.size, 0, none⟩ = some #[.int .i64 0, .string n, .string ⟨#[]⟩, .int .i64 (pos : Int), .string d][0] := (unhide HBX _ (Kp.refl _ _)).cell rfl
  have b2 : W0.cell? ⟨w.heap.size, 1, none⟩ = some #[.int .i64 0, .string n, .string ⟨#[]⟩, .int .i64 (pos : Int), .string d][1] := (unhide HBX _ (Kp.refl _ _)).cell rfl
  have b3 : W0.cell? ⟨w.heap.size, 2, none⟩ = some #[.int .i64 0, .string n, .string ⟨#[]⟩, .int .i64 (pos : Int), .string d][2] := (unhide HBX _ (Kp.refl _ _)).cell rfl
  have b4 : W0.cell? ⟨w.heap.size, 3, none⟩ = some #[.int .i64 0, .string n, .string ⟨#[]⟩, .int .i64 (pos : Int), .string d][3] := (unhide HBX _ (Kp.refl _ _)).cell rfl
  have b5 : W0.cell? ⟨w.heap.size, 4, none⟩ = some #[.int .i64 0, .string n, .string ⟨#[]⟩, .int .i64 (pos : Int), .string d][4] := (unhide HBX _ (Kp.refl _ _)).cell rfl
  dsimp at b1 b2 b3 b4 b5
  obtain ⟨k, hk, rfl, hn, hg⟩ | ⟨rfl, hg⟩ := hr
  · obtain ⟨_, hLn⟩ | ⟨g, cap, rfl, hc, hm⟩ := (unhide H0).shape
    · rw [hLn] at hk; exact absurd hk (by simp)
    have c2 := ((unhide H0).cell k hk).2
    have HHS : Hid (⟨fs[k].2.toArray⟩ = hasS fs n) := hide (by unfold hasS hasF; rw [hg]; rfl)
    rw [unhide HHS] at c2
    have hki : (k : Int) < (fs.length : Int) := by omega
    clear hn hg HHS
    have hpl := unhide HLEN
    have hsl := cut_string (hasS fs n) pos hpl
    obtain ⟨p1, hp1⟩ : ∃ p1 : ByteArray, (⟨((hasS fs n).data.toList.take pos).toArray⟩ : ByteArray) = p1 := ⟨_, rfl⟩
    have HP1 : Hid (p1.data.toList = (hasF fs n).take pos) := hide (by rw [← hp1, hasS_data])
    rw [hp1] at hsl
    have hps : p1.size ≤ 524288 := by
      have e1 : p1.size = p1.data.toList.length := Array.length_toList.symm
      rw [e1, unhide HP1, List.length_take]; omega
    have hq1 : p1.size + d.size ≤ 9223372036854775807 := by omega
    have ha1 : ∀ W, (Op.stringOp .add p1 d).run Tryz.prog W = .ok (.string (p1 ++ d)) W := fun W => run_string_add_sum W p1 d hq1
    have hb1 : (9223372036854775807 < p1.size + d.size) = False := eq_false (by omega)
    clear hp1
    have hds : d.data.toList.length = d.size := Array.length_toList
    by_cases hend : pos + d.size < (hasS fs n).size
    · have hei : (pos : Int) + (d.size : Int) < ((hasS fs n).size : Int) := by omega
      have hsf : ∀ W, (Instr.slice 9 (.string (hasS fs n)) (some (.int .i64 ((pos : Int) + (d.size : Int)))) none none).run Tryz.prog W = .ok (.string ⟨((hasS fs n).data.toList.drop (pos + d.size)).toArray⟩) W := fun W => by
        have := from_string (hasS fs n) (pos + d.size) (by omega) W
        rw [Int.natCast_add] at this; exact this
      obtain ⟨s1, hs1⟩ : ∃ s1 : ByteArray, (⟨((hasS fs n).data.toList.drop (pos + d.size)).toArray⟩ : ByteArray) = s1 := ⟨_, rfl⟩
      have HOV : Hid ((p1 ++ d ++ s1).data.toList = over (hasF fs n) pos d.data.toList) := hide (by
        rw [app_data, app_data, unhide HP1, ← hs1, hasS_data, over, hds])
      rw [hs1] at hsf
      have hss : s1.size ≤ 524288 := by
        have e1 : s1.size = s1.data.toList.length := Array.length_toList.symm
        have e2 : (hasS fs n).data.toList.length = (hasS fs n).size := Array.length_toList
        have := unhide HSM
        rw [e1, ← hs1]
        simp only [List.length_drop, e2]
        omega
      have hq2 : p1.size + d.size + s1.size ≤ 9223372036854775807 := by omega
      have ha2 : ∀ W, (Op.stringOp .add (p1 ++ d) s1).run Tryz.prog W = .ok (.string (p1 ++ d ++ s1)) W := fun W => run_string_add_sum W (p1 ++ d) s1 (by rw [ByteArray.size_append]; exact hq2)
      have hb2 : (9223372036854775807 < p1.size + d.size + s1.size) = False := eq_false (by omega)
      have hz : ((hasS fs n).size : Int) ≤ 1000000 := by have := unhide HSM; omega
      have hdz : (d.size : Int) ≤ 1000000 := by omega
      clear hs1 hds HP1
      generalize hasS fs n = hs at *
      have hdq := Kp.drew W0
      have HWI := hide (with_any (.slice (some ⟨g, 0, none⟩) fs.length cap) fs n (p1 ++ d ++ s1) W0.drew ((unhide H0).kp hdq (by simp)) hl)
      have cA : W0.drew.cell? ⟨w.heap.size, 1, none⟩ = some (.string n) ∧ W0.drew.cell? ⟨w.heap.size, 3, none⟩ = some (.int .i64 (pos : Int)) ∧ W0.drew.cell? ⟨w.heap.size, 4, none⟩ = some (.string d) := ⟨(unhide HBX _ hdq).cell rfl, (unhide HBX _ hdq).cell rfl, (unhide HBX _ hdq).cell rfl⟩
      go_wp2_with fail
      go_region_held3 (fun W => W.cell? ⟨w.heap.size, 1, none⟩ = some (.string n) ∧ W.cell? ⟨w.heap.size, 3, none⟩ = some (.int .i64 (pos : Int)) ∧ W.cell? ⟨w.heap.size, 4, none⟩ = some (.string d)) (first | with_reducible exact cA | with_reducible exact cB)
        (first
          | (go_at_call 79; refine (unhide HWI).mono ?_; rintro e w2 ⟨v', rfl, h2, hk2, hf2⟩; have hkk := hdq.trans hk2 (by simp); have cB : w2.cell? ⟨w.heap.size, 1, none⟩ = some (.string n) ∧ w2.cell? ⟨w.heap.size, 3, none⟩ = some (.int .i64 (pos : Int)) ∧ w2.cell? ⟨w.heap.size, 4, none⟩ = some (.string d) := ⟨(unhide HBX _ hkk).cell rfl, (unhide HBX _ hkk).cell rfl, (unhide HBX _ hkk).cell rfl⟩; have H2 := hide h2; have HF2 := hide hf2; clear h2 hf2))
      have HF3 : Hid (∀ k, v'.ownBlock = some k → w.heap.size ≤ k) := hide (fun k hk => by have h1 := unhide HF2 k hk; have := unhide HSZ; have e1 : W0.drew.heap.size = W0.heap.size := rfl; omega)
      go_wp2
      go_ret
      refine ⟨_, rfl, ?_, (unhide HK0).trans hkk (by simp), unhide HF3⟩
      show FlRow w2 v' (withF fs n (over (hasF fs n) pos d.data.toList))
      rw [← unhide HOV]
      exact unhide H2
    · have hei : ¬ ((pos : Int) + (d.size : Int) < ((hasS fs n).size : Int)) := by omega
      have HOV : Hid ((p1 ++ d).data.toList = over (hasF fs n) pos d.data.toList) := hide (by
        have hz : (hasS fs n).size = (hasF fs n).length := by simp [hasS, ByteArray.size]
        rw [app_data, unhide HP1, over, hds, List.drop_of_length_le (by omega), List.append_nil])
      have hz : ((hasS fs n).size : Int) ≤ 1000000 := by have := unhide HSM; omega
      have hdz : (d.size : Int) ≤ 1000000 := by omega
      clear hds HP1
      generalize hasS fs n = hs at *
      have hdq := Kp.drew W0
      have HWI := hide (with_any (.slice (some ⟨g, 0, none⟩) fs.length cap) fs n (p1 ++ d) W0.drew ((unhide H0).kp hdq (by simp)) hl)
      have cA : W0.drew.cell? ⟨w.heap.size, 1, none⟩ = some (.string n) ∧ W0.drew.cell? ⟨w.heap.size, 3, none⟩ = some (.int .i64 (pos : Int)) ∧ W0.drew.cell? ⟨w.heap.size, 4, none⟩ = some (.string d) := ⟨(unhide HBX _ hdq).cell rfl, (unhide HBX _ hdq).cell rfl, (unhide HBX _ hdq).cell rfl⟩
      go_wp2_with fail
      go_region_held3 (fun W => W.cell? ⟨w.heap.size, 1, none⟩ = some (.string n) ∧ W.cell? ⟨w.heap.size, 3, none⟩ = some (.int .i64 (pos : Int)) ∧ W.cell? ⟨w.heap.size, 4, none⟩ = some (.string d)) (first | with_reducible exact cA | with_reducible exact cB)
        (first
          | (go_at_call 79; refine (unhide HWI).mono ?_; rintro e w2 ⟨v', rfl, h2, hk2, hf2⟩; have hkk := hdq.trans hk2 (by simp); have cB : w2.cell? ⟨w.heap.size, 1, none⟩ = some (.string n) ∧ w2.cell? ⟨w.heap.size, 3, none⟩ = some (.int .i64 (pos : Int)) ∧ w2.cell? ⟨w.heap.size, 4, none⟩ = some (.string d) := ⟨(unhide HBX _ hkk).cell rfl, (unhide HBX _ hkk).cell rfl, (unhide HBX _ hkk).cell rfl⟩; have H2 := hide h2; have HF2 := hide hf2; clear h2 hf2))
      have HF3 : Hid (∀ k, v'.ownBlock = some k → w.heap.size ≤ k) := hide (fun k hk => by have h1 := unhide HF2 k hk; have := unhide HSZ; have e1 : W0.drew.heap.size = W0.heap.size := rfl; omega)
      go_wp2
      go_ret
      refine ⟨_, rfl, ?_, (unhide HK0).trans hkk (by simp), unhide HF3⟩
      show FlRow w2 v' (withF fs n (over (hasF fs n) pos d.data.toList))
      rw [← unhide HOV]
      exact unhide H2
  · have HHS : Hid ((⟨#[]⟩ : ByteArray) = hasS fs n) := hide (by unfold hasS hasF; rw [hg]; rfl)
    clear hg
    have hl0 : pos = 0 := by
      have h1 := unhide HLEN
      rw [← unhide HHS] at h1
      have : (⟨#[]⟩ : ByteArray).size = 0 := rfl
      omega
    subst hl0
    have HH0 : Hid (hasF fs n = []) := hide (by have h1 := hasS_data fs n; rw [← unhide HHS] at h1; exact h1.symm)
    clear HHS HLEN HSM
    have hsl : ∀ W, (Instr.slice 9 (.string ⟨#[]⟩) none (some (.int .i64 0)) none).run Tryz.prog W = .ok (.string ⟨#[]⟩) W := fun W => cut_string ⟨#[]⟩ 0 (by decide) W
    have hei : ¬ ((d.size : Int) < 0) := by omega
    have hq1 : d.size ≤ 9223372036854775807 := by omega
    have ha1 : ∀ W, (Op.stringOp .add ⟨#[]⟩ d).run Tryz.prog W = .ok (.string (⟨#[]⟩ ++ d)) W := fun W => run_string_add_sum W ⟨#[]⟩ d (by rw [show (⟨#[]⟩ : ByteArray).size = 0 from rfl]; omega)
    have hb1 : (9223372036854775807 < d.size) = False := eq_false (by omega)
    have hdz : (d.size : Int) ≤ 1000000 := by omega
    have hdq := Kp.drew W0
    have HWI := hide (with_any v fs n (⟨#[]⟩ ++ d) W0.drew ((unhide H0).kp hdq (by simp)) hl)
    have cA : W0.drew.cell? ⟨w.heap.size, 1, none⟩ = some (.string n) ∧ W0.drew.cell? ⟨w.heap.size, 3, none⟩ = some (.int .i64 0) ∧ W0.drew.cell? ⟨w.heap.size, 4, none⟩ = some (.string d) := ⟨(unhide HBX _ hdq).cell rfl, (unhide HBX _ hdq).cell rfl, (unhide HBX _ hdq).cell rfl⟩
    go_wp2_with fail
    go_region_held3 (fun W => W.cell? ⟨w.heap.size, 1, none⟩ = some (.string n) ∧ W.cell? ⟨w.heap.size, 3, none⟩ = some (.int .i64 0) ∧ W.cell? ⟨w.heap.size, 4, none⟩ = some (.string d)) (first | with_reducible exact cA | with_reducible exact cB)
      (first
        | (go_at_call 79; refine (unhide HWI).mono ?_; rintro e w2 ⟨v', rfl, h2, hk2, hf2⟩; have hkk := hdq.trans hk2 (by simp); have cB : w2.cell? ⟨w.heap.size, 1, none⟩ = some (.string n) ∧ w2.cell? ⟨w.heap.size, 3, none⟩ = some (.int .i64 0) ∧ w2.cell? ⟨w.heap.size, 4, none⟩ = some (.string d) := ⟨(unhide HBX _ hkk).cell rfl, (unhide HBX _ hkk).cell rfl, (unhide HBX _ hkk).cell rfl⟩; have H2 := hide h2; have HF2 := hide hf2; clear h2 hf2))
    have HF3 : Hid (∀ k, v'.ownBlock = some k → w.heap.size ≤ k) := hide (fun k hk => by have h1 := unhide HF2 k hk; have := unhide HSZ; have e1 : W0.drew.heap.size = W0.heap.size := rfl; omega)
    go_wp2
    go_ret
    refine ⟨_, rfl, ?_, (unhide HK0).trans hkk (by simp), unhide HF3⟩
    show FlRow w2 v' (withF fs n (over (hasF fs n) 0 d.data.toList))
    rw [unhide HH0]
    have h9 := unhide H2
    rw [app_data] at h9
    simpa [over] using h9
end Go.Proofs.YtboffmbaaokbnaaGreatDoor
