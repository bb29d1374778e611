/-
  The document's disk: files, with a change made upon them (a removal, a rename).
  The document's disk: files, with a change made upon them (a cut).
  The document's disk: files, with a change made upon them (a rename).
-/
import Derived.Test.YtfnljfkgkadlaaaG14
namespace Go.Proofs.Ytfnljfkgkadlaaa
open Go.RowKit

/-- What a change is there. -/
def chA : Chg → Array Value
  | .wr n pos d => #[.int .i64 0, .string n, .string ⟨#[]⟩, .int .i64 (pos : Int), .string d]
  | .ct n len => #[.int .i64 1, .string n, .string ⟨#[]⟩, .int .i64 (len : Int), .string ⟨#[]⟩]
  | .rn a b => #[.int .i64 2, .string a, .string b, .int .i64 0, .string ⟨#[]⟩]
  | .rm n => #[.int .i64 3, .string n, .string ⟨#[]⟩, .int .i64 0, .string ⟨#[]⟩]
/-- What a file has, as a string. -/
def hasS (fs : Fs) (n : ByteArray) : ByteArray := ⟨(hasF fs n).toArray⟩
theorem hasS_data (fs : Fs) (n : ByteArray) : (hasS fs n).data.toList = hasF fs n := by simp [hasS]
set_option maxHeartbeats 1000000 in
set_option maxRecDepth 100000 in
theorem made_rm (v : Value) (fs : Fs) (n : ByteArray) (w : World) (h : FlRow w v fs) (hl : fs.length ≤ 1000000) :
    Calls Try.prog 44 #[v, .agg (chA (.rm n))] w fun e w' => ∃ v', e = .returned v' ∧ FlRow w' v' (made fs (.rm n)) ∧ Kp [] w w' ∧ ∀ k, v'.ownBlock = some k → w.heap.size ≤ k := by
  show Calls Try.prog 44 #[v, .agg #[.int .i64 3, .string n, .string ⟨#[]⟩, .int .i64 0, .string ⟨#[]⟩]] w _
  have hk0 := Kp.alloc w (.cells #[.int .i64 3, .string n, .string ⟨#[]⟩, .int .i64 0, .string ⟨#[]⟩] 70)
  have bx0 := CBox.new w #[.int .i64 3, .string n, .string ⟨#[]⟩, .int .i64 0, .string ⟨#[]⟩] 70
  have hbx : ∀ W, Kp [] (w.alloc (.cells #[.int .i64 3, .string n, .string ⟨#[]⟩, .int .i64 0, .string ⟨#[]⟩] 70)) W → CBox w.heap.size #[.int .i64 3, .string n, .string ⟨#[]⟩, .int .i64 0, .string ⟨#[]⟩] 70 W := fun W hk => bx0.kp hk (by simp)
  have h0 := h.kp hk0 (by simp)
  have hfi := find_any v fs n (w.alloc (.cells #[.int .i64 3, .string n, .string ⟨#[]⟩, .int .i64 0, .string ⟨#[]⟩] 70)) h0
  have hsz0 : (w.alloc (.cells #[.int .i64 3, .string n, .string ⟨#[]⟩, .int .i64 0, .string ⟨#[]⟩] 70)).heap.size = w.heap.size + 1 := by simp
  have HFI := hide hfi
  have HBX := hide hbx
  have H0 := hide h0
  have HK0 := hide hk0
  have HSZ := hide hsz0
  have b1 : (w.alloc (.cells #[.int .i64 3, .string n, .string ⟨#[]⟩, .int .i64 0, .string ⟨#[]⟩] 70)).cell? ⟨w.heap.size, 0, none⟩ = some #[.int .i64 3, .string n, .string ⟨#[]⟩, .int .i64 0, .string ⟨#[]⟩][0] := bx0.cell rfl
  have b2 : (w.alloc (.cells #[.int .i64 3, .string n, .string ⟨#[]⟩, .int .i64 0, .string ⟨#[]⟩] 70)).cell? ⟨w.heap.size, 1, none⟩ = some #[.int .i64 3, .string n, .string ⟨#[]⟩, .int .i64 0, .string ⟨#[]⟩][1] := bx0.cell rfl
  clear hfi hbx h0 hk0 hsz0 h bx0
  go_enter Try.func44, Try.ntmps44
  go_wp2_with fail
  refine (unhide HFI).mono ?_
  rintro e w1 ⟨r, rfl, rfl, hr⟩
  clear HFI b1 b2
  generalize w.alloc (.cells #[.int .i64 3, .string n, .string ⟨#[]⟩, .int .i64 0, .string ⟨#[]⟩] 70) = W0 at *
  have b1 : W0.cell? ⟨w.heap.size, 0, none⟩ = some #[.int .i64 3, .string n, .string ⟨#[]⟩, .int .i64 0, .string ⟨#[]⟩][0] := (unhide HBX _ (Kp.refl _ _)).cell rfl
  have b2 : W0.cell? ⟨w.heap.size, 1, none⟩ = some #[.int .i64 3, .string n, .string ⟨#[]⟩, .int .i64 0, .string ⟨#[]⟩][1] := (unhide HBX _ (Kp.refl _ _)).cell rfl
  have b3 : W0.cell? ⟨w.heap.size, 2, none⟩ = some #[.int .i64 3, .string n, .string ⟨#[]⟩, .int .i64 0, .string ⟨#[]⟩][2] := (unhide HBX _ (Kp.refl _ _)).cell rfl
  have b4 : W0.cell? ⟨w.heap.size, 3, none⟩ = some #[.int .i64 3, .string n, .string ⟨#[]⟩, .int .i64 0, .string ⟨#[]⟩][3] := (unhide HBX _ (Kp.refl _ _)).cell rfl
  have b5 : W0.cell? ⟨w.heap.size, 4, none⟩ = some #[.int .i64 3, .string n, .string ⟨#[]⟩, .int .i64 0, .string ⟨#[]⟩][4] := (unhide HBX _ (Kp.refl _ _)).cell rfl
  dsimp at b1 b2 b3 b4 b5
  obtain ⟨k, hk, rfl, hn, hg⟩ | ⟨rfl, hg⟩ := hr
  · obtain ⟨_, hLn⟩ | ⟨g, cap, rfl, hc, hm⟩ := (unhide H0).shape
    · rw [hLn] at hk; exact absurd hk (by simp)
    have c2 := ((unhide H0).cell k hk).2
    have HHS : Hid (⟨fs[k].2.toArray⟩ = hasS fs n) := hide (by unfold hasS hasF; rw [hg]; rfl)
    rw [unhide HHS] at c2
    have hki : (k : Int) < (fs.length : Int) := by omega
    clear hn hg HHS
    have HWO := hide (without_any (.slice (some ⟨g, 0, none⟩) fs.length cap) fs n W0 (unhide H0) hl)
    go_wp2_with fail
    refine (unhide HWO).mono ?_
    rintro e w2 ⟨v', rfl, h2, hk2, hf2⟩
    have H2 := hide h2
    have HF2 : Hid (∀ k, v'.ownBlock = some k → w.heap.size ≤ k) := hide (fun k hk => by have := hf2 k hk; have := unhide HSZ; omega)
    clear h2 hf2
    go_wp2
    go_ret
    exact ⟨_, rfl, unhide H2, (unhide HK0).trans hk2 (by simp), unhide HF2⟩
  · have HHS : Hid ((⟨#[]⟩ : ByteArray) = hasS fs n) := hide (by unfold hasS hasF; rw [hg]; rfl)
    clear hg
    have HWO := hide (without_any v fs n W0 (unhide H0) hl)
    go_wp2_with fail
    refine (unhide HWO).mono ?_
    rintro e w2 ⟨v', rfl, h2, hk2, hf2⟩
    have H2 := hide h2
    have HF2 : Hid (∀ k, v'.ownBlock = some k → w.heap.size ≤ k) := hide (fun k hk => by have := hf2 k hk; have := unhide HSZ; omega)
    clear h2 hf2
    go_wp2
    go_ret
    exact ⟨_, rfl, unhide H2, (unhide HK0).trans hk2 (by simp), unhide HF2⟩
end Go.Proofs.Ytfnljfkgkadlaaa
namespace Go.Proofs.Ytfnljfkgkadlaaa
open Go.RowKit

theorem cut_string (hs : ByteArray) (m : Nat) (hm : m ≤ hs.size) (W : World) : (Instr.slice 9 (.string hs) none (some (.int .i64 (m : Int))) none).run Try.prog W = .ok (.string ⟨(hs.data.toList.take m).toArray⟩) W := by
  simp [Instr.slice, run_underlying Try.underlying9, Instr.sliceBounds, Instr.sliceBound, asIntOf, Result.andThen]
  rw [if_pos hm]
  dsimp only
  congr 2
  apply ByteArray.ext
  apply Array.ext'
  simp
set_option maxHeartbeats 600000 in
set_option maxRecDepth 100000 in
theorem made_ct (v : Value) (fs : Fs) (n : ByteArray) (len : Nat) (hfit : len ≤ (hasF fs n).length) (w : World) (h : FlRow w v fs) (hl : fs.length ≤ 1000000) :
    Calls Try.prog 44 #[v, .agg (chA (.ct n len))] w fun e w' => ∃ v', e = .returned v' ∧ FlRow w' v' (made fs (.ct n len)) ∧ Kp [] w w' ∧ ∀ k, v'.ownBlock = some k → w.heap.size ≤ k := by
  have HLEN : Hid (len ≤ (hasS fs n).size) := hide (by have : (hasS fs n).size = (hasF fs n).length := by simp [hasS, ByteArray.size]
                                                       omega)
  have HHD : Hid ((⟨((hasS fs n).data.toList.take len).toArray⟩ : ByteArray).data.toList = (hasF fs n).take len) := hide (by simp [hasS])
  show Calls Try.prog 44 #[v, .agg #[.int .i64 1, .string n, .string ⟨#[]⟩, .int .i64 (len : Int), .string ⟨#[]⟩]] w _
  have hk0 := Kp.alloc w (.cells #[.int .i64 1, .string n, .string ⟨#[]⟩, .int .i64 (len : Int), .string ⟨#[]⟩] 70)
  have bx0 := CBox.new w #[.int .i64 1, .string n, .string ⟨#[]⟩, .int .i64 (len : Int), .string ⟨#[]⟩] 70
  have hbx : ∀ W, Kp [] (w.alloc (.cells #[.int .i64 1, .string n, .string ⟨#[]⟩, .int .i64 (len : Int), .string ⟨#[]⟩] 70)) W → CBox w.heap.size #[.int .i64 1, .string n, .string ⟨#[]⟩, .int .i64 (len : Int), .string ⟨#[]⟩] 70 W := fun W hk => bx0.kp hk (by simp)
  have h0 := h.kp hk0 (by simp)
  have hfi := find_any v fs n (w.alloc (.cells #[.int .i64 1, .string n, .string ⟨#[]⟩, .int .i64 (len : Int), .string ⟨#[]⟩] 70)) h0
  have hsz0 : (w.alloc (.cells #[.int .i64 1, .string n, .string ⟨#[]⟩, .int .i64 (len : Int), .string ⟨#[]⟩] 70)).heap.size = w.heap.size + 1 := by simp
  have HFI := hide hfi
  have HBX := hide hbx
  have H0 := hide h0
  have HK0 := hide hk0
  have HSZ := hide hsz0
  have b1 : (w.alloc (.cells #[.int .i64 1, .string n, .string ⟨#[]⟩, .int .i64 (len : Int), .string ⟨#[]⟩] 70)).cell? ⟨w.heap.size, 0, none⟩ = some #[.int .i64 1, .string n, .string ⟨#[]⟩, .int .i64 (len : Int), .string ⟨#[]⟩][0] := bx0.cell rfl
  have b2 : (w.alloc (.cells #[.int .i64 1, .string n, .string ⟨#[]⟩, .int .i64 (len : Int), .string ⟨#[]⟩] 70)).cell? ⟨w.heap.size, 1, none⟩ = some #[.int .i64 1, .string n, .string ⟨#[]⟩, .int .i64 (len : Int), .string ⟨#[]⟩][1] := bx0.cell rfl
  clear hfi hbx h0 hk0 hsz0 h bx0
  go_enter Try.func44, Try.ntmps44
  go_wp2_with fail
  refine (unhide HFI).mono ?_
  rintro e w1 ⟨r, rfl, rfl, hr⟩
  clear HFI b1 b2
  generalize w.alloc (.cells #[.int .i64 1, .string n, .string ⟨#[]⟩, .int .i64 (len : Int), .string ⟨#[]⟩] 70) = W0 at *
  have b1 : W0.cell? ⟨w.heap.size, 0, none⟩ = some #[.int .i64 1, .string n, .string ⟨#[]⟩, .int .i64 (len : Int), .string ⟨#[]⟩][0] := (unhide HBX _ (Kp.refl _ _)).cell rfl
  have b2 : W0.cell? ⟨w.heap.size, 1, none⟩ = some #[.int .i64 1, .string n, .string ⟨#[]⟩, .int .i64 (len : Int), .string ⟨#[]⟩][1] := (unhide HBX _ (Kp.refl _ _)).cell rfl
  have b3 : W0.cell? ⟨w.heap.size, 2, none⟩ = some #[.int .i64 1, .string n, .string ⟨#[]⟩, .int .i64 (len : Int), .string ⟨#[]⟩][2] := (unhide HBX _ (Kp.refl _ _)).cell rfl
  have b4 : W0.cell? ⟨w.heap.size, 3, none⟩ = some #[.int .i64 1, .string n, .string ⟨#[]⟩, .int .i64 (len : Int), .string ⟨#[]⟩][3] := (unhide HBX _ (Kp.refl _ _)).cell rfl
  have b5 : W0.cell? ⟨w.heap.size, 4, none⟩ = some #[.int .i64 1, .string n, .string ⟨#[]⟩, .int .i64 (len : Int), .string ⟨#[]⟩][4] := (unhide HBX _ (Kp.refl _ _)).cell rfl
  dsimp at b1 b2 b3 b4 b5
  obtain ⟨k, hk, rfl, hn, hg⟩ | ⟨rfl, hg⟩ := hr
  · obtain ⟨_, hLn⟩ | ⟨g, cap, rfl, hc, hm⟩ := (unhide H0).shape
    · rw [hLn] at hk; exact absurd hk (by simp)
    have c2 := ((unhide H0).cell k hk).2
    have HHS : Hid (⟨fs[k].2.toArray⟩ = hasS fs n) := hide (by unfold hasS hasF; rw [hg]; rfl)
    rw [unhide HHS] at c2
    have hki : (k : Int) < (fs.length : Int) := by omega
    clear hn hg HHS
    have hsl := cut_string (hasS fs n) len (unhide HLEN)
    have hdq := Kp.drew W0
    have HWI := hide (with_any (.slice (some ⟨g, 0, none⟩) fs.length cap) fs n ⟨((hasS fs n).data.toList.take len).toArray⟩ W0.drew ((unhide H0).kp hdq (by simp)) hl)
    have cA : W0.drew.cell? ⟨w.heap.size, 1, none⟩ = some (.string n) ∧ W0.drew.cell? ⟨w.heap.size, 3, none⟩ = some (.int .i64 (len : Int)) := ⟨(unhide HBX _ hdq).cell rfl, (unhide HBX _ hdq).cell rfl⟩
    generalize hasS fs n = hs at *
    go_wp2_with fail
    go_region_held3 (fun W => W.cell? ⟨w.heap.size, 1, none⟩ = some (.string n) ∧ W.cell? ⟨w.heap.size, 3, none⟩ = some (.int .i64 (len : Int))) (first | with_reducible exact cA | with_reducible exact cB)
      (first
        | (go_at_call 50; refine (unhide HWI).mono ?_; rintro e w2 ⟨v', rfl, h2, hk2, hf2⟩; have hkk := hdq.trans hk2 (by simp); have cB : w2.cell? ⟨w.heap.size, 1, none⟩ = some (.string n) ∧ w2.cell? ⟨w.heap.size, 3, none⟩ = some (.int .i64 (len : Int)) := ⟨(unhide HBX _ hkk).cell rfl, (unhide HBX _ hkk).cell rfl⟩; have H2 := hide h2; have HF2 := hide hf2; clear h2 hf2))
    have HF3 : Hid (∀ k, v'.ownBlock = some k → w.heap.size ≤ k) := hide (fun k hk => by have h1 := unhide HF2 k hk; have := unhide HSZ; have e1 : W0.drew.heap.size = W0.heap.size := rfl; omega)
    go_wp2
    go_ret
    refine ⟨_, rfl, ?_, (unhide HK0).trans hkk (by simp), unhide HF3⟩
    have := unhide H2
    rw [unhide HHD] at this
    exact this
  · have HHS : Hid ((⟨#[]⟩ : ByteArray) = hasS fs n) := hide (by unfold hasS hasF; rw [hg]; rfl)
    clear hg
    have hl0 : len = 0 := by
      have h1 := unhide HLEN
      rw [← unhide HHS] at h1
      have : (⟨#[]⟩ : ByteArray).size = 0 := rfl
      omega
    subst hl0
    have HH0 : Hid (hasF fs n = []) := hide (by have h1 := hasS_data fs n; rw [← unhide HHS] at h1; exact h1.symm)
    clear HHS HLEN HHD
    have hsl : ∀ W, (Instr.slice 9 (.string ⟨#[]⟩) none (some (.int .i64 0)) none).run Try.prog W = .ok (.string ⟨#[]⟩) W := fun W => cut_string ⟨#[]⟩ 0 (by decide) W
    have hdq := Kp.drew W0
    have HWI := hide (with_any v fs n ⟨#[]⟩ W0.drew ((unhide H0).kp hdq (by simp)) hl)
    have cA : W0.drew.cell? ⟨w.heap.size, 1, none⟩ = some (.string n) ∧ W0.drew.cell? ⟨w.heap.size, 3, none⟩ = some (.int .i64 0) := ⟨(unhide HBX _ hdq).cell rfl, (unhide HBX _ hdq).cell rfl⟩
    go_wp2_with fail
    go_region_held3 (fun W => W.cell? ⟨w.heap.size, 1, none⟩ = some (.string n) ∧ W.cell? ⟨w.heap.size, 3, none⟩ = some (.int .i64 0)) (first | with_reducible exact cA | with_reducible exact cB)
      (first
        | (go_at_call 50; refine (unhide HWI).mono ?_; rintro e w2 ⟨v', rfl, h2, hk2, hf2⟩; have hkk := hdq.trans hk2 (by simp); have cB : w2.cell? ⟨w.heap.size, 1, none⟩ = some (.string n) ∧ w2.cell? ⟨w.heap.size, 3, none⟩ = some (.int .i64 0) := ⟨(unhide HBX _ hkk).cell rfl, (unhide HBX _ hkk).cell rfl⟩; have H2 := hide h2; have HF2 := hide hf2; clear h2 hf2))
    have HF3 : Hid (∀ k, v'.ownBlock = some k → w.heap.size ≤ k) := hide (fun k hk => by have h1 := unhide HF2 k hk; have := unhide HSZ; have e1 : W0.drew.heap.size = W0.heap.size := rfl; omega)
    go_wp2
    go_ret
    refine ⟨_, rfl, ?_, (unhide HK0).trans hkk (by simp), unhide HF3⟩
    show FlRow w2 v' (withF fs n ((hasF fs n).take 0))
    rw [unhide HH0]
    exact unhide H2
end Go.Proofs.Ytfnljfkgkadlaaa
namespace Go.Proofs.Ytfnljfkgkadlaaa
open Go.RowKit

set_option maxHeartbeats 600000 in
set_option maxRecDepth 100000 in
theorem made_rn (v : Value) (fs : Fs) (a b : ByteArray) (w : World) (h : FlRow w v fs) (hl : fs.length ≤ 1000000) :
    Calls Try.prog 44 #[v, .agg (chA (.rn a b))] w fun e w' => ∃ v', e = .returned v' ∧ FlRow w' v' (made fs (.rn a b)) ∧ Kp [] w w' ∧ ∀ k, v'.ownBlock = some k → w.heap.size ≤ k := by
  show Calls Try.prog 44 #[v, .agg #[.int .i64 2, .string a, .string b, .int .i64 0, .string ⟨#[]⟩]] w _
  have hk0 := Kp.alloc w (.cells #[.int .i64 2, .string a, .string b, .int .i64 0, .string ⟨#[]⟩] 70)
  have bx0 := CBox.new w #[.int .i64 2, .string a, .string b, .int .i64 0, .string ⟨#[]⟩] 70
  have hbx : ∀ W, Kp [] (w.alloc (.cells #[.int .i64 2, .string a, .string b, .int .i64 0, .string ⟨#[]⟩] 70)) W → CBox w.heap.size #[.int .i64 2, .string a, .string b, .int .i64 0, .string ⟨#[]⟩] 70 W := fun W hk => bx0.kp hk (by simp)
  have h0 := h.kp hk0 (by simp)
  have hfi := find_any v fs a (w.alloc (.cells #[.int .i64 2, .string a, .string b, .int .i64 0, .string ⟨#[]⟩] 70)) h0
  have hsz0 : (w.alloc (.cells #[.int .i64 2, .string a, .string b, .int .i64 0, .string ⟨#[]⟩] 70)).heap.size = w.heap.size + 1 := by simp
  have HFI := hide hfi
  have HBX := hide hbx
  have H0 := hide h0
  have HK0 := hide hk0
  have HSZ := hide hsz0
  have b1 : (w.alloc (.cells #[.int .i64 2, .string a, .string b, .int .i64 0, .string ⟨#[]⟩] 70)).cell? ⟨w.heap.size, 0, none⟩ = some #[.int .i64 2, .string a, .string b, .int .i64 0, .string ⟨#[]⟩][0] := bx0.cell rfl
  have b2 : (w.alloc (.cells #[.int .i64 2, .string a, .string b, .int .i64 0, .string ⟨#[]⟩] 70)).cell? ⟨w.heap.size, 1, none⟩ = some #[.int .i64 2, .string a, .string b, .int .i64 0, .string ⟨#[]⟩][1] := bx0.cell rfl
  clear hfi hbx h0 hk0 hsz0 h bx0
  go_enter Try.func44, Try.ntmps44
  go_wp2_with fail
  refine (unhide HFI).mono ?_
  rintro e w1 ⟨r, rfl, rfl, hr⟩
  clear HFI b1 b2
  generalize w.alloc (.cells #[.int .i64 2, .string a, .string b, .int .i64 0, .string ⟨#[]⟩] 70) = W0 at *
  have b1 : W0.cell? ⟨w.heap.size, 0, none⟩ = some #[.int .i64 2, .string a, .string b, .int .i64 0, .string ⟨#[]⟩][0] := (unhide HBX _ (Kp.refl _ _)).cell rfl
  have b2 : W0.cell? ⟨w.heap.size, 1, none⟩ = some #[.int .i64 2, .string a, .string b, .int .i64 0, .string ⟨#[]⟩][1] := (unhide HBX _ (Kp.refl _ _)).cell rfl
  have b3 : W0.cell? ⟨w.heap.size, 2, none⟩ = some #[.int .i64 2, .string a, .string b, .int .i64 0, .string ⟨#[]⟩][2] := (unhide HBX _ (Kp.refl _ _)).cell rfl
  have b4 : W0.cell? ⟨w.heap.size, 3, none⟩ = some #[.int .i64 2, .string a, .string b, .int .i64 0, .string ⟨#[]⟩][3] := (unhide HBX _ (Kp.refl _ _)).cell rfl
  have b5 : W0.cell? ⟨w.heap.size, 4, none⟩ = some #[.int .i64 2, .string a, .string b, .int .i64 0, .string ⟨#[]⟩][4] := (unhide HBX _ (Kp.refl _ _)).cell rfl
  dsimp at b1 b2 b3 b4 b5
  obtain ⟨k, hk, rfl, hn, hg⟩ | ⟨rfl, hg⟩ := hr
  · obtain ⟨_, hLn⟩ | ⟨g, cap, rfl, hc, hm⟩ := (unhide H0).shape
    · rw [hLn] at hk; exact absurd hk (by simp)
    have c2 := ((unhide H0).cell k hk).2
    have HHS : Hid (⟨fs[k].2.toArray⟩ = hasS fs a) := hide (by unfold hasS hasF; rw [hg]; rfl)
    rw [unhide HHS] at c2
    have hki : (k : Int) < (fs.length : Int) := by omega
    clear hn hg HHS
    have hdq := Kp.drew W0
    have HWO := hide (without_any (.slice (some ⟨g, 0, none⟩) fs.length cap) fs a W0.drew ((unhide H0).kp hdq (by simp)) hl)
    have HWI := hide (fun (W : World) (v1 : Value) (h1 : FlRow W v1 (without fs a)) => with_any v1 (without fs a) b (hasS fs a) W h1 (Nat.le_trans (without_le fs a) hl))
    have cA : W0.drew.cell? ⟨w.heap.size, 1, none⟩ = some (.string a) ∧ W0.drew.cell? ⟨w.heap.size, 2, none⟩ = some (.string b) := ⟨(unhide HBX _ hdq).cell rfl, (unhide HBX _ hdq).cell rfl⟩
    go_wp2_with fail
    go_region_held3 (fun W => W.cell? ⟨w.heap.size, 1, none⟩ = some (.string a) ∧ W.cell? ⟨w.heap.size, 2, none⟩ = some (.string b)) (first | with_reducible exact cA | with_reducible exact cB | with_reducible exact cC)
      (first
        | (go_at_call 50; refine (unhide HWI w2 v1 (unhide H2)).mono ?_; rintro e w3 ⟨v', rfl, h3, hk3, hf3⟩; have hk4 := hkk.trans hk3 (by simp); have cC : w3.cell? ⟨w.heap.size, 1, none⟩ = some (.string a) ∧ w3.cell? ⟨w.heap.size, 2, none⟩ = some (.string b) := ⟨(unhide HBX _ hk4).cell rfl, (unhide HBX _ hk4).cell rfl⟩; have H3 := hide h3; have HF3 := hide hf3; clear h3 hf3)
        | (go_at_call 51; refine (unhide HWO).mono ?_; rintro e w2 ⟨v1, rfl, h2, hk2, hf2⟩; have hkk := hdq.trans hk2 (by simp); have cB : w2.cell? ⟨w.heap.size, 1, none⟩ = some (.string a) ∧ w2.cell? ⟨w.heap.size, 2, none⟩ = some (.string b) := ⟨(unhide HBX _ hkk).cell rfl, (unhide HBX _ hkk).cell rfl⟩; have H2 := hide h2; clear h2 hf2))
    have HF4 : Hid (∀ k, v'.ownBlock = some k → w.heap.size ≤ k) := hide (fun k hk => by have h1 := unhide HF3 k hk; have := unhide HSZ; have := hkk.size; omega)
    go_wp2
    go_ret
    refine ⟨_, rfl, ?_, (unhide HK0).trans hk4 (by simp), unhide HF4⟩
    show FlRow w3 v' (withF (without fs a) b (hasF fs a))
    rw [← hasS_data fs a]
    exact unhide H3
  · have HHS : Hid ((⟨#[]⟩ : ByteArray) = hasS fs a) := hide (by unfold hasS hasF; rw [hg]; rfl)
    clear hg
    have HH0 : Hid (hasF fs a = []) := hide (by have h1 := hasS_data fs a; rw [← unhide HHS] at h1; exact h1.symm)
    clear HHS
    have hdq := Kp.drew W0
    have HWO := hide (without_any v fs a W0.drew ((unhide H0).kp hdq (by simp)) hl)
    have HWI := hide (fun (W : World) (v1 : Value) (h1 : FlRow W v1 (without fs a)) => with_any v1 (without fs a) b ⟨#[]⟩ W h1 (Nat.le_trans (without_le fs a) hl))
    have cA : W0.drew.cell? ⟨w.heap.size, 1, none⟩ = some (.string a) ∧ W0.drew.cell? ⟨w.heap.size, 2, none⟩ = some (.string b) := ⟨(unhide HBX _ hdq).cell rfl, (unhide HBX _ hdq).cell rfl⟩
    go_wp2_with fail
    go_region_held3 (fun W => W.cell? ⟨w.heap.size, 1, none⟩ = some (.string a) ∧ W.cell? ⟨w.heap.size, 2, none⟩ = some (.string b)) (first | with_reducible exact cA | with_reducible exact cB | with_reducible exact cC)
      (first
        | (go_at_call 50; refine (unhide HWI w2 v1 (unhide H2)).mono ?_; rintro e w3 ⟨v', rfl, h3, hk3, hf3⟩; have hk4 := hkk.trans hk3 (by simp); have cC : w3.cell? ⟨w.heap.size, 1, none⟩ = some (.string a) ∧ w3.cell? ⟨w.heap.size, 2, none⟩ = some (.string b) := ⟨(unhide HBX _ hk4).cell rfl, (unhide HBX _ hk4).cell rfl⟩; have H3 := hide h3; have HF3 := hide hf3; clear h3 hf3)
        | (go_at_call 51; refine (unhide HWO).mono ?_; rintro e w2 ⟨v1, rfl, h2, hk2, hf2⟩; have hkk := hdq.trans hk2 (by simp); have cB : w2.cell? ⟨w.heap.size, 1, none⟩ = some (.string a) ∧ w2.cell? ⟨w.heap.size, 2, none⟩ = some (.string b) := ⟨(unhide HBX _ hkk).cell rfl, (unhide HBX _ hkk).cell rfl⟩; have H2 := hide h2; clear h2 hf2))
    have HF4 : Hid (∀ k, v'.ownBlock = some k → w.heap.size ≤ k) := hide (fun k hk => by have h1 := unhide HF3 k hk; have := unhide HSZ; have := hkk.size; omega)
    go_wp2
    go_ret
    refine ⟨_, rfl, ?_, (unhide HK0).trans hk4 (by simp), unhide HF4⟩
    show FlRow w3 v' (withF (without fs a) b (hasF fs a))
    rw [unhide HH0]
    exact unhide H3
end Go.Proofs.Ytfnljfkgkadlaaa
