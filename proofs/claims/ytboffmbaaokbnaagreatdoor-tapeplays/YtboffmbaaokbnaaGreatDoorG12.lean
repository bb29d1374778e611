/-
  A tape is opened: the inner function's ways.
  Open: a tape is opened, or it is told why not.
  Append: the inner function.
  Append: the inner function, where all goes well.
-/
import Derived.Test.YtboffmbaaokbnaaGreatDoorG11
import Derived.Deep.RegionHeld3
import Derived.Deep.RegionHeld2
import Derived.Deep.AppendLies
import Derived.Deep.RegionLaw
namespace Go.Proofs.YtboffmbaaokbnaaGreatDoor
open Go.RowKit

/-- A tape has been opened. -/
def Opened (w : World) (F : List Nat) (p : Nat) (d : Dk) (n : ByteArray) (t : Nat) (v : Value) (ts : List (List UInt8)) (w' : World) : Prop :=
  Did w F p d w' ∧ TpAt w' t p n v ts ∧ w.heap.size ≤ t ∧ ∀ k, v.ownBlock = some k → w.heap.size ≤ k
theorem hasF_sz {w : World} {p : Nat} {d : Dk} {F : List Nat} (h : DiskAt w p d F) (n : ByteArray) : (hasF d.now n).length ≤ 262144 := Nat.le_trans (hasF_le n) h.inv.now.1.1
theorem TabW.kp {w w' : World} {F : List Nat} (h : TabW w) (hk : Kp F w w') (hF : 0 ∉ F) : TabW w' :=
  ⟨Nat.lt_of_lt_of_le h.1 hk.size, fun i hi => hk.cell (h.2 i hi) hF⟩
set_option maxHeartbeats 400000 in
theorem open_nil (n : ByteArray) (w : World) : Calls Tryz.prog 13 #[.pointer none, .string n] w fun r w' => r = .panicked (pan 5) ∧ w' = w := by
  go_enter Tryz.func13, Tryz.ntmps13
  go_wp2_with fail
  refine (giveUp_any 5 w).mono ?_
  rintro r w1 ⟨rfl, rfl⟩
  exact ⟨rfl, rfl, rfl⟩
set_option maxHeartbeats 400000 in
theorem open_bad (p : Nat) (n : ByteArray) (d : Dk) (F : List Nat) (w : World) (hd : DiskAt w p d F) (hn : dnm n = false) (hs : n.size ≤ 9223372036854775807) :
    Calls Tryz.prog 13 #[.pointer (some ⟨p, 0, none⟩), .string n] w fun r w' => r = .panicked (pan 30) ∧ w' = w := by
  have BO := hide (bytesOf_not p n d F w hd hn hs)
  clear hd
  go_enter Tryz.func13, Tryz.ntmps13
  go_wp2_with fail
  refine (unhide BO).mono ?_
  rintro r w1 ⟨rfl, rfl⟩
  exact ⟨rfl, rfl, rfl⟩
theorem strData (l : List UInt8) : (⟨l.toArray⟩ : ByteArray).data.toList = l := by simp
theorem strSize (l : List UInt8) : (⟨l.toArray⟩ : ByteArray).size = l.length := by simp [ByteArray.size]
set_option maxHeartbeats 1000000 in
set_option maxRecDepth 100000 in
theorem open_whole (p : Nat) (n : ByteArray) (d : Dk) (F : List Nat) (w : World) (hd : DiskAt w p d F) (hn : dnm n = true) (hT : TabW w) (he : ¬ d.fEnd n < (hasF d.now n).length) :
    Calls Tryz.prog 13 #[.pointer (some ⟨p, 0, none⟩), .string n] w fun r w' => ∃ t v, r = .returned (.pointer (some ⟨t, 0, none⟩)) ∧ Opened w F p d n t v (d.opL n) w' := by
  have hsz := hasF_sz hd n
  have BO := hide (bytesOf_any p n d F w hd hn)
  have fr := frames_any ⟨(hasF d.now n).toArray⟩ w (by rw [strSize]; omega) hT
  rw [strData] at fr
  have hz := strSize (hasF d.now n)
  unfold Dk.fEnd at he
  have HSM := hide (frsS_small (hasF d.now n))
  unfold Dk.opL
  generalize hR : frsS (hasF d.now n) = R at *
  generalize hasF d.now n = l at *
  generalize (⟨l.toArray⟩ : ByteArray) = s at *
  have hei : ¬ ((R.2 : Int) < (s.size : Int)) := by omega
  have hl := dnm_len hn
  have HD := hide hd
  have HN := hide hn
  have FR := hide fr
  clear hd hn hT he hR fr
  go_enter Tryz.func13, Tryz.ntmps13
  go_wp2_with fail
  refine (unhide BO).mono ?_
  rintro r w1 ⟨rfl, rfl⟩
  go_wp2_with fail
  refine (unhide FR).mono ?_
  rintro r w2 ⟨v, rfl, hv2, hb2⟩
  obtain ⟨ad, cap, hvf, _⟩ := hv2.texts
  generalize R.1.length = m at hvf
  subst hvf
  have HV2 := hide hv2
  have HK2 := hide (Kp.ofBelow hb2)
  clear hv2 hb2
  go_wp2_with fail
  refine (clone_any n w2 (by omega)).mono ?_
  rintro r w3 ⟨rfl, hb3⟩
  have hk3 := Kp.ofBelow hb3
  have hk4 := hk3.trans (Kp.alloc w3 (.cells #[.pointer (some ⟨p, 0, none⟩), .string n, .slice ad m cap] 82)) (by simp)
  have bx := CBox.new w3 #[.pointer (some ⟨p, 0, none⟩), .string n, .slice ad m cap] 82
  have hk5 := (unhide HK2).trans hk4 (by simp)
  have hs3 := ((unhide HK2).trans hk3 (by simp)).size
  have HO : Hid (Opened w1 F p d n w3.heap.size (.slice ad m cap) R.1 (w3.alloc (.cells #[.pointer (some ⟨p, 0, none⟩), .string n, .slice ad m cap] 82))) := hide
    ⟨(unhide HD).did' hk5, ⟨bx, ((unhide HV2).kp hk4 (by simp)).low, unhide HN, unhide HSM⟩, hs3, fun k hk => ((unhide HV2).block hk).1⟩
  clear hb3 hk3 hk4 bx hk5 hs3
  go_wp2
  go_ret
  exact ⟨_, _, rfl, unhide HO⟩
set_option maxHeartbeats 1000000 in
set_option maxRecDepth 100000 in
theorem open_rot (p : Nat) (n : ByteArray) (d : Dk) (F : List Nat) (w : World) (hd : DiskAt w p d F) (hn : dnm n = true) (hT : TabW w) (he : d.fEnd n < (hasF d.now n).length) (hc : d.fCode n ≠ 11) :
    Calls Tryz.prog 13 #[.pointer (some ⟨p, 0, none⟩), .string n] w fun r w' => r = .panicked (pan 40) ∧ Kp [] w w' := by
  have hsz := hasF_sz hd n
  have BO := hide (bytesOf_any p n d F w hd hn)
  have fr := frames_any ⟨(hasF d.now n).toArray⟩ w (by rw [strSize]; omega) hT
  rw [strData] at fr
  have hz := strSize (hasF d.now n)
  have hdt := strData (hasF d.now n)
  unfold Dk.fCode at hc
  unfold Dk.fEnd at he hc
  generalize hR : frsS (hasF d.now n) = R at *
  generalize hasF d.now n = l at *
  generalize (⟨l.toArray⟩ : ByteArray) = s at *
  have MT := hide (fun W (hW : TabW W) => mustBeTorn_not s R.2 W (by omega) (by omega) hW (by rw [hdt]; exact hc))
  have hei : (R.2 : Int) < (s.size : Int) := by omega
  have FR := hide fr
  have HT := hide hT
  clear hd hn hT he hR fr hc hdt
  go_enter Tryz.func13, Tryz.ntmps13
  go_wp2_with fail
  refine (unhide BO).mono ?_
  rintro r w1 ⟨rfl, rfl⟩
  go_wp2_with fail
  refine (unhide FR).mono ?_
  rintro r w2 ⟨v, rfl, hv2, hb2⟩
  have hk2 := Kp.ofBelow hb2
  have hT2 := (unhide HT).kp hk2 (by simp)
  have HK2 := hide hk2
  have HT2 := hide hT2
  clear hv2 hb2 hk2 hT2
  go_wp2_with fail
  refine (unhide MT w2 (unhide HT2)).mono ?_
  rintro r w3 ⟨rfl, hk3⟩
  exact ⟨rfl, rfl, (unhide HK2).trans hk3 (by simp)⟩
set_option maxHeartbeats 1000000 in
set_option maxRecDepth 100000 in
theorem open_cut (p : Nat) (n : ByteArray) (d : Dk) (F : List Nat) (w : World) (hd : DiskAt w p d F) (hn : dnm n = true) (hT : TabW w) (he : d.fEnd n < (hasF d.now n).length) (hc : d.fCode n = 11) (hz0 : d.ctE n (d.fEnd n : Int) = 0) :
    Calls Tryz.prog 13 #[.pointer (some ⟨p, 0, none⟩), .string n] w fun r w' => ∃ t v, r = .returned (.pointer (some ⟨t, 0, none⟩)) ∧ Opened w F p (d.ctD n (d.fEnd n : Int)) n t v (d.opL n) w' := by
  have hsz := hasF_sz hd n
  have hl := dnm_len hn
  have BO := hide (bytesOf_any p n d F w hd hn)
  have CT := hide (fun W (hW : DiskAt W p d F) => cut_any n (d.fEnd n : Int) p d F W hW (by omega) (by omega) (by omega))
  have fr := frames_any ⟨(hasF d.now n).toArray⟩ w (by rw [strSize]; omega) hT
  rw [strData] at fr
  have hz := strSize (hasF d.now n)
  have hdt := strData (hasF d.now n)
  have HSM := hide (frsS_small (hasF d.now n))
  rw [hz0] at CT
  unfold Dk.fCode at hc
  unfold Dk.opL
  generalize hD2 : d.ctD n (d.fEnd n : Int) = d2 at *
  unfold Dk.fEnd at he hc CT
  generalize hR : frsS (hasF d.now n) = R at *
  generalize hasF d.now n = l at *
  generalize (⟨l.toArray⟩ : ByteArray) = s at *
  have MT := hide (fun W (hW : TabW W) => mustBeTorn_ok s R.2 W (by omega) (by omega) hW (by rw [hdt]; exact hc))
  have hei : (R.2 : Int) < (s.size : Int) := by omega
  have FR := hide fr
  have HT := hide hT
  have HD := hide hd
  have HN := hide hn
  clear hd hn hT he hR fr hc hdt hD2 hz0
  go_enter Tryz.func13, Tryz.ntmps13
  go_wp2_with fail
  refine (unhide BO).mono ?_
  rintro r w1 ⟨rfl, rfl⟩
  go_wp2_with fail
  refine (unhide FR).mono ?_
  rintro r w2 ⟨v, rfl, hv2, hb2⟩
  obtain ⟨ad, cap, hvf, _⟩ := hv2.texts
  generalize R.1.length = m at hvf
  subst hvf
  have hk2 := Kp.ofBelow hb2
  have hT2 := (unhide HT).kp hk2 (by simp)
  have HV2 := hide hv2
  have HK2 := hide hk2
  have HT2 := hide hT2
  clear hv2 hb2 hk2 hT2
  go_wp2_with fail
  refine (unhide MT w2 (unhide HT2)).mono ?_
  rintro r w3 ⟨rfl, hk3⟩
  have HV3 := hide ((unhide HV2).kp hk3 (by simp))
  have HK3 := hide ((unhide HK2).trans hk3 (by simp))
  clear hk3 HV2 HK2
  go_wp2_with fail
  refine (unhide CT w3 ((unhide HD).kp (unhide HK3) (by simp))).mono ?_
  rintro r w4 ⟨rfl, hd4⟩
  obtain ⟨F4, hD4, hk4, hF4⟩ := hd4
  have HV4 := hide ((unhide HV3).kp hk4 (fun k hk => by
    obtain ⟨_, _, cur, hc⟩ := (unhide HV3).block hk
    exact ((unhide HD).kp (unhide HK3) (by simp)).no hc (by decide) (by decide) (by decide)))
  have HD4 := hide (Did.pre (unhide HK3) ⟨F4, hD4, hk4, hF4⟩)
  have HS4 := hide (Nat.le_trans (unhide HK3).size hk4.size)
  clear hD4 hk4 hF4
  go_wp2_with fail
  refine (mustBeOK_ok w4).mono ?_
  rintro r w5 ⟨rfl, rfl⟩
  go_wp2_with fail
  refine (clone_any n w5 (by omega)).mono ?_
  rintro r w6 ⟨rfl, hb6⟩
  have hk6 := Kp.ofBelow hb6
  have hk7 := hk6.trans (Kp.alloc w6 (.cells #[.pointer (some ⟨p, 0, none⟩), .string n, .slice ad m cap] 82)) (by simp)
  have bx := CBox.new w6 #[.pointer (some ⟨p, 0, none⟩), .string n, .slice ad m cap] 82
  have hs6 := hk6.size
  have HO : Hid (Opened w1 F p d2 n w6.heap.size (.slice ad m cap) R.1 (w6.alloc (.cells #[.pointer (some ⟨p, 0, none⟩), .string n, .slice ad m cap] 82))) := hide (by
    obtain ⟨F', a, b, c⟩ := unhide HD4
    exact ⟨⟨F', a.kp hk7 (by simp), b.trans hk7 (by simp), c⟩, ⟨bx, ((unhide HV4).kp hk7 (by simp)).low, unhide HN, unhide HSM⟩, Nat.le_trans (unhide HS4) hs6, fun k hk => ((unhide HV4).block hk).1⟩)
  clear hb6 hk6 hk7 bx hs6
  go_wp2
  go_ret
  exact ⟨_, _, rfl, unhide HO⟩
set_option maxHeartbeats 1000000 in
set_option maxRecDepth 100000 in
theorem open_cutE (p : Nat) (n : ByteArray) (d : Dk) (F : List Nat) (w : World) (hd : DiskAt w p d F) (hn : dnm n = true) (hT : TabW w) (he : d.fEnd n < (hasF d.now n).length) (hc : d.fCode n = 11) (hz0 : d.ctE n (d.fEnd n : Int) ≠ 0) :
    Calls Tryz.prog 13 #[.pointer (some ⟨p, 0, none⟩), .string n] w fun r w' => r = .panicked (pan (d.ctE n (d.fEnd n : Int))) ∧ Did w F p (d.ctD n (d.fEnd n : Int)) w' := by
  have hsz := hasF_sz hd n
  have hl := dnm_len hn
  have BO := hide (bytesOf_any p n d F w hd hn)
  have CT := hide (fun W (hW : DiskAt W p d F) => cut_any n (d.fEnd n : Int) p d F W hW (by omega) (by omega) (by omega))
  have fr := frames_any ⟨(hasF d.now n).toArray⟩ w (by rw [strSize]; omega) hT
  rw [strData] at fr
  have hz := strSize (hasF d.now n)
  have hdt := strData (hasF d.now n)
  unfold Dk.fCode at hc
  generalize hD2 : d.ctD n (d.fEnd n : Int) = d2 at *
  generalize hE2 : d.ctE n (d.fEnd n : Int) = e2 at *
  unfold Dk.fEnd at he hc CT
  generalize hR : frsS (hasF d.now n) = R at *
  generalize hasF d.now n = l at *
  generalize (⟨l.toArray⟩ : ByteArray) = s at *
  have MT := hide (fun W (hW : TabW W) => mustBeTorn_ok s R.2 W (by omega) (by omega) hW (by rw [hdt]; exact hc))
  have hei : (R.2 : Int) < (s.size : Int) := by omega
  have FR := hide fr
  have HT := hide hT
  have HD := hide hd
  clear hd hn hT he hR fr hc hdt hD2 hE2
  go_enter Tryz.func13, Tryz.ntmps13
  go_wp2_with fail
  refine (unhide BO).mono ?_
  rintro r w1 ⟨rfl, rfl⟩
  go_wp2_with fail
  refine (unhide FR).mono ?_
  rintro r w2 ⟨v, rfl, hv2, hb2⟩
  have hk2 := Kp.ofBelow hb2
  have hT2 := (unhide HT).kp hk2 (by simp)
  have HK2 := hide hk2
  have HT2 := hide hT2
  clear hv2 hb2 hk2 hT2
  go_wp2_with fail
  refine (unhide MT w2 (unhide HT2)).mono ?_
  rintro r w3 ⟨rfl, hk3⟩
  have HK3 := hide ((unhide HK2).trans hk3 (by simp))
  clear hk3 HK2
  go_wp2_with fail
  refine (unhide CT w3 ((unhide HD).kp (unhide HK3) (by simp))).mono ?_
  rintro r w4 ⟨rfl, hd4⟩
  have HD4 := hide (Did.pre (unhide HK3) hd4)
  clear hd4
  go_wp2_with fail
  refine (mustBeOK_not e2 hz0 w4).mono ?_
  rintro r w5 ⟨rfl, rfl⟩
  exact ⟨rfl, rfl, unhide HD4⟩
end Go.Proofs.YtboffmbaaokbnaaGreatDoor
namespace Go.Proofs.YtboffmbaaokbnaaGreatDoor
open Go.RowKit

theorem open_any (p : Nat) (n : ByteArray) (d : Dk) (F : List Nat) (w : World) (hd : DiskAt w p d F) (hT : TabW w) (hs : n.size ≤ 9223372036854775807) :
    Calls Tryz.prog 13 #[.pointer (some ⟨p, 0, none⟩), .string n] w fun r w' =>
      (d.opE n = 0 ∧ ∃ t v, r = .returned (.pointer (some ⟨t, 0, none⟩)) ∧ Opened w F p (d.opD n) n t v (d.opL n) w') ∨ (d.opE n ≠ 0 ∧ r = .panicked (pan (d.opE n)) ∧ Did w F p (d.opD n) w') := by
  unfold Dk.opE Dk.opD
  cases hn : dnm n with
  | false =>
    rw [if_pos rfl, if_pos rfl]
    exact (open_bad p n d F w hd hn hs).mono fun r w' ⟨h1, h2⟩ => Or.inr ⟨by decide, h1, by rw [h2]; exact hd.did⟩
  | true =>
    simp only [reduceCtorEq, if_false]
    by_cases he : d.fEnd n < (hasF d.now n).length
    · rw [if_pos he, if_pos he]
      by_cases hc : d.fCode n = 11
      · rw [if_pos hc, if_pos hc]
        by_cases hz : d.ctE n (d.fEnd n : Int) = 0
        · exact (open_cut p n d F w hd hn hT he hc hz).mono fun r w' ⟨t, v, h1, h2⟩ => Or.inl ⟨hz, t, v, h1, h2⟩
        · exact (open_cutE p n d F w hd hn hT he hc hz).mono fun r w' ⟨h1, h2⟩ => Or.inr ⟨hz, h1, h2⟩
      · rw [if_neg hc, if_neg hc]
        exact (open_rot p n d F w hd hn hT he hc).mono fun r w' ⟨h1, h2⟩ => Or.inr ⟨by decide, h1, hd.did' h2⟩
    · rw [if_neg he, if_neg he]
      exact (open_whole p n d F w hd hn hT he).mono fun r w' ⟨t, v, h1, h2⟩ => Or.inl ⟨rfl, t, v, h1, h2⟩
set_option maxHeartbeats 1000000 in
set_option maxRecDepth 100000 in
theorem topen_nil (n : ByteArray) (w : World) :
    Calls Tryz.prog 4 #[.pointer none, .string n] w fun r w' => r = .returned (.tuple #[.pointer none, .int .i64 5]) ∧ Kp [] w w' := by
  have mf := hmf
  have BX := hide (CBox.new w #[.int .i64 0] 24)
  have KA := hide (Kp.alloc w (.cells #[.int .i64 0] 24))
  go_enter_defers Tryz.func4, Tryz.ntmps4
  go_wp2_with fail
  refine (open_nil n _).mono ?_
  rintro r w1 ⟨rfl, rfl⟩
  refine leaves_cons (f := 11) (args := #[.pointer (some ⟨w.heap.size, 0, none⟩)]) (by simp) (by simp [go_sem]) ?_
  refine (open_caught w.heap.size 0 5 _ (unhide BX)).mono ?_
  rintro e u' w'' ⟨rfl, rfl, hc⟩
  obtain ⟨c9, hk9⟩ := hc.out (unhide BX)
  have K1 := hide ((unhide KA).trans hk9 (fun x hx => by simp at hx; subst hx; exact Or.inr (Nat.le_refl _)))
  clear hk9 hc
  simp [Leaves, settle, results, Tryz.results4, go_sem, c9]
  exact unhide K1
set_option maxHeartbeats 1000000 in
set_option maxRecDepth 100000 in
theorem topen_any (p : Nat) (n : ByteArray) (d : Dk) (F : List Nat) (w : World) (hd : DiskAt w p d F) (hT : TabW w) (hs : n.size ≤ 9223372036854775807) :
    Calls Tryz.prog 4 #[.pointer (some ⟨p, 0, none⟩), .string n] w fun r w' =>
      (d.opE n = 0 ∧ ∃ t v, r = .returned (.tuple #[.pointer (some ⟨t, 0, none⟩), .int .i64 0]) ∧ Opened w F p (d.opD n) n t v (d.opL n) w') ∨ (d.opE n ≠ 0 ∧ r = .returned (.tuple #[.pointer none, .int .i64 (d.opE n)]) ∧ Did w F p (d.opD n) w') := by
  have mf := hmf
  have bx := CBox.new w #[.int .i64 0] 24
  have hka := Kp.alloc w (.cells #[.int .i64 0] 24)
  have hd0 := hd.kp hka (by simp)
  have OP := hide (open_any p n d F _ hd0 (hT.kp hka (by simp)) hs)
  have HN := hide (CBox.outD (p := p) (d := d) bx F hd0)
  have hz : (w.alloc (.cells #[.int .i64 0] 24)).heap.size = w.heap.size + 1 := by simp
  have BX := hide bx
  have KA := hide hka
  have HZ := hide hz
  clear hd hT bx hka hd0 hz
  generalize d.opD n = d2 at *
  generalize d.opL n = L2 at *
  generalize d.opE n = e2 at *
  go_enter_defers Tryz.func4, Tryz.ntmps4
  go_wp2_with fail
  refine (unhide OP).mono ?_
  rintro r w1 (⟨rfl, t, v, rfl, ho⟩ | ⟨he, rfl, hd1⟩)
  · obtain ⟨hd1, ht1, hs1, hv1⟩ := ho
    have hk1 : Kp F _ w1 := let ⟨_, _, a, _⟩ := hd1; a
    have b1 := (unhide BX).kp hk1 (unhide HN)
    have c0 : w1.cell? ⟨w.heap.size, 0, none⟩ = some (.int .i64 0) := b1.cell rfl
    have f0 := b1.froz 0
    have c9 : (w1.setCell ⟨w.heap.size, 0, none⟩ (.int .i64 0)).cell? ⟨w.heap.size, 0, none⟩ = some (.int .i64 0) := (b1.set 0 (.int .i64 0)).cell rfl
    have hD2 := (Did.pre (unhide KA) hd1).post (Kp.set w1 w.heap.size 0 (.int .i64 0)) (Nat.le_refl _) (CBox.outD b1)
    have HO : Hid (Opened w F p d2 n t v L2 (w1.setCell ⟨w.heap.size, 0, none⟩ (.int .i64 0))) := hide (by
      have hz := unhide HZ
      refine ⟨hD2, ht1.kp (Kp.set w1 w.heap.size 0 (.int .i64 0)) (by simp; omega) (fun k hk => by have := hv1 k hk; simp; omega), by omega, fun k hk => by have := hv1 k hk; omega⟩)
    clear hd1 ht1 hs1 hv1 hk1 b1 hD2
    go_wp2
    refine leaves_cons (f := 11) (args := #[.pointer (some ⟨w.heap.size, 0, none⟩)]) (by simp) (by simp [go_sem]) ?_
    refine (open_idle ⟨w.heap.size, 0, none⟩ _).mono ?_
    rintro e u' w'' ⟨rfl, rfl, rfl⟩
    simp [Leaves, settle, results, Tryz.results4, go_sem, c9]
    exact ⟨_, unhide HO⟩
  · have hk1 : Kp F _ w1 := let ⟨_, _, a, _⟩ := hd1; a
    have b1 := (unhide BX).kp hk1 (unhide HN)
    refine leaves_cons (f := 11) (args := #[.pointer (some ⟨w.heap.size, 0, none⟩)]) (by simp) (by simp [go_sem]) ?_
    refine (open_caught w.heap.size 0 e2 _ b1).mono ?_
    rintro e u' w'' ⟨rfl, rfl, hc⟩
    obtain ⟨c9, hk9⟩ := hc.out b1
    have HD2 := hide ((Did.pre (unhide KA) hd1).post hk9 (Nat.le_refl _) (CBox.outD b1))
    clear hk9 hc hd1 hk1 b1
    simp [Leaves, settle, results, Tryz.results4, go_sem, c9]
    exact ⟨he, unhide HD2⟩
end Go.Proofs.YtboffmbaaokbnaaGreatDoor
namespace Go.Proofs.YtboffmbaaokbnaaGreatDoor
open Go.RowKit

def Dk.apE (d : Dk) (n : ByteArray) (s : ByteArray) : Int := if 65536 < s.size then 2 else d.wrE n ((hasF d.now n).length : Int) (frS s)
def Dk.apD (d : Dk) (n : ByteArray) (s : ByteArray) : Dk := if 65536 < s.size then d else d.wrD n ((hasF d.now n).length : Int) (frS s)
/-- A callee that gives up, as one way: what stands behind it is not come to. -/
theorem Calls.panicky {P : Program} {f : FuncId} {args : Array Value} {w : World} {c : List PanicEntry} {R : Ending → World → Prop} (h : Calls P f args w fun x w' => x = .panicked c ∧ w' = w) (hp : R (.panicked c) w) (_hn : ∀ v, Hid False → R (.returned v) w) : Calls P f args w R :=
  h.mono fun e w' ⟨h1, h2⟩ => by subst h1 h2; exact hp
/-- A text has been appended. -/
def Added (w : World) (F : List Nat) (p : Nat) (d : Dk) (n : ByteArray) (t : Nat) (v : Value) (ts : List (List UInt8)) (w' : World) : Prop :=
  ∃ F' v', DiskAt w' p d F' ∧ TpAt w' t p n v' ts ∧ Kp (t :: (v.ownBlock.toList ++ F)) w w' ∧ (∀ k ∈ F', k ∈ F ∨ w.heap.size ≤ k) ∧ (v'.ownBlock = v.ownBlock ∨ ∀ k, v'.ownBlock = some k → w.heap.size ≤ k)
theorem frS_size (s : ByteArray) : (frS s).size ≤ 65546 := by
  unfold frS
  split
  · show 0 ≤ _; omega
  · rw [strSize, frameL_len, Array.length_toList]
    have : s.data.size = s.size := rfl
    omega
set_option maxHeartbeats 1000000 in
set_option maxRecDepth 100000 in
theorem add_long (t : Nat) (s : ByteArray) (w : World) (hs : s.size ≤ 9223372036854775807) (hl : 65536 < s.size) (hT : TabW w) :
    Calls Tryz.prog 48 #[.pointer (some ⟨t, 0, none⟩), .string s] w fun r w' => r = .panicked (pan 2) ∧ Kp [] w w' := by
  have fr := frame_any s w hs hT
  have e2 : frE s = 2 := by unfold frE; rw [if_pos hl]
  rw [e2] at fr
  have FR := hide fr
  clear fr hT e2 hl
  go_enter Tryz.func48, Tryz.ntmps48
  go_wp2_with fail
  refine (unhide FR).mono ?_
  rintro r w1 ⟨rfl, hb1⟩
  have HK := hide (Kp.ofBelow hb1)
  clear hb1
  go_wp2_with fail
  refine (mustBeOK_not 2 (by decide) w1).mono ?_
  rintro r w2 ⟨rfl, rfl⟩
  exact ⟨rfl, rfl, unhide HK⟩
set_option maxHeartbeats 1000000 in
set_option maxRecDepth 100000 in
theorem add_not (t p : Nat) (n : ByteArray) (v : Value) (ts : List (List UInt8)) (s : ByteArray) (d : Dk) (F : List Nat) (w : World) (h : TpAt w t p n v ts) (hd : DiskAt w p d F) (hl : ¬ 65536 < s.size) (hT : TabW w) (he : d.wrE n ((hasF d.now n).length : Int) (frS s) ≠ 0) :
    Calls Tryz.prog 48 #[.pointer (some ⟨t, 0, none⟩), .string s] w fun r w' => r = .panicked (pan (d.wrE n ((hasF d.now n).length : Int) (frS s))) ∧ Did w F p (d.wrD n ((hasF d.now n).length : Int) (frS s)) w' := by
  have fr := frame_any s w (by omega) hT
  have e0 : frE s = 0 := by unfold frE; rw [if_neg hl]
  rw [e0] at fr
  have FR := hide fr
  have hn := h.nm
  have hnl := dnm_len hn
  have hsz := hasF_sz hd n
  have hfs := frS_size s
  have HH := hide h
  have HD := hide hd
  have HBO := hide (fun W (hW : DiskAt W p d F) => bytesOf_any p n d F W hW hn)
  have HWR := hide (fun W (hW : DiskAt W p d F) => write_any n ((hasF d.now n).length : Int) (frS s) p d F W hW (by omega) (by omega) (by omega) (by omega))
  have hz := strSize (hasF d.now n)
  generalize d.wrE n ((hasF d.now n).length : Int) (frS s) = e2 at *
  generalize d.wrD n ((hasF d.now n).length : Int) (frS s) = d2 at *
  rw [← hz] at HWR
  clear hz
  generalize (⟨(hasF d.now n).toArray⟩ : ByteArray) = b at *
  generalize frS s = f at *
  clear fr hT e0 hl h hd hn
  go_enter Tryz.func48, Tryz.ntmps48
  go_wp2_with fail
  refine (unhide FR).mono ?_
  rintro r w1 ⟨rfl, hb1⟩
  have HK1 := hide (Kp.ofBelow hb1)
  clear hb1
  go_wp2_with fail
  refine (mustBeOK_ok w1).mono ?_
  rintro r w2 ⟨rfl, rfl⟩
  have hk2 := (unhide HK1).trans (Kp.drew w2) (by simp)
  have cA : w2.drew.cell? ⟨t, 0, none⟩ = some (.pointer (some ⟨p, 0, none⟩)) ∧ w2.drew.cell? ⟨t, 1, none⟩ = some (.string n) := ⟨((unhide HH).kp hk2 (by simp) (by simp)).cells.1, ((unhide HH).kp hk2 (by simp) (by simp)).cells.2.1⟩
  have BO := hide (unhide HBO w2.drew ((unhide HD).kp hk2 (by simp)))
  have HK2 := hide hk2
  clear hk2
  go_wp2_with fail
  go_region_held3 (fun W => W.cell? ⟨t, 0, none⟩ = some (.pointer (some ⟨p, 0, none⟩)) ∧ W.cell? ⟨t, 1, none⟩ = some (.string n)) (first | with_reducible exact cA)
    (first
      | (go_at_call 37; refine (unhide BO).mono ?_; rintro r w3 ⟨rfl, rfl⟩))
  clear cA BO
  generalize w2.drew = W3 at *
  have hk3 := (unhide HK2).trans (Kp.drew W3) (by simp)
  have cA : W3.drew.cell? ⟨t, 0, none⟩ = some (.pointer (some ⟨p, 0, none⟩)) ∧ W3.drew.cell? ⟨t, 1, none⟩ = some (.string n) := ⟨((unhide HH).kp hk3 (by simp) (by simp)).cells.1, ((unhide HH).kp hk3 (by simp) (by simp)).cells.2.1⟩
  have hd3 := (unhide HD).kp hk3 (by simp)
  have hh3 := (unhide HH).kp hk3 (by simp) (by simp)
  have WR : Hid (Calls Tryz.prog 28 #[.pointer (some ⟨p, 0, none⟩), .string n, .int .i64 (b.size : Int), .string f] W3.drew fun r w4 => r = .returned (.int .i64 e2) ∧ Did w F p d2 w4 ∧ w4.cell? ⟨t, 0, none⟩ = some (.pointer (some ⟨p, 0, none⟩)) ∧ w4.cell? ⟨t, 1, none⟩ = some (.string n)) := hide ((unhide HWR W3.drew hd3).mono fun r w4 ⟨h1, h2⟩ => by
    have hk4 : Kp F _ w4 := (let ⟨_, _, a, _⟩ := h2; a)
    have ht4 := hh3.kp hk4 (hh3.no hd3).1 (fun k hk => ((hh3.no hd3).2 k hk).1)
    exact ⟨h1, Did.pre hk3 h2, ht4.cells.1, ht4.cells.2.1⟩)
  rename_i hHeld
  have MB := hide (fun W => mustBeOK_not e2 he W)
  clear hk3 hd3 hh3 HWR HBO HD HH hHeld hnl hsz FR hfs HK1 HK2 he
  go_wp2_with fail
  go_region_held2 (fun W => W.cell? ⟨t, 0, none⟩ = some (.pointer (some ⟨p, 0, none⟩)) ∧ W.cell? ⟨t, 1, none⟩ = some (.string n)) (first | with_reducible exact cA | with_reducible exact cB | exact (unhide hf).elim)
    (first
      | (go_at_call 40; refine Calls.panicky (unhide MB w4) ⟨rfl, rfl, unhide HD4⟩ ?_; intro vq hf)
      | (go_at_call 28; refine (unhide WR).mono ?_; rintro r w4 ⟨rfl, hd4, cB⟩; have HD4 := hide hd4; clear hd4))
  exact (unhide hf).elim
end Go.Proofs.YtboffmbaaokbnaaGreatDoor
namespace Go.Proofs.YtboffmbaaokbnaaGreatDoor
open Go.RowKit

theorem added_of {w w5 w6 w7 : World} {F : List Nat} {p t : Nat} {d2 : Dk} {n s : ByteArray} {v : Value} {ts : List (List UInt8)} {ad : Option Addr} {cap g7 cap7 : Nat} (hd : Did w F p d2 w5) (ht : TpAt w5 t p n v ts) (hv : v = .slice ad ts.length cap) (hs : s.size ≤ 65536) (hk6 : Kp [] w5 w6)
    (hown : w7.ownsRow 0 9 1 (.slice (some ⟨g7, 0, none⟩) (ts.length + 1) cap7) (ts.length + 1) (textC ts ++ [.string s])) (hg : (w6.alloc (.cells #[.string s] 9)).grownBy w7 (Value.slice ad ts.length cap).ownBlock) (hat : (Value.slice ad ts.length cap).ownBlock = some g7 ∨ g7 = (w6.alloc (.cells #[.string s] 9)).heap.size)
    (hb : CBox t #[.pointer (some ⟨p, 0, none⟩), .string n, .slice ad ts.length cap] 82 w7) : Added w F p d2 n t v (ts ++ [s.data.toList]) (w7.setCell ⟨t, 2, none⟩ (.slice (some ⟨g7, 0, none⟩) (ts.length + 1) cap7)) := by
  subst hv
  obtain ⟨F5, hD5, hk5, hF5⟩ := hd
  obtain ⟨htF, hvF⟩ := ht.no hD5
  have hkA := hk6.trans (Kp.alloc w6 (.cells #[.string s] 9)) (by simp)
  have hk7 : Kp (Value.slice ad ts.length cap).ownBlock.toList w5 w7 := (hkA.mono (by simp)).trans (Kp.of hg) (fun x hx => Or.inl hx)
  have hk8 : Kp (t :: (Value.slice ad ts.length cap).ownBlock.toList) w5 (w7.setCell ⟨t, 2, none⟩ (.slice (some ⟨g7, 0, none⟩) (ts.length + 1) cap7)) := (hk7.mono (fun x hx => List.mem_cons_of_mem _ hx)).trans (Kp.set w7 t 2 _) (fun x hx => by simp at hx; subst hx; simp)
  have hz : (w6.alloc (.cells #[.string s] 9)).heap.size = w6.heap.size + 1 := by simp
  have hs5 := hk5.size
  have hs6 := hk6.size
  have hg7t : g7 ≠ t := by
    rcases hat with h1 | h1
    · exact (hvF g7 h1).2
    · have := ht.lt; omega
  have hrow : Txs w7 (.slice (some ⟨g7, 0, none⟩) (ts.length + 1) cap7) (ts ++ [s.data.toList]) := by
    unfold Txs OwnsS
    rw [List.length_append, textC_append]
    have e : textC [s.data.toList] = [.string s] := by simp [textC]
    rw [e]
    exact hown
  refine ⟨F5, _, hD5.kp hk8 (fun k hk hm => ?_), ⟨hb.set 2 _, hrow.kp (Kp.set w7 t 2 _) (fun k hk => ?_), ht.nm, fun x hx => ?_⟩, ?_, hF5, ?_⟩
  · rw [List.mem_cons] at hm
    rcases hm with rfl | hm
    · exact htF hk
    · exact (hvF k (by simpa using hm)).1 hk
  · have e1 : g7 = k := by simpa [Value.ownBlock] using hk
    subst e1
    simpa using hg7t
  · rw [List.mem_append, List.mem_singleton] at hx
    rcases hx with hx | rfl
    · exact ht.small x hx
    · rw [Array.length_toList]; exact hs
  · refine (hk5.mono (fun x hx => by simp [hx])).trans hk8 (fun x hx => Or.inl (by
      rw [List.mem_cons] at hx ⊢
      rcases hx with h1 | h1
      · exact Or.inl h1
      · exact Or.inr (List.mem_append_left _ h1)))
  · rcases hat with h1 | h1
    · exact Or.inl (by rw [h1]; rfl)
    · refine Or.inr fun k hk => ?_
      have e1 : g7 = k := by simpa [Value.ownBlock] using hk
      omega
set_option maxHeartbeats 1000000 in
set_option maxRecDepth 100000 in
theorem add_ok (t p : Nat) (n : ByteArray) (v : Value) (ts : List (List UInt8)) (s : ByteArray) (d : Dk) (F : List Nat) (w : World) (h : TpAt w t p n v ts) (hd : DiskAt w p d F) (hl : ¬ 65536 < s.size) (hT : TabW w) (hts : ts.length ≤ 1000000) (he : d.wrE n ((hasF d.now n).length : Int) (frS s) = 0) :
    Calls Tryz.prog 48 #[.pointer (some ⟨t, 0, none⟩), .string s] w fun r w' => r = .returned (.tuple #[]) ∧ Added w F p (d.wrD n ((hasF d.now n).length : Int) (frS s)) n t v (ts ++ [s.data.toList]) w' := by
  have fr := frame_any s w (by omega) hT
  have e0 : frE s = 0 := by unfold frE; rw [if_neg hl]
  rw [e0] at fr
  have FR := hide fr
  have hn := h.nm
  have hnl := dnm_len hn
  have hsz := hasF_sz hd n
  have hfs := frS_size s
  have hsl : s.size ≤ 281474976710656 := by omega
  have HSS : Hid (s.size ≤ 65536) := hide (by omega)
  obtain ⟨ad, cap, hvf, _⟩ := h.row.texts
  have HH := hide h
  have HD := hide hd
  have HBO := hide (fun W (hW : DiskAt W p d F) => bytesOf_any p n d F W hW hn)
  have HWR := hide (fun W (hW : DiskAt W p d F) => write_any n ((hasF d.now n).length : Int) (frS s) p d F W hW (by omega) (by omega) (by omega) (by omega))
  rw [he] at HWR
  have hz := strSize (hasF d.now n)
  generalize d.wrD n ((hasF d.now n).length : Int) (frS s) = d2 at *
  rw [← hz] at HWR
  clear hz he hsz
  generalize (⟨(hasF d.now n).toArray⟩ : ByteArray) = b at *
  generalize frS s = f at *
  clear fr hT e0 hl h hd hn
  go_enter Tryz.func48, Tryz.ntmps48
  go_wp2_with fail
  refine (unhide FR).mono ?_
  rintro r w1 ⟨rfl, hb1⟩
  have HK1 := hide (Kp.ofBelow hb1)
  clear hb1
  go_wp2_with fail
  refine (mustBeOK_ok w1).mono ?_
  rintro r w2 ⟨rfl, rfl⟩
  have hk2 := (unhide HK1).trans (Kp.drew w2) (by simp)
  have cA : w2.drew.cell? ⟨t, 0, none⟩ = some (.pointer (some ⟨p, 0, none⟩)) ∧ w2.drew.cell? ⟨t, 1, none⟩ = some (.string n) := ⟨((unhide HH).kp hk2 (by simp) (by simp)).cells.1, ((unhide HH).kp hk2 (by simp) (by simp)).cells.2.1⟩
  have BO := hide (unhide HBO w2.drew ((unhide HD).kp hk2 (by simp)))
  have HK2 := hide hk2
  clear hk2
  go_wp2_with fail
  go_region_held3 (fun W => W.cell? ⟨t, 0, none⟩ = some (.pointer (some ⟨p, 0, none⟩)) ∧ W.cell? ⟨t, 1, none⟩ = some (.string n)) (first | with_reducible exact cA)
    (first
      | (go_at_call 37; refine (unhide BO).mono ?_; rintro r w3 ⟨rfl, rfl⟩))
  clear cA BO
  generalize w2.drew = W3 at *
  have hk3 := (unhide HK2).trans (Kp.drew W3) (by simp)
  have cA : W3.drew.cell? ⟨t, 0, none⟩ = some (.pointer (some ⟨p, 0, none⟩)) ∧ W3.drew.cell? ⟨t, 1, none⟩ = some (.string n) := ⟨((unhide HH).kp hk3 (by simp) (by simp)).cells.1, ((unhide HH).kp hk3 (by simp) (by simp)).cells.2.1⟩
  have hd3 := (unhide HD).kp hk3 (by simp)
  have hh3 := (unhide HH).kp hk3 (by simp) (by simp)
  have WR : Hid (Calls Tryz.prog 28 #[.pointer (some ⟨p, 0, none⟩), .string n, .int .i64 (b.size : Int), .string f] W3.drew fun r w4 => r = .returned (.int .i64 0) ∧ Did w F p d2 w4 ∧ TpAt w4 t p n v ts ∧ w4.cell? ⟨t, 0, none⟩ = some (.pointer (some ⟨p, 0, none⟩)) ∧ w4.cell? ⟨t, 1, none⟩ = some (.string n)) := hide ((unhide HWR W3.drew hd3).mono fun r w4 ⟨h1, h2⟩ => by
    have hk4 : Kp F _ w4 := (let ⟨_, _, a, _⟩ := h2; a)
    have ht4 := hh3.kp hk4 (hh3.no hd3).1 (fun k hk => ((hh3.no hd3).2 k hk).1)
    exact ⟨h1, Did.pre hk3 h2, ht4, ht4.cells.1, ht4.cells.2.1⟩)
  rename_i hHeld
  clear hk3 hd3 hh3 HWR HBO HD HH hHeld hnl FR hfs HK1 HK2
  go_wp2_with fail
  go_region_held3 (fun W => W.cell? ⟨t, 0, none⟩ = some (.pointer (some ⟨p, 0, none⟩)) ∧ W.cell? ⟨t, 1, none⟩ = some (.string n)) (first | with_reducible exact cA | with_reducible exact cB)
    (first
      | (go_at_call 40; refine (mustBeOK_ok w4).mono ?_; rintro r w5 ⟨rfl, rfl⟩)
      | (go_at_call 28; refine (unhide WR).mono ?_; rintro r w4 ⟨rfl, hd4, ht4, cB⟩; have HD4 := hide hd4; have HT4 := hide ht4; clear hd4 ht4))
  rename_i hHeld2
  have ht4 := unhide HT4
  have hk5 := Kp.drew w5
  have ht5 := ht4.kp hk5 (by simp) (by simp)
  have cV : w5.drew.cell? ⟨t, 2, none⟩ = some (.slice ad ts.length cap) := by rw [← hvf]; exact ht5.cells.2.2
  have CL : Hid (Calls Tryz.prog 42 #[.string s] w5.drew fun r w6 => r = .returned (.string s) ∧ Kp [] w5 w6 ∧ w6.cell? ⟨t, 2, none⟩ = some (.slice ad ts.length cap) ∧ (w6.alloc (.cells #[.string s] 9)).cell? ⟨t, 2, none⟩ = some (.slice ad ts.length cap) ∧ (w6.alloc (.cells #[.string s] 9)).ownsRow 0 9 1 (.slice ad ts.length cap) ts.length (textC ts) ∧
      (∀ W, (w6.alloc (.cells #[.string s] 9)).grownBy W (Value.slice ad ts.length cap).ownBlock → W.frozen? ⟨t, 2, none⟩ = false ∧ W.cell? ⟨t, 2, none⟩ = some (.slice ad ts.length cap) ∧ CBox t #[.pointer (some ⟨p, 0, none⟩), .string n, .slice ad ts.length cap] 82 W)) := hide ((clone_any s w5.drew hsl).mono fun r w6 ⟨h1, h2⟩ => by
    have hk6 := hk5.trans (Kp.ofBelow h2) (by simp)
    have hk7 := hk6.trans (Kp.alloc w6 (.cells #[.string s] 9)) (by simp)
    have ht6 := ht4.kp hk6 (by simp) (by simp)
    have ht7 := ht4.kp hk7 (by simp) (by simp)
    rw [hvf] at ht6 ht7
    refine ⟨h1, hk6, ht6.cells.2.2, ht7.cells.2.2, ht7.row, fun W hg => ?_⟩
    have hb : W.heap[t]? = _ := (hg.block t ht7.lt (fun e => by
      obtain ⟨_, _, cur, hc⟩ := ht7.row.block e.symm
      have hb : (w6.alloc (.cells #[.string s] 9)).heap[t]? = _ := ht7.box
      rw [hc] at hb
      injection hb with e; injection e with _ e; exact absurd e (by decide))).trans ht7.box
    have hB : CBox t #[.pointer (some ⟨p, 0, none⟩), .string n, .slice ad ts.length cap] 82 W := hb
    exact ⟨hB.froz 2, hB.cell rfl, hB⟩)
  obtain ⟨i0, hi, hz0, hz1, hz2⟩ := info_parts info_string
  have HVF := hide hvf
  clear hHeld2 cA WR ht4 hk5 ht5 hvf
  go_wp2_with fail
  go_region_law
    (first
      | (refine step_append_lies rfl (.tmp 40) (.tmp 43) 62 rfl 0 9 i0 (.string ⟨#[]⟩) 1 16 Tryz.underlying62 hi hz0 hz1 hz2 rfl (by decide) (.slice ad ts.length cap) ts.length (textC ts) rfl own6 ⟨w6.heap.size, 0, none⟩ 1 1 [.string s] rfl rfl (one_new w6 (.string s) 9) (by intro u hu; simp at hu; subst hu; rfl) (by omega) (by unfold maxLen; omega) (by omega) (Nat.zero_le _) ?_; intro g7 cap7 w7 hown7 hg7 hat7; obtain ⟨fr7, c7, b7⟩ := unhide HPC w7 hg7; have HOWN7 := hide hown7; have HG7 := hide hg7; have HAT7 := hide hat7; have HB7 := hide b7; clear hown7 hg7 hat7 b7)
      | (go_simp; go_at_call 42; refine (unhide CL).mono ?_; rintro r w6 ⟨rfl, hk6, cB, cC, own6, hpc⟩; have HK6 := hide hk6; have HPC := hide hpc; clear hk6 hpc))
  all_goals
    have HA : Hid (Added w F p d2 n t v (ts ++ [s.data.toList]) (w7.setCell ⟨t, 2, none⟩ (.slice (some ⟨g7, 0, none⟩) (ts.length + 1) cap7))) := hide (added_of (unhide HD4) (unhide HT4) (unhide HVF) (unhide HSS) (unhide HK6) (unhide HOWN7) (unhide HG7) (unhide HAT7) (unhide HB7))
    clear HD4 HT4 HVF HSS HK6 HOWN7 HG7 HAT7 HB7 HPC own6 cC
    go_wp2
    go_end0
    exact ⟨rfl, unhide HA⟩
end Go.Proofs.YtboffmbaaokbnaaGreatDoor
