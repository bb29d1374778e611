/-
  A tape is opened: the inner function's ways.
-/
import Derived.Test.YtllkkflolijpaaaDoorTpD
namespace Go.Proofs.YtllkkflolijpaaaDoor
open Go.RowKit

/-- A tape has been opened. -/
def Opened (w : World) (F : List Nat) (p : Nat) (d : Dk) (n : ByteArray) (t : Nat) (v : Value) (ts : List (List UInt8)) (w' : World) : Prop :=
  Did w F p d w' ∧ TpAt w' t p n v ts ∧ w.heap.size ≤ t ∧ ∀ k, v.ownBlock = some k → w.heap.size ≤ k
theorem hasF_sz {w : World} {p : Nat} {d : Dk} {F : List Nat} (h : DiskAt w p d F) (n : ByteArray) : (hasF d.now n).length ≤ 262144 := Nat.le_trans (hasF_le n) h.inv.now.1.1
theorem TabW.kp {w w' : World} {F : List Nat} (h : TabW w) (hk : Kp F w w') (hF : 0 ∉ F) : TabW w' :=
  ⟨Nat.lt_of_lt_of_le h.1 hk.size, fun i hi => hk.cell (h.2 i hi) hF⟩
set_option maxHeartbeats 400000 in
theorem open_nil (n : ByteArray) (w : World) : Calls Tryd.prog 21 #[.pointer none, .string n] w fun r w' => r = .panicked (pan 5) ∧ w' = w := by
  go_enter Tryd.func21, Tryd.ntmps21
  go_wp2_with fail
  refine (giveUp_any 5 w).mono ?_
  rintro r w1 ⟨rfl, rfl⟩
  exact ⟨rfl, rfl, rfl⟩
set_option maxHeartbeats 400000 in
theorem open_bad (p : Nat) (n : ByteArray) (d : Dk) (F : List Nat) (w : World) (hd : DiskAt w p d F) (hn : dnm n = false) (hs : n.size ≤ 9223372036854775807) :
    Calls Tryd.prog 21 #[.pointer (some ⟨p, 0, none⟩), .string n] w fun r w' => r = .panicked (pan 30) ∧ w' = w := by
  have BO := hide (bytesOf_not p n d F w hd hn hs)
  clear hd
  go_enter Tryd.func21, Tryd.ntmps21
  go_wp2_with fail
  refine (unhide BO).mono ?_
  rintro r w1 ⟨rfl, rfl⟩
  exact ⟨rfl, rfl, rfl⟩
theorem strData (l : List UInt8) : (⟨l.toArray⟩ : ByteArray).data.toList = l := by simp
theorem strSize (l : List UInt8) : (⟨l.toArray⟩ : ByteArray).size = l.length := by simp [ByteArray.size]
set_option maxHeartbeats 1000000 in
set_option maxRecDepth 100000 in
theorem open_whole (p : Nat) (n : ByteArray) (d : Dk) (F : List Nat) (w : World) (hd : DiskAt w p d F) (hn : dnm n = true) (hT : TabW w) (he : ¬ d.fEnd n < (hasF d.now n).length) :
    Calls Tryd.prog 21 #[.pointer (some ⟨p, 0, none⟩), .string n] w fun r w' => ∃ t v, r = .returned (.pointer (some ⟨t, 0, none⟩)) ∧ Opened w F p d n t v (d.opL n) w' := by
  have hsz := hasF_sz hd n
  have BO := hide (bytesOf_any p n d F w hd hn)
  have fr := frames_any ⟨(hasF d.now n).toArray⟩ w (by rw [strSize]; omega) hT
  rw [strData] at fr
  have hz := strSize (hasF d.now n)
  unfold Dk.fEnd at he
  have HSM := hide (frsS_small (hasF d.now n))
  unfold Dk.opL
  generalize hR : frsS (hasF d.now n) = R at *
  generalize hasF d.now n = l at *
  generalize (⟨l.toArray⟩ : ByteArray) = s at *
  have hei : ¬ ((R.2 : Int) < (s.size : Int)) := by omega
  have hl := dnm_len hn
  have HD := hide hd
  have HN := hide hn
  have FR := hide fr
  clear hd hn hT he hR fr
  go_enter Tryd.func21, Tryd.ntmps21
  go_wp2_with fail
  refine (unhide BO).mono ?_
  rintro r w1 ⟨rfl, rfl⟩
  go_wp2_with fail
  refine (unhide FR).mono ?_
  rintro r w2 ⟨v, rfl, hv2, hb2⟩
  obtain ⟨ad, cap, hvf, _⟩ := hv2.texts
  generalize R.1.length = m at hvf
  subst hvf
  have HV2 := hide hv2
  have HK2 := hide (Kp.ofBelow hb2)
  clear hv2 hb2
  go_wp2_with fail
  refine (clone_any n w2 (by omega)).mono ?_
  rintro r w3 ⟨rfl, hb3⟩
  have hk3 := Kp.ofBelow hb3
  have hk4 := hk3.trans (Kp.alloc w3 (.cells #[.pointer (some ⟨p, 0, none⟩), .string n, .slice ad m cap] 63)) (by simp)
  have bx := CBox.new w3 #[.pointer (some ⟨p, 0, none⟩), .string n, .slice ad m cap] 63
  have hk5 := (unhide HK2).trans hk4 (by simp)
  have hs3 := ((unhide HK2).trans hk3 (by simp)).size
  have HO : Hid (Opened w1 F p d n w3.heap.size (.slice ad m cap) R.1 (w3.alloc (.cells #[.pointer (some ⟨p, 0, none⟩), .string n, .slice ad m cap] 63))) := hide
    ⟨(unhide HD).did' hk5, ⟨bx, ((unhide HV2).kp hk4 (by simp)).low, unhide HN, unhide HSM⟩, hs3, fun k hk => ((unhide HV2).block hk).1⟩
  clear hb3 hk3 hk4 bx hk5 hs3
  go_wp2
  go_ret
  exact ⟨_, _, rfl, unhide HO⟩
set_option maxHeartbeats 1000000 in
set_option maxRecDepth 100000 in
theorem open_rot (p : Nat) (n : ByteArray) (d : Dk) (F : List Nat) (w : World) (hd : DiskAt w p d F) (hn : dnm n = true) (hT : TabW w) (he : d.fEnd n < (hasF d.now n).length) (hc : d.fCode n ≠ 11) :
    Calls Tryd.prog 21 #[.pointer (some ⟨p, 0, none⟩), .string n] w fun r w' => r = .panicked (pan 40) ∧ Kp [] w w' := by
  have hsz := hasF_sz hd n
  have BO := hide (bytesOf_any p n d F w hd hn)
  have fr := frames_any ⟨(hasF d.now n).toArray⟩ w (by rw [strSize]; omega) hT
  rw [strData] at fr
  have hz := strSize (hasF d.now n)
  have hdt := strData (hasF d.now n)
  unfold Dk.fCode at hc
  unfold Dk.fEnd at he hc
  generalize hR : frsS (hasF d.now n) = R at *
  generalize hasF d.now n = l at *
  generalize (⟨l.toArray⟩ : ByteArray) = s at *
  have MT := hide (fun W (hW : TabW W) => mustBeTorn_not s R.2 W (by omega) (by omega) hW (by rw [hdt]; exact hc))
  have hei : (R.2 : Int) < (s.size : Int) := by omega
  have FR := hide fr
  have HT := hide hT
  clear hd hn hT he hR fr hc hdt
  go_enter Tryd.func21, Tryd.ntmps21
  go_wp2_with fail
  refine (unhide BO).mono ?_
  rintro r w1 ⟨rfl, rfl⟩
  go_wp2_with fail
  refine (unhide FR).mono ?_
  rintro r w2 ⟨v, rfl, hv2, hb2⟩
  have hk2 := Kp.ofBelow hb2
  have hT2 := (unhide HT).kp hk2 (by simp)
  have HK2 := hide hk2
  have HT2 := hide hT2
  clear hv2 hb2 hk2 hT2
  go_wp2_with fail
  refine (unhide MT w2 (unhide HT2)).mono ?_
  rintro r w3 ⟨rfl, hk3⟩
  exact ⟨rfl, rfl, (unhide HK2).trans hk3 (by simp)⟩
set_option maxHeartbeats 1000000 in
set_option maxRecDepth 100000 in
theorem open_cut (p : Nat) (n : ByteArray) (d : Dk) (F : List Nat) (w : World) (hd : DiskAt w p d F) (hn : dnm n = true) (hT : TabW w) (he : d.fEnd n < (hasF d.now n).length) (hc : d.fCode n = 11) (hz0 : d.ctE n (d.fEnd n : Int) = 0) :
    Calls Tryd.prog 21 #[.pointer (some ⟨p, 0, none⟩), .string n] w fun r w' => ∃ t v, r = .returned (.pointer (some ⟨t, 0, none⟩)) ∧ Opened w F p (d.ctD n (d.fEnd n : Int)) n t v (d.opL n) w' := by
  have hsz := hasF_sz hd n
  have hl := dnm_len hn
  have BO := hide (bytesOf_any p n d F w hd hn)
  have CT := hide (fun W (hW : DiskAt W p d F) => cut_any n (d.fEnd n : Int) p d F W hW (by omega) (by omega) (by omega))
  have fr := frames_any ⟨(hasF d.now n).toArray⟩ w (by rw [strSize]; omega) hT
  rw [strData] at fr
  have hz := strSize (hasF d.now n)
  have hdt := strData (hasF d.now n)
  have HSM := hide (frsS_small (hasF d.now n))
  rw [hz0] at CT
  unfold Dk.fCode at hc
  unfold Dk.opL
  generalize hD2 : d.ctD n (d.fEnd n : Int) = d2 at *
  unfold Dk.fEnd at he hc CT
  generalize hR : frsS (hasF d.now n) = R at *
  generalize hasF d.now n = l at *
  generalize (⟨l.toArray⟩ : ByteArray) = s at *
  have MT := hide (fun W (hW : TabW W) => mustBeTorn_ok s R.2 W (by omega) (by omega) hW (by rw [hdt]; exact hc))
  have hei : (R.2 : Int) < (s.size : Int) := by omega
  have FR := hide fr
  have HT := hide hT
  have HD := hide hd
  have HN := hide hn
  clear hd hn hT he hR fr hc hdt hD2 hz0
  go_enter Tryd.func21, Tryd.ntmps21
  go_wp2_with fail
  refine (unhide BO).mono ?_
  rintro r w1 ⟨rfl, rfl⟩
  go_wp2_with fail
  refine (unhide FR).mono ?_
  rintro r w2 ⟨v, rfl, hv2, hb2⟩
  obtain ⟨ad, cap, hvf, _⟩ := hv2.texts
  generalize R.1.length = m at hvf
  subst hvf
  have hk2 := Kp.ofBelow hb2
  have hT2 := (unhide HT).kp hk2 (by simp)
  have HV2 := hide hv2
  have HK2 := hide hk2
  have HT2 := hide hT2
  clear hv2 hb2 hk2 hT2
  go_wp2_with fail
  refine (unhide MT w2 (unhide HT2)).mono ?_
  rintro r w3 ⟨rfl, hk3⟩
  have HV3 := hide ((unhide HV2).kp hk3 (by simp))
  have HK3 := hide ((unhide HK2).trans hk3 (by simp))
  clear hk3 HV2 HK2
  go_wp2_with fail
  refine (unhide CT w3 ((unhide HD).kp (unhide HK3) (by simp))).mono ?_
  rintro r w4 ⟨rfl, hd4⟩
  obtain ⟨F4, hD4, hk4, hF4⟩ := hd4
  have HV4 := hide ((unhide HV3).kp hk4 (fun k hk => by
    obtain ⟨_, _, cur, hc⟩ := (unhide HV3).block hk
    exact ((unhide HD).kp (unhide HK3) (by simp)).no hc (by decide) (by decide) (by decide)))
  have HD4 := hide (Did.pre (unhide HK3) ⟨F4, hD4, hk4, hF4⟩)
  have HS4 := hide (Nat.le_trans (unhide HK3).size hk4.size)
  clear hD4 hk4 hF4
  go_wp2_with fail
  refine (mustBeOK_ok w4).mono ?_
  rintro r w5 ⟨rfl, rfl⟩
  go_wp2_with fail
  refine (clone_any n w5 (by omega)).mono ?_
  rintro r w6 ⟨rfl, hb6⟩
  have hk6 := Kp.ofBelow hb6
  have hk7 := hk6.trans (Kp.alloc w6 (.cells #[.pointer (some ⟨p, 0, none⟩), .string n, .slice ad m cap] 63)) (by simp)
  have bx := CBox.new w6 #[.pointer (some ⟨p, 0, none⟩), .string n, .slice ad m cap] 63
  have hs6 := hk6.size
  have HO : Hid (Opened w1 F p d2 n w6.heap.size (.slice ad m cap) R.1 (w6.alloc (.cells #[.pointer (some ⟨p, 0, none⟩), .string n, .slice ad m cap] 63))) := hide (by
    obtain ⟨F', a, b, c⟩ := unhide HD4
    exact ⟨⟨F', a.kp hk7 (by simp), b.trans hk7 (by simp), c⟩, ⟨bx, ((unhide HV4).kp hk7 (by simp)).low, unhide HN, unhide HSM⟩, Nat.le_trans (unhide HS4) hs6, fun k hk => ((unhide HV4).block hk).1⟩)
  clear hb6 hk6 hk7 bx hs6
  go_wp2
  go_ret
  exact ⟨_, _, rfl, unhide HO⟩
set_option maxHeartbeats 1000000 in
set_option maxRecDepth 100000 in
theorem open_cutE (p : Nat) (n : ByteArray) (d : Dk) (F : List Nat) (w : World) (hd : DiskAt w p d F) (hn : dnm n = true) (hT : TabW w) (he : d.fEnd n < (hasF d.now n).length) (hc : d.fCode n = 11) (hz0 : d.ctE n (d.fEnd n : Int) ≠ 0) :
    Calls Tryd.prog 21 #[.pointer (some ⟨p, 0, none⟩), .string n] w fun r w' => r = .panicked (pan (d.ctE n (d.fEnd n : Int))) ∧ Did w F p (d.ctD n (d.fEnd n : Int)) w' := by
  have hsz := hasF_sz hd n
  have hl := dnm_len hn
  have BO := hide (bytesOf_any p n d F w hd hn)
  have CT := hide (fun W (hW : DiskAt W p d F) => cut_any n (d.fEnd n : Int) p d F W hW (by omega) (by omega) (by omega))
  have fr := frames_any ⟨(hasF d.now n).toArray⟩ w (by rw [strSize]; omega) hT
  rw [strData] at fr
  have hz := strSize (hasF d.now n)
  have hdt := strData (hasF d.now n)
  unfold Dk.fCode at hc
  generalize hD2 : d.ctD n (d.fEnd n : Int) = d2 at *
  generalize hE2 : d.ctE n (d.fEnd n : Int) = e2 at *
  unfold Dk.fEnd at he hc CT
  generalize hR : frsS (hasF d.now n) = R at *
  generalize hasF d.now n = l at *
  generalize (⟨l.toArray⟩ : ByteArray) = s at *
  have MT := hide (fun W (hW : TabW W) => mustBeTorn_ok s R.2 W (by omega) (by omega) hW (by rw [hdt]; exact hc))
  have hei : (R.2 : Int) < (s.size : Int) := by omega
  have FR := hide fr
  have HT := hide hT
  have HD := hide hd
  clear hd hn hT he hR fr hc hdt hD2 hE2
  go_enter Tryd.func21, Tryd.ntmps21
  go_wp2_with fail
  refine (unhide BO).mono ?_
  rintro r w1 ⟨rfl, rfl⟩
  go_wp2_with fail
  refine (unhide FR).mono ?_
  rintro r w2 ⟨v, rfl, hv2, hb2⟩
  have hk2 := Kp.ofBelow hb2
  have hT2 := (unhide HT).kp hk2 (by simp)
  have HK2 := hide hk2
  have HT2 := hide hT2
  clear hv2 hb2 hk2 hT2
  go_wp2_with fail
  refine (unhide MT w2 (unhide HT2)).mono ?_
  rintro r w3 ⟨rfl, hk3⟩
  have HK3 := hide ((unhide HK2).trans hk3 (by simp))
  clear hk3 HK2
  go_wp2_with fail
  refine (unhide CT w3 ((unhide HD).kp (unhide HK3) (by simp))).mono ?_
  rintro r w4 ⟨rfl, hd4⟩
  have HD4 := hide (Did.pre (unhide HK3) hd4)
  clear hd4
  go_wp2_with fail
  refine (mustBeOK_not e2 hz0 w4).mono ?_
  rintro r w5 ⟨rfl, rfl⟩
  exact ⟨rfl, rfl, unhide HD4⟩
end Go.Proofs.YtllkkflolijpaaaDoor
