/-
  A tape is opened: the inner function.
-/
import Derived.Test.YtllkkflolijpaaaDoorTpC
namespace Go.Proofs.YtllkkflolijpaaaDoor
open Go.RowKit

theorem frsF_small : ∀ (f : Nat) (l : List UInt8) (e : Nat), ∀ x ∈ (frsF f l e).1, x.length ≤ 65536
  | 0, _, _ => fun x hx => by simp [frsF] at hx
  | f + 1, l, e => fun x hx => by
    rw [frsF] at hx
    split at hx
    · simp at hx
    · rename_i hb
      rw [List.mem_cons] at hx
      rcases hx with rfl | hx
      · exact (bodyS_ok _ (by simpa using hb)).2
      · exact frsF_small f l _ x hx
theorem frsS_small (l : List UInt8) : ∀ x ∈ (frsS l).1, x.length ≤ 65536 := frsF_small _ _ _
/-- Where the whole frames of a file end. -/
def Dk.fEnd (d : Dk) (n : ByteArray) : Nat := (frsS (hasF d.now n)).2
def Dk.fCode (d : Dk) (n : ByteArray) : Int := (bodyS ((hasF d.now n).drop (d.fEnd n))).2
def Dk.opE (d : Dk) (n : ByteArray) : Int := if dnm n = false then 30 else if d.fEnd n < (hasF d.now n).length then (if d.fCode n = 11 then d.ctE n (d.fEnd n : Int) else 40) else 0
def Dk.opD (d : Dk) (n : ByteArray) : Dk := if dnm n = false then d else if d.fEnd n < (hasF d.now n).length then (if d.fCode n = 11 then d.ctD n (d.fEnd n : Int) else d) else d
def Dk.opL (d : Dk) (n : ByteArray) : List (List UInt8) := (frsS (hasF d.now n)).1
theorem unf_code (l : List UInt8) (k : Nat) (h : k ≤ l.length) : (unfS l (k : Int)).2.2.2 = (bodyS (l.drop k)).2 := by
  unfold unfS
  rw [if_neg (by omega), Int.toNat_natCast]
  split
  · rfl
  · rename_i hb
    have : (bodyS (l.drop k)).2 = 0 := by simpa using hb
    rw [this]
set_option maxHeartbeats 1000000 in
set_option maxRecDepth 100000 in
theorem bytesOf_any (p : Nat) (n : ByteArray) (d : Dk) (F : List Nat) (w : World) (hd : DiskAt w p d F) (hn : dnm n = true) :
    Calls Tryd.prog 38 #[.pointer (some ⟨p, 0, none⟩), .string n] w fun r w' => r = .returned (.string ⟨(hasF d.now n).toArray⟩) ∧ w' = w := by
  have hl := dnm_len hn
  have RD := hide (read_any n p d F w hd (by omega))
  clear hd
  cases hg : (getF d.now n).isSome with
  | true =>
    have e0 : d.badN n = 0 := badN_0 hn hg
    unfold Dk.rdS Dk.rdE at RD
    rw [e0, if_pos rfl] at RD
    clear hg e0 hn hl
    generalize (⟨(hasF d.now n).toArray⟩ : ByteArray) = s at *
    go_enter Tryd.func38, Tryd.ntmps38
    go_wp2_with fail
    refine (unhide RD).mono ?_
    rintro r w1 ⟨rfl, rfl⟩
    go_wp2_with fail
    refine (mustBeOK_ok w1).mono ?_
    rintro r w2 ⟨rfl, rfl⟩
    go_wp2
    go_ret
    exact ⟨rfl, rfl⟩
  | false =>
    have e0 : d.badN n = 5 := badN_5 hn hg
    have hh : hasF d.now n = [] := by
      unfold hasF
      cases h : getF d.now n with
      | none => rfl
      | some x => rw [h] at hg; cases hg
    rw [hh]
    unfold Dk.rdS Dk.rdE at RD
    rw [e0, if_neg (by decide)] at RD
    clear hg e0 hn hl hh
    go_enter Tryd.func38, Tryd.ntmps38
    go_wp2_with fail
    refine (unhide RD).mono ?_
    rintro r w1 ⟨rfl, rfl⟩
    go_wp2
    go_ret
    exact ⟨rfl, rfl⟩
set_option maxHeartbeats 1000000 in
set_option maxRecDepth 100000 in
theorem bytesOf_not (p : Nat) (n : ByteArray) (d : Dk) (F : List Nat) (w : World) (hd : DiskAt w p d F) (hn : dnm n = false) (hs : n.size ≤ 9223372036854775807) :
    Calls Tryd.prog 38 #[.pointer (some ⟨p, 0, none⟩), .string n] w fun r w' => r = .panicked (pan 30) ∧ w' = w := by
  have RD := hide (read_any n p d F w hd hs)
  have e0 : d.badN n = 30 := badN_30 hn
  unfold Dk.rdS Dk.rdE at RD
  rw [e0, if_neg (by decide)] at RD
  clear hd e0 hn
  go_enter Tryd.func38, Tryd.ntmps38
  go_wp2_with fail
  refine (unhide RD).mono ?_
  rintro r w1 ⟨rfl, rfl⟩
  go_wp2_with fail
  refine (mustBeOK_not 30 (by decide) w1).mono ?_
  rintro r w2 ⟨rfl, rfl⟩
  exact ⟨rfl, rfl, rfl⟩
set_option maxHeartbeats 1000000 in
set_option maxRecDepth 100000 in
theorem mustBeTorn_ok (b : ByteArray) (k : Nat) (w : World) (hb : b.size ≤ 9223372036854775807) (hk : k ≤ b.size) (hT : TabW w) (hc : (bodyS (b.data.toList.drop k)).2 = 11) :
    Calls Tryd.prog 40 #[.string b, .int .i64 (k : Int)] w fun r w' => r = .returned (.tuple #[]) ∧ Kp [] w w' := by
  have UN := unframe_any b (k : Int) w hb hT
  rw [unf_code b.data.toList k (by rw [Array.length_toList]; exact hk), hc] at UN
  generalize unfS b.data.toList (k : Int) = R at *
  have UN := hide UN
  clear hc hT
  go_enter Tryd.func40, Tryd.ntmps40
  go_wp2_with fail
  refine (unhide UN).mono ?_
  rintro r w1 ⟨rfl, hb1⟩
  have HK := hide ((Kp.ofBelow hb1).trans (Kp.alloc w1 (.cells #[.int .i64 R.2.2.1, .int .i64 11] 89)) (by simp))
  clear hb1
  go_wp2
  go_end0
  exact ⟨rfl, unhide HK⟩
set_option maxHeartbeats 1000000 in
set_option maxRecDepth 100000 in
theorem mustBeTorn_not (b : ByteArray) (k : Nat) (w : World) (hb : b.size ≤ 9223372036854775807) (hk : k ≤ b.size) (hT : TabW w) (hc : (bodyS (b.data.toList.drop k)).2 ≠ 11) :
    Calls Tryd.prog 40 #[.string b, .int .i64 (k : Int)] w fun r w' => r = .panicked (pan 40) ∧ Kp [] w w' := by
  have UN := unframe_any b (k : Int) w hb hT
  rw [unf_code b.data.toList k (by rw [Array.length_toList]; exact hk)] at UN
  generalize (bodyS (b.data.toList.drop k)).2 = c at *
  generalize unfS b.data.toList (k : Int) = R at *
  have UN := hide UN
  have hcb : (c != 11) = true := by simpa using hc
  clear hT
  go_enter Tryd.func40, Tryd.ntmps40
  go_wp2_with fail
  refine (unhide UN).mono ?_
  rintro r w1 ⟨rfl, hb1⟩
  have HK := hide ((Kp.ofBelow hb1).trans (Kp.alloc w1 (.cells #[.int .i64 R.2.2.1, .int .i64 c] 89)) (by simp))
  clear hb1
  go_wp2_with fail
  refine (giveUp_any 40 _).mono ?_
  rintro r w2 ⟨rfl, rfl⟩
  exact ⟨rfl, rfl, unhide HK⟩
end Go.Proofs.YtllkkflolijpaaaDoor
