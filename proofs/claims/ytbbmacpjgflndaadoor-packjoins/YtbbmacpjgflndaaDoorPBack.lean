/-
  PackBack: whatever the list and the bytes, the law returns true; nothing that was there has changed.
-/
import Derived.Test.YtbbmacpjgflndaaDoorBack
import Derived.Test.YtbbmacpjgflndaaDoorSame
import Derived.Test.YtbbmacpjgflndaaDoorWorks
namespace Go.Proofs.YtbbmacpjgflndaaDoor
open Go.RowKit

theorem decF_err (f : Nat) (b : List UInt8) (at_ : Nat) (acc : List It) : ((decF f b at_ acc).2.2 = 0 → (decF f b at_ acc).2.1 = 0) ∧ ((decF f b at_ acc).2.2 ≠ 0 → (decF f b at_ acc).1 = []) := by
  induction f generalizing b at_ acc with
  | zero => exact ⟨fun _ => rfl, fun h => absurd rfl h⟩
  | succ f ih =>
    rw [decF]
    by_cases a : b = []
    · rw [if_pos a]; exact ⟨fun _ => rfl, fun h => absurd rfl h⟩
    · rw [if_neg a]
      by_cases c : acc.length = 4096
      · rw [if_pos c]; exact ⟨fun h => by simp at h, fun _ => rfl⟩
      · rw [if_neg c]
        by_cases d : (rdI b).2.2 ≠ 0
        · rw [if_pos d]; exact ⟨fun h => absurd h d, fun _ => rfl⟩
        · rw [if_neg d]; exact ih _ _ _
theorem decS_err (b : List UInt8) : ((decS b).2.2 = 0 → (decS b).2.1 = 0) ∧ ((decS b).2.2 ≠ 0 → (decS b).1 = []) := by
  unfold decS
  split
  · exact ⟨fun h => by simp at h, fun _ => rfl⟩
  · exact decF_err _ _ _ _
theorem encS_none (l : List It) (h : encE l ≠ 0) : encS l = ⟨#[]⟩ := by unfold encS; rw [if_neg h]
theorem encS_size (l : List It) : (encS l).size ≤ 262144 := by
  by_cases h : encE l = 0
  · unfold encS
    rw [if_pos h]
    show (List.toArray _).size ≤ _
    rw [List.size_toArray]
    unfold encE at h
    by_cases a : 4096 < l.length
    · rw [if_pos a] at h; simp at h
    · rw [if_neg a] at h
      by_cases b : l.all It.may = false
      · rw [if_pos b] at h; simp at h
      · rw [if_neg b] at h
        by_cases c : 262144 < (listB l).length
        · rw [if_pos c] at h; simp at h
        · omega
  · rw [encS_none l h]; exact Nat.zero_le _
set_option maxHeartbeats 2000000 in
theorem packBack_walk (ad : Option Addr) (cap : Nat) (l : List It) (b : ByteArray) (w : World) (hlen : l.length ≤ 9223372036854775807) (hA : ItemsAt w ad l) (hok : ∀ x ∈ l, x.ok) (hb : b.size ≤ 9223372036854775807) (hT : TabW w) :
    Calls Tryd.prog 5 #[.slice ad l.length cap, .string b] w fun e w' => e = .returned (.bool true) ∧ Below w.heap.size w w' := by
  have hw := works_any w hT
  have HW := hide hw
  have enc := fun w hA => encode_any ad cap l w hlen hA hok
  have des := decS_err b.data.toList
  have deo := enc_dec b.data.toList (decS b.data.toList).1
  have dec := fun w => decode_any b w hb
  generalize decS b.data.toList = D at *
  obtain ⟨Dl, Da, Dc⟩ := D
  dsimp only at des deo dec
  have ENC := hide enc
  have DEC := hide dec
  have DES := hide des
  have DEO := hide deo
  have HA := hide hA
  have HOK := hide hok
  clear hw hT enc dec des deo hA hok
  by_cases he : encE l = 0
  · have hde := dec_enc l he (unhide HOK)
    have hsz := encS_size l
    have dc2 := fun w => decode_any (encS l) w (by omega)
    rw [hde] at dc2
    have enc2 := fun w hA => unhide ENC w hA
    rw [he] at enc2
    generalize encS l = S at *
    have DC2 := hide dc2
    have ENC2 := hide enc2
    clear dc2 enc2 hde hsz he ENC
    go_enter Tryd.func5, Tryd.ntmps5
    go_wp2_with fail
    refine (unhide HW).mono ?_
    rintro e w1 ⟨rfl, hb1⟩
    go_wp2_with fail
    refine (unhide ENC2 w1 ((unhide HA).below hb1 (Nat.le_refl _))).mono ?_
    rintro e w2 ⟨rfl, hb2⟩
    have hb3 := hb1.trans (hb2.mono hb1.size)
    clear hb1 hb2
    go_wp2_with fail
    refine (unhide DC2 w2).mono ?_
    rintro e w3 ⟨v3, rfl, ho3, hb4⟩
    obtain ⟨a3, c3, rfl, hi3⟩ := ho3.items
    have hb5 := hb3.trans (hb4.mono hb3.size)
    have hz5 := hb5.size
    have hb6 : Below w.heap.size w (w3.alloc (.cells #[.int .i64 0, .int .i64 0] 28)) := hb5.alloc hz5 _
    have same := sameItems_true a3 ad c3 cap l (w3.alloc (.cells #[.int .i64 0, .int .i64 0] 28)) (hi3.below ((Below.refl _ w3).alloc (Nat.le_refl _) _) (Nat.le_refl _)) ((unhide HA).below hb6 (Nat.le_refl _)) hlen
    have SAME := hide same
    have HB6 := hide hb6
    clear same hi3 ho3 hb3 hb4 hb5 hb6
    go_wp2_with fail
    refine (unhide SAME).mono ?_
    rintro e w7 ⟨rfl, n7, rfl⟩
    have hb7 : Below w.heap.size w ((w3.alloc (.cells #[.int .i64 0, .int .i64 0] 28)).drewN n7) := below_drewN (unhide HB6) n7
    generalize ((w3.alloc (.cells #[.int .i64 0, .int .i64 0] 28)).drewN n7) = W at *
    clear SAME HB6
    have hz7 := hb7.size
    go_wp2_with fail
    refine (unhide DEC W).mono ?_
    rintro e w8 ⟨v8, rfl, ho8, hb8⟩
    have hb9 := hb7.trans (hb8.mono hb7.size)
    have hz9 := hb9.size
    clear hb7 hb8
    by_cases hc : Dc = 0
    · subst hc
      obtain rfl := (unhide DES).1 rfl
      obtain ⟨q1, q2, q3, q4⟩ := unhide DEO rfl
      obtain ⟨a8, c8, rfl, hi8⟩ := ho8.items
      have hbz : Below w.heap.size w (w8.alloc (.cells #[.int .i64 0, .int .i64 0] 28)) := hb9.alloc hz9 _
      have en := encode_any a8 c8 Dl (w8.alloc (.cells #[.int .i64 0, .int .i64 0] 28)) (by omega) (hi8.below ((Below.refl _ w8).alloc (Nat.le_refl _) _) (Nat.le_refl _)) q3
      have hS : encS Dl = b := by rw [← ba_eta (encS Dl), q2]
      rw [q1, hS] at en
      have EN := hide en
      have HBZ := hide hbz
      clear en q1 q2 q3 q4 hS hbz ho8 hi8 hb9
      go_wp2_with fail
      refine (unhide EN).mono ?_
      rintro e w9 ⟨rfl, hb10⟩
      have hbf := (unhide HBZ).trans (hb10.mono (unhide HBZ).size)
      clear hb10
      go_wp2
      go_ret
      exact ⟨rfl, hbf⟩
    · obtain rfl := (unhide DES).2 hc
      obtain ⟨a8, c8, rfl, _⟩ := ho8.items
      have gc : (Dc == 0) = false := beq_eq_false_iff_ne.2 hc
      clear hc ho8
      go_wp2
      all_goals go_ret
      all_goals exact ⟨rfl, hb9.alloc hz9 _⟩
  · have hne := encS_none l he
    have gne : (encE l == 0) = false := beq_eq_false_iff_ne.2 he
    have enc2 := fun w hA => unhide ENC w hA
    rw [hne] at enc2
    generalize encE l = E at *
    have ENC2 := hide enc2
    clear enc2 hne he ENC
    go_enter Tryd.func5, Tryd.ntmps5
    go_wp2_with fail
    refine (unhide HW).mono ?_
    rintro e w1 ⟨rfl, hb1⟩
    go_wp2_with fail
    refine (unhide ENC2 w1 ((unhide HA).below hb1 (Nat.le_refl _))).mono ?_
    rintro e W ⟨rfl, hb2⟩
    have hb7 := hb1.trans (hb2.mono hb1.size)
    clear hb1 hb2
    have hz7 := hb7.size
    go_wp2_with fail
    refine (unhide DEC W).mono ?_
    rintro e w8 ⟨v8, rfl, ho8, hb8⟩
    have hb9 := hb7.trans (hb8.mono hb7.size)
    have hz9 := hb9.size
    clear hb7 hb8
    by_cases hc : Dc = 0
    · subst hc
      obtain rfl := (unhide DES).1 rfl
      obtain ⟨q1, q2, q3, q4⟩ := unhide DEO rfl
      obtain ⟨a8, c8, rfl, hi8⟩ := ho8.items
      have hbz : Below w.heap.size w (w8.alloc (.cells #[.int .i64 0, .int .i64 0] 28)) := hb9.alloc hz9 _
      have en := encode_any a8 c8 Dl (w8.alloc (.cells #[.int .i64 0, .int .i64 0] 28)) (by omega) (hi8.below ((Below.refl _ w8).alloc (Nat.le_refl _) _) (Nat.le_refl _)) q3
      have hS : encS Dl = b := by rw [← ba_eta (encS Dl), q2]
      rw [q1, hS] at en
      have EN := hide en
      have HBZ := hide hbz
      clear en q1 q2 q3 q4 hS hbz ho8 hi8 hb9
      go_wp2_with fail
      refine (unhide EN).mono ?_
      rintro e w9 ⟨rfl, hb10⟩
      have hbf := (unhide HBZ).trans (hb10.mono (unhide HBZ).size)
      clear hb10
      go_wp2
      go_ret
      exact ⟨rfl, hbf⟩
    · obtain rfl := (unhide DES).2 hc
      obtain ⟨a8, c8, rfl, _⟩ := ho8.items
      have gc : (Dc == 0) = false := beq_eq_false_iff_ne.2 hc
      clear hc ho8
      go_wp2
      all_goals go_ret
      all_goals exact ⟨rfl, hb9.alloc hz9 _⟩
end Go.Proofs.YtbbmacpjgflndaaDoor
