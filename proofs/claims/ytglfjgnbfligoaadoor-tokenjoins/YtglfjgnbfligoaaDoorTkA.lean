/-
  The table of bytes; setOf, span and upTo.
-/
import Derived.Test.YtglfjgnbfligoaaDoorTkQ
import Derived.Test.YtglfjgnbfligoaaDoorRow0
import Derived.Test.YtglfjgnbfligoaaDoorKp0
import Derived.Lib.LaidTab
import Derived.Lib.ItoaNum
namespace Go.Proofs.YtglfjgnbfligoaaDoor
open Go.RowKit

/-- What the table of bytes holds. -/
def tabT : List Nat := [0, 0, 0, 0, 0, 0, 0, 0, 0, 0, 3, 0, 0, 0, 0, 0, 0, 0, 0, 0, 0, 0, 0, 0, 0, 0, 0, 0, 0, 0, 0, 0, 1, 128, 0, 0, 0, 0, 0, 16, 32, 32, 32, 32, 0, 32, 32, 0, 8, 8, 8, 8, 8, 8, 8, 8, 8, 8, 32, 32, 64, 64, 0, 0, 0, 0, 0, 0, 0, 0, 0, 0, 0, 0, 0, 0, 0, 0, 0, 0, 0, 0, 0, 0, 0, 0, 0, 0, 0, 0, 0, 0, 0, 0, 0, 0, 0, 4, 4, 4, 4, 4, 4, 4, 4, 4, 4, 4, 4, 4, 4, 4, 4, 4, 4, 4, 4, 4, 4, 4, 4, 4, 4, 0, 0, 0, 0, 0]
def cls (b : Nat) : Nat := tabT.getD b 0
/-- The package's variables hold what their own texts lay. -/
structure TbW (w : World) : Prop where
  low : 6 ≤ w.heap.size
  sets : ∀ i, i < 128 → w.cell? ⟨0, i, none⟩ = some (.int .u8 (cls i : Int))
  pow : Lib.TabIs Tryd.prog w "internal/strconv.uint64pow10" .u64 Lib.pow10Tab
  rng : ∃ tp p, w.cell? ⟨2, 0, none⟩ = some (.iface tp p)
theorem gPow : Tryd.prog.globalNamed "internal/strconv.uint64pow10" = some 3 := by kernel_rfl
theorem TbW.same {w w' : World} (h : TbW w) (hs : w.heap.size ≤ w'.heap.size) (hb : ∀ k, k < 6 → w'.heap[k]? = w.heap[k]?) : TbW w' := by
  refine ⟨Nat.le_trans h.low hs, fun i hi => ?_, ?_, ?_⟩
  · rw [World.cell?_of_block (hb 0 (by omega))]; exact h.sets i hi
  · have := h.pow
    unfold Lib.TabIs World.var? at this ⊢
    rw [gPow] at this ⊢
    simp only [Option.bind_some] at this ⊢
    rw [hb 3 (by omega)]
    exact this
  · obtain ⟨tp, p, hc⟩ := h.rng
    exact ⟨tp, p, by rw [World.cell?_of_block (hb 2 (by omega))]; exact hc⟩
theorem TbW.below {B : Nat} {w w' : World} (h : TbW w) (hb : Below B w w') (hB : 6 ≤ B) : TbW w' := h.same hb.size fun k hk => hb.block k (by omega)
theorem TbW.kp {w w' : World} {F : List Nat} (h : TbW w) (hk : Kp F w w') (hF : ∀ k ∈ F, 6 ≤ k) : TbW w' := h.same hk.size fun k hk6 => hk.block k (by have := h.low; omega) (fun hm => by have := hF k hm; omega)
theorem TbW.drew {w : World} (h : TbW w) : TbW w.drew := h.same (Nat.le_refl _) fun _ _ => rfl
theorem TbW.alloc {w : World} (h : TbW w) (o : Obj) : TbW (w.alloc o) := h.kp (Kp.alloc w o) (by simp)
theorem cls_fin : ∀ b : Fin 256, (bits .and .u8 (cls b.val : Int) 12 != 0) = isAln (UInt8.ofNat b.val) ∧ (bits .and .u8 (cls b.val : Int) 8 != 0) = isDig (UInt8.ofNat b.val) ∧ (bits .and .u8 (cls b.val : Int) 1 != 0) = isBlk (UInt8.ofNat b.val) ∧ (bits .and .u8 (cls b.val : Int) 18 == 0) = isIn (UInt8.ofNat b.val) := by decide +kernel
theorem cls_aln (b : UInt8) : (bits .and .u8 (cls b.toNat : Int) 12 != 0) = isAln b := by have := (cls_fin ⟨b.toNat, b.toNat_lt⟩).1; simpa using this
theorem cls_dig (b : UInt8) : (bits .and .u8 (cls b.toNat : Int) 8 != 0) = isDig b := by have := (cls_fin ⟨b.toNat, b.toNat_lt⟩).2.1; simpa using this
theorem cls_blk (b : UInt8) : (bits .and .u8 (cls b.toNat : Int) 1 != 0) = isBlk b := by have := (cls_fin ⟨b.toNat, b.toNat_lt⟩).2.2.1; simpa using this
theorem cls_in (b : UInt8) : (bits .and .u8 (cls b.toNat : Int) 18 == 0) = isIn b := by have := (cls_fin ⟨b.toNat, b.toNat_lt⟩).2.2.2; simpa using this
theorem cls_hi (n : Nat) (h : 128 ≤ n) : cls n = 0 := by
  unfold cls
  rw [List.getD_eq_getElem?_getD, List.getElem?_eq_none (by simpa [tabT] using h)]
  rfl
set_option maxRecDepth 100000 in
theorem setOf_any (n : Nat) (hn : n < 256) (w : World) (hT : TbW w) : Calls Tryd.prog 29 #[.int .u8 (n : Int)] w fun e w' => e = .returned (.int .u8 (cls n : Int)) ∧ w' = w := by
  rcases Nat.lt_or_ge n 128 with h | h
  · have c := hT.sets n h
    generalize cls n = C at c ⊢
    clear hT
    go_enter Tryd.func29, Tryd.ntmps29
    go_wp2
    go_ret
    exact ⟨rfl, rfl⟩
  · rw [cls_hi n h]
    clear hT
    go_enter Tryd.func29, Tryd.ntmps29
    go_wp2
    go_ret
    exact ⟨rfl, rfl⟩
theorem list_at (s : ByteArray) (k : Nat) (h : k < s.size) : s.data.toList[k]'(by simpa using h) = s[k] := rfl
set_option maxHeartbeats 1000000 in
theorem span_any (s : ByteArray) (m : Int) (p : UInt8 → Bool) (hp : ∀ b : UInt8, (bits .and .u8 (cls b.toNat : Int) m != 0) = p b) (w : World) (hT : TbW w) (hs : s.size ≤ 9223372036854775807) :
    Calls Tryd.prog 16 #[.string s, .int .u8 m] w fun e w' => e = .returned (.int .i64 (spn p s.data.toList : Nat)) ∧ w' = w := by
  have HP := hide hp
  clear hp
  go_enter Tryd.func16, Tryd.ntmps16
  go_wp2
  go_loop [5] (fun i => ∃ k : Nat, k ≤ s.size ∧ k ≤ spn p s.data.toList ∧ i = .int .i64 k) (fun i => s.size - (intOf i).toNat)
  case atStart => exact ⟨0, Nat.zero_le _, Nat.zero_le _, rfl⟩
  case round =>
    obtain ⟨k, hk, hsp, rfl⟩ := hrel
    have HS := hide hsp
    clear hsp
    by_cases hlt : k < s.size
    · have e := unhide HP s[k]
      by_cases hpk : p s[k] = true
      · rw [hpk] at e
        have HN : Hid (k + 1 ≤ spn p s.data.toList) := hide (spn_more (unhide HS) (by simpa using hlt) hpk)
        go_wp2_with (go_at_call 29; refine (setOf_any (s[k]).toNat (s[k]).toNat_lt _ hT).mono ?_; rintro e w' ⟨rfl, rfl⟩)
        go_round
        case rel => exact ⟨k + 1, by omega, unhide HN, by go_num⟩
        case measure => simp [intOf]; omega
      · rw [show p s[k] = false by simpa using hpk] at e
        have HN : Hid (k = spn p s.data.toList) := hide (spn_stop (unhide HS) (fun _ => Bool.eq_false_iff.2 hpk))
        go_wp2_with (go_at_call 29; refine (setOf_any (s[k]).toNat (s[k]).toNat_lt _ hT).mono ?_; rintro e w' ⟨rfl, rfl⟩)
        go_ret
        exact ⟨ret_int (by rw [← unhide HN]), rfl⟩
    · have HN : Hid (k = spn p s.data.toList) := hide (spn_stop (unhide HS) (fun h => absurd (by simpa using h) hlt))
      go_wp2
      go_ret
      exact ⟨ret_int (by rw [← unhide HN]), rfl⟩
set_option maxHeartbeats 1000000 in
theorem upTo_any (s : ByteArray) (m : Int) (p : UInt8 → Bool) (hp : ∀ b : UInt8, (bits .and .u8 (cls b.toNat : Int) m == 0) = p b) (w : World) (hT : TbW w) (hs : s.size ≤ 9223372036854775807) :
    Calls Tryd.prog 45 #[.string s, .int .u8 m] w fun e w' => e = .returned (.int .i64 (spn p s.data.toList : Nat)) ∧ w' = w := by
  have HP := hide hp
  clear hp
  go_enter Tryd.func45, Tryd.ntmps45
  go_wp2
  go_loop [5] (fun i => ∃ k : Nat, k ≤ s.size ∧ k ≤ spn p s.data.toList ∧ i = .int .i64 k) (fun i => s.size - (intOf i).toNat)
  case atStart => exact ⟨0, Nat.zero_le _, Nat.zero_le _, rfl⟩
  case round =>
    obtain ⟨k, hk, hsp, rfl⟩ := hrel
    have HS := hide hsp
    clear hsp
    by_cases hlt : k < s.size
    · have e := unhide HP s[k]
      by_cases hpk : p s[k] = true
      · rw [hpk] at e
        have HN : Hid (k + 1 ≤ spn p s.data.toList) := hide (spn_more (unhide HS) (by simpa using hlt) hpk)
        go_wp2_with (go_at_call 29; refine (setOf_any (s[k]).toNat (s[k]).toNat_lt _ hT).mono ?_; rintro e w' ⟨rfl, rfl⟩)
        go_round
        case rel => exact ⟨k + 1, by omega, unhide HN, by go_num⟩
        case measure => simp [intOf]; omega
      · rw [show p s[k] = false by simpa using hpk] at e
        have HN : Hid (k = spn p s.data.toList) := hide (spn_stop (unhide HS) (fun _ => Bool.eq_false_iff.2 hpk))
        go_wp2_with (go_at_call 29; refine (setOf_any (s[k]).toNat (s[k]).toNat_lt _ hT).mono ?_; rintro e w' ⟨rfl, rfl⟩)
        go_ret
        exact ⟨ret_int (by rw [← unhide HN]), rfl⟩
    · have HN : Hid (k = spn p s.data.toList) := hide (spn_stop (unhide HS) (fun h => absurd (by simpa using h) hlt))
      go_wp2
      go_ret
      exact ⟨ret_int (by rw [← unhide HN]), rfl⟩
end Go.Proofs.YtglfjgnbfligoaaDoor
