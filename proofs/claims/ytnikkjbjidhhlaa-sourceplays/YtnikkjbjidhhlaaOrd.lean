/-
  Plain facts on orders, of no program: numbers, lists, one order behind another.
-/
import Derived.WalkKit
import Derived.Lib.Small
import Derived.Lib.Bytealg
namespace Go.Proofs.Ytnikkjbjidhhlaa

/-- Lists by their first place of unlike members, else by their lengths. -/
def cL {α : Type} (c : α → α → Int) : List α → List α → Int
  | [], [] => 0
  | [], _ :: _ => -1
  | _ :: _, [] => 1
  | a :: r, b :: s => if c a b = 0 then cL c r s else c a b
/-- One order behind another. -/
def orI (a b : Int) : Int := if a = 0 then b else a
/-- What an order is. -/
structure Pre {α : Type} (c : α → α → Int) : Prop where
  anti : ∀ x y, c y x = - c x y
  trans : ∀ x y z, c x y ≤ 0 → c y z ≤ 0 → c x z ≤ 0 ∧ (c x z = 0 → c x y = 0 ∧ c y z = 0)
theorem pre_int : Pre Lib.compareInt where
  anti x y := by unfold Lib.compareInt; repeat' split
                 all_goals omega
  trans x y z h1 h2 := by
    unfold Lib.compareInt at *
    repeat' split at h1
    all_goals repeat' split at h2
    all_goals repeat' split
    all_goals omega
theorem zero_int (x y : Int) : Lib.compareInt x y = 0 ↔ x = y := by
  unfold Lib.compareInt; repeat' split
  all_goals omega
theorem Pre.or {α : Type} {c d : α → α → Int} (hc : Pre c) (hd : Pre d) : Pre fun x y => orI (c x y) (d x y) where
  anti x y := by
    show orI (c y x) (d y x) = - orI (c x y) (d x y)
    unfold orI
    rw [hc.anti x y, hd.anti x y]
    split <;> split <;> omega
  trans x y z h1 h2 := by
    unfold orI at *
    have k1 : c x y ≤ 0 := by split at h1 <;> omega
    have k2 : c y z ≤ 0 := by split at h2 <;> omega
    obtain ⟨t1, t2⟩ := hc.trans x y z k1 k2
    by_cases h0 : c x z = 0
    · obtain ⟨e1, e2⟩ := t2 h0
      rw [if_pos e1] at h1
      rw [if_pos e2] at h2
      rw [if_pos h0, if_pos e1, if_pos e2]
      exact hd.trans x y z h1 h2
    · rw [if_neg h0]
      exact ⟨t1, fun h => absurd h h0⟩
theorem Pre.on {α β : Type} {c : β → β → Int} (hc : Pre c) (f : α → β) : Pre fun x y => c (f x) (f y) :=
  ⟨fun x y => hc.anti (f x) (f y), fun x y z => hc.trans (f x) (f y) (f z)⟩
theorem cL_anti {α : Type} {c : α → α → Int} (hc : ∀ x y, c y x = - c x y) : ∀ x y, cL c y x = - cL c x y
  | [], [] => rfl
  | [], _ :: _ => rfl
  | _ :: _, [] => rfl
  | a :: r, b :: s => by
    simp only [cL]
    rw [hc a b, cL_anti hc r s]
    by_cases h : c a b = 0
    · rw [if_pos h, if_pos (by omega)]
    · rw [if_neg h, if_neg (by omega)]
theorem cL_trans {α : Type} {c : α → α → Int} (hc : Pre c) : ∀ x y z, cL c x y ≤ 0 → cL c y z ≤ 0 → cL c x z ≤ 0 ∧ (cL c x z = 0 → cL c x y = 0 ∧ cL c y z = 0)
  | [], [], [], _, _ => ⟨by simp [cL], fun _ => ⟨rfl, rfl⟩⟩
  | [], [], _ :: _, _, _ => ⟨by simp [cL], fun h => by simp [cL] at h⟩
  | [], _ :: _, [], _, h => by simp [cL] at h
  | [], _ :: _, _ :: _, _, _ => ⟨by simp [cL], fun h => by simp [cL] at h⟩
  | _ :: _, [], _, h, _ => by simp [cL] at h
  | _ :: _, _ :: _, [], _, h => by simp [cL] at h
  | a :: r, b :: s, d :: t, h1, h2 => by
    simp only [cL] at *
    have k1 : c a b ≤ 0 := by split at h1 <;> omega
    have k2 : c b d ≤ 0 := by split at h2 <;> omega
    obtain ⟨t1, t2⟩ := hc.trans a b d k1 k2
    by_cases h0 : c a d = 0
    · obtain ⟨e1, e2⟩ := t2 h0
      rw [if_pos e1] at h1
      rw [if_pos e2] at h2
      rw [if_pos h0, if_pos e1, if_pos e2]
      exact cL_trans hc r s t h1 h2
    · rw [if_neg h0]
      exact ⟨t1, fun h => absurd h h0⟩
theorem pre_list {α : Type} {c : α → α → Int} (hc : Pre c) : Pre (cL c) := ⟨cL_anti hc.anti, cL_trans hc⟩
theorem zero_list {α : Type} {c : α → α → Int} (hc : ∀ x y, c x y = 0 ↔ x = y) : ∀ x y, cL c x y = 0 ↔ x = y
  | [], [] => by simp [cL]
  | [], _ :: _ => by simp [cL]
  | _ :: _, [] => by simp [cL]
  | a :: r, b :: s => by
    simp only [cL, List.cons.injEq]
    by_cases h : c a b = 0
    · rw [if_pos h, zero_list hc r s]; exact ⟨fun e => ⟨(hc a b).1 h, e⟩, fun e => e.2⟩
    · rw [if_neg h]; exact ⟨fun e => absurd e h, fun e => absurd ((hc a b).2 e.1) h⟩
theorem bytes_list : ∀ a b : List UInt8, Lib.compareBytes a b = cL (fun x y => Lib.compareInt (x.toNat : Int) (y.toNat : Int)) a b
  | [], [] => rfl
  | [], _ :: _ => rfl
  | _ :: _, [] => rfl
  | x :: r, y :: s => by
    simp only [Lib.compareBytes, cL, bytes_list r s, Lib.compareInt, UInt8.lt_iff_toNat_lt]
    repeat' split
    all_goals first | rfl | (exfalso; omega)
theorem pre_bytes : Pre Lib.compareBytes := by
  have := pre_list (pre_int.on fun x : UInt8 => (x.toNat : Int))
  refine ⟨fun x y => ?_, fun x y z => ?_⟩
  · rw [bytes_list, bytes_list]; exact this.anti x y
  · rw [bytes_list, bytes_list, bytes_list]; exact this.trans x y z
theorem zero_bytes (a b : List UInt8) : Lib.compareBytes a b = 0 ↔ a = b := by
  rw [bytes_list]
  refine zero_list (fun x y => ?_) a b
  rw [zero_int]
  exact ⟨fun h => UInt8.toNat_inj.1 (by omega), fun h => by rw [h]⟩
end Go.Proofs.Ytnikkjbjidhhlaa
