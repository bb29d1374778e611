/-
  DiskFull: just as many changes wait as there is room for: the law returns true, whatever the bytes.
-/
import Derived.Test.YtpbmkbfcnhekoaaDSwp
namespace Go.Proofs.Ytpbmkbfcnhekoaa
open Go.RowKit

abbrev cW (s : ByteArray) : Chg := .wr ⟨#[97]⟩ 0 s
def FD (k : Nat) (s : ByteArray) : Dk := ⟨[], if k = 0 then [] else fA s, List.replicate k (cW s), -1, false⟩
theorem made_again (s : ByteArray) : made (fA s) (cW s) = fA s := by
  show [((⟨#[97]⟩ : ByteArray), over s.data.toList 0 s.data.toList)] = _
  simp [over]
theorem made_empty (s : ByteArray) : made (fA s) (.wr ⟨#[97]⟩ 0 ⟨#[]⟩) = fA s := by
  show [((⟨#[97]⟩ : ByteArray), over s.data.toList 0 [])] = _
  simp [over]
theorem fd_bad (k : Nat) (s d : ByteArray) (hs : s.size ≤ 50) (hd : d.size ≤ 50) : (FD k s).badW ⟨#[97]⟩ 0 d = 0 := by
  unfold Dk.badW
  have h2 : total (FD k s).now ≤ 50 := by unfold FD; dsimp only; split <;> simp [total, fA]; omega
  have h3 : (FD k s).now.length ≤ 1 := by unfold FD; dsimp only; split <;> simp
  have h1 := hasF_le (fs := (FD k s).now) ⟨#[97]⟩
  rw [if_neg (by simp [n97]), if_neg (by omega), if_neg]
  simp only [Dk.fullW, Bool.or_eq_true, Bool.and_eq_true, decide_eq_true_eq, not_or, not_and]
  refine ⟨?_, fun _ => by omega⟩
  intro h
  unfold Dk.grows at h
  generalize (hasF (FD k s).now ⟨#[97]⟩).length = H at *
  have h6 : max 0 ((d.size : Int) - ((H : Int) - 0)) = 0 ∨ max 0 ((d.size : Int) - ((H : Int) - 0)) = (d.size : Int) - ((H : Int) - 0) := by omega
  omega
theorem fd_step (k : Nat) (s : ByteArray) (hs : s.size ≤ 50) (hk : k < 1024) : (FD k s).wrE ⟨#[97]⟩ 0 s = 0 ∧ (FD k s).wrD ⟨#[97]⟩ 0 s = FD (k + 1) s := by
  have hb := fd_bad k s s hs hs
  have hl : ¬ 1024 ≤ (FD k s).wait.length := by unfold FD; simp; omega
  refine ⟨by rw [Dk.wrE, if_pos hb, Dk.doE, if_neg hl]; rfl, ?_⟩
  rw [Dk.wrD, if_pos hb, Dk.doD, if_neg hl]
  show (Dk.mk [] (made (FD k s).now (cW s)) (List.replicate k (cW s) ++ [cW s]) (-1) false) = _
  have e1 : made (FD k s).now (cW s) = fA s := by
    unfold FD
    dsimp only
    split
    · exact mk1 s
    · exact made_again s
  rw [e1, ← List.replicate_succ']
  rfl
theorem fd_full (s : ByteArray) : 1024 ≤ (FD 1024 s).wait.length := by
  show 1024 ≤ (List.replicate 1024 (cW s)).length
  rw [List.length_replicate]; exact Nat.le_refl _
theorem fd_now (s : ByteArray) : (FD 1024 s).now = fA s := rfl
theorem fd_end (s : ByteArray) (hs : s.size ≤ 50) : ((FD 1024 s).wrE ⟨#[97]⟩ 0 ⟨#[]⟩ = 32 ∧ (FD 1024 s).wrD ⟨#[97]⟩ 0 ⟨#[]⟩ = FD 1024 s) ∧ ((FD 1024 s).ctE ⟨#[97]⟩ 0 = 32 ∧ (FD 1024 s).ctD ⟨#[97]⟩ 0 = FD 1024 s) ∧ ((FD 1024 s).rmE ⟨#[97]⟩ = 32 ∧ (FD 1024 s).rmD ⟨#[97]⟩ = FD 1024 s) ∧ ((FD 1024 s).rnE ⟨#[97]⟩ ⟨#[98]⟩ = 32 ∧ (FD 1024 s).rnD ⟨#[97]⟩ ⟨#[98]⟩ = FD 1024 s) := by
  have hfull := fd_full s
  have hE : (FD 1024 s).doE = 32 := if_pos hfull
  have hD : ∀ c, (FD 1024 s).doD c = FD 1024 s := fun c => if_pos hfull
  have hb := fd_bad 1024 s ⟨#[]⟩ hs (by decide)
  have hn : (FD 1024 s).badN ⟨#[97]⟩ = 0 := rfl
  have hc : (FD 1024 s).badC ⟨#[97]⟩ 0 = 0 := by unfold Dk.badC; rw [if_pos hn, if_neg (by omega)]
  have hr : (FD 1024 s).badR ⟨#[97]⟩ ⟨#[98]⟩ = 0 := rfl
  refine ⟨⟨by rw [Dk.wrE, if_pos hb, hE], by rw [Dk.wrD, if_pos hb, hD]⟩, ⟨by rw [Dk.ctE, if_pos hc, hE], by rw [Dk.ctD, if_pos hc, hD]⟩, ⟨by rw [Dk.rmE, if_pos hn, hE], by rw [Dk.rmD, if_pos hn, hD]⟩, by rw [Dk.rnE, if_pos hr, hE], by rw [Dk.rnD, if_pos hr, hD]⟩
theorem fd_sync (s : ByteArray) : (FD 1024 s).syE = 0 ∧ (FD 1024 s).syD = ⟨fA s, fA s, [], -1, false⟩ := ⟨rfl, rfl⟩
theorem fd_crash (s : ByteArray) (hi : Inv (FD 1024 s)) : (FD 1024 s).crash 1024 0 = ⟨fA s, fA s, [], -1, false⟩ := by
  have hl : (FD 1024 s).wait.length = 1024 := List.length_replicate
  have hk : (FD 1024 s).kept 1024 = 1024 := by unfold Dk.kept; rw [hl]; decide
  unfold Dk.crash Dk.left'
  rw [hk, List.getElem?_eq_none (by omega), List.take_of_length_le (by omega), hi.play]
  rfl
theorem fd_last (s : ByteArray) (hs : s.size ≤ 50) : (Dk.mk (fA s) (fA s) [] (-1) false).rdE ⟨#[97]⟩ = 0 ∧ (Dk.mk (fA s) (fA s) [] (-1) false).rdS ⟨#[97]⟩ = s ∧ (Dk.mk (fA s) (fA s) [] (-1) false).wrE ⟨#[98]⟩ 0 ⟨#[120]⟩ = 0 := by
  have h1 := rd_A s (fA s) _ rfl
  refine ⟨h1.1, h1.2, ?_⟩
  rw [(sw4 s ⟨#[120]⟩ (by omega) (by decide) (-1)).1]
  rfl
set_option maxHeartbeats 8000000 in
set_option maxRecDepth 100000 in
theorem full_short (sy : Bool) (dt s : ByteArray) (w : World) (hs : s.size ≤ 50) (hx : dt = s) :
    Calls Try.prog 4 #[.bool sy, .string dt] w fun e w' => e = .returned (.bool true) ∧ Below w.heap.size w w' := by
  subst hx
  have hl : (dt.size : Int) ≤ 50 := by omega
  have st : ∀ W p k, k < 1024 → OwnD w W p (FD k dt) → Calls Try.prog 14 #[.pointer (some ⟨p, 0, none⟩), .string ⟨#[97]⟩, .int .i64 0, .string dt] W fun e w' => e = .returned (.int .i64 0) ∧ OwnD w w' p (FD (k + 1) dt) := fun W p k hk h => by
    have := h.write ⟨#[97]⟩ 0 dt (by decide) (by decide) (by decide) (by omega)
    rw [(fd_step k dt hs hk).1, (fd_step k dt hs hk).2] at this; exact this
  have wt : ∀ W p k, OwnD w W p (FD k dt) → Calls Try.prog 15 #[.pointer (some ⟨p, 0, none⟩)] W fun e w' => e = .returned (.int .i64 (k : Int)) ∧ w' = W := fun W p k h => by
    have := h.waiting
    rw [show (FD k dt).wait.length = k by unfold FD; simp] at this; exact this
  obtain ⟨⟨x1, x2⟩, ⟨x3, x4⟩, ⟨x5, x6⟩, x7, x8⟩ := fd_end dt hs
  have e1 : ∀ W p, OwnD w W p (FD 1024 dt) → Calls Try.prog 14 #[.pointer (some ⟨p, 0, none⟩), .string ⟨#[97]⟩, .int .i64 0, .string ⟨#[]⟩] W fun e w' => e = .returned (.int .i64 32) ∧ OwnD w w' p (FD 1024 dt) := fun W p h => by
    have := h.write ⟨#[97]⟩ 0 ⟨#[]⟩ (by decide) (by decide) (by decide) (by decide)
    rw [x1, x2] at this; exact this
  have e2 : ∀ W p, OwnD w W p (FD 1024 dt) → Calls Try.prog 16 #[.pointer (some ⟨p, 0, none⟩), .string ⟨#[97]⟩, .int .i64 0] W fun e w' => e = .returned (.int .i64 32) ∧ OwnD w w' p (FD 1024 dt) := fun W p h => by
    have := h.cut ⟨#[97]⟩ 0 (by decide) (by decide) (by decide)
    rw [x3, x4] at this; exact this
  have e3 : ∀ W p, OwnD w W p (FD 1024 dt) → Calls Try.prog 17 #[.pointer (some ⟨p, 0, none⟩), .string ⟨#[97]⟩] W fun e w' => e = .returned (.int .i64 32) ∧ OwnD w w' p (FD 1024 dt) := fun W p h => by
    have := h.remove ⟨#[97]⟩ (by decide)
    rw [x5, x6] at this; exact this
  have e4 : ∀ W p, OwnD w W p (FD 1024 dt) → Calls Try.prog 18 #[.pointer (some ⟨p, 0, none⟩), .string ⟨#[97]⟩, .string ⟨#[98]⟩] W fun e w' => e = .returned (.int .i64 32) ∧ OwnD w w' p (FD 1024 dt) := fun W p h => by
    have := h.rename ⟨#[97]⟩ ⟨#[98]⟩ (by decide) (by decide)
    rw [x7, x8] at this; exact this
  have e5 : ∀ W p, OwnD w W p (FD 1024 dt) → Calls Try.prog 19 #[.pointer (some ⟨p, 0, none⟩)] W fun e w' => e = .returned (.int .i64 0) ∧ OwnD w w' p ⟨fA dt, fA dt, [], -1, false⟩ := fun W p h => by
    have := h.sync
    rw [(fd_sync dt).1, (fd_sync dt).2] at this; exact this
  have e6 : ∀ W p, OwnD w W p (FD 1024 dt) → Calls Try.prog 20 #[.pointer (some ⟨p, 0, none⟩), .int .i64 1024, .int .i64 0] W fun e w' => e = .returned (.tuple #[]) ∧ OwnD w w' p ⟨fA dt, fA dt, [], -1, false⟩ := fun W p h => by
    have := h.crash 1024 0 (by decide)
    rw [fd_crash dt h.inv] at this; exact this
  obtain ⟨y1, y2, y3⟩ := fd_last dt hs
  have e7 : ∀ W p, OwnD w W p ⟨fA dt, fA dt, [], -1, false⟩ → Calls Try.prog 21 #[.pointer (some ⟨p, 0, none⟩), .string ⟨#[97]⟩] W fun e w' => e = .returned (.tuple #[.string dt, .int .i64 0]) ∧ w' = W := fun W p h => by
    have := h.read ⟨#[97]⟩ (by decide)
    rw [y1, y2] at this; exact this
  have e8 : ∀ W p, OwnD w W p ⟨fA dt, fA dt, [], -1, false⟩ → Calls Try.prog 15 #[.pointer (some ⟨p, 0, none⟩)] W fun e w' => e = .returned (.int .i64 0) ∧ w' = W := fun W p h => h.waiting
  have e9 : ∀ W p, OwnD w W p ⟨fA dt, fA dt, [], -1, false⟩ → Calls Try.prog 14 #[.pointer (some ⟨p, 0, none⟩), .string ⟨#[98]⟩, .int .i64 0, .string ⟨#[120]⟩] W fun e w' => e = .returned (.int .i64 0) ∧ Kp [] w w' := fun W p h => by
    have := h.write ⟨#[98]⟩ 0 ⟨#[120]⟩ (by decide) (by decide) (by decide) (by decide)
    rw [y3] at this; exact this.mono fun e w' hh => ⟨hh.1, hh.2.bel⟩
  have ST := hide st
  have WT := hide wt
  have E1 := hide e1
  have E2 := hide e2
  have E3 := hide e3
  have E4 := hide e4
  have E5 := hide e5
  have E6 := hide e6
  have E7 := hide e7
  have E8 := hide e8
  have E9 := hide e9
  have WK := hide works_any
  clear st wt e1 e2 e3 e4 e5 e6 e7 e8 e9 x1 x2 x3 x4 x5 x6 x7 x8 y1 y2 y3
  go_enter Try.func4, Try.ntmps4
  go_wp2_with fail
  refine (new_own w).mono ?_
  rintro e w1 ⟨p, rfl, o1⟩
  go_wp2_with fail
  refine (unhide WK w1).mono ?_
  rintro e w2 ⟨rfl, hk2⟩
  have o2 : OwnD w w2 p (FD 0 dt) := o1.kp hk2
  clear o1 hk2
  go_wp2
  go_loopw [6] (fun i wr => ∃ k : Nat, k ≤ 1024 ∧ i = .int .i64 (k : Int) ∧ OwnD w wr p (FD k dt)) (fun i _ => 1024 - (intOf i).toNat)
  case atStart => exact ⟨0, by omega, rfl, o2⟩
  case round =>
    clear o2
    obtain ⟨k, hk, rfl, ok⟩ := hrel
    by_cases hlt : k < 1024
    · have hli : (k : Int) < 1024 := by omega
      go_wp2_with fail
      refine (unhide ST wr p k hlt ok).mono ?_
      rintro e w3 ⟨rfl, o3⟩
      go_wp2_with fail
      refine (unhide WT w3 p (k + 1) o3).mono ?_
      rintro e w4 ⟨rfl, rfl⟩
      have hcast : ((k + 1 : Nat) : Int) = (k : Int) + 1 := by omega
      rw [hcast]
      clear hcast
      go_wp2
      go_roundw
      case rel => exact ⟨k + 1, by omega, by go_num, o3⟩
      case measure => simp [intOf]; omega
    · obtain rfl : k = 1024 := by omega
      go_wp2_with fail
      refine (unhide E1 wr p ok).mono ?_
      rintro e w3 ⟨rfl, o3⟩
      go_wp2_with fail
      refine (unhide E2 w3 p o3).mono ?_
      rintro e w4 ⟨rfl, o4⟩
      go_wp2_with fail
      refine (unhide E3 w4 p o4).mono ?_
      rintro e w5 ⟨rfl, o5⟩
      go_wp2_with fail
      refine (unhide E4 w5 p o5).mono ?_
      rintro e w6 ⟨rfl, o6⟩
      clear ok o3 o4 o5
      cases sy with
      | true =>
        go_wp2_with fail
        refine (unhide E5 w6 p o6).mono ?_
        rintro e w7 ⟨rfl, o7⟩
        go_wp2_with fail
        refine (unhide E7 w7 p o7).mono ?_
        rintro e w8 ⟨rfl, rfl⟩
        go_wp2_with fail
        refine (unhide E8 w8 p o7).mono ?_
        rintro e w9 ⟨rfl, rfl⟩
        go_wp2_with fail
        refine (unhide E9 w9 p o7).mono ?_
        rintro e w10 ⟨rfl, hk10⟩
        go_wp2
        go_ret
        exact ⟨rfl, hk10.below (Nat.le_refl _) (by simp)⟩
      | false =>
        go_wp2_with fail
        refine (unhide E6 w6 p o6).mono ?_
        rintro e w7 ⟨rfl, o7⟩
        go_wp2_with fail
        refine (unhide E7 w7 p o7).mono ?_
        rintro e w8 ⟨rfl, rfl⟩
        go_wp2_with fail
        refine (unhide E8 w8 p o7).mono ?_
        rintro e w9 ⟨rfl, rfl⟩
        go_wp2_with fail
        refine (unhide E9 w9 p o7).mono ?_
        rintro e w10 ⟨rfl, hk10⟩
        go_wp2
        go_ret
        exact ⟨rfl, hk10.below (Nat.le_refl _) (by simp)⟩
set_option maxHeartbeats 8000000 in
set_option maxRecDepth 100000 in
theorem full_long (sy : Bool) (dt s : ByteArray) (w : World) (hs : s.size ≤ 50) (hdt : dt.size ≤ 9223372036854775807) (hl : (50 : Int) < (dt.size : Int)) (hx : dt.extract 0 50 = s) :
    Calls Try.prog 4 #[.bool sy, .string dt] w fun e w' => e = .returned (.bool true) ∧ Below w.heap.size w w' := by
  have st : ∀ W p k, k < 1024 → OwnD w W p (FD k s) → Calls Try.prog 14 #[.pointer (some ⟨p, 0, none⟩), .string ⟨#[97]⟩, .int .i64 0, .string s] W fun e w' => e = .returned (.int .i64 0) ∧ OwnD w w' p (FD (k + 1) s) := fun W p k hk h => by
    have := h.write ⟨#[97]⟩ 0 s (by decide) (by decide) (by decide) (by omega)
    rw [(fd_step k s hs hk).1, (fd_step k s hs hk).2] at this; exact this
  have wt : ∀ W p k, OwnD w W p (FD k s) → Calls Try.prog 15 #[.pointer (some ⟨p, 0, none⟩)] W fun e w' => e = .returned (.int .i64 (k : Int)) ∧ w' = W := fun W p k h => by
    have := h.waiting
    rw [show (FD k s).wait.length = k by unfold FD; simp] at this; exact this
  obtain ⟨⟨x1, x2⟩, ⟨x3, x4⟩, ⟨x5, x6⟩, x7, x8⟩ := fd_end s hs
  have e1 : ∀ W p, OwnD w W p (FD 1024 s) → Calls Try.prog 14 #[.pointer (some ⟨p, 0, none⟩), .string ⟨#[97]⟩, .int .i64 0, .string ⟨#[]⟩] W fun e w' => e = .returned (.int .i64 32) ∧ OwnD w w' p (FD 1024 s) := fun W p h => by
    have := h.write ⟨#[97]⟩ 0 ⟨#[]⟩ (by decide) (by decide) (by decide) (by decide)
    rw [x1, x2] at this; exact this
  have e2 : ∀ W p, OwnD w W p (FD 1024 s) → Calls Try.prog 16 #[.pointer (some ⟨p, 0, none⟩), .string ⟨#[97]⟩, .int .i64 0] W fun e w' => e = .returned (.int .i64 32) ∧ OwnD w w' p (FD 1024 s) := fun W p h => by
    have := h.cut ⟨#[97]⟩ 0 (by decide) (by decide) (by decide)
    rw [x3, x4] at this; exact this
  have e3 : ∀ W p, OwnD w W p (FD 1024 s) → Calls Try.prog 17 #[.pointer (some ⟨p, 0, none⟩), .string ⟨#[97]⟩] W fun e w' => e = .returned (.int .i64 32) ∧ OwnD w w' p (FD 1024 s) := fun W p h => by
    have := h.remove ⟨#[97]⟩ (by decide)
    rw [x5, x6] at this; exact this
  have e4 : ∀ W p, OwnD w W p (FD 1024 s) → Calls Try.prog 18 #[.pointer (some ⟨p, 0, none⟩), .string ⟨#[97]⟩, .string ⟨#[98]⟩] W fun e w' => e = .returned (.int .i64 32) ∧ OwnD w w' p (FD 1024 s) := fun W p h => by
    have := h.rename ⟨#[97]⟩ ⟨#[98]⟩ (by decide) (by decide)
    rw [x7, x8] at this; exact this
  have e5 : ∀ W p, OwnD w W p (FD 1024 s) → Calls Try.prog 19 #[.pointer (some ⟨p, 0, none⟩)] W fun e w' => e = .returned (.int .i64 0) ∧ OwnD w w' p ⟨fA s, fA s, [], -1, false⟩ := fun W p h => by
    have := h.sync
    rw [(fd_sync s).1, (fd_sync s).2] at this; exact this
  have e6 : ∀ W p, OwnD w W p (FD 1024 s) → Calls Try.prog 20 #[.pointer (some ⟨p, 0, none⟩), .int .i64 1024, .int .i64 0] W fun e w' => e = .returned (.tuple #[]) ∧ OwnD w w' p ⟨fA s, fA s, [], -1, false⟩ := fun W p h => by
    have := h.crash 1024 0 (by decide)
    rw [fd_crash s h.inv] at this; exact this
  obtain ⟨y1, y2, y3⟩ := fd_last s hs
  have e7 : ∀ W p, OwnD w W p ⟨fA s, fA s, [], -1, false⟩ → Calls Try.prog 21 #[.pointer (some ⟨p, 0, none⟩), .string ⟨#[97]⟩] W fun e w' => e = .returned (.tuple #[.string s, .int .i64 0]) ∧ w' = W := fun W p h => by
    have := h.read ⟨#[97]⟩ (by decide)
    rw [y1, y2] at this; exact this
  have e8 : ∀ W p, OwnD w W p ⟨fA s, fA s, [], -1, false⟩ → Calls Try.prog 15 #[.pointer (some ⟨p, 0, none⟩)] W fun e w' => e = .returned (.int .i64 0) ∧ w' = W := fun W p h => h.waiting
  have e9 : ∀ W p, OwnD w W p ⟨fA s, fA s, [], -1, false⟩ → Calls Try.prog 14 #[.pointer (some ⟨p, 0, none⟩), .string ⟨#[98]⟩, .int .i64 0, .string ⟨#[120]⟩] W fun e w' => e = .returned (.int .i64 0) ∧ Kp [] w w' := fun W p h => by
    have := h.write ⟨#[98]⟩ 0 ⟨#[120]⟩ (by decide) (by decide) (by decide) (by decide)
    rw [y3] at this; exact this.mono fun e w' hh => ⟨hh.1, hh.2.bel⟩
  have ST := hide st
  have WT := hide wt
  have E1 := hide e1
  have E2 := hide e2
  have E3 := hide e3
  have E4 := hide e4
  have E5 := hide e5
  have E6 := hide e6
  have E7 := hide e7
  have E8 := hide e8
  have E9 := hide e9
  have WK := hide works_any
  clear st wt e1 e2 e3 e4 e5 e6 e7 e8 e9 x1 x2 x3 x4 x5 x6 x7 x8 y1 y2 y3
  go_enter Try.func4, Try.ntmps4
  go_wp2_with fail
  refine (new_own w).mono ?_
  rintro e w1 ⟨p, rfl, o1⟩
  go_wp2_with fail
  refine (unhide WK w1).mono ?_
  rintro e w2 ⟨rfl, hk2⟩
  have o2 : OwnD w w2 p (FD 0 s) := o1.kp hk2
  clear o1 hk2
  go_wp2
  go_loopw [6] (fun i wr => ∃ k : Nat, k ≤ 1024 ∧ i = .int .i64 (k : Int) ∧ OwnD w wr p (FD k s)) (fun i _ => 1024 - (intOf i).toNat)
  case atStart => exact ⟨0, by omega, rfl, o2⟩
  case round =>
    clear o2
    obtain ⟨k, hk, rfl, ok⟩ := hrel
    by_cases hlt : k < 1024
    · have hli : (k : Int) < 1024 := by omega
      go_wp2_with fail
      refine (unhide ST wr p k hlt ok).mono ?_
      rintro e w3 ⟨rfl, o3⟩
      go_wp2_with fail
      refine (unhide WT w3 p (k + 1) o3).mono ?_
      rintro e w4 ⟨rfl, rfl⟩
      have hcast : ((k + 1 : Nat) : Int) = (k : Int) + 1 := by omega
      rw [hcast]
      clear hcast
      go_wp2
      go_roundw
      case rel => exact ⟨k + 1, by omega, by go_num, o3⟩
      case measure => simp [intOf]; omega
    · obtain rfl : k = 1024 := by omega
      go_wp2_with fail
      refine (unhide E1 wr p ok).mono ?_
      rintro e w3 ⟨rfl, o3⟩
      go_wp2_with fail
      refine (unhide E2 w3 p o3).mono ?_
      rintro e w4 ⟨rfl, o4⟩
      go_wp2_with fail
      refine (unhide E3 w4 p o4).mono ?_
      rintro e w5 ⟨rfl, o5⟩
      go_wp2_with fail
      refine (unhide E4 w5 p o5).mono ?_
      rintro e w6 ⟨rfl, o6⟩
      clear ok o3 o4 o5
      cases sy with
      | true =>
        go_wp2_with fail
        refine (unhide E5 w6 p o6).mono ?_
        rintro e w7 ⟨rfl, o7⟩
        go_wp2_with fail
        refine (unhide E7 w7 p o7).mono ?_
        rintro e w8 ⟨rfl, rfl⟩
        go_wp2_with fail
        refine (unhide E8 w8 p o7).mono ?_
        rintro e w9 ⟨rfl, rfl⟩
        go_wp2_with fail
        refine (unhide E9 w9 p o7).mono ?_
        rintro e w10 ⟨rfl, hk10⟩
        go_wp2
        go_ret
        exact ⟨rfl, hk10.below (Nat.le_refl _) (by simp)⟩
      | false =>
        go_wp2_with fail
        refine (unhide E6 w6 p o6).mono ?_
        rintro e w7 ⟨rfl, o7⟩
        go_wp2_with fail
        refine (unhide E7 w7 p o7).mono ?_
        rintro e w8 ⟨rfl, rfl⟩
        go_wp2_with fail
        refine (unhide E8 w8 p o7).mono ?_
        rintro e w9 ⟨rfl, rfl⟩
        go_wp2_with fail
        refine (unhide E9 w9 p o7).mono ?_
        rintro e w10 ⟨rfl, hk10⟩
        go_wp2
        go_ret
        exact ⟨rfl, hk10.below (Nat.le_refl _) (by simp)⟩
theorem full_any (sy : Bool) (dt : ByteArray) (w : World) (hdt : dt.size ≤ 9223372036854775807) :
    Calls Try.prog 4 #[.bool sy, .string dt] w fun e w' => e = .returned (.bool true) ∧ Below w.heap.size w w' := by
  by_cases h : dt.size ≤ 50
  · exact full_short sy dt dt w h rfl
  · exact full_long sy dt (dt.extract 0 50) w (by simp; omega) hdt (by omega) rfl
end Go.Proofs.Ytpbmkbfcnhekoaa
