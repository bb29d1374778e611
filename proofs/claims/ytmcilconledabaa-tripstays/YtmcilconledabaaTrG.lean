/-
  A trip of the call's own: its calls, and that all else stays.
-/
import Derived.Test.YtmcilconledabaaTrD
namespace Go.Proofs.Ytmcilconledabaa
open Go.RowKit

structure GS (b : Nat) (s : TS) (w0 w : World) : Prop where
  tr : Tr b s w
  lb : w0.heap.size ≤ b
  kp : Kp [] w0 w
theorem GS.next {b : Nat} {s : TS} {w0 w w' : World} (h : GS b s w0 w) (hk : Kp [] w w') : GS b s w0 w' := ⟨h.tr.kp hk (by simp), h.lb, kp_tr h.kp hk⟩
theorem GS.to {b : Nat} {s t : TS} {w0 w w' : World} (h : GS b s w0 w) (ht : Tr b t w') (hk : Kp [b] w w') : GS b t w0 w' := ⟨ht, h.lb, kp_own h.kp hk h.lb⟩
theorem gs_fail (b : Nat) (s : TS) (x pl : Int) (w0 w : World) (h : GS b s w0 w) : Calls Try.prog 10 #[.pointer (some ⟨b, 0, none⟩), .int .i64 x, .int .i64 pl] w fun e w' => e = .returned (.tuple #[.bool (faB s x), .int .i64 (faE x)]) ∧ GS b (faS s x pl) w0 w' :=
  (trFail_any b s x pl w h.tr).mono fun _ _ hh => ⟨hh.1, h.to hh.2.1 hh.2.2⟩
theorem gs_use (b : Nat) (s : TS) (n pl : Int) (w0 w : World) (h : GS b s w0 w) : Calls Try.prog 12 #[.pointer (some ⟨b, 0, none⟩), .int .i64 n, .int .i64 pl] w fun e w' => e = .returned (.int .i64 (usE s n)) ∧ GS b (usS s n pl) w0 w' :=
  (trUse_any b s n pl w h.tr).mono fun _ _ hh => ⟨hh.1, h.to hh.2.1 hh.2.2⟩
theorem gs_back (b : Nat) (s : TS) (n : Int) (w0 w : World) (h : GS b s w0 w) : Calls Try.prog 14 #[.pointer (some ⟨b, 0, none⟩), .int .i64 n] w fun e w' => e = .returned (.int .i64 (baE s n)) ∧ GS b (baS s n) w0 w' :=
  (trBack_any b s n w h.tr).mono fun _ _ hh => ⟨hh.1, h.to hh.2.1 hh.2.2⟩
theorem gs_fallen (b : Nat) (s : TS) (w0 w : World) (h : GS b s w0 w) : Calls Try.prog 16 #[.pointer (some ⟨b, 0, none⟩)] w fun e w' => e = .returned (.tuple #[.agg #[.int .i64 s.pl, .int .i64 s.code], .bool (decide (¬ s.code = 0))]) ∧ GS b s w0 w' :=
  (trFallen_any b s w h.tr).mono fun _ _ hh => ⟨hh.1, h.next hh.2⟩
theorem gs_room (b : Nat) (s : TS) (w0 w : World) (h : GS b s w0 w) : Calls Try.prog 17 #[.pointer (some ⟨b, 0, none⟩)] w fun e w' => e = .returned (.int .i64 (s.room - s.used)) ∧ GS b s w0 w' :=
  (trRoom_any b s w h.tr).mono fun _ _ hh => ⟨hh.1, h.next hh.2⟩
end Go.Proofs.Ytmcilconledabaa
