/-
  A trip: how it lies; a once's slow road: the lock is taken, the function is called, the mark is stored, the lock is let go.
-/
import Derived.Test.YtmcilconledabaaTrA
namespace Go.Proofs.Ytmcilconledabaa
open Go.RowKit

/-- A trip's cells: the room, what is used, the once (mark, lock, nobody waits), the reason. -/
def trC (r u d m a c : Int) : Array Value := #[.int .i64 r, .int .i64 u, .int .u32 d, .int .i32 m, .int .u32 0, .int .i64 a, .int .i64 c]

set_option maxRecDepth 100000 in
set_option maxHeartbeats 1600000 in
/-- The function that a once calls: the reason is laid, and that it was the first. -/
theorem fallFn (b pa pc pt pf : Nat) (r u d m a0 c0 at' code : Int) (ta tc tt tf : Nat) (nf : ¬ b = pf) (w : World)
    (HB : CBox b (trC r u d m a0 c0) 65 w) (HA : CBox pa #[.int .i64 at'] ta w) (HC : CBox pc #[.int .i64 code] tc w) (HT : CBox pt #[.pointer (some ⟨b, 0, none⟩)] tt w) (HF : CBox pf #[.bool false] tf w) :
    Calls Try.prog 23 #[.pointer (some ⟨pa, 0, none⟩), .pointer (some ⟨pc, 0, none⟩), .pointer (some ⟨pt, 0, none⟩), .pointer (some ⟨pf, 0, none⟩)] w fun e w' => e = .returned (.tuple #[]) ∧
      CBox b (trC r u d m at' code) 65 w' ∧ CBox pf #[.bool true] tf w' ∧ Kp [b, pf] w w' := by
  have ha := HA.cell (i := 0) rfl
  have hc := HC.cell (i := 0) rfl
  have ht := HT.cell (i := 0) rfl
  have h5 := HB.cell (i := 5) rfl
  have h6 := HB.cell (i := 6) rfl
  have z5 := HB.froz 5
  have z6 := HB.froz 6
  have hf := HF.cell (i := 0) rfl
  have zf := HF.froz 0
  have KB := hide HB
  have KF := hide HF
  clear HB HF HA HC HT
  go_enter Try.func23, Try.ntmps23
  go_wp2_with fail
  go_end0
  have k1 := ((unhide KB).set 5 (.int .i64 at')).set 6 (.int .i64 code)
  have k2 : Kp [b] w ((w.setCell ⟨b, 5, none⟩ (.int .i64 at')).setCell ⟨b, 6, none⟩ (.int .i64 code)) := (Kp.set w b 5 _).trans (Kp.set _ b 6 _) (fun x hx => Or.inl hx)
  have k3 := ((unhide KF).kp k2 (by simp; exact fun h => nf h.symm)).set 0 (.bool true)
  have k4 := k1.kp (Kp.set _ pf 0 (.bool true)) (by simp; exact nf)
  exact ⟨rfl, k4, k3, (k2.mono (by simp)).trans (Kp.set _ pf 0 _) (by simp)⟩

set_option maxRecDepth 100000 in
set_option maxHeartbeats 1600000 in
theorem onSlow (b pa pc pt pf : Nat) (r u a0 c0 at' code : Int) (ta tc tt tf : Nat) (na : ¬ b = pa) (nc : ¬ b = pc) (nt : ¬ b = pt) (nf : ¬ b = pf) (w : World)
    (HB : CBox b (trC r u 0 0 a0 c0) 65 w) (HA : CBox pa #[.int .i64 at'] ta w) (HC : CBox pc #[.int .i64 code] tc w) (HT : CBox pt #[.pointer (some ⟨b, 0, none⟩)] tt w) (HF : CBox pf #[.bool false] tf w) :
    Calls Try.prog 25 #[.pointer (some ⟨b, 2, none⟩), .func (.func 23) #[] #[.pointer (some ⟨pa, 0, none⟩), .pointer (some ⟨pc, 0, none⟩), .pointer (some ⟨pt, 0, none⟩), .pointer (some ⟨pf, 0, none⟩)]] w fun e w' => e = .returned (.tuple #[]) ∧
      CBox b (trC r u 1 0 at' code) 65 w' ∧ CBox pf #[.bool true] tf w' ∧ Kp [b, pf] w w' := by
  have L := hide (onLock ⟨b, 3, none⟩ w (HB.cell rfl) (HB.froz 3))
  have HB1 : Hid (CBox b (trC r u 0 1 a0 c0) 65 (w.setCell ⟨b, 3, none⟩ (.int .i32 1))) := hide (HB.set 3 _)
  have HK1 : Hid (Kp [b] w (w.setCell ⟨b, 3, none⟩ (.int .i32 1))) := hide (Kp.set w b 3 _)
  have HA1 := HA.kp (unhide HK1) (by simp; omega)
  have HC1 := HC.kp (unhide HK1) (by simp; omega)
  have HT1 := HT.kp (unhide HK1) (by simp; omega)
  have HF1 := HF.kp (unhide HK1) (by simp; omega)
  have FN := hide (fallFn b pa pc pt pf r u 0 1 a0 c0 at' code ta tc tt tf nf _ (unhide HB1) HA1 HC1 HT1 HF1)
  have NF := hide nf
  clear HB HA HC HT HF na nc nt nf HA1 HC1 HT1 HF1
  go_enter_defers Try.func25, Try.ntmps25
  go_wp2_with fail
  refine (unhide L).mono ?_
  rintro e w1 ⟨rfl, rfl⟩
  clear L
  generalize w.setCell ⟨b, 3, none⟩ (.int .i32 1) = w1 at *
  go_wp2_with fail
  refine (onLoad ⟨b, 2, none⟩ 0 w1 ((unhide HB1).cell rfl)).mono ?_
  rintro e w2 ⟨rfl, rfl⟩
  go_wp2_with fail
  refine (unhide FN).mono ?_
  rintro e w3 ⟨rfl, hb, hf, hk⟩
  have HB2 := hide hb
  have HF2 := hide hf
  have HK2 : Hid (Kp [b, pf] w w3) := hide (((unhide HK1).mono (by simp)).trans hk (fun x hx => Or.inl hx))
  clear hb hf hk FN HB1 HK1
  go_wp2_with fail
  refine leaves_cons (f := 29) (args := #[.pointer (some ⟨b, 2, none⟩), .bool true]) (by simp) (by simp [go_sem]) ?_
  refine (onStore ⟨b, 2, none⟩ (.int .u32 0) .returning _ ((unhide HB2).cell rfl) ((unhide HB2).froz 2)).mono ?_
  rintro e u' w4 ⟨rfl, rfl, rfl⟩
  have d1 : Kp [] w3 w3.drew := Kp.drew w3
  have HB3 := hide (((unhide HB2).kp d1 (by simp)).set 2 (.int .u32 1))
  refine leaves_cons (f := 28) (args := #[.pointer (some ⟨b, 3, none⟩)]) (by simp [settle]) (by simp [go_sem]) ?_
  refine (onUnlock ⟨b, 3, none⟩ _ _ ((unhide HB3).cell rfl) ((unhide HB3).froz 3)).mono ?_
  rintro e u' w5 ⟨rfl, rfl, rfl⟩
  have HB4 := hide ((unhide HB3).set 3 (.int .i32 0))
  have k1 : Kp [b] w3 ((w3.drew.setCell ⟨b, 2, none⟩ (.int .u32 1)).setCell ⟨b, 3, none⟩ (.int .i32 0)) := ((d1.mono (by simp)).trans (Kp.set _ b 2 _) (fun x hx => Or.inl hx)).trans (Kp.set _ b 3 _) (fun x hx => Or.inl hx)
  have k2 := (unhide HF2).kp k1 (by simp; exact fun h => unhide NF h.symm)
  have k3 : Kp [b, pf] w ((w3.drew.setCell ⟨b, 2, none⟩ (.int .u32 1)).setCell ⟨b, 3, none⟩ (.int .i32 0)) := (unhide HK2).trans k1 (by simp)
  have k4 : CBox b (trC r u 1 0 at' code) 65 ((w3.drew.setCell ⟨b, 2, none⟩ (.int .u32 1)).setCell ⟨b, 3, none⟩ (.int .i32 0)) := unhide HB4
  simp [Leaves, settle, results, Try.results25]
  exact ⟨k4, k2, k3⟩
end Go.Proofs.Ytmcilconledabaa
