/-
  A tape's refusals: giving up, and what is caught at a face.
-/
import Derived.Test.YtllkkflolijpaaaDoorDkW0
import Derived.Recover
namespace Go.Proofs.YtllkkflolijpaaaDoor
open Go.RowKit

/-- What a call gives up with. -/
def rfV (e : Int) : Value := .iface 78 (.agg #[.int .i64 e])
def pan (e : Int) : List PanicEntry := [{ v := rfV e, recovered := false }]
set_option maxHeartbeats 400000 in
theorem giveUp_any (e : Int) (w : World) : Calls Tryd.prog 37 #[.int .i64 e] w fun x w' => x = .panicked (pan e) ∧ w' = w := by
  go_enter Tryd.func37, Tryd.ntmps37
  go_wp2
  exact ⟨rfl, rfl, rfl⟩
set_option maxHeartbeats 400000 in
theorem mustBeOK_ok (w : World) : Calls Tryd.prog 23 #[.int .i64 0] w fun x w' => x = .returned (.tuple #[]) ∧ w' = w := by
  go_enter Tryd.func23, Tryd.ntmps23
  go_wp2
  go_end0
  exact ⟨rfl, rfl⟩
set_option maxHeartbeats 400000 in
theorem mustBeOK_not (e : Int) (he : e ≠ 0) (w : World) : Calls Tryd.prog 23 #[.int .i64 e] w fun x w' => x = .panicked (pan e) ∧ w' = w := by
  have hb : (e != 0) = true := by simpa using he
  go_enter Tryd.func23, Tryd.ntmps23
  go_wp2_with fail
  refine (giveUp_any e w).mono ?_
  rintro x w1 ⟨rfl, rfl⟩
  exact ⟨rfl, rfl, rfl⟩
theorem as_rf (v : Value) (w : World) : (Instr.typeAssert (.iface 78 v) 20 78 true).run Tryd.prog w = .ok (.tuple #[v, .bool true]) w := by kernel_rfl
set_option maxHeartbeats 400000 in
set_option maxRecDepth 100000 in
theorem codeOf_any (e : Int) (w : World) : Calls Tryd.prog 20 #[.iface 78 (.agg #[.int .i64 e])] w fun x w' => x = .returned (.int .i64 e) ∧ Kp [] w w' := by
  have ha := as_rf (.agg #[.int .i64 e])
  have HK := hide (Kp.alloc w (.cells #[.int .i64 e] 78))
  go_enter Tryd.func20, Tryd.ntmps20
  go_wp2
  go_ret
  exact ⟨rfl, unhide HK⟩
/-- What a world is behind a face that gave up: nothing turned but the answer's cell. -/
def Caught (p : Addr) (e : Int) (w w' : World) : Prop := ∃ w1, Kp [] w w1 ∧ w' = w1.setCell p (.int .i64 e)
set_option maxHeartbeats 400000 in
set_option maxRecDepth 100000 in
theorem open_caught (p : Nat) (x e : Int) (w : World) (hc : CBox p #[.int .i64 x] 28 w) :
    CallsD Tryd.prog 19 #[.pointer (some ⟨p, 0, none⟩)] (.panicking (pan e)) w fun r u' w' =>
      r = .returned (.tuple #[]) ∧ u' = .panicking [{ v := rfV e, recovered := true }] ∧ Caught ⟨p, 0, none⟩ e w w' := by
  have CO := hide (codeOf_any e w)
  have HC := hide hc
  clear hc
  refine callsD_of_wpS Tryd.func19 rfl fun c₀ cs hu => ?_
  apply wpS_seq
  apply wpS_region
  simp [wpOpsS, go_sem, recoverD, hu, pan, Tryd.ntmps19, Exit.thenS]
  apply wpS_seq
  apply wpS_region
  simp [wpOpsS, go_sem, rfV, Exit.thenS]
  refine wpS_cond (t := true) (by simp [Act.eval, Array.replicate]) ?_
  simp only [if_true]
  refine wpS_of_wp ?_
  go_wp2_with fail
  refine (unhide CO).mono ?_
  rintro r w1 ⟨rfl, hk⟩
  have b1 := (unhide HC).kp hk (by simp)
  have c0 : w1.cell? ⟨p, 0, none⟩ = some (.int .i64 x) := b1.cell rfl
  have f0 := b1.froz 0
  have HK := hide hk
  clear hk b1
  go_wp2
  exact ⟨rfl, _, rfl, .tuple #[], by simp [results, Tryd.results19], rfl, rfl, w1, unhide HK, rfl⟩
theorem open_idle (p : Addr) (w : World) :
    CallsD Tryd.prog 19 #[.pointer (some p)] .returning w fun e u' w' => e = .returned (.tuple #[]) ∧ u' = .returning ∧ w' = w := by
  refine callsD_of_wpS Tryd.func19 rfl fun c₀ cs hu => ?_
  apply wpS_seq
  apply wpS_region
  simp [wpOpsS, go_sem, recoverD, hu, Tryd.ntmps19, Exit.thenS]
  apply wpS_seq
  apply wpS_region
  simp [wpOpsS, go_sem, Exit.thenS]
  refine wpS_cond (t := false) (by simp [Act.eval, Array.replicate]) ?_
  simp only [Bool.false_eq_true, if_false]
  refine wpS_of_wp (wp_skip ?_)
  cases c₀
  simp_all [bodyPostS, results, Tryd.results19]
set_option maxHeartbeats 400000 in
set_option maxRecDepth 100000 in
theorem append_caught (p : Nat) (x e : Int) (w : World) (hc : CBox p #[.int .i64 x] 28 w) :
    CallsD Tryd.prog 25 #[.pointer (some ⟨p, 0, none⟩)] (.panicking (pan e)) w fun r u' w' =>
      r = .returned (.tuple #[]) ∧ u' = .panicking [{ v := rfV e, recovered := true }] ∧ Caught ⟨p, 0, none⟩ e w w' := by
  have CO := hide (codeOf_any e w)
  have HC := hide hc
  clear hc
  refine callsD_of_wpS Tryd.func25 rfl fun c₀ cs hu => ?_
  apply wpS_seq
  apply wpS_region
  simp [wpOpsS, go_sem, recoverD, hu, pan, Tryd.ntmps25, Exit.thenS]
  apply wpS_seq
  apply wpS_region
  simp [wpOpsS, go_sem, rfV, Exit.thenS]
  refine wpS_cond (t := true) (by simp [Act.eval, Array.replicate]) ?_
  simp only [if_true]
  refine wpS_of_wp ?_
  go_wp2_with fail
  refine (unhide CO).mono ?_
  rintro r w1 ⟨rfl, hk⟩
  have b1 := (unhide HC).kp hk (by simp)
  have c0 : w1.cell? ⟨p, 0, none⟩ = some (.int .i64 x) := b1.cell rfl
  have f0 := b1.froz 0
  have HK := hide hk
  clear hk b1
  go_wp2
  exact ⟨rfl, _, rfl, .tuple #[], by simp [results, Tryd.results25], rfl, rfl, w1, unhide HK, rfl⟩
theorem append_idle (p : Addr) (w : World) :
    CallsD Tryd.prog 25 #[.pointer (some p)] .returning w fun e u' w' => e = .returned (.tuple #[]) ∧ u' = .returning ∧ w' = w := by
  refine callsD_of_wpS Tryd.func25 rfl fun c₀ cs hu => ?_
  apply wpS_seq
  apply wpS_region
  simp [wpOpsS, go_sem, recoverD, hu, Tryd.ntmps25, Exit.thenS]
  apply wpS_seq
  apply wpS_region
  simp [wpOpsS, go_sem, Exit.thenS]
  refine wpS_cond (t := false) (by simp [Act.eval, Array.replicate]) ?_
  simp only [Bool.false_eq_true, if_false]
  refine wpS_of_wp (wp_skip ?_)
  cases c₀
  simp_all [bodyPostS, results, Tryd.results25]
set_option maxHeartbeats 400000 in
set_option maxRecDepth 100000 in
theorem sync_caught (p : Nat) (x e : Int) (w : World) (hc : CBox p #[.int .i64 x] 28 w) :
    CallsD Tryd.prog 22 #[.pointer (some ⟨p, 0, none⟩)] (.panicking (pan e)) w fun r u' w' =>
      r = .returned (.tuple #[]) ∧ u' = .panicking [{ v := rfV e, recovered := true }] ∧ Caught ⟨p, 0, none⟩ e w w' := by
  have CO := hide (codeOf_any e w)
  have HC := hide hc
  clear hc
  refine callsD_of_wpS Tryd.func22 rfl fun c₀ cs hu => ?_
  apply wpS_seq
  apply wpS_region
  simp [wpOpsS, go_sem, recoverD, hu, pan, Tryd.ntmps22, Exit.thenS]
  apply wpS_seq
  apply wpS_region
  simp [wpOpsS, go_sem, rfV, Exit.thenS]
  refine wpS_cond (t := true) (by simp [Act.eval, Array.replicate]) ?_
  simp only [if_true]
  refine wpS_of_wp ?_
  go_wp2_with fail
  refine (unhide CO).mono ?_
  rintro r w1 ⟨rfl, hk⟩
  have b1 := (unhide HC).kp hk (by simp)
  have c0 : w1.cell? ⟨p, 0, none⟩ = some (.int .i64 x) := b1.cell rfl
  have f0 := b1.froz 0
  have HK := hide hk
  clear hk b1
  go_wp2
  exact ⟨rfl, _, rfl, .tuple #[], by simp [results, Tryd.results22], rfl, rfl, w1, unhide HK, rfl⟩
theorem sync_idle (p : Addr) (w : World) :
    CallsD Tryd.prog 22 #[.pointer (some p)] .returning w fun e u' w' => e = .returned (.tuple #[]) ∧ u' = .returning ∧ w' = w := by
  refine callsD_of_wpS Tryd.func22 rfl fun c₀ cs hu => ?_
  apply wpS_seq
  apply wpS_region
  simp [wpOpsS, go_sem, recoverD, hu, Tryd.ntmps22, Exit.thenS]
  apply wpS_seq
  apply wpS_region
  simp [wpOpsS, go_sem, Exit.thenS]
  refine wpS_cond (t := false) (by simp [Act.eval, Array.replicate]) ?_
  simp only [Bool.false_eq_true, if_false]
  refine wpS_of_wp (wp_skip ?_)
  cases c₀
  simp_all [bodyPostS, results, Tryd.results22]
set_option maxHeartbeats 400000 in
set_option maxRecDepth 100000 in
theorem read_caught (p : Nat) (x e : Int) (w : World) (hc : CBox p #[.int .i64 x] 28 w) :
    CallsD Tryd.prog 30 #[.pointer (some ⟨p, 0, none⟩)] (.panicking (pan e)) w fun r u' w' =>
      r = .returned (.tuple #[]) ∧ u' = .panicking [{ v := rfV e, recovered := true }] ∧ Caught ⟨p, 0, none⟩ e w w' := by
  have CO := hide (codeOf_any e w)
  have HC := hide hc
  clear hc
  refine callsD_of_wpS Tryd.func30 rfl fun c₀ cs hu => ?_
  apply wpS_seq
  apply wpS_region
  simp [wpOpsS, go_sem, recoverD, hu, pan, Tryd.ntmps30, Exit.thenS]
  apply wpS_seq
  apply wpS_region
  simp [wpOpsS, go_sem, rfV, Exit.thenS]
  refine wpS_cond (t := true) (by simp [Act.eval, Array.replicate]) ?_
  simp only [if_true]
  refine wpS_of_wp ?_
  go_wp2_with fail
  refine (unhide CO).mono ?_
  rintro r w1 ⟨rfl, hk⟩
  have b1 := (unhide HC).kp hk (by simp)
  have c0 : w1.cell? ⟨p, 0, none⟩ = some (.int .i64 x) := b1.cell rfl
  have f0 := b1.froz 0
  have HK := hide hk
  clear hk b1
  go_wp2
  exact ⟨rfl, _, rfl, .tuple #[], by simp [results, Tryd.results30], rfl, rfl, w1, unhide HK, rfl⟩
theorem read_idle (p : Addr) (w : World) :
    CallsD Tryd.prog 30 #[.pointer (some p)] .returning w fun e u' w' => e = .returned (.tuple #[]) ∧ u' = .returning ∧ w' = w := by
  refine callsD_of_wpS Tryd.func30 rfl fun c₀ cs hu => ?_
  apply wpS_seq
  apply wpS_region
  simp [wpOpsS, go_sem, recoverD, hu, Tryd.ntmps30, Exit.thenS]
  apply wpS_seq
  apply wpS_region
  simp [wpOpsS, go_sem, Exit.thenS]
  refine wpS_cond (t := false) (by simp [Act.eval, Array.replicate]) ?_
  simp only [Bool.false_eq_true, if_false]
  refine wpS_of_wp (wp_skip ?_)
  cases c₀
  simp_all [bodyPostS, results, Tryd.results30]
set_option maxHeartbeats 400000 in
set_option maxRecDepth 100000 in
theorem last_caught (p : Nat) (x e : Int) (w : World) (hc : CBox p #[.int .i64 x] 28 w) :
    CallsD Tryd.prog 36 #[.pointer (some ⟨p, 0, none⟩)] (.panicking (pan e)) w fun r u' w' =>
      r = .returned (.tuple #[]) ∧ u' = .panicking [{ v := rfV e, recovered := true }] ∧ Caught ⟨p, 0, none⟩ e w w' := by
  have CO := hide (codeOf_any e w)
  have HC := hide hc
  clear hc
  refine callsD_of_wpS Tryd.func36 rfl fun c₀ cs hu => ?_
  apply wpS_seq
  apply wpS_region
  simp [wpOpsS, go_sem, recoverD, hu, pan, Tryd.ntmps36, Exit.thenS]
  apply wpS_seq
  apply wpS_region
  simp [wpOpsS, go_sem, rfV, Exit.thenS]
  refine wpS_cond (t := true) (by simp [Act.eval, Array.replicate]) ?_
  simp only [if_true]
  refine wpS_of_wp ?_
  go_wp2_with fail
  refine (unhide CO).mono ?_
  rintro r w1 ⟨rfl, hk⟩
  have b1 := (unhide HC).kp hk (by simp)
  have c0 : w1.cell? ⟨p, 0, none⟩ = some (.int .i64 x) := b1.cell rfl
  have f0 := b1.froz 0
  have HK := hide hk
  clear hk b1
  go_wp2
  exact ⟨rfl, _, rfl, .tuple #[], by simp [results, Tryd.results36], rfl, rfl, w1, unhide HK, rfl⟩
theorem last_idle (p : Addr) (w : World) :
    CallsD Tryd.prog 36 #[.pointer (some p)] .returning w fun e u' w' => e = .returned (.tuple #[]) ∧ u' = .returning ∧ w' = w := by
  refine callsD_of_wpS Tryd.func36 rfl fun c₀ cs hu => ?_
  apply wpS_seq
  apply wpS_region
  simp [wpOpsS, go_sem, recoverD, hu, Tryd.ntmps36, Exit.thenS]
  apply wpS_seq
  apply wpS_region
  simp [wpOpsS, go_sem, Exit.thenS]
  refine wpS_cond (t := false) (by simp [Act.eval, Array.replicate]) ?_
  simp only [Bool.false_eq_true, if_false]
  refine wpS_of_wp (wp_skip ?_)
  cases c₀
  simp_all [bodyPostS, results, Tryd.results36]
end Go.Proofs.YtllkkflolijpaaaDoor
