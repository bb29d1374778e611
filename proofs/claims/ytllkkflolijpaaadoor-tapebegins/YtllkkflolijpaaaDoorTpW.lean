/-
  works: the chapter's example holds.
-/
import Derived.Test.YtllkkflolijpaaaDoorTpJ
namespace Go.Proofs.YtllkkflolijpaaaDoor
open Go.RowKit

def tk1 : Dk := Dk.new.apD ⟨#[97]⟩ ⟨#[97]⟩
def tk2 : Dk := tk1.syD
def tk3 : Dk := tk2.apD ⟨#[97]⟩ ⟨#[98]⟩
def tk4 : Dk := tk3.apD ⟨#[97]⟩ ⟨#[99]⟩
def tk5 : Dk := tk4.crash 1 5
theorem tkE : Dk.new.opE ⟨#[97]⟩ = 0 ∧ Dk.new.opL ⟨#[97]⟩ = [] ∧ Dk.new.apE ⟨#[97]⟩ ⟨#[97]⟩ = 0 ∧ tk1.syE = 0 ∧ tk2.apE ⟨#[97]⟩ ⟨#[98]⟩ = 0 ∧ tk3.apE ⟨#[97]⟩ ⟨#[99]⟩ = 0 ∧ tk5.opE ⟨#[97]⟩ = 0 ∧ tk5.opL ⟨#[97]⟩ = [[97], [98]] := by decide +kernel
theorem tkD : Dk.new.opD ⟨#[97]⟩ = Dk.new := rfl
/-- The calls where all goes well, as one way. -/
theorem OwnD.topenOk {w0 w : World} {p : Nat} {d : Dk} {n : ByteArray} (h : OwnD w0 w p d) (hT : TabW w0) (hs : n.size ≤ 9223372036854775807) (he : d.opE n = 0) :
    Calls Tryd.prog 8 #[.pointer (some ⟨p, 0, none⟩), .string n] w fun r w' => ∃ t v, r = .returned (.tuple #[.pointer (some ⟨t, 0, none⟩), .int .i64 0]) ∧ OwnT w0 w' p (d.opD n) t n v (d.opL n) ∧ Oth [] w w' ∧ w.heap.size ≤ t ∧ ∀ k, v.ownBlock = some k → w.heap.size ≤ k :=
  (h.topen hT hs).mono fun r w' hh => by
    rcases hh with ⟨_, t, v, h1⟩ | ⟨h1, _⟩
    · exact ⟨t, v, h1⟩
    · exact absurd he h1
theorem OwnT.appendOk {w0 w : World} {p t : Nat} {d : Dk} {n : ByteArray} {v : Value} {ts : List (List UInt8)} (h : OwnT w0 w p d t n v ts) (s : ByteArray) (hT : TabW w0) (hts : ts.length ≤ 1000000) (hs : s.size ≤ 9223372036854775807) (he : d.apE n s = 0) :
    Calls Tryd.prog 13 #[.pointer (some ⟨t, 0, none⟩), .string s] w fun r w' => r = .returned (.int .i64 0) ∧ ∃ v', OwnT w0 w' p (d.apD n s) t n v' (ts ++ [s.data.toList]) ∧ Oth (t :: v.ownBlock.toList) w w' ∧ (v'.ownBlock = v.ownBlock ∨ ∀ k, v'.ownBlock = some k → w.heap.size ≤ k) :=
  (h.append s hT hts hs).mono fun r w' hh => by
    rcases hh with ⟨_, h1⟩ | ⟨h1, _⟩
    · exact h1
    · exact absurd he h1
set_option maxHeartbeats 2000000 in
set_option maxRecDepth 100000 in
theorem works_any (w : World) (hT : TabW w) : Calls Tryd.prog 7 #[] w fun e w' => e = .returned (.bool true) ∧ Kp [] w w' := by
  obtain ⟨e1, e2, e3, e4, e5, e6, e7, e8⟩ := tkE
  have st1 : ∀ W p, OwnD w W p Dk.new → Calls Tryd.prog 8 #[.pointer (some ⟨p, 0, none⟩), .string ⟨#[97]⟩] W fun r w' => ∃ t v, r = .returned (.tuple #[.pointer (some ⟨t, 0, none⟩), .int .i64 0]) ∧ OwnT w w' p Dk.new t ⟨#[97]⟩ v [] := fun W p h => by
    have := h.topenOk (n := ⟨#[97]⟩) hT (by decide) e1
    rw [e2, tkD] at this
    exact this.mono fun r w' ⟨t, v, h1, h2, _⟩ => ⟨t, v, h1, h2⟩
  have st2 : ∀ W p t v, OwnT w W p Dk.new t ⟨#[97]⟩ v [] → Calls Tryd.prog 13 #[.pointer (some ⟨t, 0, none⟩), .string ⟨#[97]⟩] W fun r w' => r = .returned (.int .i64 0) ∧ ∃ v ts, OwnT w w' p tk1 t ⟨#[97]⟩ v ts ∧ ts.length = 1 := fun W p t v h =>
    (h.appendOk ⟨#[97]⟩ hT (by simp) (by decide) e3).mono fun r w' ⟨h1, v', h2, _⟩ => ⟨h1, v', _, h2, rfl⟩
  have st3 : ∀ W p t v ts, OwnT w W p tk1 t ⟨#[97]⟩ v ts → Calls Tryd.prog 9 #[.pointer (some ⟨t, 0, none⟩)] W fun r w' => r = .returned (.int .i64 0) ∧ OwnT w w' p tk2 t ⟨#[97]⟩ v ts := fun W p t v ts h => by
    have := h.sync
    rw [e4] at this
    exact this.mono fun r w' ⟨h1, h2, _⟩ => ⟨h1, h2⟩
  have st4 : ∀ W p t v ts, OwnT w W p tk2 t ⟨#[97]⟩ v ts → ts.length = 1 → Calls Tryd.prog 13 #[.pointer (some ⟨t, 0, none⟩), .string ⟨#[98]⟩] W fun r w' => r = .returned (.int .i64 0) ∧ ∃ v ts, OwnT w w' p tk3 t ⟨#[97]⟩ v ts ∧ ts.length = 2 := fun W p t v ts h hl =>
    (h.appendOk ⟨#[98]⟩ hT (by omega) (by decide) e5).mono fun r w' ⟨h1, v', h2, _⟩ => ⟨h1, v', _, h2, by rw [List.length_append, hl]; rfl⟩
  have st5 : ∀ W p t v ts, OwnT w W p tk3 t ⟨#[97]⟩ v ts → ts.length = 2 → Calls Tryd.prog 13 #[.pointer (some ⟨t, 0, none⟩), .string ⟨#[99]⟩] W fun r w' => r = .returned (.int .i64 0) ∧ OwnD w w' p tk4 := fun W p t v ts h hl =>
    (h.appendOk ⟨#[99]⟩ hT (by omega) (by decide) e6).mono fun r w' ⟨h1, v', h2, _⟩ => ⟨h1, h2.own⟩
  have st6 : ∀ W p, OwnD w W p tk4 → Calls Tryd.prog 14 #[.pointer (some ⟨p, 0, none⟩), .int .i64 1, .int .i64 5] W fun e w' => e = .returned (.tuple #[]) ∧ OwnD w w' p tk5 := fun W p h => h.crash 1 5 (by decide)
  have st7 : ∀ W p, OwnD w W p tk5 → Calls Tryd.prog 8 #[.pointer (some ⟨p, 0, none⟩), .string ⟨#[97]⟩] W fun r w' => ∃ t v, r = .returned (.tuple #[.pointer (some ⟨t, 0, none⟩), .int .i64 0]) ∧ TpAt w' t p ⟨#[97]⟩ v [[97], [98]] ∧ Kp [] w w' := fun W p h => by
    have := h.topenOk (n := ⟨#[97]⟩) hT (by decide) e7
    rw [e8] at this
    exact this.mono fun r w' ⟨t, v, h1, h2, _⟩ => ⟨t, v, h1, h2.at, h2.bel⟩
  have S1 := hide st1
  have S2 := hide st2
  have S3 := hide st3
  have S4 := hide st4
  have S5 := hide st5
  have S6 := hide st6
  have S7 := hide st7
  clear e1 e2 e3 e4 e5 e6 e7 e8 st1 st2 st3 st4 st5 st6 st7 hT
  go_enter Tryd.func7, Tryd.ntmps7
  go_wp2_with fail
  refine (new_own w).mono ?_
  rintro e w1 ⟨p, rfl, o1⟩
  go_wp2_with fail
  refine (unhide S1 w1 p o1).mono ?_
  rintro e w2 ⟨t, v, rfl, o2⟩
  go_wp2_with fail
  refine (unhide S2 w2 p t v o2).mono ?_
  rintro e w3 ⟨rfl, v3, ts3, o3, l3⟩
  have L3 := hide l3
  clear l3
  go_wp2_with fail
  refine (unhide S3 w3 p t v3 ts3 o3).mono ?_
  rintro e w5 ⟨rfl, o4⟩
  go_wp2_with fail
  refine (unhide S4 w5 p t v3 ts3 o4 (unhide L3)).mono ?_
  rintro e w6 ⟨rfl, v5, ts5, o5, l5⟩
  have L5 := hide l5
  clear l5
  go_wp2_with fail
  refine (unhide S5 w6 p t v5 ts5 o5 (unhide L5)).mono ?_
  rintro e w7 ⟨rfl, o6⟩
  go_wp2_with fail
  refine (unhide S6 w7 p o6).mono ?_
  rintro e w8 ⟨rfl, o7⟩
  go_wp2_with fail
  refine (unhide S7 w8 p o7).mono ?_
  rintro e w9 ⟨t9, v9, rfl, o8, k8⟩
  go_wp2_with fail
  refine (len_any t9 p ⟨#[97]⟩ v9 _ w9 o8).mono ?_
  rintro e w10 ⟨rfl, rfl⟩
  go_wp2_with fail
  refine (last_ok t9 p ⟨#[97]⟩ v9 _ 1 rfl w10 o8).mono ?_
  rintro e w11 ⟨rfl, k11⟩
  have HK := hide (k8.trans k11 (by simp))
  clear k8 k11
  go_wp2
  go_ret
  exact ⟨rfl, unhide HK⟩
end Go.Proofs.YtllkkflolijpaaaDoor
