/-
  A disk that the call itself made; works of disks.
-/
import Derived.Test.YtpbmkbfcnhekoaaDkL
namespace Go.Proofs.Ytpbmkbfcnhekoaa
open Go.RowKit

/-- A disk of the call's own. -/
def OwnD (w0 w : World) (p : Nat) (d : Dk) : Prop := ∃ F, DiskAt w p d F ∧ Kp [] w0 w ∧ ∀ k ∈ F, w0.heap.size ≤ k
theorem OwnD.kp {w0 w w' : World} {p : Nat} {d : Dk} (h : OwnD w0 w p d) (hk : Kp [] w w') : OwnD w0 w' p d := by
  obtain ⟨F, hd, h1, h2⟩ := h
  exact ⟨F, hd.kp hk (by simp), h1.trans hk (by simp), h2⟩
theorem OwnD.bel {w0 w : World} {p : Nat} {d : Dk} (h : OwnD w0 w p d) : Kp [] w0 w := let ⟨_, _, h1, _⟩ := h; h1
theorem OwnD.inv {w0 w : World} {p : Nat} {d : Dk} (h : OwnD w0 w p d) : Inv d := let ⟨_, h1, _⟩ := h; h1.inv
theorem OwnD.nodup {w0 w : World} {p : Nat} {d : Dk} (h : OwnD w0 w p d) : (d.now.map (·.1)).Nodup := let ⟨_, h1, _⟩ := h; h1.nodup
theorem OwnD.did {w0 w w' : World} {p : Nat} {d d' : Dk} (h : OwnD w0 w p d) (hn : ∀ F, DiskAt w p d F → Did w F p d' w') : OwnD w0 w' p d' := by
  obtain ⟨F, hd, h1, h2⟩ := h
  obtain ⟨F', hd', h3, h4⟩ := hn F hd
  refine ⟨F', hd', h1.trans h3 (fun x hx => Or.inr (h2 x hx)), fun k hk => ?_⟩
  rcases h4 k hk with h5 | h5
  · exact h2 k h5
  · have := h1.size; omega
theorem OwnD.step {w0 w : World} {p : Nat} {d d' : Dk} {f : Nat} {args : Array Value} {r : Ending} (h : OwnD w0 w p d) (hc : ∀ F, DiskAt w p d F → Calls Try.prog f args w fun e w' => e = r ∧ Did w F p d' w') : Calls Try.prog f args w fun e w' => e = r ∧ OwnD w0 w' p d' := by
  obtain ⟨F, hd, h1, h2⟩ := h
  refine (hc F hd).mono fun e w' hh => ⟨hh.1, ?_⟩
  obtain ⟨F', hd', h3, h4⟩ := hh.2
  refine ⟨F', hd', h1.trans h3 (fun x hx => Or.inr (h2 x hx)), fun k hk => ?_⟩
  rcases h4 k hk with h5 | h5
  · exact h2 k h5
  · have := h1.size; omega
theorem new_own (w : World) : Calls Try.prog 9 #[] w fun e w' => ∃ p, e = .returned (.pointer (some ⟨p, 0, none⟩)) ∧ OwnD w w' p Dk.new :=
  (new_any w).mono fun _ _ ⟨p, F, he, hd, hk, hF⟩ => ⟨p, he, F, hd, hk, hF⟩
section
variable {w0 w : World} {p : Nat} {d : Dk}
theorem OwnD.write (h : OwnD w0 w p d) (n : ByteArray) (m : Int) (s : ByteArray) (hn : n.size ≤ 9223372036854775807) (hm0 : -9223372036854775808 ≤ m) (hm1 : m ≤ 9223372036854775807) (hs : s.size ≤ 9223372036854775807) :
    Calls Try.prog 14 #[.pointer (some ⟨p, 0, none⟩), .string n, .int .i64 m, .string s] w fun e w' => e = .returned (.int .i64 (d.wrE n m s)) ∧ OwnD w0 w' p (d.wrD n m s) := h.step fun F hd => write_any n m s p d F w hd hn hm0 hm1 hs
theorem OwnD.cut (h : OwnD w0 w p d) (n : ByteArray) (m : Int) (hn : n.size ≤ 9223372036854775807) (hm0 : -9223372036854775808 ≤ m) (hm1 : m ≤ 9223372036854775807) :
    Calls Try.prog 16 #[.pointer (some ⟨p, 0, none⟩), .string n, .int .i64 m] w fun e w' => e = .returned (.int .i64 (d.ctE n m)) ∧ OwnD w0 w' p (d.ctD n m) := h.step fun F hd => cut_any n m p d F w hd hn hm0 hm1
theorem OwnD.rename (h : OwnD w0 w p d) (a b : ByteArray) (ha : a.size ≤ 9223372036854775807) (hb : b.size ≤ 9223372036854775807) :
    Calls Try.prog 18 #[.pointer (some ⟨p, 0, none⟩), .string a, .string b] w fun e w' => e = .returned (.int .i64 (d.rnE a b)) ∧ OwnD w0 w' p (d.rnD a b) := h.step fun F hd => rename_any a b p d F w hd ha hb
theorem OwnD.remove (h : OwnD w0 w p d) (n : ByteArray) (hn : n.size ≤ 9223372036854775807) :
    Calls Try.prog 17 #[.pointer (some ⟨p, 0, none⟩), .string n] w fun e w' => e = .returned (.int .i64 (d.rmE n)) ∧ OwnD w0 w' p (d.rmD n) := h.step fun F hd => remove_any n p d F w hd hn
theorem OwnD.sync (h : OwnD w0 w p d) : Calls Try.prog 19 #[.pointer (some ⟨p, 0, none⟩)] w fun e w' => e = .returned (.int .i64 d.syE) ∧ OwnD w0 w' p d.syD := h.step fun F hd => sync_any p d F w hd
theorem OwnD.crash (h : OwnD w0 w p d) (k t : Int) (ht : t ≤ 9223372036854775807) : Calls Try.prog 20 #[.pointer (some ⟨p, 0, none⟩), .int .i64 k, .int .i64 t] w fun e w' => e = .returned (.tuple #[]) ∧ OwnD w0 w' p (d.crash k t) := h.step fun F hd => crash_any k t p d F w hd ht
theorem OwnD.read (h : OwnD w0 w p d) (n : ByteArray) (hn : n.size ≤ 9223372036854775807) :
    Calls Try.prog 21 #[.pointer (some ⟨p, 0, none⟩), .string n] w fun e w' => e = .returned (.tuple #[.string (d.rdS n), .int .i64 (d.rdE n)]) ∧ w' = w := let ⟨F, hd, _⟩ := h; read_any n p d F w hd hn
theorem OwnD.waiting (h : OwnD w0 w p d) : Calls Try.prog 15 #[.pointer (some ⟨p, 0, none⟩)] w fun e w' => e = .returned (.int .i64 (d.wait.length : Int)) ∧ w' = w := let ⟨F, hd, _⟩ := h; waiting_any p d F w hd
end
def sA : ByteArray := ⟨#[97]⟩
def sB : ByteArray := ⟨#[98]⟩
def kD1 : Dk := Dk.new.wrD ⟨#[97]⟩ 0 ⟨#[120, 121]⟩
def kD2 : Dk := kD1.syD
def kD3 : Dk := kD2.wrD ⟨#[97]⟩ 2 ⟨#[122]⟩
def kD4 : Dk := kD3.wrD ⟨#[98]⟩ 0 ⟨#[117, 118]⟩
def kD5 : Dk := kD4.crash 1 1
theorem kE : Dk.new.wrE ⟨#[97]⟩ 0 ⟨#[120, 121]⟩ = 0 ∧ kD1.syE = 0 ∧ kD2.wrE ⟨#[97]⟩ 2 ⟨#[122]⟩ = 0 ∧ kD3.wrE ⟨#[98]⟩ 0 ⟨#[117, 118]⟩ = 0 ∧ kD5.rdE ⟨#[97]⟩ = 0 ∧ kD5.rdE ⟨#[98]⟩ = 0 ∧ kD5.rdS ⟨#[97]⟩ = ⟨#[120, 121, 122]⟩ ∧ kD5.rdS ⟨#[98]⟩ = ⟨#[117]⟩ ∧ (kD5.wait.length : Int) = 0 := by decide +kernel
set_option maxHeartbeats 2000000 in
set_option maxRecDepth 100000 in
theorem works_any (w : World) : Calls Try.prog 13 #[] w fun e w' => e = .returned (.bool true) ∧ Kp [] w w' := by
  obtain ⟨e1, e2, e3, e4, e5, e6, e7, e8, e9⟩ := kE
  have st1 : ∀ W p, OwnD w W p Dk.new → Calls Try.prog 14 #[.pointer (some ⟨p, 0, none⟩), .string ⟨#[97]⟩, .int .i64 0, .string ⟨#[120, 121]⟩] W fun e w' => e = .returned (.int .i64 0) ∧ OwnD w w' p kD1 := fun W p h => by
    have := h.write ⟨#[97]⟩ 0 ⟨#[120, 121]⟩ (by decide) (by decide) (by decide) (by decide)
    rw [e1] at this; exact this
  have st2 : ∀ W p, OwnD w W p kD1 → Calls Try.prog 19 #[.pointer (some ⟨p, 0, none⟩)] W fun e w' => e = .returned (.int .i64 0) ∧ OwnD w w' p kD2 := fun W p h => by
    have := h.sync
    rw [e2] at this; exact this
  have st3 : ∀ W p, OwnD w W p kD2 → Calls Try.prog 14 #[.pointer (some ⟨p, 0, none⟩), .string ⟨#[97]⟩, .int .i64 2, .string ⟨#[122]⟩] W fun e w' => e = .returned (.int .i64 0) ∧ OwnD w w' p kD3 := fun W p h => by
    have := h.write ⟨#[97]⟩ 2 ⟨#[122]⟩ (by decide) (by decide) (by decide) (by decide)
    rw [e3] at this; exact this
  have st4 : ∀ W p, OwnD w W p kD3 → Calls Try.prog 14 #[.pointer (some ⟨p, 0, none⟩), .string ⟨#[98]⟩, .int .i64 0, .string ⟨#[117, 118]⟩] W fun e w' => e = .returned (.int .i64 0) ∧ OwnD w w' p kD4 := fun W p h => by
    have := h.write ⟨#[98]⟩ 0 ⟨#[117, 118]⟩ (by decide) (by decide) (by decide) (by decide)
    rw [e4] at this; exact this
  have st5 : ∀ W p, OwnD w W p kD4 → Calls Try.prog 20 #[.pointer (some ⟨p, 0, none⟩), .int .i64 1, .int .i64 1] W fun e w' => e = .returned (.tuple #[]) ∧ OwnD w w' p kD5 := fun W p h => h.crash 1 1 (by decide)
  have st6 : ∀ W p, OwnD w W p kD5 → Calls Try.prog 21 #[.pointer (some ⟨p, 0, none⟩), .string ⟨#[97]⟩] W fun e w' => e = .returned (.tuple #[.string ⟨#[120, 121, 122]⟩, .int .i64 0]) ∧ w' = W := fun W p h => by
    have := h.read ⟨#[97]⟩ (by decide)
    rw [e5, e7] at this; exact this
  have st7 : ∀ W p, OwnD w W p kD5 → Calls Try.prog 21 #[.pointer (some ⟨p, 0, none⟩), .string ⟨#[98]⟩] W fun e w' => e = .returned (.tuple #[.string ⟨#[117]⟩, .int .i64 0]) ∧ w' = W := fun W p h => by
    have := h.read ⟨#[98]⟩ (by decide)
    rw [e6, e8] at this; exact this
  have st8 : ∀ W p, OwnD w W p kD5 → Calls Try.prog 15 #[.pointer (some ⟨p, 0, none⟩)] W fun e w' => e = .returned (.int .i64 0) ∧ w' = W := fun W p h => by
    have := h.waiting
    rw [e9] at this; exact this
  have S1 := hide st1
  have S2 := hide st2
  have S3 := hide st3
  have S4 := hide st4
  have S5 := hide st5
  have S6 := hide st6
  have S7 := hide st7
  have S8 := hide st8
  clear e1 e2 e3 e4 e5 e6 e7 e8 e9 st1 st2 st3 st4 st5 st6 st7 st8
  go_enter Try.func13, Try.ntmps13
  go_wp2_with fail
  refine (new_own w).mono ?_
  rintro e w1 ⟨p, rfl, o1⟩
  go_wp2_with fail
  refine (unhide S1 w1 p o1).mono ?_
  rintro e w2 ⟨rfl, o2⟩
  go_wp2_with fail
  refine (unhide S2 w2 p o2).mono ?_
  rintro e w3 ⟨rfl, o3⟩
  go_wp2_with fail
  refine (unhide S3 w3 p o3).mono ?_
  rintro e w4 ⟨rfl, o4⟩
  go_wp2_with fail
  refine (unhide S4 w4 p o4).mono ?_
  rintro e w5 ⟨rfl, o5⟩
  go_wp2_with fail
  refine (unhide S5 w5 p o5).mono ?_
  rintro e w6 ⟨rfl, o6⟩
  go_wp2_with fail
  refine (unhide S6 w6 p o6).mono ?_
  rintro e w7 ⟨rfl, rfl⟩
  go_wp2_with fail
  refine (unhide S7 w7 p o6).mono ?_
  rintro e w8 ⟨rfl, rfl⟩
  go_wp2_with fail
  refine (unhide S8 w8 p o6).mono ?_
  rintro e w9 ⟨rfl, rfl⟩
  go_wp2
  go_ret
  exact ⟨rfl, o6.bel⟩
end Go.Proofs.Ytpbmkbfcnhekoaa
