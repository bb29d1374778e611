/-
  A disk that the call itself made.
-/
import Derived.Test.YtllkkflolijpaaaDoorDkL
namespace Go.Proofs.YtllkkflolijpaaaDoor
open Go.RowKit

/-- A disk of the call's own. -/
def OwnD (w0 w : World) (p : Nat) (d : Dk) : Prop := ∃ F, DiskAt w p d F ∧ Kp [] w0 w ∧ ∀ k ∈ F, w0.heap.size ≤ k
theorem OwnD.kp {w0 w w' : World} {p : Nat} {d : Dk} (h : OwnD w0 w p d) (hk : Kp [] w w') : OwnD w0 w' p d := by
  obtain ⟨F, hd, h1, h2⟩ := h
  exact ⟨F, hd.kp hk (by simp), h1.trans hk (by simp), h2⟩
theorem OwnD.bel {w0 w : World} {p : Nat} {d : Dk} (h : OwnD w0 w p d) : Kp [] w0 w := let ⟨_, _, h1, _⟩ := h; h1
theorem OwnD.inv {w0 w : World} {p : Nat} {d : Dk} (h : OwnD w0 w p d) : Inv d := let ⟨_, h1, _⟩ := h; h1.inv
theorem OwnD.nodup {w0 w : World} {p : Nat} {d : Dk} (h : OwnD w0 w p d) : (d.now.map (·.1)).Nodup := let ⟨_, h1, _⟩ := h; h1.nodup
theorem OwnD.did {w0 w w' : World} {p : Nat} {d d' : Dk} (h : OwnD w0 w p d) (hn : ∀ F, DiskAt w p d F → Did w F p d' w') : OwnD w0 w' p d' := by
  obtain ⟨F, hd, h1, h2⟩ := h
  obtain ⟨F', hd', h3, h4⟩ := hn F hd
  refine ⟨F', hd', h1.trans h3 (fun x hx => Or.inr (h2 x hx)), fun k hk => ?_⟩
  rcases h4 k hk with h5 | h5
  · exact h2 k h5
  · have := h1.size; omega
theorem OwnD.step {w0 w : World} {p : Nat} {d d' : Dk} {f : Nat} {args : Array Value} {r : Ending} (h : OwnD w0 w p d) (hc : ∀ F, DiskAt w p d F → Calls Tryd.prog f args w fun e w' => e = r ∧ Did w F p d' w') : Calls Tryd.prog f args w fun e w' => e = r ∧ OwnD w0 w' p d' := by
  obtain ⟨F, hd, h1, h2⟩ := h
  refine (hc F hd).mono fun e w' hh => ⟨hh.1, ?_⟩
  obtain ⟨F', hd', h3, h4⟩ := hh.2
  refine ⟨F', hd', h1.trans h3 (fun x hx => Or.inr (h2 x hx)), fun k hk => ?_⟩
  rcases h4 k hk with h5 | h5
  · exact h2 k h5
  · have := h1.size; omega
theorem new_own (w : World) : Calls Tryd.prog 6 #[] w fun e w' => ∃ p, e = .returned (.pointer (some ⟨p, 0, none⟩)) ∧ OwnD w w' p Dk.new :=
  (new_any w).mono fun _ _ ⟨p, F, he, hd, hk, hF⟩ => ⟨p, he, F, hd, hk, hF⟩
section
variable {w0 w : World} {p : Nat} {d : Dk}
theorem OwnD.write (h : OwnD w0 w p d) (n : ByteArray) (m : Int) (s : ByteArray) (hn : n.size ≤ 9223372036854775807) (hm0 : -9223372036854775808 ≤ m) (hm1 : m ≤ 9223372036854775807) (hs : s.size ≤ 9223372036854775807) :
    Calls Tryd.prog 17 #[.pointer (some ⟨p, 0, none⟩), .string n, .int .i64 m, .string s] w fun e w' => e = .returned (.int .i64 (d.wrE n m s)) ∧ OwnD w0 w' p (d.wrD n m s) := h.step fun F hd => write_any n m s p d F w hd hn hm0 hm1 hs
theorem OwnD.cut (h : OwnD w0 w p d) (n : ByteArray) (m : Int) (hn : n.size ≤ 9223372036854775807) (hm0 : -9223372036854775808 ≤ m) (hm1 : m ≤ 9223372036854775807) :
    Calls Tryd.prog 41 #[.pointer (some ⟨p, 0, none⟩), .string n, .int .i64 m] w fun e w' => e = .returned (.int .i64 (d.ctE n m)) ∧ OwnD w0 w' p (d.ctD n m) := h.step fun F hd => cut_any n m p d F w hd hn hm0 hm1
theorem OwnD.sync (h : OwnD w0 w p d) : Calls Tryd.prog 24 #[.pointer (some ⟨p, 0, none⟩)] w fun e w' => e = .returned (.int .i64 d.syE) ∧ OwnD w0 w' p d.syD := h.step fun F hd => sync_any p d F w hd
theorem OwnD.crash (h : OwnD w0 w p d) (k t : Int) (ht : t ≤ 9223372036854775807) : Calls Tryd.prog 14 #[.pointer (some ⟨p, 0, none⟩), .int .i64 k, .int .i64 t] w fun e w' => e = .returned (.tuple #[]) ∧ OwnD w0 w' p (d.crash k t) := h.step fun F hd => crash_any k t p d F w hd ht
theorem OwnD.read (h : OwnD w0 w p d) (n : ByteArray) (hn : n.size ≤ 9223372036854775807) :
    Calls Tryd.prog 16 #[.pointer (some ⟨p, 0, none⟩), .string n] w fun e w' => e = .returned (.tuple #[.string (d.rdS n), .int .i64 (d.rdE n)]) ∧ w' = w := let ⟨F, hd, _⟩ := h; read_any n p d F w hd hn
end
theorem CBox.froz {g : Nat} {cs : Array Value} {t : TypeId} {w : World} (h : CBox g cs t w) (i : Nat) : w.frozen? ⟨g, i, none⟩ = false := by
  unfold CBox at h
  simp [World.frozen?, h]
theorem Kp.set (w : World) (p i : Nat) (v : Value) : Kp [p] w (w.setCell ⟨p, i, none⟩ v) :=
  ⟨rfl, rfl, rfl, by simp [World.setCell], fun k _ hn => Below.heap_setCell _ _ _ _ (by simpa using hn)⟩
theorem Kp.drewQ (w : World) (n : Nat) : Kp [] w (w.drewN n) := ⟨rfl, rfl, rfl, Nat.le_refl _, fun _ _ _ => rfl⟩
end Go.Proofs.YtllkkflolijpaaaDoor
