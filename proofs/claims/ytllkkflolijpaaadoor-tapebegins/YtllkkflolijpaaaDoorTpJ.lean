/-
  A tape of the call's own, on a disk of the call's own; what else stays; works of tapes.
-/
import Derived.Test.YtllkkflolijpaaaDoorTpI
import Derived.Test.YtllkkflolijpaaaDoorDkFu
namespace Go.Proofs.YtllkkflolijpaaaDoor
open Go.RowKit

/-- What else stays: all cells of other types, but some blocks. -/
structure Oth (X : List Nat) (w w' : World) : Prop where
  os : w'.os = w.os
  tape : w'.tape = w.tape
  output : w'.output = w.output
  size : w.heap.size ≤ w'.heap.size
  block : ∀ k cur t f, w.heap[k]? = some (.cells cur t f) → t ≠ 5 → t ≠ 68 → t ≠ 57 → k ∉ X → w'.heap[k]? = some (.cells cur t f)
theorem Oth.refl (X : List Nat) (w : World) : Oth X w w := ⟨rfl, rfl, rfl, Nat.le_refl _, fun _ _ _ _ h _ _ _ _ => h⟩
theorem Oth.trans {X : List Nat} {a b c : World} (h : Oth X a b) (k : Oth X b c) : Oth X a c :=
  ⟨k.os.trans h.os, k.tape.trans h.tape, k.output.trans h.output, Nat.le_trans h.size k.size, fun i cur t f hi h1 h2 h3 hn => k.block i cur t f (h.block i cur t f hi h1 h2 h3 hn) h1 h2 h3 hn⟩
theorem Oth.mono {X Y : List Nat} {a b : World} (h : Oth X a b) (hY : ∀ x ∈ X, x ∈ Y) : Oth Y a b := ⟨h.os, h.tape, h.output, h.size, fun i cur t f hi h1 h2 h3 hn => h.block i cur t f hi h1 h2 h3 (fun hm => hn (hY i hm))⟩
theorem Oth.of {w w' : World} (h : Kp [] w w') (X : List Nat) : Oth X w w' := ⟨h.os, h.tape, h.output, h.size, fun i _ _ _ hi _ _ _ _ => (h.block i (Array.getElem?_eq_some_iff.1 hi).1 (by simp)).trans hi⟩
theorem Oth.disk {w w' : World} {p : Nat} {d : Dk} {F X : List Nat} (hd : DiskAt w p d F) (h : Kp (X ++ F) w w') : Oth X w w' :=
  ⟨h.os, h.tape, h.output, h.size, fun i _ _ _ hi h1 h2 h3 hn => (h.block i (Array.getElem?_eq_some_iff.1 hi).1 (by
    rw [List.mem_append]
    rintro (e | e)
    · exact hn e
    · exact hd.no hi h1 h2 h3 e)).trans hi⟩
theorem OwnsS.oth {B : Nat} {X : List Nat} {w w' : World} {v : Value} {ts : List (List UInt8)} (h : OwnsS B w v ts) (hk : Oth X w w') (hF : ∀ k, v.ownBlock = some k → k ∉ X) : OwnsS B w' v ts := by
  obtain ⟨h1, h2 | ⟨g, cp, cur, rfl, hb, hh, r⟩⟩ := h
  · exact ⟨h1, Or.inl h2⟩
  · exact ⟨h1, Or.inr ⟨g, cp, cur, rfl, hb, hk.block g _ _ _ hh (by decide) (by decide) (by decide) (hF g rfl), r⟩⟩
theorem CBox.oth {g : Nat} {cs : Array Value} {t : TypeId} {w w' : World} {X : List Nat} (h : CBox g cs t w) (hk : Oth X w w') (h1 : t ≠ 5) (h2 : t ≠ 68) (h3 : t ≠ 57) (hg : g ∉ X) : CBox g cs t w' := hk.block g _ _ _ h h1 h2 h3 hg
/-- A tape of the call's own. -/
def OwnT (w0 w : World) (p : Nat) (d : Dk) (t : Nat) (n : ByteArray) (v : Value) (ts : List (List UInt8)) : Prop :=
  ∃ F, DiskAt w p d F ∧ TpAt w t p n v ts ∧ Kp [] w0 w ∧ (∀ k ∈ F, w0.heap.size ≤ k) ∧ w0.heap.size ≤ t ∧ ∀ k, v.ownBlock = some k → w0.heap.size ≤ k
section
variable {w0 w w' : World} {p t : Nat} {d : Dk} {n : ByteArray} {v : Value} {ts : List (List UInt8)}
theorem OwnT.own (h : OwnT w0 w p d t n v ts) : OwnD w0 w p d := let ⟨F, a, _, b, c, _⟩ := h; ⟨F, a, b, c⟩
theorem OwnT.at (h : OwnT w0 w p d t n v ts) : TpAt w t p n v ts := let ⟨_, _, a, _⟩ := h; a
theorem OwnT.bel (h : OwnT w0 w p d t n v ts) : Kp [] w0 w := h.own.bel
theorem OwnT.ge (h : OwnT w0 w p d t n v ts) : w0.heap.size ≤ t ∧ ∀ k, v.ownBlock = some k → w0.heap.size ≤ k := let ⟨_, _, _, _, _, a⟩ := h; a
theorem OwnT.kp (h : OwnT w0 w p d t n v ts) (hk : Kp [] w w') : OwnT w0 w' p d t n v ts := by
  obtain ⟨F, hd, ht, h1, h2, h3⟩ := h
  exact ⟨F, hd.kp hk (by simp), ht.kp hk (by simp) (by simp), h1.trans hk (by simp), h2, h3⟩
/-- A call of the disk, a tape beside it. -/
theorem OwnT.did {d' : Dk} (h : OwnT w0 w p d t n v ts) (hn : ∀ F, DiskAt w p d F → Did w F p d' w') : OwnT w0 w' p d' t n v ts ∧ Oth [] w w' := by
  obtain ⟨F, hd, ht, h1, h2, h3⟩ := h
  obtain ⟨F', hd', hk, hF'⟩ := hn F hd
  obtain ⟨n1, n2⟩ := ht.no hd
  refine ⟨⟨F', hd', ht.kp hk n1 (fun k hk => (n2 k hk).1), h1.trans hk (fun x hx => Or.inr (h2 x hx)), fun k hk => ?_, h3⟩, Oth.disk hd hk⟩
  rcases hF' k hk with h5 | h5
  · exact h2 k h5
  · have := h1.size; omega
theorem OwnD.did2 {d' : Dk} (h : OwnD w0 w p d) (hn : ∀ F, DiskAt w p d F → Did w F p d' w') : OwnD w0 w' p d' ∧ Oth [] w w' := by
  refine ⟨h.did hn, ?_⟩
  obtain ⟨F, hd, h1, h2⟩ := h
  obtain ⟨F', hd', hk, hF'⟩ := hn F hd
  exact Oth.disk hd hk
theorem OwnT.added {d' : Dk} {ts' : List (List UInt8)} (h : OwnT w0 w p d t n v ts) (hn : ∀ F, DiskAt w p d F → Added w F p d' n t v ts' w') : ∃ v', OwnT w0 w' p d' t n v' ts' ∧ Oth (t :: v.ownBlock.toList) w w' ∧ (v'.ownBlock = v.ownBlock ∨ ∀ k, v'.ownBlock = some k → w.heap.size ≤ k) := by
  obtain ⟨F, hd, ht, h1, h2, h3, h4⟩ := h
  obtain ⟨F', v', hd', ht', hk, hF', hv'⟩ := hn F hd
  have hs := h1.size
  refine ⟨v', ⟨F', hd', ht', h1.trans hk (fun x hx => Or.inr ?_), fun k hk => ?_, h3, fun k hk => ?_⟩, Oth.disk hd hk, hv'⟩
  · rw [List.mem_cons, List.mem_append] at hx
    rcases hx with rfl | hx | hx
    · exact h3
    · exact h4 x (by simpa using hx)
    · exact h2 x hx
  · rcases hF' k hk with h5 | h5
    · exact h2 k h5
    · omega
  · rcases hv' with h5 | h5
    · exact h4 k (by rw [← h5]; exact hk)
    · have := h5 k hk; omega
theorem OwnD.opened {d' : Dk} (h : OwnD w0 w p d) (hn : ∀ F, DiskAt w p d F → Opened w F p d' n t v ts w') : OwnT w0 w' p d' t n v ts ∧ Oth [] w w' ∧ w.heap.size ≤ t ∧ ∀ k, v.ownBlock = some k → w.heap.size ≤ k := by
  obtain ⟨F, hd, h1, h2⟩ := h
  obtain ⟨⟨F', hd', hk, hF'⟩, ht', h3, h4⟩ := hn F hd
  have hs := h1.size
  refine ⟨⟨F', hd', ht', h1.trans hk (fun x hx => Or.inr (h2 x hx)), fun k hk => ?_, by omega, fun k hk => by have := h4 k hk; omega⟩, Oth.disk hd hk, h3, h4⟩
  rcases hF' k hk with h5 | h5
  · exact h2 k h5
  · omega
theorem OwnD.topen (h : OwnD w0 w p d) (hT : TabW w0) (hs : n.size ≤ 9223372036854775807) :
    Calls Tryd.prog 8 #[.pointer (some ⟨p, 0, none⟩), .string n] w fun r w' =>
      (d.opE n = 0 ∧ ∃ t v, r = .returned (.tuple #[.pointer (some ⟨t, 0, none⟩), .int .i64 0]) ∧ OwnT w0 w' p (d.opD n) t n v (d.opL n) ∧ Oth [] w w' ∧ w.heap.size ≤ t ∧ ∀ k, v.ownBlock = some k → w.heap.size ≤ k) ∨ (d.opE n ≠ 0 ∧ r = .returned (.tuple #[.pointer none, .int .i64 (d.opE n)]) ∧ OwnD w0 w' p (d.opD n) ∧ Oth [] w w') := by
  obtain ⟨F, hd, h1, h2⟩ := id h
  refine (topen_any p n d F w hd (hT.kp h1 (by simp)) hs).mono fun r w' hh => ?_
  rcases hh with ⟨he, t, v, hr, ho⟩ | ⟨he, hr, ho⟩
  · obtain ⟨⟨F', hd', hk, hF'⟩, ht', h3, h4⟩ := ho
    have hs := h1.size
    refine Or.inl ⟨he, t, v, hr, ⟨F', hd', ht', h1.trans hk (fun x hx => Or.inr (h2 x hx)), fun k hk => ?_, by omega, fun k hk => by have := h4 k hk; omega⟩, Oth.disk hd hk, h3, h4⟩
    rcases hF' k hk with h5 | h5
    · exact h2 k h5
    · omega
  · obtain ⟨F', hd', hk, hF'⟩ := ho
    refine Or.inr ⟨he, hr, ⟨F', hd', h1.trans hk (fun x hx => Or.inr (h2 x hx)), fun k hk => ?_⟩, Oth.disk hd hk⟩
    rcases hF' k hk with h5 | h5
    · exact h2 k h5
    · have := h1.size; omega
theorem OwnT.append (h : OwnT w0 w p d t n v ts) (s : ByteArray) (hT : TabW w0) (hts : ts.length ≤ 1000000) (hs : s.size ≤ 9223372036854775807) :
    Calls Tryd.prog 13 #[.pointer (some ⟨t, 0, none⟩), .string s] w fun r w' =>
      (d.apE n s = 0 ∧ r = .returned (.int .i64 0) ∧ ∃ v', OwnT w0 w' p (d.apD n s) t n v' (ts ++ [s.data.toList]) ∧ Oth (t :: v.ownBlock.toList) w w' ∧ (v'.ownBlock = v.ownBlock ∨ ∀ k, v'.ownBlock = some k → w.heap.size ≤ k)) ∨ (d.apE n s ≠ 0 ∧ r = .returned (.int .i64 (d.apE n s)) ∧ OwnT w0 w' p (d.apD n s) t n v ts ∧ Oth [] w w') := by
  obtain ⟨F, hd, ht, h1, h2, h3, h4⟩ := id h
  refine (tappend_any t p n v ts s d F w ht hd (hT.kp h1 (by simp)) hts hs).mono fun r w' hh => ?_
  have hsz := h1.size
  rcases hh with ⟨he, hr, ho⟩ | ⟨he, hr, ho⟩
  · obtain ⟨F', v', hd', ht', hk, hF', hv'⟩ := ho
    refine Or.inl ⟨he, hr, v', ⟨F', hd', ht', h1.trans hk (fun x hx => Or.inr ?_), fun k hk => ?_, h3, fun k hk => ?_⟩, Oth.disk hd hk, hv'⟩
    · rw [List.mem_cons, List.mem_append] at hx
      rcases hx with rfl | hx | hx
      · exact h3
      · exact h4 x (by simpa using hx)
      · exact h2 x hx
    · rcases hF' k hk with h5 | h5
      · exact h2 k h5
      · omega
    · rcases hv' with h5 | h5
      · exact h4 k (by rw [← h5]; exact hk)
      · have := h5 k hk; omega
  · obtain ⟨F', hd', hk, hF'⟩ := ho
    obtain ⟨n1, n2⟩ := ht.no hd
    refine Or.inr ⟨he, hr, ⟨F', hd', ht.kp hk n1 (fun k hk => (n2 k hk).1), h1.trans hk (fun x hx => Or.inr (h2 x hx)), fun k hk => ?_, h3, h4⟩, Oth.disk hd hk⟩
    rcases hF' k hk with h5 | h5
    · exact h2 k h5
    · omega
theorem OwnT.step {d' : Dk} {f : Nat} {args : Array Value} {r : Ending} (h : OwnT w0 w p d t n v ts) (hc : ∀ F, DiskAt w p d F → Calls Tryd.prog f args w fun e w' => e = r ∧ Did w F p d' w') : Calls Tryd.prog f args w fun e w' => e = r ∧ OwnT w0 w' p d' t n v ts ∧ Oth [] w w' := by
  obtain ⟨F, hd, ht, h1, h2, h3⟩ := id h
  refine (hc F hd).mono fun e w' hh => ⟨hh.1, ?_⟩
  obtain ⟨F', hd', hk, hF'⟩ := hh.2
  obtain ⟨n1, n2⟩ := ht.no hd
  refine ⟨⟨F', hd', ht.kp hk n1 (fun k hk => (n2 k hk).1), h1.trans hk (fun x hx => Or.inr (h2 x hx)), fun k hk => ?_, h3⟩, Oth.disk hd hk⟩
  rcases hF' k hk with h5 | h5
  · exact h2 k h5
  · have := h1.size; omega
theorem OwnT.sync (h : OwnT w0 w p d t n v ts) : Calls Tryd.prog 9 #[.pointer (some ⟨t, 0, none⟩)] w fun e w' => e = .returned (.int .i64 d.syE) ∧ OwnT w0 w' p d.syD t n v ts ∧ Oth [] w w' := h.step fun F hd => tsync_any t p n v ts d F w h.at hd
theorem OwnT.crash (h : OwnT w0 w p d t n v ts) (k u : Int) (hu : u ≤ 9223372036854775807) : Calls Tryd.prog 14 #[.pointer (some ⟨p, 0, none⟩), .int .i64 k, .int .i64 u] w fun e w' => e = .returned (.tuple #[]) ∧ OwnT w0 w' p (d.crash k u) t n v ts ∧ Oth [] w w' := h.step fun F hd => crash_any k u p d F w hd hu
theorem OwnT.fuse (h : OwnT w0 w p d t n v ts) (k : Int) (hk : k ≤ 9223372036854775807) : Calls Tryd.prog 11 #[.pointer (some ⟨p, 0, none⟩), .int .i64 k] w fun e w' => e = .returned (.int .i64 (Dk.fuE k)) ∧ OwnT w0 w' p (d.fuD k) t n v ts ∧ Oth [] w w' := h.step fun F hd => fuse_any p d F k w hd hk
theorem OwnT.write (h : OwnT w0 w p d t n v ts) (a : ByteArray) (m : Int) (s : ByteArray) (hn : a.size ≤ 9223372036854775807) (hm0 : -9223372036854775808 ≤ m) (hm1 : m ≤ 9223372036854775807) (hs : s.size ≤ 9223372036854775807) :
    Calls Tryd.prog 17 #[.pointer (some ⟨p, 0, none⟩), .string a, .int .i64 m, .string s] w fun e w' => e = .returned (.int .i64 (d.wrE a m s)) ∧ OwnT w0 w' p (d.wrD a m s) t n v ts ∧ Oth [] w w' := h.step fun F hd => write_any a m s p d F w hd hn hm0 hm1 hs
end
end Go.Proofs.YtllkkflolijpaaaDoor
