/-
  The program's disk and the document's beside one another; a call of both.
-/
import Derived.Test.YtfnljfkgkadlaaaG22
import Derived.Test.YtfnljfkgkadlaaaG23
import Derived.Test.YtfnljfkgkadlaaaG24
import Derived.Test.YtfnljfkgkadlaaaG12
import Derived.Deep.RegionHeld3
namespace Go.Proofs.Ytfnljfkgkadlaaa
open Go.RowKit

/-- Both disks lie there, apart. -/
def PairD (w0 w : World) (p q : Nat) (d e : Dk) : Prop := ∃ F G, DiskAt w p d F ∧ RDk w q e G ∧ Kp [] w0 w ∧ (∀ k ∈ F, w0.heap.size ≤ k ∧ k ∉ G) ∧ ∀ k ∈ G, w0.heap.size ≤ k
/-- Both disks, and an act's box. -/
def PairB (w0 w : World) (p q b : Nat) (cs : Array Value) (d e : Dk) : Prop := ∃ F G, DiskAt w p d F ∧ RDk w q e G ∧ Kp [] w0 w ∧ (∀ k ∈ F, w0.heap.size ≤ k ∧ k ∉ G) ∧ (∀ k ∈ G, w0.heap.size ≤ k) ∧ CBox b cs 29 w ∧ b ∉ F ∧ b ∉ G
section
variable {w0 w w' : World} {p q b : Nat} {cs : Array Value} {d e : Dk}
theorem PairD.bel (h : PairD w0 w p q d e) : Kp [] w0 w := let ⟨_, _, _, _, h1, _⟩ := h; h1
theorem PairD.inv (h : PairD w0 w p q d e) : Inv d := let ⟨_, _, h1, _⟩ := h; h1.inv
theorem PairD.nodup (h : PairD w0 w p q d e) : (d.now.map (·.1)).Nodup := let ⟨_, _, h1, _⟩ := h; h1.nodup
theorem PairD.kp (h : PairD w0 w p q d e) (hk : Kp [] w w') : PairD w0 w' p q d e := by
  obtain ⟨F, G, a, c, e1, f, g⟩ := h
  exact ⟨F, G, a.kp hk (by simp), c.kp hk (by simp), e1.trans hk (by simp), f, g⟩
theorem PairB.pair (h : PairB w0 w p q b cs d e) : PairD w0 w p q d e := let ⟨F, G, h1, h2, h3, h4, h5, _⟩ := h; ⟨F, G, h1, h2, h3, h4, h5⟩
theorem PairB.box (h : PairB w0 w p q b cs d e) : CBox b cs 29 w := let ⟨_, _, _, _, _, _, _, h1, _⟩ := h; h1
theorem PairD.alloc (h : PairD w0 w p q d e) (cs : Array Value) : PairB w0 (w.alloc (.cells cs 29)) p q w.heap.size cs d e := by
  obtain ⟨F, G, a, c, e1, f, g⟩ := h
  have hk := Kp.alloc w (.cells cs 29)
  exact ⟨F, G, a.kp hk (by simp), c.kp hk (by simp), e1.trans hk (by simp), f, g, CBox.new _ _ _, fun hm => Nat.lt_irrefl _ (a.lt _ hm), fun hm => Nat.lt_irrefl _ (c.lt _ hm)⟩
theorem PairB.kp (h : PairB w0 w p q b cs d e) (hk : Kp [] w w') : PairB w0 w' p q b cs d e := by
  obtain ⟨F, G, a, c, e1, f, g, i, j, k⟩ := h
  exact ⟨F, G, a.kp hk (by simp), c.kp hk (by simp), e1.trans hk (by simp), f, g, i.kp hk (by simp), j, k⟩
theorem PairB.lt (h : PairB w0 w p q b cs d e) : b < w.heap.size := (Array.getElem?_eq_some_iff.1 h.box).1
theorem PairB.left {d' : Dk} {f : Nat} {args : Array Value} {r : Ending} (h : PairB w0 w p q b cs d e) (hc : ∀ F, DiskAt w p d F → Calls Try.prog f args w fun e w' => e = r ∧ Did w F p d' w') : Calls Try.prog f args w fun e1 w' => e1 = r ∧ PairB w0 w' p q b cs d' e := by
  have hb := h.lt
  obtain ⟨F, G, hd, he, hk, hF, hG, hx, hbF, hbG⟩ := h
  refine (hc F hd).mono fun e1 w' hh => ⟨hh.1, ?_⟩
  obtain ⟨F', hd', h3, h4⟩ := hh.2
  refine ⟨F', G, hd', he.kp h3 (fun k hk hm => (hF k hm).2 hk), hk.trans h3 (fun x hx => Or.inr (hF x hx).1), fun k hk1 => ?_, hG, hx.kp h3 hbF, fun hm => ?_, hbG⟩
  · rcases h4 k hk1 with h5 | h5
    · exact hF k h5
    · have := hk.size
      exact ⟨by omega, fun hm => by have := he.lt k hm; omega⟩
  · rcases h4 _ hm with h5 | h5
    · exact hbF h5
    · omega
theorem PairB.right {e' : Dk} {f : Nat} {args : Array Value} {r : Ending} (h : PairB w0 w p q b cs d e) (hc : ∀ F, RDk w q e F → Calls Try.prog f args w fun e1 w' => e1 = r ∧ RDid w F q e' w') : Calls Try.prog f args w fun e1 w' => e1 = r ∧ PairB w0 w' p q b cs d e' := by
  have hb := h.lt
  obtain ⟨F, G, hd, he, hk, hF, hG, hx, hbF, hbG⟩ := h
  refine (hc G he).mono fun e1 w' hh => ⟨hh.1, ?_⟩
  obtain ⟨G', he', h3, h4⟩ := hh.2
  refine ⟨F, G', hd.kp h3 (fun k hk hm => (hF k hk).2 hm), he', hk.trans h3 (fun x hx => Or.inr (hG x hx)), fun k hk1 => ⟨(hF k hk1).1, fun hm => ?_⟩, fun k hk1 => ?_, hx.kp h3 hbG, hbF, fun hm => ?_⟩
  · rcases h4 k hm with h5 | h5
    · exact (hF k hk1).2 h5
    · have := hd.lt k hk1; omega
  · rcases h4 k hk1 with h5 | h5
    · exact hG k h5
    · have := hk.size
      omega
  · rcases h4 _ hm with h5 | h5
    · exact hbG h5
    · omega
end
/-- An act as cells. -/
def acC (a : Ac) : Array Value := #[.int .i64 a.kind, .string a.nm, .string a.to, .int .i64 a.pos, .int .i64 a.n]
theorem PairB.cells {w0 w : World} {p q b : Nat} {a : Ac} {d e : Dk} (h : PairB w0 w p q b (acC a) d e) : w.cell? ⟨b, 0, none⟩ = some (.int .i64 a.kind) ∧ w.cell? ⟨b, 1, none⟩ = some (.string a.nm) ∧ w.cell? ⟨b, 2, none⟩ = some (.string a.to) ∧ w.cell? ⟨b, 3, none⟩ = some (.int .i64 a.pos) ∧ w.cell? ⟨b, 4, none⟩ = some (.int .i64 a.n) :=
  ⟨h.box.cell rfl, h.box.cell rfl, h.box.cell rfl, h.box.cell rfl, h.box.cell rfl⟩
set_option maxHeartbeats 1000000 in
set_option maxRecDepth 100000 in
theorem step_0 (a : Ac) (p q : Nat) (d : Dk) (w0 w : World) (h : PairD w0 w p q d d) (hok : a.ok) (hz : a.to.size ≤ 140737488355328) (hk : a.kind % 8 = 0) :
    Calls Try.prog 6 #[.pointer (some ⟨p, 0, none⟩), .pointer (some ⟨q, 0, none⟩), .agg #[.int .i64 a.kind, .string a.nm, .string a.to, .int .i64 a.pos, .int .i64 a.n]] w fun e w' => e = .returned (.bool true) ∧ ∃ d', PairD w0 w' p q d' d' ∧ (Srt d.safe → Srt d'.safe) := by
  obtain ⟨_, hn, ht, ⟨m0, m1⟩, _⟩ := hok
  have AM := hide (fun W => among_any a.kind 8 W (by decide) (by decide))
  rw [hk] at AM
  have hi := h.inv
  have hnd := h.nodup
  have HA := hide (h.alloc (acC a))
  clear h hk
  go_enter Try.func6, Try.ntmps6
  change Hid (PairB w0 (w.alloc (.cells #[.int .i64 a.kind, .string a.nm, .string a.to, .int .i64 a.pos, .int .i64 a.n] 29)) p q w.heap.size (acC a) d d) at HA
  go_wp2_with fail
  refine (unhide AM _).mono ?_
  rintro r w1 ⟨rfl, rfl⟩
  clear AM
  generalize hW : w.alloc (.cells #[.int .i64 a.kind, .string a.nm, .string a.to, .int .i64 a.pos, .int .i64 a.n] 29) = w1 at *
  clear hW
  generalize w.heap.size = b at *
  have HD := hide ((unhide HA).kp (Kp.drew w1))
  have cS : w1.drew.cell? ⟨b, 0, none⟩ = some (.int .i64 a.kind) ∧ w1.drew.cell? ⟨b, 1, none⟩ = some (.string a.nm) ∧ w1.drew.cell? ⟨b, 2, none⟩ = some (.string a.to) ∧ w1.drew.cell? ⟨b, 3, none⟩ = some (.int .i64 a.pos) ∧ w1.drew.cell? ⟨b, 4, none⟩ = some (.int .i64 a.n) := (unhide HD).cells
  have L1 := hide ((unhide HD).left (fun F h => write_any a.nm a.pos a.to p d F _ h hn m0 m1 ht))
  have R1 := hide (fun W D (hW : PairB w0 W p q b (acC a) D d) => hW.right (fun F h => rwrite_any a.nm a.pos a.to q d F _ h hi hn hz))
  have HI := hide (fun (h : Srt d.safe) => (srt_wr h a.nm a.pos a.to))
  clear HD HA hi hnd
  go_wp2_with fail
  go_region_held3 (fun W => W.cell? ⟨b, 0, none⟩ = some (.int .i64 a.kind) ∧ W.cell? ⟨b, 1, none⟩ = some (.string a.nm) ∧ W.cell? ⟨b, 2, none⟩ = some (.string a.to) ∧ W.cell? ⟨b, 3, none⟩ = some (.int .i64 a.pos) ∧ W.cell? ⟨b, 4, none⟩ = some (.int .i64 a.n))
    (first | with_reducible exact cS | with_reducible exact cS2 | with_reducible exact cS3)
    (first
      | (go_at_call 11; refine (unhide R1 _ _ (unhide H2)).mono ?_; rintro r w3 ⟨rfl, h3⟩; have H3 := hide h3; have cS3 := h3.cells; clear h3)
      | (go_at_call 10; refine (unhide L1).mono ?_; rintro r w2 ⟨rfl, h2⟩; have H2 := hide h2; have cS2 := h2.cells; clear h2))
  go_wp2
  go_ret
  exact ⟨rfl, _, (unhide H3).pair, unhide HI⟩
set_option maxHeartbeats 1000000 in
set_option maxRecDepth 100000 in
theorem step_1 (a : Ac) (p q : Nat) (d : Dk) (w0 w : World) (h : PairD w0 w p q d d) (hok : a.ok) (hk : a.kind % 8 = 1) :
    Calls Try.prog 6 #[.pointer (some ⟨p, 0, none⟩), .pointer (some ⟨q, 0, none⟩), .agg #[.int .i64 a.kind, .string a.nm, .string a.to, .int .i64 a.pos, .int .i64 a.n]] w fun e w' => e = .returned (.bool true) ∧ ∃ d', PairD w0 w' p q d' d' ∧ (Srt d.safe → Srt d'.safe) := by
  obtain ⟨_, hn, _, ⟨m0, m1⟩, _⟩ := hok
  have AM := hide (fun W => among_any a.kind 8 W (by decide) (by decide))
  rw [hk] at AM
  have hi := h.inv
  have hnd := h.nodup
  have HA := hide (h.alloc (acC a))
  clear h hk
  go_enter Try.func6, Try.ntmps6
  change Hid (PairB w0 (w.alloc (.cells #[.int .i64 a.kind, .string a.nm, .string a.to, .int .i64 a.pos, .int .i64 a.n] 29)) p q w.heap.size (acC a) d d) at HA
  go_wp2_with fail
  refine (unhide AM _).mono ?_
  rintro r w1 ⟨rfl, rfl⟩
  clear AM
  generalize hW : w.alloc (.cells #[.int .i64 a.kind, .string a.nm, .string a.to, .int .i64 a.pos, .int .i64 a.n] 29) = w1 at *
  clear hW
  generalize w.heap.size = b at *
  have HD := hide ((unhide HA).kp (Kp.drew w1))
  have cS : w1.drew.cell? ⟨b, 0, none⟩ = some (.int .i64 a.kind) ∧ w1.drew.cell? ⟨b, 1, none⟩ = some (.string a.nm) ∧ w1.drew.cell? ⟨b, 2, none⟩ = some (.string a.to) ∧ w1.drew.cell? ⟨b, 3, none⟩ = some (.int .i64 a.pos) ∧ w1.drew.cell? ⟨b, 4, none⟩ = some (.int .i64 a.n) := (unhide HD).cells
  have L1 := hide ((unhide HD).left (fun F h => cut_any a.nm a.pos p d F _ h hn m0 m1))
  have R1 := hide (fun W D (hW : PairB w0 W p q b (acC a) D d) => hW.right (fun F h => rcut_any a.nm a.pos q d F _ h hi hn))
  have HI := hide (fun (h : Srt d.safe) => (srt_ct h a.nm a.pos))
  clear HD HA hi hnd
  go_wp2_with fail
  go_region_held3 (fun W => W.cell? ⟨b, 0, none⟩ = some (.int .i64 a.kind) ∧ W.cell? ⟨b, 1, none⟩ = some (.string a.nm) ∧ W.cell? ⟨b, 2, none⟩ = some (.string a.to) ∧ W.cell? ⟨b, 3, none⟩ = some (.int .i64 a.pos) ∧ W.cell? ⟨b, 4, none⟩ = some (.int .i64 a.n))
    (first | with_reducible exact cS | with_reducible exact cS2 | with_reducible exact cS3)
    (first
      | (go_at_call 13; refine (unhide R1 _ _ (unhide H2)).mono ?_; rintro r w3 ⟨rfl, h3⟩; have H3 := hide h3; have cS3 := h3.cells; clear h3)
      | (go_at_call 12; refine (unhide L1).mono ?_; rintro r w2 ⟨rfl, h2⟩; have H2 := hide h2; have cS2 := h2.cells; clear h2))
  go_wp2
  go_ret
  exact ⟨rfl, _, (unhide H3).pair, unhide HI⟩
set_option maxHeartbeats 1000000 in
set_option maxRecDepth 100000 in
theorem step_2 (a : Ac) (p q : Nat) (d : Dk) (w0 w : World) (h : PairD w0 w p q d d) (hok : a.ok) (hk : a.kind % 8 = 2) :
    Calls Try.prog 6 #[.pointer (some ⟨p, 0, none⟩), .pointer (some ⟨q, 0, none⟩), .agg #[.int .i64 a.kind, .string a.nm, .string a.to, .int .i64 a.pos, .int .i64 a.n]] w fun e w' => e = .returned (.bool true) ∧ ∃ d', PairD w0 w' p q d' d' ∧ (Srt d.safe → Srt d'.safe) := by
  obtain ⟨_, hn, ht, _, _⟩ := hok
  have AM := hide (fun W => among_any a.kind 8 W (by decide) (by decide))
  rw [hk] at AM
  have hi := h.inv
  have hnd := h.nodup
  have HA := hide (h.alloc (acC a))
  clear h hk
  go_enter Try.func6, Try.ntmps6
  change Hid (PairB w0 (w.alloc (.cells #[.int .i64 a.kind, .string a.nm, .string a.to, .int .i64 a.pos, .int .i64 a.n] 29)) p q w.heap.size (acC a) d d) at HA
  go_wp2_with fail
  refine (unhide AM _).mono ?_
  rintro r w1 ⟨rfl, rfl⟩
  clear AM
  generalize hW : w.alloc (.cells #[.int .i64 a.kind, .string a.nm, .string a.to, .int .i64 a.pos, .int .i64 a.n] 29) = w1 at *
  clear hW
  generalize w.heap.size = b at *
  have HD := hide ((unhide HA).kp (Kp.drew w1))
  have cS : w1.drew.cell? ⟨b, 0, none⟩ = some (.int .i64 a.kind) ∧ w1.drew.cell? ⟨b, 1, none⟩ = some (.string a.nm) ∧ w1.drew.cell? ⟨b, 2, none⟩ = some (.string a.to) ∧ w1.drew.cell? ⟨b, 3, none⟩ = some (.int .i64 a.pos) ∧ w1.drew.cell? ⟨b, 4, none⟩ = some (.int .i64 a.n) := (unhide HD).cells
  have L1 := hide ((unhide HD).left (fun F h => rename_any a.nm a.to p d F _ h hn ht))
  have R1 := hide (fun W D (hW : PairB w0 W p q b (acC a) D d) => hW.right (fun F h => rrename_any a.nm a.to q d F _ h hi hn ht))
  have HI := hide (fun (h : Srt d.safe) => (srt_rn h a.nm a.to))
  clear HD HA hi hnd
  go_wp2_with fail
  go_region_held3 (fun W => W.cell? ⟨b, 0, none⟩ = some (.int .i64 a.kind) ∧ W.cell? ⟨b, 1, none⟩ = some (.string a.nm) ∧ W.cell? ⟨b, 2, none⟩ = some (.string a.to) ∧ W.cell? ⟨b, 3, none⟩ = some (.int .i64 a.pos) ∧ W.cell? ⟨b, 4, none⟩ = some (.int .i64 a.n))
    (first | with_reducible exact cS | with_reducible exact cS2 | with_reducible exact cS3)
    (first
      | (go_at_call 15; refine (unhide R1 _ _ (unhide H2)).mono ?_; rintro r w3 ⟨rfl, h3⟩; have H3 := hide h3; have cS3 := h3.cells; clear h3)
      | (go_at_call 14; refine (unhide L1).mono ?_; rintro r w2 ⟨rfl, h2⟩; have H2 := hide h2; have cS2 := h2.cells; clear h2))
  go_wp2
  go_ret
  exact ⟨rfl, _, (unhide H3).pair, unhide HI⟩
set_option maxHeartbeats 1000000 in
set_option maxRecDepth 100000 in
theorem step_3 (a : Ac) (p q : Nat) (d : Dk) (w0 w : World) (h : PairD w0 w p q d d) (hok : a.ok) (hk : a.kind % 8 = 3) :
    Calls Try.prog 6 #[.pointer (some ⟨p, 0, none⟩), .pointer (some ⟨q, 0, none⟩), .agg #[.int .i64 a.kind, .string a.nm, .string a.to, .int .i64 a.pos, .int .i64 a.n]] w fun e w' => e = .returned (.bool true) ∧ ∃ d', PairD w0 w' p q d' d' ∧ (Srt d.safe → Srt d'.safe) := by
  obtain ⟨_, hn, _, _, _⟩ := hok
  have AM := hide (fun W => among_any a.kind 8 W (by decide) (by decide))
  rw [hk] at AM
  have hi := h.inv
  have hnd := h.nodup
  have HA := hide (h.alloc (acC a))
  clear h hk
  go_enter Try.func6, Try.ntmps6
  change Hid (PairB w0 (w.alloc (.cells #[.int .i64 a.kind, .string a.nm, .string a.to, .int .i64 a.pos, .int .i64 a.n] 29)) p q w.heap.size (acC a) d d) at HA
  go_wp2_with fail
  refine (unhide AM _).mono ?_
  rintro r w1 ⟨rfl, rfl⟩
  clear AM
  generalize hW : w.alloc (.cells #[.int .i64 a.kind, .string a.nm, .string a.to, .int .i64 a.pos, .int .i64 a.n] 29) = w1 at *
  clear hW
  generalize w.heap.size = b at *
  have HD := hide ((unhide HA).kp (Kp.drew w1))
  have cS : w1.drew.cell? ⟨b, 0, none⟩ = some (.int .i64 a.kind) ∧ w1.drew.cell? ⟨b, 1, none⟩ = some (.string a.nm) ∧ w1.drew.cell? ⟨b, 2, none⟩ = some (.string a.to) ∧ w1.drew.cell? ⟨b, 3, none⟩ = some (.int .i64 a.pos) ∧ w1.drew.cell? ⟨b, 4, none⟩ = some (.int .i64 a.n) := (unhide HD).cells
  have L1 := hide ((unhide HD).left (fun F h => remove_any a.nm p d F _ h hn))
  have R1 := hide (fun W D (hW : PairB w0 W p q b (acC a) D d) => hW.right (fun F h => rremove_any a.nm q d F _ h hi hn))
  have HI := hide (fun (h : Srt d.safe) => (srt_rm h a.nm))
  clear HD HA hi hnd
  go_wp2_with fail
  go_region_held3 (fun W => W.cell? ⟨b, 0, none⟩ = some (.int .i64 a.kind) ∧ W.cell? ⟨b, 1, none⟩ = some (.string a.nm) ∧ W.cell? ⟨b, 2, none⟩ = some (.string a.to) ∧ W.cell? ⟨b, 3, none⟩ = some (.int .i64 a.pos) ∧ W.cell? ⟨b, 4, none⟩ = some (.int .i64 a.n))
    (first | with_reducible exact cS | with_reducible exact cS2 | with_reducible exact cS3)
    (first
      | (go_at_call 17; refine (unhide R1 _ _ (unhide H2)).mono ?_; rintro r w3 ⟨rfl, h3⟩; have H3 := hide h3; have cS3 := h3.cells; clear h3)
      | (go_at_call 16; refine (unhide L1).mono ?_; rintro r w2 ⟨rfl, h2⟩; have H2 := hide h2; have cS2 := h2.cells; clear h2))
  go_wp2
  go_ret
  exact ⟨rfl, _, (unhide H3).pair, unhide HI⟩
set_option maxHeartbeats 1000000 in
set_option maxRecDepth 100000 in
theorem step_4 (a : Ac) (p q : Nat) (d : Dk) (w0 w : World) (h : PairD w0 w p q d d) (hok : a.ok) (hk : a.kind % 8 = 4) :
    Calls Try.prog 6 #[.pointer (some ⟨p, 0, none⟩), .pointer (some ⟨q, 0, none⟩), .agg #[.int .i64 a.kind, .string a.nm, .string a.to, .int .i64 a.pos, .int .i64 a.n]] w fun e w' => e = .returned (.bool true) ∧ ∃ d', PairD w0 w' p q d' d' ∧ (Srt d.safe → Srt d'.safe) := by
  obtain ⟨_, _, _, _, _⟩ := hok
  have AM := hide (fun W => among_any a.kind 8 W (by decide) (by decide))
  rw [hk] at AM
  have hi := h.inv
  have hnd := h.nodup
  have HA := hide (h.alloc (acC a))
  clear h hk
  go_enter Try.func6, Try.ntmps6
  change Hid (PairB w0 (w.alloc (.cells #[.int .i64 a.kind, .string a.nm, .string a.to, .int .i64 a.pos, .int .i64 a.n] 29)) p q w.heap.size (acC a) d d) at HA
  go_wp2_with fail
  refine (unhide AM _).mono ?_
  rintro r w1 ⟨rfl, rfl⟩
  clear AM
  generalize hW : w.alloc (.cells #[.int .i64 a.kind, .string a.nm, .string a.to, .int .i64 a.pos, .int .i64 a.n] 29) = w1 at *
  clear hW
  generalize w.heap.size = b at *
  have L1 := hide ((unhide HA).left (fun F h => sync_any p d F _ h))
  have R1 := hide (fun W D (hW : PairB w0 W p q b (acC a) D d) => hW.right (fun F h => rsync_dk q d F _ h hi))
  have HI := hide (fun (h : Srt d.safe) => (srt_sy hi h))
  obtain ⟨c0, c1, c2, c3, c4⟩ := (unhide HA).cells
  clear HA hi hnd
  go_wp2_with fail
  refine (unhide L1).mono ?_
  rintro r w2 ⟨rfl, h2⟩
  have H2 := hide h2
  clear h2 c0 c1 c2 c3 c4 L1
  obtain ⟨c0, c1, c2, c3, c4⟩ := (unhide H2).cells
  go_wp2_with fail
  refine (unhide R1 _ _ (unhide H2)).mono ?_
  rintro r w3 ⟨rfl, h3⟩
  have H3 := hide h3
  clear h3 c0 c1 c2 c3 c4 R1 H2
  go_wp2
  go_ret
  exact ⟨rfl, _, (unhide H3).pair, unhide HI⟩
set_option maxHeartbeats 1000000 in
set_option maxRecDepth 100000 in
theorem step_5 (a : Ac) (p q : Nat) (d : Dk) (w0 w : World) (h : PairD w0 w p q d d) (hok : a.ok) (hk : a.kind % 8 = 5) :
    Calls Try.prog 6 #[.pointer (some ⟨p, 0, none⟩), .pointer (some ⟨q, 0, none⟩), .agg #[.int .i64 a.kind, .string a.nm, .string a.to, .int .i64 a.pos, .int .i64 a.n]] w fun e w' => e = .returned (.bool true) ∧ ∃ d', PairD w0 w' p q d' d' ∧ (Srt d.safe → Srt d'.safe) := by
  obtain ⟨_, hn, _, _, _⟩ := hok
  have AM := hide (fun W => among_any a.kind 8 W (by decide) (by decide))
  rw [hk] at AM
  have hi := h.inv
  have hnd := h.nodup
  have HA := hide (h.alloc (acC a))
  clear h hk
  go_enter Try.func6, Try.ntmps6
  change Hid (PairB w0 (w.alloc (.cells #[.int .i64 a.kind, .string a.nm, .string a.to, .int .i64 a.pos, .int .i64 a.n] 29)) p q w.heap.size (acC a) d d) at HA
  go_wp2_with fail
  refine (unhide AM _).mono ?_
  rintro r w1 ⟨rfl, rfl⟩
  clear AM
  generalize hW : w.alloc (.cells #[.int .i64 a.kind, .string a.nm, .string a.to, .int .i64 a.pos, .int .i64 a.n] 29) = w1 at *
  clear hW
  generalize w.heap.size = b at *
  have L1 := hide (let ⟨F, _, h1, _⟩ := unhide HA; read_any a.nm p d F _ h1 hn)
  have R1 := hide (let ⟨_, G, _, h1, _⟩ := unhide HA; rread_dk a.nm q d G _ h1 hnd hn)
  obtain ⟨c0, c1, c2, c3, c4⟩ := (unhide HA).cells
  clear hi hnd
  go_wp2_with fail
  refine (unhide L1).mono ?_
  rintro r w2 ⟨rfl, rfl⟩
  clear L1
  go_wp2_with fail
  refine (unhide R1).mono ?_
  rintro r w3 ⟨rfl, hk3⟩
  have H3 := hide ((unhide HA).kp hk3)
  clear hk3 c0 c1 c2 c3 c4 R1 HA
  go_wp2
  go_ret
  exact ⟨rfl, _, (unhide H3).pair, id⟩
set_option maxHeartbeats 1000000 in
set_option maxRecDepth 100000 in
theorem step_6 (a : Ac) (p q : Nat) (d : Dk) (w0 w : World) (h : PairD w0 w p q d d) (hok : a.ok) (hk : a.kind % 8 = 6) :
    Calls Try.prog 6 #[.pointer (some ⟨p, 0, none⟩), .pointer (some ⟨q, 0, none⟩), .agg #[.int .i64 a.kind, .string a.nm, .string a.to, .int .i64 a.pos, .int .i64 a.n]] w fun e w' => e = .returned (.bool true) ∧ ∃ d', PairD w0 w' p q d' d' ∧ (Srt d.safe → Srt d'.safe) := by
  obtain ⟨_, _, _, _, ⟨_, n1⟩⟩ := hok
  have AM := hide (fun W => among_any a.kind 8 W (by decide) (by decide))
  rw [hk] at AM
  have hi := h.inv
  have hnd := h.nodup
  have HA := hide (h.alloc (acC a))
  clear h hk
  go_enter Try.func6, Try.ntmps6
  change Hid (PairB w0 (w.alloc (.cells #[.int .i64 a.kind, .string a.nm, .string a.to, .int .i64 a.pos, .int .i64 a.n] 29)) p q w.heap.size (acC a) d d) at HA
  go_wp2_with fail
  refine (unhide AM _).mono ?_
  rintro r w1 ⟨rfl, rfl⟩
  clear AM
  generalize hW : w.alloc (.cells #[.int .i64 a.kind, .string a.nm, .string a.to, .int .i64 a.pos, .int .i64 a.n] 29) = w1 at *
  clear hW
  generalize w.heap.size = b at *
  have HD := hide ((unhide HA).kp (Kp.drew w1))
  have cS : w1.drew.cell? ⟨b, 0, none⟩ = some (.int .i64 a.kind) ∧ w1.drew.cell? ⟨b, 1, none⟩ = some (.string a.nm) ∧ w1.drew.cell? ⟨b, 2, none⟩ = some (.string a.to) ∧ w1.drew.cell? ⟨b, 3, none⟩ = some (.int .i64 a.pos) ∧ w1.drew.cell? ⟨b, 4, none⟩ = some (.int .i64 a.n) := (unhide HD).cells
  have L1 := hide ((unhide HD).left (fun F h => fuse_any p d F a.n _ h n1))
  have R1 := hide (fun W D (hW : PairB w0 W p q b (acC a) D d) => hW.right (fun F h => rfuse_dk q d a.n F _ h))
  have HI := hide (fun (h : Srt d.safe) => (srt_fu h a.n))
  clear HD HA hi hnd
  go_wp2_with fail
  go_region_held3 (fun W => W.cell? ⟨b, 0, none⟩ = some (.int .i64 a.kind) ∧ W.cell? ⟨b, 1, none⟩ = some (.string a.nm) ∧ W.cell? ⟨b, 2, none⟩ = some (.string a.to) ∧ W.cell? ⟨b, 3, none⟩ = some (.int .i64 a.pos) ∧ W.cell? ⟨b, 4, none⟩ = some (.int .i64 a.n))
    (first | with_reducible exact cS | with_reducible exact cS2 | with_reducible exact cS3)
    (first
      | (go_at_call 23; refine (unhide R1 _ _ (unhide H2)).mono ?_; rintro r w3 ⟨rfl, h3⟩; have H3 := hide h3; have cS3 := h3.cells; clear h3)
      | (go_at_call 22; refine (unhide L1).mono ?_; rintro r w2 ⟨rfl, h2⟩; have H2 := hide h2; have cS2 := h2.cells; clear h2))
  go_wp2
  go_ret
  exact ⟨rfl, _, (unhide H3).pair, unhide HI⟩
set_option maxHeartbeats 1000000 in
set_option maxRecDepth 100000 in
theorem step_7 (a : Ac) (p q : Nat) (d : Dk) (w0 w : World) (h : PairD w0 w p q d d) (hok : a.ok) (hk : a.kind % 8 = 7) :
    Calls Try.prog 6 #[.pointer (some ⟨p, 0, none⟩), .pointer (some ⟨q, 0, none⟩), .agg #[.int .i64 a.kind, .string a.nm, .string a.to, .int .i64 a.pos, .int .i64 a.n]] w fun e w' => e = .returned (.bool true) ∧ ∃ d', PairD w0 w' p q d' d' ∧ (Srt d.safe → Srt d'.safe) := by
  obtain ⟨_, _, _, _, ⟨_, n1⟩⟩ := hok
  have AM := hide (fun W => among_any a.kind 8 W (by decide) (by decide))
  rw [hk] at AM
  have hi := h.inv
  have hnd := h.nodup
  have HA := hide (h.alloc (acC a))
  clear h hk
  go_enter Try.func6, Try.ntmps6
  change Hid (PairB w0 (w.alloc (.cells #[.int .i64 a.kind, .string a.nm, .string a.to, .int .i64 a.pos, .int .i64 a.n] 29)) p q w.heap.size (acC a) d d) at HA
  go_wp2_with fail
  refine (unhide AM _).mono ?_
  rintro r w1 ⟨rfl, rfl⟩
  clear AM
  generalize hW : w.alloc (.cells #[.int .i64 a.kind, .string a.nm, .string a.to, .int .i64 a.pos, .int .i64 a.n] 29) = w1 at *
  clear hW
  generalize w.heap.size = b at *
  have L1 := hide ((unhide HA).left (fun F h => crash_any a.pos a.n p d F _ h n1))
  have R1 := hide (fun W D (hW : PairB w0 W p q b (acC a) D d) => hW.right (fun F h => rcrash_any a.pos a.n q d F _ h hi))
  have HI := hide (fun (h : Srt d.safe) => (srt_crash h a.pos a.n))
  obtain ⟨c0, c1, c2, c3, c4⟩ := (unhide HA).cells
  clear HA hi hnd
  go_wp2_with fail
  refine (unhide L1).mono ?_
  rintro r w2 ⟨rfl, h2⟩
  have H2 := hide h2
  clear h2 c0 c1 c2 c3 c4 L1
  obtain ⟨c0, c1, c2, c3, c4⟩ := (unhide H2).cells
  go_wp2_with fail
  refine (unhide R1 _ _ (unhide H2)).mono ?_
  rintro r w3 ⟨rfl, h3⟩
  have H3 := hide h3
  clear h3 c0 c1 c2 c3 c4 R1 H2
  go_wp2
  go_ret
  exact ⟨rfl, _, (unhide H3).pair, unhide HI⟩
theorem step_any (a : Ac) (p q : Nat) (d : Dk) (w0 w : World) (h : PairD w0 w p q d d) (hok : a.ok) (hz : a.to.size ≤ 140737488355328) :
    Calls Try.prog 6 #[.pointer (some ⟨p, 0, none⟩), .pointer (some ⟨q, 0, none⟩), .agg #[.int .i64 a.kind, .string a.nm, .string a.to, .int .i64 a.pos, .int .i64 a.n]] w fun e w' => e = .returned (.bool true) ∧ ∃ d', PairD w0 w' p q d' d' ∧ (Srt d.safe → Srt d'.safe) := by
  have h8 : a.kind % 8 = 0 ∨ a.kind % 8 = 1 ∨ a.kind % 8 = 2 ∨ a.kind % 8 = 3 ∨ a.kind % 8 = 4 ∨ a.kind % 8 = 5 ∨ a.kind % 8 = 6 ∨ a.kind % 8 = 7 := by omega
  rcases h8 with e | e | e | e | e | e | e | e
  · exact step_0 a p q d w0 w h hok hz e
  · exact step_1 a p q d w0 w h hok e
  · exact step_2 a p q d w0 w h hok e
  · exact step_3 a p q d w0 w h hok e
  · exact step_4 a p q d w0 w h hok e
  · exact step_5 a p q d w0 w h hok e
  · exact step_6 a p q d w0 w h hok e
  · exact step_7 a p q d w0 w h hok e
end Go.Proofs.Ytfnljfkgkadlaaa
