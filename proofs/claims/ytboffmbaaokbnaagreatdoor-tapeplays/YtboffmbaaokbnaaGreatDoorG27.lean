/-
  What happens to both: appending; crashes, foreign bytes, opening.
-/
import Derived.Test.YtboffmbaaokbnaaGreatDoorG26
namespace Go.Proofs.YtboffmbaaokbnaaGreatDoor
open Go.RowKit

theorem do_same {d : Dk} {c : Chg} (h : d.doE ≠ 0) : (d.doD c).now = d.now := by
  unfold Dk.doE at h
  unfold Dk.doD
  split
  · rfl
  · rename_i h1
    rw [if_neg h1] at h
    split
    · rename_i h2
      rw [if_pos h2] at h
      exact absurd rfl h
    · exact (ready_now d).1
theorem ap_same {d : Dk} {n s : ByteArray} (h : d.apE n s ≠ 0) : (d.apD n s).now = d.now := by
  unfold Dk.apE at h
  unfold Dk.apD
  split
  · rfl
  · rename_i h1
    rw [if_neg h1] at h
    unfold Dk.wrE at h
    unfold Dk.wrD
    split
    · rename_i h2
      rw [if_pos h2] at h
      exact do_same h
    · rfl
theorem srt_ap {d : Dk} (h : Srt d.safe) (n s : ByteArray) : Srt (d.apD n s).safe := by unfold Dk.apD; split; exact h; exact srt_wr h _ _ _
theorem srt_op {d : Dk} (h : Srt d.safe) (n : ByteArray) : Srt (d.opD n).safe := by
  unfold Dk.opD
  split
  · exact h
  · split
    · split
      · exact srt_ct h _ _
      · exact h
    · exact h
theorem TW.more {w0 w : World} {g p q : Nat} {n : ByteArray} {d : Dk} {c c' : Nat} (h : TW w0 w g p q n d c) (hc : c ≤ c') : TW w0 w g p q n d c' := by
  obtain ⟨tv, mv, lost, F, G, hb, ht⟩ := h
  refine ⟨tv, mv, lost, F, G, hb, fun hl => ?_⟩
  obtain ⟨t, m, v, u, ts, h1, h2, h3, h4⟩ := ht hl
  exact ⟨t, m, v, u, ts, h1, h2, h3, by omega⟩
/-- A text is appended by the program. -/
theorem SB.added {w0 w w' : World} {g p q b t m : Nat} {n : ByteArray} {d e d' : Dk} {tv mv v u : Value} {lost : Bool} {F G : List Nat} {a : A4} {ts ts' : List (List UInt8)} {E : Nat} (h : SB w0 w g p q n d e tv mv lost F G b a) (hs : TS w0 w t m p q n v u ts E) (hd : Added w F p d' n t v ts' w') :
    ∃ F' v', SB w0 w' g p q n d' e tv mv lost F' G b a ∧ TpAt w' t p n v' ts' ∧ RqAt w' m q n u ts E ∧ (∀ k, v'.ownBlock = some k → w0.heap.size ≤ k ∧ u.ownBlock ≠ some k) := by
  obtain ⟨F', v', hd', ht', hk, hF', hv'⟩ := hd
  have vrow : ∀ k, v.ownBlock = some k → ∃ cur, w.heap[k]? = some (.cells cur 9 (0, 0)) := fun k hv => (OwnsS.block hs.tp.row hv).2.2
  have urow : ∀ k, u.ownBlock = some k → ∃ cur, w.heap[k]? = some (.cells cur 9 (0, 0)) := fun k hv => (OwnsS.block hs.rq.row hv).2.2
  have key : ∀ {k : Nat} {cur : Array Value} {T : TypeId} {f : Nat × Nat}, w.heap[k]? = some (.cells cur T f) → T ≠ 82 → T ≠ 9 → T ≠ 5 → T ≠ 92 → T ≠ 46 → k ∉ t :: (v.ownBlock.toList ++ F) := fun {k cur T f} hc h1 h2 h3 h4 h5 hm => by
    rcases List.mem_cons.1 hm with e | hm
    · exact cell_ne hc hs.tp.box h1 e
    rcases List.mem_append.1 hm with e | e
    · obtain ⟨cur', hc'⟩ := vrow k (by simpa using e)
      exact cell_ne hc hc' h2 rfl
    · exact h.tb.dk.no hc h3 h4 h5 e
  have hX : ∀ x ∈ t :: (v.ownBlock.toList ++ F), w0.heap.size ≤ x := fun x hx => by
    rcases List.mem_cons.1 hx with rfl | hx
    · exact hs.t0
    rcases List.mem_append.1 hx with e | e
    · exact hs.v0 x (by simpa using e)
    · exact (h.tb.fF x e).1
  have hGX : ∀ k ∈ G, k ∉ t :: (v.ownBlock.toList ++ F) := fun k hg hm => by
    rcases List.mem_cons.1 hm with rfl | hm
    · exact h.tb.rd.no hs.tp.box (by decide) (by decide) (by decide) hg
    rcases List.mem_append.1 hm with e | e
    · obtain ⟨cur', hc'⟩ := vrow k (by simpa using e)
      exact h.tb.rd.no hc' (by decide) (by decide) (by decide) hg
    · exact (h.tb.fF k e).2 hg
  refine ⟨F', v', ⟨⟨hd', h.tb.rd.kp hk hGX, h.tb.kp.trans hk (fun x hx => Or.inr (hX x hx)), h.tb.bx.kp hk (key h.tb.bx (by decide) (by decide) (by decide) (by decide) (by decide)), fun k hk1 => ?_, h.tb.gG, h.tb.ge⟩, h.ac.kp hk (key h.ac (by decide) (by decide) (by decide) (by decide) (by decide))⟩, ht', hs.rq.kp hk (key hs.rq.box (by decide) (by decide) (by decide) (by decide) (by decide)) (fun k hu hm => ?_), fun k hv => ?_⟩
  · rcases hF' k hk1 with h5 | h5
    · exact h.tb.fF k h5
    · have := h.tb.kp.size
      exact ⟨by omega, fun hm => by have := h.tb.rd.lt k hm; omega⟩
  · obtain ⟨cur, hc⟩ := urow k hu
    rcases List.mem_cons.1 hm with e | hm
    · exact cell_ne hc hs.tp.box (by decide) e
    rcases List.mem_append.1 hm with e | e
    · exact hs.ap k (by simpa using e) hu
    · exact h.tb.dk.no hc (by decide) (by decide) (by decide) e
  · rcases hv' with e | e
    · rw [e] at hv
      exact ⟨hs.v0 k hv, hs.ap k hv⟩
    · have h1 := e k hv
      have := h.tb.kp.size
      refine ⟨by omega, fun hu => ?_⟩
      have := (OwnsS.block hs.rq.row hu).2.1
      omega
/-- A text is appended by the document. -/
theorem SB.put {w0 w w' : World} {g p q b t m : Nat} {n : ByteArray} {d e e' : Dk} {tv mv v : Value} {lost : Bool} {F G : List Nat} {a : A4} {ts ts' : List (List UInt8)} {E E' : Nat} {u : Value} (h : SB w0 w g p q n d e tv mv lost F G b a) (ht : TpAt w t p n v ts') (hq : RqAt w m q n u ts E) (hm0 : w0.heap.size ≤ m) (ht0 : w0.heap.size ≤ t) (hv0 : ∀ k, v.ownBlock = some k → w0.heap.size ≤ k) (hd : RqP w G m q n e' ts' E' w') :
    ∃ G' u', SB w0 w' g p q n d e' tv mv lost F G' b a ∧ TS w0 w' t m p q n v u' ts' E' := by
  obtain ⟨G', u', hr, hq', hk, hG', hu'⟩ := hd
  have key : ∀ {k : Nat} {cur : Array Value} {T : TypeId} {f : Nat × Nat}, w.heap[k]? = some (.cells cur T f) → T ≠ 70 → T ≠ 50 → T ≠ 68 → T ≠ 96 → k ∉ m :: G := fun {k cur T f} hc h1 h2 h3 h4 hm => by
    rcases List.mem_cons.1 hm with e | e
    · exact cell_ne hc hq.box h1 e
    · exact h.tb.rd.no hc h2 h3 h4 e
  have hs := h.tb.kp.size
  refine ⟨G', u', ⟨⟨h.tb.dk.kp hk (fun k hk1 hm => ?_), hr, h.tb.kp.trans hk (fun x hx => Or.inr ?_), h.tb.bx.kp hk (key h.tb.bx (by decide) (by decide) (by decide) (by decide)), fun k hk1 => ⟨(h.tb.fF k hk1).1, fun hm => ?_⟩, fun k hk1 => ?_, h.tb.ge⟩, h.ac.kp hk (key h.ac (by decide) (by decide) (by decide) (by decide))⟩, ⟨ht.kp hk (key ht.box (by decide) (by decide) (by decide) (by decide)) (fun k hv => ?_), hq', ht0, hm0, hv0, fun k hu => by have := hu' k hu; omega, fun k hv hu => ?_⟩⟩
  · rcases List.mem_cons.1 hm with rfl | e
    · exact h.tb.dk.no hq.box (by decide) (by decide) (by decide) hk1
    · exact (h.tb.fF k hk1).2 e
  · rcases List.mem_cons.1 hx with rfl | e
    · exact hm0
    · exact h.tb.gG x e
  · rcases hG' k hm with e | e
    · exact (h.tb.fF k hk1).2 e
    · have := h.tb.dk.lt k hk1; omega
  · rcases hG' k hk1 with e | e
    · exact h.tb.gG k e
    · omega
  · obtain ⟨_, _, cur, hc⟩ := OwnsS.block ht.row hv
    exact key hc (by decide) (by decide) (by decide) (by decide)
  · have h3 := (OwnsS.block ht.row hv).2.1
    have h4 := hu' k hu
    omega
theorem or_yes {P Q : Prop} {e : Int} (h : (e = 0 ∧ P) ∨ (e ≠ 0 ∧ Q)) (he : e = 0) : P := h.elim (fun h => h.2) (fun h => absurd he h.1)
set_option maxHeartbeats 2000000 in
set_option maxRecDepth 100000 in
theorem wstep_0y (a : A4) (g p q : Nat) (n : ByteArray) (d : Dk) (t m : Nat) (v u : Value) (ts : List (List UInt8)) (F G : List Nat) (c : Nat) (w0 w : World) (h : TB w0 w g p q n d d (.pointer (some ⟨t, 0, none⟩)) (.pointer (some ⟨m, 0, none⟩)) false F G) (hs : TS w0 w t m p q n v u ts (hasF d.now n).length) (hc : ts.length ≤ 300000 + c) (hc6 : c < 60) (hok : a.ok) (hk : a.kind % 7 = 0) (hT : TabW w0) (hn : n.size ≤ 9223372036854775807) (hX : d.apE n a.s = 0) :
    Calls Tryz.prog 8 #[.pointer (some ⟨g, 0, none⟩), .agg #[.int .i64 a.kind, .int .i64 a.pos, .int .i64 a.n, .string a.s]] w fun r w' => r = .returned (.bool true) ∧ ∃ d', TW w0 w' g p q n d' (c + 1) ∧ (Srt d.safe → Srt d'.safe) := by
  obtain ⟨_, _, _, hsz⟩ := hok
  have hi := h.dk.inv
  have hnd := h.dk.nodup
  have hal := ap_len hnd hX
  have AM := hide (fun W => among_any a.kind 7 W (by decide) (by decide))
  rw [hk] at AM
  have HA := hide (h.act a)
  have HS := hide (hs.kpn (Kp.alloc w (.cells (a4C a) 38)))
  have HC := hide hc
  change Hid (SB w0 (w.alloc (.cells #[.int .i64 a.kind, .int .i64 a.pos, .int .i64 a.n, .string a.s] 38)) g p q n d d (.pointer (some ⟨t, 0, none⟩)) (.pointer (some ⟨m, 0, none⟩)) false F G w.heap.size a) at HA
  change Hid (TS w0 (w.alloc (.cells #[.int .i64 a.kind, .int .i64 a.pos, .int .i64 a.n, .string a.s] 38)) t m p q n v u ts (hasF d.now n).length) at HS
  clear h hk hs hc
  obtain ⟨e0, e1, e2, e3, e4, e5, a0, a1, a2, a3⟩ := (unhide HA).all
  go_enter Tryz.func8, Tryz.ntmps8
  go_wp2_with fail
  refine (unhide AM _).mono ?_
  rintro r w1 ⟨rfl, rfl⟩
  clear AM
  generalize hW : w.alloc (.cells #[.int .i64 a.kind, .int .i64 a.pos, .int .i64 a.n, .string a.s] 38) = w1 at *
  clear hW
  generalize w.heap.size = b at *
  have HD := hide ((unhide HA).kpn (Kp.drew w1))
  have HSd := hide ((unhide HS).kpn (Kp.drew w1))
  have cS : w1.drew.cell? ⟨g, 0, none⟩ = some (.pointer (some ⟨p, 0, none⟩)) ∧ w1.drew.cell? ⟨g, 1, none⟩ = some (.pointer (some ⟨t, 0, none⟩)) ∧ w1.drew.cell? ⟨g, 2, none⟩ = some (.pointer (some ⟨q, 0, none⟩)) ∧ w1.drew.cell? ⟨g, 3, none⟩ = some (.pointer (some ⟨m, 0, none⟩)) ∧ w1.drew.cell? ⟨g, 4, none⟩ = some (.string n) ∧ w1.drew.cell? ⟨g, 5, none⟩ = some (.bool false) ∧ w1.drew.cell? ⟨b, 0, none⟩ = some (.int .i64 a.kind) ∧ w1.drew.cell? ⟨b, 1, none⟩ = some (.int .i64 a.pos) ∧ w1.drew.cell? ⟨b, 2, none⟩ = some (.int .i64 a.n) ∧ w1.drew.cell? ⟨b, 3, none⟩ = some (.string a.s) := (unhide HD).all
  have hcc : ts.length ≤ 1000000 := by have := unhide HC; omega
  have L1 := hide (tappend_any t p n v ts a.s d F w1.drew (unhide HSd).tp (unhide HD).tb.dk ((unhide HD).tb.tab hT) hcc hsz)
  have R1 := hide (fun W G' u (hr : RDk W q d G') (hq : RqAt W m q n u ts (hasF d.now n).length) => rqappend_any m q n u ts a.s d G' W hq hr hi hcc hn hsz)
  have HX := hide hX
  have HAL := hide hal
  have M0 := hide (And.intro (unhide HS).m0 (unhide HS).t0)
  clear hX hi hnd hal hT hcc
  go_wp2_with fail
  go_region_held3 (fun W => W.cell? ⟨g, 0, none⟩ = some (.pointer (some ⟨p, 0, none⟩)) ∧ W.cell? ⟨g, 1, none⟩ = some (.pointer (some ⟨t, 0, none⟩)) ∧ W.cell? ⟨g, 2, none⟩ = some (.pointer (some ⟨q, 0, none⟩)) ∧ W.cell? ⟨g, 3, none⟩ = some (.pointer (some ⟨m, 0, none⟩)) ∧ W.cell? ⟨g, 4, none⟩ = some (.string n) ∧ W.cell? ⟨g, 5, none⟩ = some (.bool false) ∧ W.cell? ⟨b, 0, none⟩ = some (.int .i64 a.kind) ∧ W.cell? ⟨b, 1, none⟩ = some (.int .i64 a.pos) ∧ W.cell? ⟨b, 2, none⟩ = some (.int .i64 a.n) ∧ W.cell? ⟨b, 3, none⟩ = some (.string a.s))
    (first | with_reducible exact cS | with_reducible exact cS2 | with_reducible exact cS3)
    (first
      | (go_at_call 17; refine (unhide R1 _ _ _ (unhide H2).tb.rd (unhide Q2)).mono ?_; rintro r w3 hor; obtain ⟨rfl, hP⟩ := or_yes hor (unhide HX); obtain ⟨G3, u3, sb3, ts3⟩ := (unhide H2).put (unhide T2) (unhide Q2) (unhide M0).1 (unhide M0).2 (fun k hk => (unhide V2 k hk).1) hP; have H3 := hide sb3; have S3 := hide ts3; have cS3 := sb3.all; clear sb3 ts3 hP hor)
      | (go_at_call 16; refine (unhide L1).mono ?_; rintro r w2 hor; obtain ⟨rfl, hP⟩ := or_yes hor (unhide HX); obtain ⟨F2, v2, sb2, tp2, rq2, vv2⟩ := (unhide HD).added (unhide HSd) hP; have H2 := hide sb2; have T2 := hide tp2; have Q2 := hide rq2; have V2 := hide vv2; have cS2 := sb2.all; clear sb2 tp2 rq2 vv2 hP hor))
  obtain ⟨b4, f5⟩ := (unhide H3).tb.lose false
  have s4 := (unhide S3).set (i := 5) (x := .bool false) (unhide H3).tb
  have FN : Hid (TW w0 (w3.setCell ⟨g, 5, none⟩ (.bool false)) g p q n (d.apD n a.s) (c + 1)) := hide ⟨_, _, _, _, _, b4, fun _ => ⟨t, m, v2, u3, ts ++ [a.s.data.toList], rfl, rfl, by rw [unhide HAL]; exact s4, by have := unhide HC; rw [List.length_append, List.length_singleton]; omega⟩⟩
  clear e0 e1 e2 e3 e4 e5 a0 a1 a2 a3 cS cS2 cS3
  obtain ⟨e0, e1, e2, e3, e4, e5, a0, a1, a2, a3⟩ := (unhide H3).all
  clear s4 b4
  go_wp2
  go_ret
  exact ⟨rfl, _, unhide FN, fun h => srt_ap h n a.s⟩
set_option maxHeartbeats 2000000 in
set_option maxRecDepth 100000 in
theorem wstep_0d (a : A4) (g p q : Nat) (n : ByteArray) (d : Dk) (t m : Nat) (v u : Value) (ts : List (List UInt8)) (F G : List Nat) (c : Nat) (w0 w : World) (h : TB w0 w g p q n d d (.pointer (some ⟨t, 0, none⟩)) (.pointer (some ⟨m, 0, none⟩)) false F G) (hs : TS w0 w t m p q n v u ts (hasF d.now n).length) (hc : ts.length ≤ 300000 + c) (hc6 : c < 60) (hok : a.ok) (hk : a.kind % 7 = 0) (hT : TabW w0) (hn : n.size ≤ 9223372036854775807) (hX : d.apE n a.s = 31) :
    Calls Tryz.prog 8 #[.pointer (some ⟨g, 0, none⟩), .agg #[.int .i64 a.kind, .int .i64 a.pos, .int .i64 a.n, .string a.s]] w fun r w' => r = .returned (.bool true) ∧ ∃ d', TW w0 w' g p q n d' (c + 1) ∧ (Srt d.safe → Srt d'.safe) := by
  obtain ⟨_, _, _, hsz⟩ := hok
  have hi := h.dk.inv
  have hX0 : d.apE n a.s ≠ 0 := by rw [hX]; decide
  have AM := hide (fun W => among_any a.kind 7 W (by decide) (by decide))
  rw [hk] at AM
  have HA := hide (h.act a)
  have HS := hide (hs.kpn (Kp.alloc w (.cells (a4C a) 38)))
  have HC := hide hc
  change Hid (SB w0 (w.alloc (.cells #[.int .i64 a.kind, .int .i64 a.pos, .int .i64 a.n, .string a.s] 38)) g p q n d d (.pointer (some ⟨t, 0, none⟩)) (.pointer (some ⟨m, 0, none⟩)) false F G w.heap.size a) at HA
  change Hid (TS w0 (w.alloc (.cells #[.int .i64 a.kind, .int .i64 a.pos, .int .i64 a.n, .string a.s] 38)) t m p q n v u ts (hasF d.now n).length) at HS
  clear h hk hs hc
  obtain ⟨e0, e1, e2, e3, e4, e5, a0, a1, a2, a3⟩ := (unhide HA).all
  go_enter Tryz.func8, Tryz.ntmps8
  go_wp2_with fail
  refine (unhide AM _).mono ?_
  rintro r w1 ⟨rfl, rfl⟩
  clear AM
  generalize hW : w.alloc (.cells #[.int .i64 a.kind, .int .i64 a.pos, .int .i64 a.n, .string a.s] 38) = w1 at *
  clear hW
  generalize w.heap.size = b at *
  have HD := hide ((unhide HA).kpn (Kp.drew w1))
  have HSd := hide ((unhide HS).kpn (Kp.drew w1))
  have cS : w1.drew.cell? ⟨g, 0, none⟩ = some (.pointer (some ⟨p, 0, none⟩)) ∧ w1.drew.cell? ⟨g, 1, none⟩ = some (.pointer (some ⟨t, 0, none⟩)) ∧ w1.drew.cell? ⟨g, 2, none⟩ = some (.pointer (some ⟨q, 0, none⟩)) ∧ w1.drew.cell? ⟨g, 3, none⟩ = some (.pointer (some ⟨m, 0, none⟩)) ∧ w1.drew.cell? ⟨g, 4, none⟩ = some (.string n) ∧ w1.drew.cell? ⟨g, 5, none⟩ = some (.bool false) ∧ w1.drew.cell? ⟨b, 0, none⟩ = some (.int .i64 a.kind) ∧ w1.drew.cell? ⟨b, 1, none⟩ = some (.int .i64 a.pos) ∧ w1.drew.cell? ⟨b, 2, none⟩ = some (.int .i64 a.n) ∧ w1.drew.cell? ⟨b, 3, none⟩ = some (.string a.s) := (unhide HD).all
  have hcc : ts.length ≤ 1000000 := by have := unhide HC; omega
  have L1 := hide ((tappend_any t p n v ts a.s d F w1.drew (unhide HSd).tp (unhide HD).tb.dk ((unhide HD).tb.tab hT) hcc hsz).mono (fun r w' (hor : _ ∨ _) => (show r = .returned (.int .i64 (d.apE n a.s)) ∧ Did w1.drew F p (d.apD n a.s) w' from hor.elim (fun h => absurd h.1 hX0) (fun h => h.2))))
  have R1 := hide (fun W G' u (hr : RDk W q d G') (hq : RqAt W m q n u ts (hasF d.now n).length) => (rqappend_any m q n u ts a.s d G' W hq hr hi hcc hn hsz).mono (fun r w' (hor : _ ∨ _) => (show r = .returned (.int .i64 (d.apE n a.s)) ∧ RDid W G' q (d.apD n a.s) w' from hor.elim (fun h => absurd h.1 hX0) (fun h => h.2))))
  have HSM := hide (ap_same hX0)
  rw [hX] at L1
  simp only [hX] at R1
  clear hX hX0 hi hT hcc
  go_wp2_with fail
  go_region_held3 (fun W => W.cell? ⟨g, 0, none⟩ = some (.pointer (some ⟨p, 0, none⟩)) ∧ W.cell? ⟨g, 1, none⟩ = some (.pointer (some ⟨t, 0, none⟩)) ∧ W.cell? ⟨g, 2, none⟩ = some (.pointer (some ⟨q, 0, none⟩)) ∧ W.cell? ⟨g, 3, none⟩ = some (.pointer (some ⟨m, 0, none⟩)) ∧ W.cell? ⟨g, 4, none⟩ = some (.string n) ∧ W.cell? ⟨g, 5, none⟩ = some (.bool false) ∧ W.cell? ⟨b, 0, none⟩ = some (.int .i64 a.kind) ∧ W.cell? ⟨b, 1, none⟩ = some (.int .i64 a.pos) ∧ W.cell? ⟨b, 2, none⟩ = some (.int .i64 a.n) ∧ W.cell? ⟨b, 3, none⟩ = some (.string a.s))
    (first | with_reducible exact cS | with_reducible exact cS2 | with_reducible exact cS3)
    (first
      | (go_at_call 17; refine (unhide R1 _ _ _ (unhide H2).tb.rd (unhide S2).rq).mono ?_; rintro r w3 ⟨rfl, hd3⟩; obtain ⟨G3, sb3, kG3⟩ := (unhide H2).right hd3; have H3 := hide sb3; have K3 := hide kG3; have cS3 := sb3.all; clear hd3 sb3 kG3)
      | (go_at_call 16; refine (unhide L1).mono ?_; rintro r w2 ⟨rfl, hd2⟩; obtain ⟨F2, sb2, kF2⟩ := (unhide HD).left hd2; have H2 := hide sb2; have S2 := hide ((unhide HSd).left (unhide HD).tb.dk kF2); have cS2 := sb2.all; clear hd2 sb2 kF2))
  have s3 := (unhide S2).right (unhide H2).tb.rd (unhide K3)
  obtain ⟨b4, f5⟩ := (unhide H3).tb.lose true
  have s4 := s3.set (i := 5) (x := .bool true) (unhide H3).tb
  have FN : Hid (TW w0 (w3.setCell ⟨g, 5, none⟩ (.bool true)) g p q n (d.apD n a.s) (c + 1)) := hide ⟨_, _, _, _, _, b4, fun h => absurd h (by decide)⟩
  clear e0 e1 e2 e3 e4 e5 a0 a1 a2 a3 cS cS2 cS3
  obtain ⟨e0, e1, e2, e3, e4, e5, a0, a1, a2, a3⟩ := (unhide H3).all
  clear s3 s4 b4
  go_wp2
  go_ret
  exact ⟨rfl, _, unhide FN, fun h => srt_ap h n a.s⟩
set_option maxHeartbeats 2000000 in
set_option maxRecDepth 100000 in
theorem wstep_0n (a : A4) (g p q : Nat) (n : ByteArray) (d : Dk) (t m : Nat) (v u : Value) (ts : List (List UInt8)) (F G : List Nat) (c : Nat) (w0 w : World) (h : TB w0 w g p q n d d (.pointer (some ⟨t, 0, none⟩)) (.pointer (some ⟨m, 0, none⟩)) false F G) (hs : TS w0 w t m p q n v u ts (hasF d.now n).length) (hc : ts.length ≤ 300000 + c) (hc6 : c < 60) (hok : a.ok) (hk : a.kind % 7 = 0) (hT : TabW w0) (hn : n.size ≤ 9223372036854775807) (hX : d.apE n a.s ≠ 0) (hX3 : d.apE n a.s ≠ 31) :
    Calls Tryz.prog 8 #[.pointer (some ⟨g, 0, none⟩), .agg #[.int .i64 a.kind, .int .i64 a.pos, .int .i64 a.n, .string a.s]] w fun r w' => r = .returned (.bool true) ∧ ∃ d', TW w0 w' g p q n d' (c + 1) ∧ (Srt d.safe → Srt d'.safe) := by
  obtain ⟨_, _, _, hsz⟩ := hok
  have hi := h.dk.inv
  have hX0 := hX
  have AM := hide (fun W => among_any a.kind 7 W (by decide) (by decide))
  rw [hk] at AM
  have HA := hide (h.act a)
  have HS := hide (hs.kpn (Kp.alloc w (.cells (a4C a) 38)))
  have HC := hide hc
  change Hid (SB w0 (w.alloc (.cells #[.int .i64 a.kind, .int .i64 a.pos, .int .i64 a.n, .string a.s] 38)) g p q n d d (.pointer (some ⟨t, 0, none⟩)) (.pointer (some ⟨m, 0, none⟩)) false F G w.heap.size a) at HA
  change Hid (TS w0 (w.alloc (.cells #[.int .i64 a.kind, .int .i64 a.pos, .int .i64 a.n, .string a.s] 38)) t m p q n v u ts (hasF d.now n).length) at HS
  clear h hk hs hc
  obtain ⟨e0, e1, e2, e3, e4, e5, a0, a1, a2, a3⟩ := (unhide HA).all
  go_enter Tryz.func8, Tryz.ntmps8
  go_wp2_with fail
  refine (unhide AM _).mono ?_
  rintro r w1 ⟨rfl, rfl⟩
  clear AM
  generalize hW : w.alloc (.cells #[.int .i64 a.kind, .int .i64 a.pos, .int .i64 a.n, .string a.s] 38) = w1 at *
  clear hW
  generalize w.heap.size = b at *
  have HD := hide ((unhide HA).kpn (Kp.drew w1))
  have HSd := hide ((unhide HS).kpn (Kp.drew w1))
  have cS : w1.drew.cell? ⟨g, 0, none⟩ = some (.pointer (some ⟨p, 0, none⟩)) ∧ w1.drew.cell? ⟨g, 1, none⟩ = some (.pointer (some ⟨t, 0, none⟩)) ∧ w1.drew.cell? ⟨g, 2, none⟩ = some (.pointer (some ⟨q, 0, none⟩)) ∧ w1.drew.cell? ⟨g, 3, none⟩ = some (.pointer (some ⟨m, 0, none⟩)) ∧ w1.drew.cell? ⟨g, 4, none⟩ = some (.string n) ∧ w1.drew.cell? ⟨g, 5, none⟩ = some (.bool false) ∧ w1.drew.cell? ⟨b, 0, none⟩ = some (.int .i64 a.kind) ∧ w1.drew.cell? ⟨b, 1, none⟩ = some (.int .i64 a.pos) ∧ w1.drew.cell? ⟨b, 2, none⟩ = some (.int .i64 a.n) ∧ w1.drew.cell? ⟨b, 3, none⟩ = some (.string a.s) := (unhide HD).all
  have hcc : ts.length ≤ 1000000 := by have := unhide HC; omega
  have L1 := hide ((tappend_any t p n v ts a.s d F w1.drew (unhide HSd).tp (unhide HD).tb.dk ((unhide HD).tb.tab hT) hcc hsz).mono (fun r w' (hor : _ ∨ _) => (show r = .returned (.int .i64 (d.apE n a.s)) ∧ Did w1.drew F p (d.apD n a.s) w' from hor.elim (fun h => absurd h.1 hX0) (fun h => h.2))))
  have R1 := hide (fun W G' u (hr : RDk W q d G') (hq : RqAt W m q n u ts (hasF d.now n).length) => (rqappend_any m q n u ts a.s d G' W hq hr hi hcc hn hsz).mono (fun r w' (hor : _ ∨ _) => (show r = .returned (.int .i64 (d.apE n a.s)) ∧ RDid W G' q (d.apD n a.s) w' from hor.elim (fun h => absurd h.1 hX0) (fun h => h.2))))
  have HSM := hide (ap_same hX0)
  generalize d.apE n a.s = X at *
  have hX4 : (X == 31) = false := by simpa using hX3
  clear hX hX0 hX3 hi hT hcc
  go_wp2_with fail
  go_region_held3 (fun W => W.cell? ⟨g, 0, none⟩ = some (.pointer (some ⟨p, 0, none⟩)) ∧ W.cell? ⟨g, 1, none⟩ = some (.pointer (some ⟨t, 0, none⟩)) ∧ W.cell? ⟨g, 2, none⟩ = some (.pointer (some ⟨q, 0, none⟩)) ∧ W.cell? ⟨g, 3, none⟩ = some (.pointer (some ⟨m, 0, none⟩)) ∧ W.cell? ⟨g, 4, none⟩ = some (.string n) ∧ W.cell? ⟨g, 5, none⟩ = some (.bool false) ∧ W.cell? ⟨b, 0, none⟩ = some (.int .i64 a.kind) ∧ W.cell? ⟨b, 1, none⟩ = some (.int .i64 a.pos) ∧ W.cell? ⟨b, 2, none⟩ = some (.int .i64 a.n) ∧ W.cell? ⟨b, 3, none⟩ = some (.string a.s))
    (first | with_reducible exact cS | with_reducible exact cS2 | with_reducible exact cS3)
    (first
      | (go_at_call 17; refine (unhide R1 _ _ _ (unhide H2).tb.rd (unhide S2).rq).mono ?_; rintro r w3 ⟨rfl, hd3⟩; obtain ⟨G3, sb3, kG3⟩ := (unhide H2).right hd3; have H3 := hide sb3; have K3 := hide kG3; have cS3 := sb3.all; clear hd3 sb3 kG3)
      | (go_at_call 16; refine (unhide L1).mono ?_; rintro r w2 ⟨rfl, hd2⟩; obtain ⟨F2, sb2, kF2⟩ := (unhide HD).left hd2; have H2 := hide sb2; have S2 := hide ((unhide HSd).left (unhide HD).tb.dk kF2); have cS2 := sb2.all; clear hd2 sb2 kF2))
  have s3 := (unhide S2).right (unhide H2).tb.rd (unhide K3)
  obtain ⟨b4, f5⟩ := (unhide H3).tb.lose false
  have s4 := s3.set (i := 5) (x := .bool false) (unhide H3).tb
  have FN : Hid (TW w0 (w3.setCell ⟨g, 5, none⟩ (.bool false)) g p q n (d.apD n a.s) (c + 1)) := hide ⟨_, _, _, _, _, b4, fun _ => ⟨t, m, v, u, ts, rfl, rfl, by rw [unhide HSM]; exact s4, by have := unhide HC; omega⟩⟩
  clear e0 e1 e2 e3 e4 e5 a0 a1 a2 a3 cS cS2 cS3
  obtain ⟨e0, e1, e2, e3, e4, e5, a0, a1, a2, a3⟩ := (unhide H3).all
  clear s3 s4 b4
  go_wp2
  go_ret
  exact ⟨rfl, _, unhide FN, fun h => srt_ap h n a.s⟩
end Go.Proofs.YtboffmbaaokbnaaGreatDoor
