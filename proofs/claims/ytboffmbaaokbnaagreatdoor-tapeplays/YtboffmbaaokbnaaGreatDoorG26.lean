/-
  What happens to both: syncs, readings.
-/
import Derived.Test.YtboffmbaaokbnaaGreatDoorG25
namespace Go.Proofs.YtboffmbaaokbnaaGreatDoor
open Go.RowKit

set_option maxHeartbeats 2000000 in
set_option maxRecDepth 100000 in
theorem wstep_1r (a : A4) (g p q : Nat) (n : ByteArray) (d : Dk) (t m : Nat) (v u : Value) (ts : List (List UInt8)) (F G : List Nat) (c : Nat) (w0 w : World) (h : TB w0 w g p q n d d (.pointer (some ⟨t, 0, none⟩)) (.pointer (some ⟨m, 0, none⟩)) false F G) (hs : TS w0 w t m p q n v u ts (hasF d.now n).length) (hc : ts.length ≤ 300000 + c) (_ : c < 60) (hok : a.ok) (hk : a.kind % 7 = 1) (hr : d.readyB = true) :
    Calls Tryz.prog 8 #[.pointer (some ⟨g, 0, none⟩), .agg #[.int .i64 a.kind, .int .i64 a.pos, .int .i64 a.n, .string a.s]] w fun r w' => r = .returned (.bool true) ∧ ∃ d', TW w0 w' g p q n d' (c + 1) ∧ (Srt d.safe → Srt d'.safe) := by
  obtain ⟨_, _, _, _⟩ := hok
  have hX : d.syE = 0 := by unfold Dk.syE; rw [hr]; rfl
  have hi := h.dk.inv
  have AM := hide (fun W => among_any a.kind 7 W (by decide) (by decide))
  rw [hk] at AM
  have HA := hide (h.act a)
  have HS := hide (hs.kpn (Kp.alloc w (.cells (a4C a) 38)))
  have HC := hide hc
  change Hid (SB w0 (w.alloc (.cells #[.int .i64 a.kind, .int .i64 a.pos, .int .i64 a.n, .string a.s] 38)) g p q n d d (.pointer (some ⟨t, 0, none⟩)) (.pointer (some ⟨m, 0, none⟩)) false F G w.heap.size a) at HA
  change Hid (TS w0 (w.alloc (.cells #[.int .i64 a.kind, .int .i64 a.pos, .int .i64 a.n, .string a.s] 38)) t m p q n v u ts (hasF d.now n).length) at HS
  clear h hk hs hc
  obtain ⟨e0, e1, e2, e3, e4, e5, a0, a1, a2, a3⟩ := (unhide HA).all
  go_enter Tryz.func8, Tryz.ntmps8
  go_wp2_with fail
  refine (unhide AM _).mono ?_
  rintro r w1 ⟨rfl, rfl⟩
  clear AM
  generalize hW : w.alloc (.cells #[.int .i64 a.kind, .int .i64 a.pos, .int .i64 a.n, .string a.s] 38) = w1 at *
  clear hW
  generalize w.heap.size = b at *
  have HD := hide ((unhide HA).kpn (Kp.drew w1))
  have HSd := hide ((unhide HS).kpn (Kp.drew w1))
  have cS : w1.drew.cell? ⟨g, 0, none⟩ = some (.pointer (some ⟨p, 0, none⟩)) ∧ w1.drew.cell? ⟨g, 1, none⟩ = some (.pointer (some ⟨t, 0, none⟩)) ∧ w1.drew.cell? ⟨g, 2, none⟩ = some (.pointer (some ⟨q, 0, none⟩)) ∧ w1.drew.cell? ⟨g, 3, none⟩ = some (.pointer (some ⟨m, 0, none⟩)) ∧ w1.drew.cell? ⟨g, 4, none⟩ = some (.string n) ∧ w1.drew.cell? ⟨g, 5, none⟩ = some (.bool false) ∧ w1.drew.cell? ⟨b, 0, none⟩ = some (.int .i64 a.kind) ∧ w1.drew.cell? ⟨b, 1, none⟩ = some (.int .i64 a.pos) ∧ w1.drew.cell? ⟨b, 2, none⟩ = some (.int .i64 a.n) ∧ w1.drew.cell? ⟨b, 3, none⟩ = some (.string a.s) := (unhide HD).all
  have L1 := hide (tsync_any t p n v ts d F w1.drew (unhide HSd).tp (unhide HD).tb.dk)
  have R1 := hide (fun W G' (hr : RDk W q d G') => rsync_dk q d G' W hr hi)
  rw [hX] at L1
  simp only [hX] at R1
  have HRR := hide hr
  have HII := hide hi
  clear hX hr hi
  go_wp2_with fail
  go_region_held3 (fun W => W.cell? ⟨g, 0, none⟩ = some (.pointer (some ⟨p, 0, none⟩)) ∧ W.cell? ⟨g, 1, none⟩ = some (.pointer (some ⟨t, 0, none⟩)) ∧ W.cell? ⟨g, 2, none⟩ = some (.pointer (some ⟨q, 0, none⟩)) ∧ W.cell? ⟨g, 3, none⟩ = some (.pointer (some ⟨m, 0, none⟩)) ∧ W.cell? ⟨g, 4, none⟩ = some (.string n) ∧ W.cell? ⟨g, 5, none⟩ = some (.bool false) ∧ W.cell? ⟨b, 0, none⟩ = some (.int .i64 a.kind) ∧ W.cell? ⟨b, 1, none⟩ = some (.int .i64 a.pos) ∧ W.cell? ⟨b, 2, none⟩ = some (.int .i64 a.n) ∧ W.cell? ⟨b, 3, none⟩ = some (.string a.s))
    (first | with_reducible exact cS | with_reducible exact cS2 | with_reducible exact cS3)
    (first
      | (go_at_call 19; refine (unhide R1 _ _ (unhide H2).tb.rd).mono ?_; rintro r w3 ⟨rfl, hd3⟩; obtain ⟨G3, sb3, kG3⟩ := (unhide H2).right hd3; have H3 := hide sb3; have K3 := hide kG3; have cS3 := sb3.all; clear hd3 sb3 kG3)
      | (go_at_call 18; refine (unhide L1).mono ?_; rintro r w2 ⟨rfl, hd2⟩; obtain ⟨F2, sb2, kF2⟩ := (unhide HD).left hd2; have H2 := hide sb2; have K2 := hide kF2; have cS2 := sb2.all; clear hd2 sb2 kF2))
  have s3 := ((unhide HSd).left (unhide HD).tb.dk (unhide K2)).right (unhide H2).tb.rd (unhide K3)
  obtain ⟨b4, f5⟩ := (unhide H3).tb.lose false
  have s4 := s3.set (i := 5) (x := .bool false) (unhide H3).tb
  have FN : Hid (TW w0 (w3.setCell ⟨g, 5, none⟩ (.bool false)) g p q n d.syD (c + 1)) := hide ⟨_, _, _, _, _, b4, fun _ => ⟨t, m, v, u, ts, rfl, rfl, by rw [((syD_safe d).1 (unhide HRR)).2.2]; exact s4, by have := unhide HC; omega⟩⟩
  clear e0 e1 e2 e3 e4 e5 a0 a1 a2 a3 cS cS2 cS3
  obtain ⟨e0, e1, e2, e3, e4, e5, a0, a1, a2, a3⟩ := (unhide H3).all
  clear s3 s4 b4
  go_wp2
  go_ret
  exact ⟨rfl, _, unhide FN, fun h => srt_sy (unhide HII) h⟩
set_option maxHeartbeats 2000000 in
set_option maxRecDepth 100000 in
theorem wstep_1n (a : A4) (g p q : Nat) (n : ByteArray) (d : Dk) (t m : Nat) (v u : Value) (ts : List (List UInt8)) (F G : List Nat) (c : Nat) (w0 w : World) (h : TB w0 w g p q n d d (.pointer (some ⟨t, 0, none⟩)) (.pointer (some ⟨m, 0, none⟩)) false F G) (hs : TS w0 w t m p q n v u ts (hasF d.now n).length) (hc : ts.length ≤ 300000 + c) (_ : c < 60) (hok : a.ok) (hk : a.kind % 7 = 1) (hr : d.readyB = false) :
    Calls Tryz.prog 8 #[.pointer (some ⟨g, 0, none⟩), .agg #[.int .i64 a.kind, .int .i64 a.pos, .int .i64 a.n, .string a.s]] w fun r w' => r = .returned (.bool true) ∧ ∃ d', TW w0 w' g p q n d' (c + 1) ∧ (Srt d.safe → Srt d'.safe) := by
  obtain ⟨_, _, _, _⟩ := hok
  have hX : d.syE = 31 := by unfold Dk.syE; rw [hr]; rfl
  have hi := h.dk.inv
  have AM := hide (fun W => among_any a.kind 7 W (by decide) (by decide))
  rw [hk] at AM
  have HA := hide (h.act a)
  have HS := hide (hs.kpn (Kp.alloc w (.cells (a4C a) 38)))
  have HC := hide hc
  change Hid (SB w0 (w.alloc (.cells #[.int .i64 a.kind, .int .i64 a.pos, .int .i64 a.n, .string a.s] 38)) g p q n d d (.pointer (some ⟨t, 0, none⟩)) (.pointer (some ⟨m, 0, none⟩)) false F G w.heap.size a) at HA
  change Hid (TS w0 (w.alloc (.cells #[.int .i64 a.kind, .int .i64 a.pos, .int .i64 a.n, .string a.s] 38)) t m p q n v u ts (hasF d.now n).length) at HS
  clear h hk hs hc
  obtain ⟨e0, e1, e2, e3, e4, e5, a0, a1, a2, a3⟩ := (unhide HA).all
  go_enter Tryz.func8, Tryz.ntmps8
  go_wp2_with fail
  refine (unhide AM _).mono ?_
  rintro r w1 ⟨rfl, rfl⟩
  clear AM
  generalize hW : w.alloc (.cells #[.int .i64 a.kind, .int .i64 a.pos, .int .i64 a.n, .string a.s] 38) = w1 at *
  clear hW
  generalize w.heap.size = b at *
  have HD := hide ((unhide HA).kpn (Kp.drew w1))
  have HSd := hide ((unhide HS).kpn (Kp.drew w1))
  have cS : w1.drew.cell? ⟨g, 0, none⟩ = some (.pointer (some ⟨p, 0, none⟩)) ∧ w1.drew.cell? ⟨g, 1, none⟩ = some (.pointer (some ⟨t, 0, none⟩)) ∧ w1.drew.cell? ⟨g, 2, none⟩ = some (.pointer (some ⟨q, 0, none⟩)) ∧ w1.drew.cell? ⟨g, 3, none⟩ = some (.pointer (some ⟨m, 0, none⟩)) ∧ w1.drew.cell? ⟨g, 4, none⟩ = some (.string n) ∧ w1.drew.cell? ⟨g, 5, none⟩ = some (.bool false) ∧ w1.drew.cell? ⟨b, 0, none⟩ = some (.int .i64 a.kind) ∧ w1.drew.cell? ⟨b, 1, none⟩ = some (.int .i64 a.pos) ∧ w1.drew.cell? ⟨b, 2, none⟩ = some (.int .i64 a.n) ∧ w1.drew.cell? ⟨b, 3, none⟩ = some (.string a.s) := (unhide HD).all
  have L1 := hide (tsync_any t p n v ts d F w1.drew (unhide HSd).tp (unhide HD).tb.dk)
  have R1 := hide (fun W G' (hr : RDk W q d G') => rsync_dk q d G' W hr hi)
  rw [hX] at L1
  simp only [hX] at R1
  have HRR := hide hr
  have HII := hide hi
  clear hX hr hi
  go_wp2_with fail
  go_region_held3 (fun W => W.cell? ⟨g, 0, none⟩ = some (.pointer (some ⟨p, 0, none⟩)) ∧ W.cell? ⟨g, 1, none⟩ = some (.pointer (some ⟨t, 0, none⟩)) ∧ W.cell? ⟨g, 2, none⟩ = some (.pointer (some ⟨q, 0, none⟩)) ∧ W.cell? ⟨g, 3, none⟩ = some (.pointer (some ⟨m, 0, none⟩)) ∧ W.cell? ⟨g, 4, none⟩ = some (.string n) ∧ W.cell? ⟨g, 5, none⟩ = some (.bool false) ∧ W.cell? ⟨b, 0, none⟩ = some (.int .i64 a.kind) ∧ W.cell? ⟨b, 1, none⟩ = some (.int .i64 a.pos) ∧ W.cell? ⟨b, 2, none⟩ = some (.int .i64 a.n) ∧ W.cell? ⟨b, 3, none⟩ = some (.string a.s))
    (first | with_reducible exact cS | with_reducible exact cS2 | with_reducible exact cS3)
    (first
      | (go_at_call 19; refine (unhide R1 _ _ (unhide H2).tb.rd).mono ?_; rintro r w3 ⟨rfl, hd3⟩; obtain ⟨G3, sb3, kG3⟩ := (unhide H2).right hd3; have H3 := hide sb3; have K3 := hide kG3; have cS3 := sb3.all; clear hd3 sb3 kG3)
      | (go_at_call 18; refine (unhide L1).mono ?_; rintro r w2 ⟨rfl, hd2⟩; obtain ⟨F2, sb2, kF2⟩ := (unhide HD).left hd2; have H2 := hide sb2; have K2 := hide kF2; have cS2 := sb2.all; clear hd2 sb2 kF2))
  have s3 := ((unhide HSd).left (unhide HD).tb.dk (unhide K2)).right (unhide H2).tb.rd (unhide K3)
  obtain ⟨b4, f5⟩ := (unhide H3).tb.lose true
  have s4 := s3.set (i := 5) (x := .bool true) (unhide H3).tb
  have FN : Hid (TW w0 (w3.setCell ⟨g, 5, none⟩ (.bool true)) g p q n d.syD (c + 1)) := hide ⟨_, _, _, _, _, b4, fun h => absurd h (by decide)⟩
  clear e0 e1 e2 e3 e4 e5 a0 a1 a2 a3 cS cS2 cS3
  obtain ⟨e0, e1, e2, e3, e4, e5, a0, a1, a2, a3⟩ := (unhide H3).all
  clear s3 s4 b4
  go_wp2
  go_ret
  exact ⟨rfl, _, unhide FN, fun h => srt_sy (unhide HII) h⟩
set_option maxHeartbeats 2000000 in
set_option maxRecDepth 100000 in
theorem wstep_2if (a : A4) (g p q : Nat) (n : ByteArray) (d : Dk) (t m : Nat) (v u : Value) (ts : List (List UInt8)) (F G : List Nat) (c : Nat) (w0 w : World) (h : TB w0 w g p q n d d (.pointer (some ⟨t, 0, none⟩)) (.pointer (some ⟨m, 0, none⟩)) false F G) (hs : TS w0 w t m p q n v u ts (hasF d.now n).length) (hc : ts.length ≤ 300000 + c) (hc6 : c < 60) (hok : a.ok) (hk : a.kind % 7 = 2) (k : Nat) (hkp : a.pos = (k : Int)) (hkl : k < ts.length) (j : Nat) (hz : ts.length = j + 1) :
    Calls Tryz.prog 8 #[.pointer (some ⟨g, 0, none⟩), .agg #[.int .i64 a.kind, .int .i64 a.pos, .int .i64 a.n, .string a.s]] w fun r w' => r = .returned (.bool true) ∧ ∃ d', TW w0 w' g p q n d' (c + 1) ∧ (Srt d.safe → Srt d'.safe) := by
  obtain ⟨_, _, _, _⟩ := hok
  have HKP := hide hkp
  clear hkp
  have AM := hide (fun W => among_any a.kind 7 W (by decide) (by decide))
  rw [hk] at AM
  have HA := hide (h.act a)
  have HS := hide (hs.kpn (Kp.alloc w (.cells (a4C a) 38)))
  have HC := hide hc
  change Hid (SB w0 (w.alloc (.cells #[.int .i64 a.kind, .int .i64 a.pos, .int .i64 a.n, .string a.s] 38)) g p q n d d (.pointer (some ⟨t, 0, none⟩)) (.pointer (some ⟨m, 0, none⟩)) false F G w.heap.size a) at HA
  change Hid (TS w0 (w.alloc (.cells #[.int .i64 a.kind, .int .i64 a.pos, .int .i64 a.n, .string a.s] 38)) t m p q n v u ts (hasF d.now n).length) at HS
  clear h hk hs hc
  obtain ⟨e0, e1, e2, e3, e4, e5, a0, a1, a2, a3⟩ := (unhide HA).all
  go_enter Tryz.func8, Tryz.ntmps8
  go_wp2_with fail
  refine (unhide AM _).mono ?_
  rintro r w1 ⟨rfl, rfl⟩
  clear AM
  generalize hW : w.alloc (.cells #[.int .i64 a.kind, .int .i64 a.pos, .int .i64 a.n, .string a.s] 38) = w1 at *
  clear hW
  generalize w.heap.size = b at *
  have HD := hide ((unhide HA).kpn (Kp.drew w1))
  have HSd := hide ((unhide HS).kpn (Kp.drew w1))
  have cS : w1.drew.cell? ⟨g, 0, none⟩ = some (.pointer (some ⟨p, 0, none⟩)) ∧ w1.drew.cell? ⟨g, 1, none⟩ = some (.pointer (some ⟨t, 0, none⟩)) ∧ w1.drew.cell? ⟨g, 2, none⟩ = some (.pointer (some ⟨q, 0, none⟩)) ∧ w1.drew.cell? ⟨g, 3, none⟩ = some (.pointer (some ⟨m, 0, none⟩)) ∧ w1.drew.cell? ⟨g, 4, none⟩ = some (.string n) ∧ w1.drew.cell? ⟨g, 5, none⟩ = some (.bool false) ∧ w1.drew.cell? ⟨b, 0, none⟩ = some (.int .i64 a.kind) ∧ w1.drew.cell? ⟨b, 1, none⟩ = some (.int .i64 a.pos) ∧ w1.drew.cell? ⟨b, 2, none⟩ = some (.int .i64 a.n) ∧ w1.drew.cell? ⟨b, 3, none⟩ = some (.string a.s) := (unhide HD).all
  have L1 := hide (tread_ok t p n v ts k hkl w1.drew (unhide HSd).tp)
  have R1 := hide (fun W (hr : RqAt W m q n u ts (hasF d.now n).length) => rqread_ok m q n u ts _ k hkl W hr)
  have hkp := unhide HKP
  rw [← hkp] at L1
  simp only [← hkp] at R1
  generalize (⟨ts[k].toArray⟩ : ByteArray) = X at *
  have L2 := hide (fun W (hr : TpAt W t p n v ts) => last_ok t p n v ts j hz W hr)
  have R2 := hide (fun W (hr : RqAt W m q n u ts (hasF d.now n).length) => rqlast_ok m q n u ts _ j hz (by have := unhide HC; omega) W hr)
  generalize (⟨(ts.getD j []).toArray⟩ : ByteArray) = Y at *
  clear hkl hz hkp
  go_upto_region 14 with fail
  go_cut [10, 11] (fun x y wc => x = .string X ∧ y = .int .i64 0 ∧ Hid (Kp [] w1 wc))
  case first =>
    go_region_held3 (fun W => W.cell? ⟨g, 0, none⟩ = some (.pointer (some ⟨p, 0, none⟩)) ∧ W.cell? ⟨g, 1, none⟩ = some (.pointer (some ⟨t, 0, none⟩)) ∧ W.cell? ⟨g, 2, none⟩ = some (.pointer (some ⟨q, 0, none⟩)) ∧ W.cell? ⟨g, 3, none⟩ = some (.pointer (some ⟨m, 0, none⟩)) ∧ W.cell? ⟨g, 4, none⟩ = some (.string n) ∧ W.cell? ⟨g, 5, none⟩ = some (.bool false) ∧ W.cell? ⟨b, 0, none⟩ = some (.int .i64 a.kind) ∧ W.cell? ⟨b, 1, none⟩ = some (.int .i64 a.pos) ∧ W.cell? ⟨b, 2, none⟩ = some (.int .i64 a.n) ∧ W.cell? ⟨b, 3, none⟩ = some (.string a.s))
      (first | with_reducible exact cS | with_reducible exact cS2)
      (first | (go_at_call 20; refine (unhide L1).mono ?_; rintro r w2 ⟨rfl, k2⟩; have K2 := hide ((Kp.drew w1).trans k2 (by simp)); have cS2 := ((unhide HA).kpn (unhide K2)).all; clear k2))
    go_wp2
    go_meet
    exact ⟨rfl, rfl, K2⟩
  case rest =>
    obtain ⟨rfl, rfl, K2⟩ := hcut
    clear cS e0 e1 e2 e3 e4 e5 a0 a1 a2 a3 HD HSd L1
    have H2 := hide ((unhide HA).kpn (unhide K2))
    have S2 := hide ((unhide HS).kpn (unhide K2))
    have H2d := hide ((unhide H2).kpn (Kp.drew wc))
    have cS : wc.drew.cell? ⟨g, 0, none⟩ = some (.pointer (some ⟨p, 0, none⟩)) ∧ wc.drew.cell? ⟨g, 1, none⟩ = some (.pointer (some ⟨t, 0, none⟩)) ∧ wc.drew.cell? ⟨g, 2, none⟩ = some (.pointer (some ⟨q, 0, none⟩)) ∧ wc.drew.cell? ⟨g, 3, none⟩ = some (.pointer (some ⟨m, 0, none⟩)) ∧ wc.drew.cell? ⟨g, 4, none⟩ = some (.string n) ∧ wc.drew.cell? ⟨g, 5, none⟩ = some (.bool false) ∧ wc.drew.cell? ⟨b, 0, none⟩ = some (.int .i64 a.kind) ∧ wc.drew.cell? ⟨b, 1, none⟩ = some (.int .i64 a.pos) ∧ wc.drew.cell? ⟨b, 2, none⟩ = some (.int .i64 a.n) ∧ wc.drew.cell? ⟨b, 3, none⟩ = some (.string a.s) := (unhide H2d).all
    obtain ⟨e0, e1, e2, e3, e4, e5, a0, a1, a2, a3⟩ := (unhide H2).all
    have R1' := hide (unhide R1 wc.drew ((unhide S2).kpn (Kp.drew wc)).rq)
    go_upto_region 15 with fail
    go_cut [12, 13] (fun x y wd => x = .string X ∧ y = .int .i64 0 ∧ Hid (Kp [] w1 wd))
    case first =>
      go_region_held3 (fun W => W.cell? ⟨g, 0, none⟩ = some (.pointer (some ⟨p, 0, none⟩)) ∧ W.cell? ⟨g, 1, none⟩ = some (.pointer (some ⟨t, 0, none⟩)) ∧ W.cell? ⟨g, 2, none⟩ = some (.pointer (some ⟨q, 0, none⟩)) ∧ W.cell? ⟨g, 3, none⟩ = some (.pointer (some ⟨m, 0, none⟩)) ∧ W.cell? ⟨g, 4, none⟩ = some (.string n) ∧ W.cell? ⟨g, 5, none⟩ = some (.bool false) ∧ W.cell? ⟨b, 0, none⟩ = some (.int .i64 a.kind) ∧ W.cell? ⟨b, 1, none⟩ = some (.int .i64 a.pos) ∧ W.cell? ⟨b, 2, none⟩ = some (.int .i64 a.n) ∧ W.cell? ⟨b, 3, none⟩ = some (.string a.s))
        (first | with_reducible exact cS | with_reducible exact cS2)
        (first | (go_at_call 21; refine (unhide R1').mono ?_; rintro r w3 ⟨rfl, k3⟩; have K3 : Hid (Kp [] w1 w3) := hide (by rw [k3]; exact (unhide K2).trans (Kp.drew wc) (by simp)); have cS2 := ((unhide HA).kpn (unhide K3)).all; clear k3))
      go_wp2
      go_meet
      exact ⟨rfl, rfl, K3⟩
    case rest =>
      obtain ⟨rfl, rfl, K3⟩ := hcut
      clear cS e0 e1 e2 e3 e4 e5 a0 a1 a2 a3 H2 H2d S2 R1 R1'
      obtain ⟨e0, e1, e2, e3, e4, e5, a0, a1, a2, a3⟩ := ((unhide HA).kpn (unhide K3)).all
      have L2' := hide (unhide L2 wc ((unhide HS).kpn (unhide K3)).tp)
      go_wp2_with fail
      refine (unhide L2').mono ?_
      rintro r w4 ⟨rfl, k4⟩
      have K4 := hide ((unhide K3).trans k4 (by simp))
      clear e0 e1 e2 e3 e4 e5 a0 a1 a2 a3 k4 L2 L2'
      obtain ⟨e0, e1, e2, e3, e4, e5, a0, a1, a2, a3⟩ := ((unhide HA).kpn (unhide K4)).all
      have R2' := hide (unhide R2 w4 ((unhide HS).kpn (unhide K4)).rq)
      go_wp2_with fail
      refine (unhide R2').mono ?_
      rintro r w5 ⟨rfl, k5⟩
      have K5 : Hid (Kp [] w1 w5) := hide ((unhide K4).trans k5 (by simp))
      have FN : Hid (TW w0 w5 g p q n d (c + 1)) := hide ⟨_, _, _, _, _, ((unhide HA).kpn (unhide K5)).tb, fun _ => ⟨t, m, v, u, ts, rfl, rfl, (unhide HS).kpn (unhide K5), by have := unhide HC; omega⟩⟩
      clear k5 R2 R2'
      go_wp2
      go_ret
      exact ⟨rfl, _, unhide FN, id⟩
set_option maxHeartbeats 2000000 in
set_option maxRecDepth 100000 in
theorem wstep_2oe (a : A4) (g p q : Nat) (n : ByteArray) (d : Dk) (t m : Nat) (v u : Value) (ts : List (List UInt8)) (F G : List Nat) (c : Nat) (w0 w : World) (h : TB w0 w g p q n d d (.pointer (some ⟨t, 0, none⟩)) (.pointer (some ⟨m, 0, none⟩)) false F G) (hs : TS w0 w t m p q n v u ts (hasF d.now n).length) (hc : ts.length ≤ 300000 + c) (_ : c < 60) (hok : a.ok) (hk : a.kind % 7 = 2) (hkl : ¬ (0 ≤ a.pos ∧ a.pos < (ts.length : Int))) (hz : ts = []) :
    Calls Tryz.prog 8 #[.pointer (some ⟨g, 0, none⟩), .agg #[.int .i64 a.kind, .int .i64 a.pos, .int .i64 a.n, .string a.s]] w fun r w' => r = .returned (.bool true) ∧ ∃ d', TW w0 w' g p q n d' (c + 1) ∧ (Srt d.safe → Srt d'.safe) := by
  obtain ⟨_, _, _, _⟩ := hok
  have AM := hide (fun W => among_any a.kind 7 W (by decide) (by decide))
  rw [hk] at AM
  have HA := hide (h.act a)
  have HS := hide (hs.kpn (Kp.alloc w (.cells (a4C a) 38)))
  have HC := hide hc
  change Hid (SB w0 (w.alloc (.cells #[.int .i64 a.kind, .int .i64 a.pos, .int .i64 a.n, .string a.s] 38)) g p q n d d (.pointer (some ⟨t, 0, none⟩)) (.pointer (some ⟨m, 0, none⟩)) false F G w.heap.size a) at HA
  change Hid (TS w0 (w.alloc (.cells #[.int .i64 a.kind, .int .i64 a.pos, .int .i64 a.n, .string a.s] 38)) t m p q n v u ts (hasF d.now n).length) at HS
  clear h hk hs hc
  obtain ⟨e0, e1, e2, e3, e4, e5, a0, a1, a2, a3⟩ := (unhide HA).all
  go_enter Tryz.func8, Tryz.ntmps8
  go_wp2_with fail
  refine (unhide AM _).mono ?_
  rintro r w1 ⟨rfl, rfl⟩
  clear AM
  generalize hW : w.alloc (.cells #[.int .i64 a.kind, .int .i64 a.pos, .int .i64 a.n, .string a.s] 38) = w1 at *
  clear hW
  generalize w.heap.size = b at *
  have HD := hide ((unhide HA).kpn (Kp.drew w1))
  have HSd := hide ((unhide HS).kpn (Kp.drew w1))
  have cS : w1.drew.cell? ⟨g, 0, none⟩ = some (.pointer (some ⟨p, 0, none⟩)) ∧ w1.drew.cell? ⟨g, 1, none⟩ = some (.pointer (some ⟨t, 0, none⟩)) ∧ w1.drew.cell? ⟨g, 2, none⟩ = some (.pointer (some ⟨q, 0, none⟩)) ∧ w1.drew.cell? ⟨g, 3, none⟩ = some (.pointer (some ⟨m, 0, none⟩)) ∧ w1.drew.cell? ⟨g, 4, none⟩ = some (.string n) ∧ w1.drew.cell? ⟨g, 5, none⟩ = some (.bool false) ∧ w1.drew.cell? ⟨b, 0, none⟩ = some (.int .i64 a.kind) ∧ w1.drew.cell? ⟨b, 1, none⟩ = some (.int .i64 a.pos) ∧ w1.drew.cell? ⟨b, 2, none⟩ = some (.int .i64 a.n) ∧ w1.drew.cell? ⟨b, 3, none⟩ = some (.string a.s) := (unhide HD).all
  have L1 := hide (tread_not t p n v ts a.pos hkl w1.drew (unhide HSd).tp)
  have R1 := hide (fun W (hr : RqAt W m q n u ts (hasF d.now n).length) => rqread_not m q n u ts _ a.pos hkl W hr)
  have L2 := hide (fun W (hr : TpAt W t p n v ts) => last_not t p n v W (by rw [hz] at hr; exact hr))
  have R2 := hide (fun W (hr : RqAt W m q n u ts (hasF d.now n).length) => rqlast_not m q n u _ W (by rw [hz] at hr; exact hr))
  clear hkl hz
  go_upto_region 14 with fail
  go_cut [10, 11] (fun x y wc => x = .string ⟨#[]⟩ ∧ y = .int .i64 1 ∧ Hid (Kp [] w1 wc))
  case first =>
    go_region_held3 (fun W => W.cell? ⟨g, 0, none⟩ = some (.pointer (some ⟨p, 0, none⟩)) ∧ W.cell? ⟨g, 1, none⟩ = some (.pointer (some ⟨t, 0, none⟩)) ∧ W.cell? ⟨g, 2, none⟩ = some (.pointer (some ⟨q, 0, none⟩)) ∧ W.cell? ⟨g, 3, none⟩ = some (.pointer (some ⟨m, 0, none⟩)) ∧ W.cell? ⟨g, 4, none⟩ = some (.string n) ∧ W.cell? ⟨g, 5, none⟩ = some (.bool false) ∧ W.cell? ⟨b, 0, none⟩ = some (.int .i64 a.kind) ∧ W.cell? ⟨b, 1, none⟩ = some (.int .i64 a.pos) ∧ W.cell? ⟨b, 2, none⟩ = some (.int .i64 a.n) ∧ W.cell? ⟨b, 3, none⟩ = some (.string a.s))
      (first | with_reducible exact cS | with_reducible exact cS2)
      (first | (go_at_call 20; refine (unhide L1).mono ?_; rintro r w2 ⟨rfl, k2⟩; have K2 := hide ((Kp.drew w1).trans k2 (by simp)); have cS2 := ((unhide HA).kpn (unhide K2)).all; clear k2))
    go_wp2
    go_meet
    exact ⟨rfl, rfl, K2⟩
  case rest =>
    obtain ⟨rfl, rfl, K2⟩ := hcut
    clear cS e0 e1 e2 e3 e4 e5 a0 a1 a2 a3 HD HSd L1
    have H2 := hide ((unhide HA).kpn (unhide K2))
    have S2 := hide ((unhide HS).kpn (unhide K2))
    have H2d := hide ((unhide H2).kpn (Kp.drew wc))
    have cS : wc.drew.cell? ⟨g, 0, none⟩ = some (.pointer (some ⟨p, 0, none⟩)) ∧ wc.drew.cell? ⟨g, 1, none⟩ = some (.pointer (some ⟨t, 0, none⟩)) ∧ wc.drew.cell? ⟨g, 2, none⟩ = some (.pointer (some ⟨q, 0, none⟩)) ∧ wc.drew.cell? ⟨g, 3, none⟩ = some (.pointer (some ⟨m, 0, none⟩)) ∧ wc.drew.cell? ⟨g, 4, none⟩ = some (.string n) ∧ wc.drew.cell? ⟨g, 5, none⟩ = some (.bool false) ∧ wc.drew.cell? ⟨b, 0, none⟩ = some (.int .i64 a.kind) ∧ wc.drew.cell? ⟨b, 1, none⟩ = some (.int .i64 a.pos) ∧ wc.drew.cell? ⟨b, 2, none⟩ = some (.int .i64 a.n) ∧ wc.drew.cell? ⟨b, 3, none⟩ = some (.string a.s) := (unhide H2d).all
    obtain ⟨e0, e1, e2, e3, e4, e5, a0, a1, a2, a3⟩ := (unhide H2).all
    have R1' := hide (unhide R1 wc.drew ((unhide S2).kpn (Kp.drew wc)).rq)
    go_upto_region 15 with fail
    go_cut [12, 13] (fun x y wd => x = .string ⟨#[]⟩ ∧ y = .int .i64 1 ∧ Hid (Kp [] w1 wd))
    case first =>
      go_region_held3 (fun W => W.cell? ⟨g, 0, none⟩ = some (.pointer (some ⟨p, 0, none⟩)) ∧ W.cell? ⟨g, 1, none⟩ = some (.pointer (some ⟨t, 0, none⟩)) ∧ W.cell? ⟨g, 2, none⟩ = some (.pointer (some ⟨q, 0, none⟩)) ∧ W.cell? ⟨g, 3, none⟩ = some (.pointer (some ⟨m, 0, none⟩)) ∧ W.cell? ⟨g, 4, none⟩ = some (.string n) ∧ W.cell? ⟨g, 5, none⟩ = some (.bool false) ∧ W.cell? ⟨b, 0, none⟩ = some (.int .i64 a.kind) ∧ W.cell? ⟨b, 1, none⟩ = some (.int .i64 a.pos) ∧ W.cell? ⟨b, 2, none⟩ = some (.int .i64 a.n) ∧ W.cell? ⟨b, 3, none⟩ = some (.string a.s))
        (first | with_reducible exact cS | with_reducible exact cS2)
        (first | (go_at_call 21; refine (unhide R1').mono ?_; rintro r w3 ⟨rfl, k3⟩; have K3 : Hid (Kp [] w1 w3) := hide (by rw [k3]; exact (unhide K2).trans (Kp.drew wc) (by simp)); have cS2 := ((unhide HA).kpn (unhide K3)).all; clear k3))
      go_wp2
      go_meet
      exact ⟨rfl, rfl, K3⟩
    case rest =>
      obtain ⟨rfl, rfl, K3⟩ := hcut
      clear cS e0 e1 e2 e3 e4 e5 a0 a1 a2 a3 H2 H2d S2 R1 R1'
      obtain ⟨e0, e1, e2, e3, e4, e5, a0, a1, a2, a3⟩ := ((unhide HA).kpn (unhide K3)).all
      have L2' := hide (unhide L2 wc ((unhide HS).kpn (unhide K3)).tp)
      go_wp2_with fail
      refine (unhide L2').mono ?_
      rintro r w4 ⟨rfl, k4⟩
      have K4 := hide ((unhide K3).trans k4 (by simp))
      clear e0 e1 e2 e3 e4 e5 a0 a1 a2 a3 k4 L2 L2'
      obtain ⟨e0, e1, e2, e3, e4, e5, a0, a1, a2, a3⟩ := ((unhide HA).kpn (unhide K4)).all
      have R2' := hide (unhide R2 w4 ((unhide HS).kpn (unhide K4)).rq)
      go_wp2_with fail
      refine (unhide R2').mono ?_
      rintro r w5 ⟨rfl, k5⟩
      have K5 : Hid (Kp [] w1 w5) := hide (by rw [k5]; exact unhide K4)
      have FN : Hid (TW w0 w5 g p q n d (c + 1)) := hide ⟨_, _, _, _, _, ((unhide HA).kpn (unhide K5)).tb, fun _ => ⟨t, m, v, u, ts, rfl, rfl, (unhide HS).kpn (unhide K5), by have := unhide HC; omega⟩⟩
      clear k5 R2 R2'
      go_wp2
      go_ret
      exact ⟨rfl, _, unhide FN, id⟩
set_option maxHeartbeats 2000000 in
set_option maxRecDepth 100000 in
theorem wstep_2of (a : A4) (g p q : Nat) (n : ByteArray) (d : Dk) (t m : Nat) (v u : Value) (ts : List (List UInt8)) (F G : List Nat) (c : Nat) (w0 w : World) (h : TB w0 w g p q n d d (.pointer (some ⟨t, 0, none⟩)) (.pointer (some ⟨m, 0, none⟩)) false F G) (hs : TS w0 w t m p q n v u ts (hasF d.now n).length) (hc : ts.length ≤ 300000 + c) (hc6 : c < 60) (hok : a.ok) (hk : a.kind % 7 = 2) (hkl : ¬ (0 ≤ a.pos ∧ a.pos < (ts.length : Int))) (j : Nat) (hz : ts.length = j + 1) :
    Calls Tryz.prog 8 #[.pointer (some ⟨g, 0, none⟩), .agg #[.int .i64 a.kind, .int .i64 a.pos, .int .i64 a.n, .string a.s]] w fun r w' => r = .returned (.bool true) ∧ ∃ d', TW w0 w' g p q n d' (c + 1) ∧ (Srt d.safe → Srt d'.safe) := by
  obtain ⟨_, _, _, _⟩ := hok
  have AM := hide (fun W => among_any a.kind 7 W (by decide) (by decide))
  rw [hk] at AM
  have HA := hide (h.act a)
  have HS := hide (hs.kpn (Kp.alloc w (.cells (a4C a) 38)))
  have HC := hide hc
  change Hid (SB w0 (w.alloc (.cells #[.int .i64 a.kind, .int .i64 a.pos, .int .i64 a.n, .string a.s] 38)) g p q n d d (.pointer (some ⟨t, 0, none⟩)) (.pointer (some ⟨m, 0, none⟩)) false F G w.heap.size a) at HA
  change Hid (TS w0 (w.alloc (.cells #[.int .i64 a.kind, .int .i64 a.pos, .int .i64 a.n, .string a.s] 38)) t m p q n v u ts (hasF d.now n).length) at HS
  clear h hk hs hc
  obtain ⟨e0, e1, e2, e3, e4, e5, a0, a1, a2, a3⟩ := (unhide HA).all
  go_enter Tryz.func8, Tryz.ntmps8
  go_wp2_with fail
  refine (unhide AM _).mono ?_
  rintro r w1 ⟨rfl, rfl⟩
  clear AM
  generalize hW : w.alloc (.cells #[.int .i64 a.kind, .int .i64 a.pos, .int .i64 a.n, .string a.s] 38) = w1 at *
  clear hW
  generalize w.heap.size = b at *
  have HD := hide ((unhide HA).kpn (Kp.drew w1))
  have HSd := hide ((unhide HS).kpn (Kp.drew w1))
  have cS : w1.drew.cell? ⟨g, 0, none⟩ = some (.pointer (some ⟨p, 0, none⟩)) ∧ w1.drew.cell? ⟨g, 1, none⟩ = some (.pointer (some ⟨t, 0, none⟩)) ∧ w1.drew.cell? ⟨g, 2, none⟩ = some (.pointer (some ⟨q, 0, none⟩)) ∧ w1.drew.cell? ⟨g, 3, none⟩ = some (.pointer (some ⟨m, 0, none⟩)) ∧ w1.drew.cell? ⟨g, 4, none⟩ = some (.string n) ∧ w1.drew.cell? ⟨g, 5, none⟩ = some (.bool false) ∧ w1.drew.cell? ⟨b, 0, none⟩ = some (.int .i64 a.kind) ∧ w1.drew.cell? ⟨b, 1, none⟩ = some (.int .i64 a.pos) ∧ w1.drew.cell? ⟨b, 2, none⟩ = some (.int .i64 a.n) ∧ w1.drew.cell? ⟨b, 3, none⟩ = some (.string a.s) := (unhide HD).all
  have L1 := hide (tread_not t p n v ts a.pos hkl w1.drew (unhide HSd).tp)
  have R1 := hide (fun W (hr : RqAt W m q n u ts (hasF d.now n).length) => rqread_not m q n u ts _ a.pos hkl W hr)
  have L2 := hide (fun W (hr : TpAt W t p n v ts) => last_ok t p n v ts j hz W hr)
  have R2 := hide (fun W (hr : RqAt W m q n u ts (hasF d.now n).length) => rqlast_ok m q n u ts _ j hz (by have := unhide HC; omega) W hr)
  generalize (⟨(ts.getD j []).toArray⟩ : ByteArray) = Y at *
  clear hkl hz
  go_upto_region 14 with fail
  go_cut [10, 11] (fun x y wc => x = .string ⟨#[]⟩ ∧ y = .int .i64 1 ∧ Hid (Kp [] w1 wc))
  case first =>
    go_region_held3 (fun W => W.cell? ⟨g, 0, none⟩ = some (.pointer (some ⟨p, 0, none⟩)) ∧ W.cell? ⟨g, 1, none⟩ = some (.pointer (some ⟨t, 0, none⟩)) ∧ W.cell? ⟨g, 2, none⟩ = some (.pointer (some ⟨q, 0, none⟩)) ∧ W.cell? ⟨g, 3, none⟩ = some (.pointer (some ⟨m, 0, none⟩)) ∧ W.cell? ⟨g, 4, none⟩ = some (.string n) ∧ W.cell? ⟨g, 5, none⟩ = some (.bool false) ∧ W.cell? ⟨b, 0, none⟩ = some (.int .i64 a.kind) ∧ W.cell? ⟨b, 1, none⟩ = some (.int .i64 a.pos) ∧ W.cell? ⟨b, 2, none⟩ = some (.int .i64 a.n) ∧ W.cell? ⟨b, 3, none⟩ = some (.string a.s))
      (first | with_reducible exact cS | with_reducible exact cS2)
      (first | (go_at_call 20; refine (unhide L1).mono ?_; rintro r w2 ⟨rfl, k2⟩; have K2 := hide ((Kp.drew w1).trans k2 (by simp)); have cS2 := ((unhide HA).kpn (unhide K2)).all; clear k2))
    go_wp2
    go_meet
    exact ⟨rfl, rfl, K2⟩
  case rest =>
    obtain ⟨rfl, rfl, K2⟩ := hcut
    clear cS e0 e1 e2 e3 e4 e5 a0 a1 a2 a3 HD HSd L1
    have H2 := hide ((unhide HA).kpn (unhide K2))
    have S2 := hide ((unhide HS).kpn (unhide K2))
    have H2d := hide ((unhide H2).kpn (Kp.drew wc))
    have cS : wc.drew.cell? ⟨g, 0, none⟩ = some (.pointer (some ⟨p, 0, none⟩)) ∧ wc.drew.cell? ⟨g, 1, none⟩ = some (.pointer (some ⟨t, 0, none⟩)) ∧ wc.drew.cell? ⟨g, 2, none⟩ = some (.pointer (some ⟨q, 0, none⟩)) ∧ wc.drew.cell? ⟨g, 3, none⟩ = some (.pointer (some ⟨m, 0, none⟩)) ∧ wc.drew.cell? ⟨g, 4, none⟩ = some (.string n) ∧ wc.drew.cell? ⟨g, 5, none⟩ = some (.bool false) ∧ wc.drew.cell? ⟨b, 0, none⟩ = some (.int .i64 a.kind) ∧ wc.drew.cell? ⟨b, 1, none⟩ = some (.int .i64 a.pos) ∧ wc.drew.cell? ⟨b, 2, none⟩ = some (.int .i64 a.n) ∧ wc.drew.cell? ⟨b, 3, none⟩ = some (.string a.s) := (unhide H2d).all
    obtain ⟨e0, e1, e2, e3, e4, e5, a0, a1, a2, a3⟩ := (unhide H2).all
    have R1' := hide (unhide R1 wc.drew ((unhide S2).kpn (Kp.drew wc)).rq)
    go_upto_region 15 with fail
    go_cut [12, 13] (fun x y wd => x = .string ⟨#[]⟩ ∧ y = .int .i64 1 ∧ Hid (Kp [] w1 wd))
    case first =>
      go_region_held3 (fun W => W.cell? ⟨g, 0, none⟩ = some (.pointer (some ⟨p, 0, none⟩)) ∧ W.cell? ⟨g, 1, none⟩ = some (.pointer (some ⟨t, 0, none⟩)) ∧ W.cell? ⟨g, 2, none⟩ = some (.pointer (some ⟨q, 0, none⟩)) ∧ W.cell? ⟨g, 3, none⟩ = some (.pointer (some ⟨m, 0, none⟩)) ∧ W.cell? ⟨g, 4, none⟩ = some (.string n) ∧ W.cell? ⟨g, 5, none⟩ = some (.bool false) ∧ W.cell? ⟨b, 0, none⟩ = some (.int .i64 a.kind) ∧ W.cell? ⟨b, 1, none⟩ = some (.int .i64 a.pos) ∧ W.cell? ⟨b, 2, none⟩ = some (.int .i64 a.n) ∧ W.cell? ⟨b, 3, none⟩ = some (.string a.s))
        (first | with_reducible exact cS | with_reducible exact cS2)
        (first | (go_at_call 21; refine (unhide R1').mono ?_; rintro r w3 ⟨rfl, k3⟩; have K3 : Hid (Kp [] w1 w3) := hide (by rw [k3]; exact (unhide K2).trans (Kp.drew wc) (by simp)); have cS2 := ((unhide HA).kpn (unhide K3)).all; clear k3))
      go_wp2
      go_meet
      exact ⟨rfl, rfl, K3⟩
    case rest =>
      obtain ⟨rfl, rfl, K3⟩ := hcut
      clear cS e0 e1 e2 e3 e4 e5 a0 a1 a2 a3 H2 H2d S2 R1 R1'
      obtain ⟨e0, e1, e2, e3, e4, e5, a0, a1, a2, a3⟩ := ((unhide HA).kpn (unhide K3)).all
      have L2' := hide (unhide L2 wc ((unhide HS).kpn (unhide K3)).tp)
      go_wp2_with fail
      refine (unhide L2').mono ?_
      rintro r w4 ⟨rfl, k4⟩
      have K4 := hide ((unhide K3).trans k4 (by simp))
      clear e0 e1 e2 e3 e4 e5 a0 a1 a2 a3 k4 L2 L2'
      obtain ⟨e0, e1, e2, e3, e4, e5, a0, a1, a2, a3⟩ := ((unhide HA).kpn (unhide K4)).all
      have R2' := hide (unhide R2 w4 ((unhide HS).kpn (unhide K4)).rq)
      go_wp2_with fail
      refine (unhide R2').mono ?_
      rintro r w5 ⟨rfl, k5⟩
      have K5 : Hid (Kp [] w1 w5) := hide ((unhide K4).trans k5 (by simp))
      have FN : Hid (TW w0 w5 g p q n d (c + 1)) := hide ⟨_, _, _, _, _, ((unhide HA).kpn (unhide K5)).tb, fun _ => ⟨t, m, v, u, ts, rfl, rfl, (unhide HS).kpn (unhide K5), by have := unhide HC; omega⟩⟩
      clear k5 R2 R2'
      go_wp2
      go_ret
      exact ⟨rfl, _, unhide FN, id⟩
theorem wstep_2 (a : A4) (g p q : Nat) (n : ByteArray) (d : Dk) (t m : Nat) (v u : Value) (ts : List (List UInt8)) (F G : List Nat) (c : Nat) (w0 w : World) (h : TB w0 w g p q n d d (.pointer (some ⟨t, 0, none⟩)) (.pointer (some ⟨m, 0, none⟩)) false F G) (hs : TS w0 w t m p q n v u ts (hasF d.now n).length) (hc : ts.length ≤ 300000 + c) (hc6 : c < 60) (hok : a.ok) (hk : a.kind % 7 = 2) :
    Calls Tryz.prog 8 #[.pointer (some ⟨g, 0, none⟩), .agg #[.int .i64 a.kind, .int .i64 a.pos, .int .i64 a.n, .string a.s]] w fun r w' => r = .returned (.bool true) ∧ ∃ d', TW w0 w' g p q n d' (c + 1) ∧ (Srt d.safe → Srt d'.safe) := by
  cases hz : ts with
  | nil =>
    rw [hz] at hs hc
    exact wstep_2oe a g p q n d t m v u [] F G c w0 w h hs hc hc6 hok hk (by simp) rfl
  | cons x r =>
    have hl : ts.length = r.length + 1 := by rw [hz]; rfl
    by_cases hr : 0 ≤ a.pos ∧ a.pos < (ts.length : Int)
    · exact wstep_2if a g p q n d t m v u ts F G c w0 w h hs hc hc6 hok hk a.pos.toNat (by omega) (by omega) r.length hl
    · exact wstep_2of a g p q n d t m v u ts F G c w0 w h hs hc hc6 hok hk hr r.length hl
end Go.Proofs.YtboffmbaaokbnaaGreatDoor
