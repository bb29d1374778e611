/-
  What happens to both: crashes, foreign bytes, opening.
  Names of a disk, and what is read by them.
  Whether texts are the same.
  Waiting of a disk.
-/
import Derived.Test.YtboffmbaaokbnaaGreatDoorG27
import Derived.Test.YtboffmbaaokbnaaGreatDoorG23
import Derived.Deep.AppendLies
import Derived.Test.YtboffmbaaokbnaaGreatDoorG06
namespace Go.Proofs.YtboffmbaaokbnaaGreatDoor
open Go.RowKit

set_option maxHeartbeats 2000000 in
set_option maxRecDepth 100000 in
theorem wstep_4t (a : A4) (g p q : Nat) (n : ByteArray) (d : Dk) (tv mv : Value) (F G : List Nat) (c : Nat) (w0 w : World) (h : TB w0 w g p q n d d tv mv true F G) (hok : a.ok) (hk : a.kind % 7 = 4) (hT : TabW w0) (hn : n.size ≤ 9223372036854775807) :
    Calls Tryz.prog 8 #[.pointer (some ⟨g, 0, none⟩), .agg #[.int .i64 a.kind, .int .i64 a.pos, .int .i64 a.n, .string a.s]] w fun r w' => r = .returned (.bool true) ∧ ∃ d', TW w0 w' g p q n d' (c + 1) ∧ (Srt d.safe → Srt d'.safe) := by
  obtain ⟨_, _, ⟨_, n1⟩, _⟩ := hok
  have hi := h.dk.inv
  have AM := hide (fun W => among_any a.kind 7 W (by decide) (by decide))
  rw [hk] at AM
  have HA := hide (h.act a)
  change Hid (SB w0 (w.alloc (.cells #[.int .i64 a.kind, .int .i64 a.pos, .int .i64 a.n, .string a.s] 38)) g p q n d d tv mv true F G w.heap.size a) at HA
  clear h hk
  obtain ⟨e0, e1, e2, e3, e4, e5, a0, a1, a2, a3⟩ := (unhide HA).all
  go_enter Tryz.func8, Tryz.ntmps8
  go_wp2_with fail
  refine (unhide AM _).mono ?_
  rintro r w1 ⟨rfl, rfl⟩
  clear AM
  generalize hW : w.alloc (.cells #[.int .i64 a.kind, .int .i64 a.pos, .int .i64 a.n, .string a.s] 38) = w1 at *
  clear hW
  generalize w.heap.size = b at *
  have HD := hide ((unhide HA).kpn (Kp.drew w1))
  have cS : w1.drew.cell? ⟨g, 0, none⟩ = some (.pointer (some ⟨p, 0, none⟩)) ∧ w1.drew.cell? ⟨g, 1, none⟩ = some tv ∧ w1.drew.cell? ⟨g, 2, none⟩ = some (.pointer (some ⟨q, 0, none⟩)) ∧ w1.drew.cell? ⟨g, 3, none⟩ = some mv ∧ w1.drew.cell? ⟨g, 4, none⟩ = some (.string n) ∧ w1.drew.cell? ⟨g, 5, none⟩ = some (.bool true) ∧ w1.drew.cell? ⟨b, 0, none⟩ = some (.int .i64 a.kind) ∧ w1.drew.cell? ⟨b, 1, none⟩ = some (.int .i64 a.pos) ∧ w1.drew.cell? ⟨b, 2, none⟩ = some (.int .i64 a.n) ∧ w1.drew.cell? ⟨b, 3, none⟩ = some (.string a.s) := (unhide HD).all
  have L1 := hide (crash_any a.pos a.n p d F w1.drew (unhide HD).tb.dk n1)
  have R1 := hide (fun W G' (hr : RDk W q d G') => rcrash_any a.pos a.n q d G' W hr hi)
  have HT := hide hT
  clear hi hT
  go_upto_region 22 with fail
  go_cut [] (fun wc => ∃ F2, Hid (SB w0 wc g p q n (d.crash a.pos a.n) d tv mv true F2 G b a))
  case first =>
    go_region_held3 (fun W => W.cell? ⟨g, 0, none⟩ = some (.pointer (some ⟨p, 0, none⟩)) ∧ W.cell? ⟨g, 1, none⟩ = some tv ∧ W.cell? ⟨g, 2, none⟩ = some (.pointer (some ⟨q, 0, none⟩)) ∧ W.cell? ⟨g, 3, none⟩ = some mv ∧ W.cell? ⟨g, 4, none⟩ = some (.string n) ∧ W.cell? ⟨g, 5, none⟩ = some (.bool true) ∧ W.cell? ⟨b, 0, none⟩ = some (.int .i64 a.kind) ∧ W.cell? ⟨b, 1, none⟩ = some (.int .i64 a.pos) ∧ W.cell? ⟨b, 2, none⟩ = some (.int .i64 a.n) ∧ W.cell? ⟨b, 3, none⟩ = some (.string a.s))
      (first | with_reducible exact cS | with_reducible exact cS2)
      (first | (go_at_call 26; refine (unhide L1).mono ?_; rintro r w2 ⟨rfl, hd2⟩; obtain ⟨F2, sb2, kF2⟩ := (unhide HD).left hd2; have H2 := hide sb2; have cS2 := sb2.all; clear hd2 sb2 kF2))
    go_wp2
    go_meet
    exact ⟨F2, H2⟩
  case rest =>
    obtain ⟨F2, H2⟩ := hcut
    clear cS e0 e1 e2 e3 e4 e5 a0 a1 a2 a3 HD L1
    have H2d := hide ((unhide H2).kpn (Kp.drew wc))
    have cS : wc.drew.cell? ⟨g, 0, none⟩ = some (.pointer (some ⟨p, 0, none⟩)) ∧ wc.drew.cell? ⟨g, 1, none⟩ = some tv ∧ wc.drew.cell? ⟨g, 2, none⟩ = some (.pointer (some ⟨q, 0, none⟩)) ∧ wc.drew.cell? ⟨g, 3, none⟩ = some mv ∧ wc.drew.cell? ⟨g, 4, none⟩ = some (.string n) ∧ wc.drew.cell? ⟨g, 5, none⟩ = some (.bool true) ∧ wc.drew.cell? ⟨b, 0, none⟩ = some (.int .i64 a.kind) ∧ wc.drew.cell? ⟨b, 1, none⟩ = some (.int .i64 a.pos) ∧ wc.drew.cell? ⟨b, 2, none⟩ = some (.int .i64 a.n) ∧ wc.drew.cell? ⟨b, 3, none⟩ = some (.string a.s) := (unhide H2d).all
    have R1' := hide (unhide R1 _ _ (unhide H2d).tb.rd)
    go_upto_region 23 with fail
    go_region_held3 (fun W => W.cell? ⟨g, 0, none⟩ = some (.pointer (some ⟨p, 0, none⟩)) ∧ W.cell? ⟨g, 1, none⟩ = some tv ∧ W.cell? ⟨g, 2, none⟩ = some (.pointer (some ⟨q, 0, none⟩)) ∧ W.cell? ⟨g, 3, none⟩ = some mv ∧ W.cell? ⟨g, 4, none⟩ = some (.string n) ∧ W.cell? ⟨g, 5, none⟩ = some (.bool true) ∧ W.cell? ⟨b, 0, none⟩ = some (.int .i64 a.kind) ∧ W.cell? ⟨b, 1, none⟩ = some (.int .i64 a.pos) ∧ W.cell? ⟨b, 2, none⟩ = some (.int .i64 a.n) ∧ W.cell? ⟨b, 3, none⟩ = some (.string a.s))
      (first | with_reducible exact cS | with_reducible exact cS2)
      (first | (go_at_call 27; refine (unhide R1').mono ?_; rintro r w3 ⟨rfl, hd3⟩; obtain ⟨G3, sb3, kG3⟩ := (unhide H2d).right hd3; have H3 := hide sb3.tb; have cS2 := sb3.all; clear hd3 sb3 kG3))
    clear cS cS2 R1 R1' H2 H2d
    have OP := hide (wopen_any g p q n _ tv mv true F2 G3 w0 w3 (unhide H3) (unhide HT) hn)
    go_wp2_with fail
    refine (unhide OP).mono ?_
    rintro r w4 ⟨rfl, tw4⟩
    have T4 := hide tw4
    clear tw4 OP
    go_wp2
    go_ret
    exact ⟨rfl, _, (unhide T4).more (Nat.zero_le _), fun h => srt_op (srt_crash h a.pos a.n) n⟩
set_option maxHeartbeats 2000000 in
set_option maxRecDepth 100000 in
theorem wstep_4f (a : A4) (g p q : Nat) (n : ByteArray) (d : Dk) (tv mv : Value) (F G : List Nat) (c : Nat) (w0 w : World) (h : TB w0 w g p q n d d tv mv false F G) (hok : a.ok) (hk : a.kind % 7 = 4) (hT : TabW w0) (hn : n.size ≤ 9223372036854775807) :
    Calls Tryz.prog 8 #[.pointer (some ⟨g, 0, none⟩), .agg #[.int .i64 a.kind, .int .i64 a.pos, .int .i64 a.n, .string a.s]] w fun r w' => r = .returned (.bool true) ∧ ∃ d', TW w0 w' g p q n d' (c + 1) ∧ (Srt d.safe → Srt d'.safe) := by
  obtain ⟨_, _, ⟨_, n1⟩, _⟩ := hok
  have hi := h.dk.inv
  have AM := hide (fun W => among_any a.kind 7 W (by decide) (by decide))
  rw [hk] at AM
  have HA := hide (h.act a)
  change Hid (SB w0 (w.alloc (.cells #[.int .i64 a.kind, .int .i64 a.pos, .int .i64 a.n, .string a.s] 38)) g p q n d d tv mv false F G w.heap.size a) at HA
  clear h hk
  obtain ⟨e0, e1, e2, e3, e4, e5, a0, a1, a2, a3⟩ := (unhide HA).all
  go_enter Tryz.func8, Tryz.ntmps8
  go_wp2_with fail
  refine (unhide AM _).mono ?_
  rintro r w1 ⟨rfl, rfl⟩
  clear AM
  generalize hW : w.alloc (.cells #[.int .i64 a.kind, .int .i64 a.pos, .int .i64 a.n, .string a.s] 38) = w1 at *
  clear hW
  generalize w.heap.size = b at *
  have HD := hide ((unhide HA).kpn (Kp.drew w1))
  have cS : w1.drew.cell? ⟨g, 0, none⟩ = some (.pointer (some ⟨p, 0, none⟩)) ∧ w1.drew.cell? ⟨g, 1, none⟩ = some tv ∧ w1.drew.cell? ⟨g, 2, none⟩ = some (.pointer (some ⟨q, 0, none⟩)) ∧ w1.drew.cell? ⟨g, 3, none⟩ = some mv ∧ w1.drew.cell? ⟨g, 4, none⟩ = some (.string n) ∧ w1.drew.cell? ⟨g, 5, none⟩ = some (.bool false) ∧ w1.drew.cell? ⟨b, 0, none⟩ = some (.int .i64 a.kind) ∧ w1.drew.cell? ⟨b, 1, none⟩ = some (.int .i64 a.pos) ∧ w1.drew.cell? ⟨b, 2, none⟩ = some (.int .i64 a.n) ∧ w1.drew.cell? ⟨b, 3, none⟩ = some (.string a.s) := (unhide HD).all
  have L1 := hide (crash_any a.pos a.n p d F w1.drew (unhide HD).tb.dk n1)
  have R1 := hide (fun W G' (hr : RDk W q d G') => rcrash_any a.pos a.n q d G' W hr hi)
  have HT := hide hT
  clear hi hT
  go_upto_region 22 with fail
  go_cut [] (fun wc => ∃ F2, Hid (SB w0 wc g p q n (d.crash a.pos a.n) d tv mv false F2 G b a))
  case first =>
    go_region_held3 (fun W => W.cell? ⟨g, 0, none⟩ = some (.pointer (some ⟨p, 0, none⟩)) ∧ W.cell? ⟨g, 1, none⟩ = some tv ∧ W.cell? ⟨g, 2, none⟩ = some (.pointer (some ⟨q, 0, none⟩)) ∧ W.cell? ⟨g, 3, none⟩ = some mv ∧ W.cell? ⟨g, 4, none⟩ = some (.string n) ∧ W.cell? ⟨g, 5, none⟩ = some (.bool false) ∧ W.cell? ⟨b, 0, none⟩ = some (.int .i64 a.kind) ∧ W.cell? ⟨b, 1, none⟩ = some (.int .i64 a.pos) ∧ W.cell? ⟨b, 2, none⟩ = some (.int .i64 a.n) ∧ W.cell? ⟨b, 3, none⟩ = some (.string a.s))
      (first | with_reducible exact cS | with_reducible exact cS2)
      (first | (go_at_call 26; refine (unhide L1).mono ?_; rintro r w2 ⟨rfl, hd2⟩; obtain ⟨F2, sb2, kF2⟩ := (unhide HD).left hd2; have H2 := hide sb2; have cS2 := sb2.all; clear hd2 sb2 kF2))
    go_wp2
    go_meet
    exact ⟨F2, H2⟩
  case rest =>
    obtain ⟨F2, H2⟩ := hcut
    clear cS e0 e1 e2 e3 e4 e5 a0 a1 a2 a3 HD L1
    have H2d := hide ((unhide H2).kpn (Kp.drew wc))
    have cS : wc.drew.cell? ⟨g, 0, none⟩ = some (.pointer (some ⟨p, 0, none⟩)) ∧ wc.drew.cell? ⟨g, 1, none⟩ = some tv ∧ wc.drew.cell? ⟨g, 2, none⟩ = some (.pointer (some ⟨q, 0, none⟩)) ∧ wc.drew.cell? ⟨g, 3, none⟩ = some mv ∧ wc.drew.cell? ⟨g, 4, none⟩ = some (.string n) ∧ wc.drew.cell? ⟨g, 5, none⟩ = some (.bool false) ∧ wc.drew.cell? ⟨b, 0, none⟩ = some (.int .i64 a.kind) ∧ wc.drew.cell? ⟨b, 1, none⟩ = some (.int .i64 a.pos) ∧ wc.drew.cell? ⟨b, 2, none⟩ = some (.int .i64 a.n) ∧ wc.drew.cell? ⟨b, 3, none⟩ = some (.string a.s) := (unhide H2d).all
    have R1' := hide (unhide R1 _ _ (unhide H2d).tb.rd)
    go_upto_region 23 with fail
    go_region_held3 (fun W => W.cell? ⟨g, 0, none⟩ = some (.pointer (some ⟨p, 0, none⟩)) ∧ W.cell? ⟨g, 1, none⟩ = some tv ∧ W.cell? ⟨g, 2, none⟩ = some (.pointer (some ⟨q, 0, none⟩)) ∧ W.cell? ⟨g, 3, none⟩ = some mv ∧ W.cell? ⟨g, 4, none⟩ = some (.string n) ∧ W.cell? ⟨g, 5, none⟩ = some (.bool false) ∧ W.cell? ⟨b, 0, none⟩ = some (.int .i64 a.kind) ∧ W.cell? ⟨b, 1, none⟩ = some (.int .i64 a.pos) ∧ W.cell? ⟨b, 2, none⟩ = some (.int .i64 a.n) ∧ W.cell? ⟨b, 3, none⟩ = some (.string a.s))
      (first | with_reducible exact cS | with_reducible exact cS2)
      (first | (go_at_call 27; refine (unhide R1').mono ?_; rintro r w3 ⟨rfl, hd3⟩; obtain ⟨G3, sb3, kG3⟩ := (unhide H2d).right hd3; have H3 := hide sb3.tb; have cS2 := sb3.all; clear hd3 sb3 kG3))
    clear cS cS2 R1 R1' H2 H2d
    have OP := hide (wopen_any g p q n _ tv mv false F2 G3 w0 w3 (unhide H3) (unhide HT) hn)
    go_wp2_with fail
    refine (unhide OP).mono ?_
    rintro r w4 ⟨rfl, tw4⟩
    have T4 := hide tw4
    clear tw4 OP
    go_wp2
    go_ret
    exact ⟨rfl, _, (unhide T4).more (Nat.zero_le _), fun h => srt_op (srt_crash h a.pos a.n) n⟩
set_option maxHeartbeats 2000000 in
set_option maxRecDepth 100000 in
theorem wstep_5t (a : A4) (g p q : Nat) (n : ByteArray) (d : Dk) (tv mv : Value) (F G : List Nat) (c : Nat) (w0 w : World) (h : TB w0 w g p q n d d tv mv true F G) (hok : a.ok) (hk : a.kind % 7 = 5) (hT : TabW w0) (hn : n.size ≤ 9223372036854775807) (hz : a.s.size ≤ 140737488355328) :
    Calls Tryz.prog 8 #[.pointer (some ⟨g, 0, none⟩), .agg #[.int .i64 a.kind, .int .i64 a.pos, .int .i64 a.n, .string a.s]] w fun r w' => r = .returned (.bool true) ∧ ∃ d', TW w0 w' g p q n d' (c + 1) ∧ (Srt d.safe → Srt d'.safe) := by
  obtain ⟨_, ⟨m0, m1⟩, _, hsz⟩ := hok
  have hi := h.dk.inv
  have AM := hide (fun W => among_any a.kind 7 W (by decide) (by decide))
  rw [hk] at AM
  have HA := hide (h.act a)
  change Hid (SB w0 (w.alloc (.cells #[.int .i64 a.kind, .int .i64 a.pos, .int .i64 a.n, .string a.s] 38)) g p q n d d tv mv true F G w.heap.size a) at HA
  clear h hk
  obtain ⟨e0, e1, e2, e3, e4, e5, a0, a1, a2, a3⟩ := (unhide HA).all
  go_enter Tryz.func8, Tryz.ntmps8
  go_wp2_with fail
  refine (unhide AM _).mono ?_
  rintro r w1 ⟨rfl, rfl⟩
  clear AM
  generalize hW : w.alloc (.cells #[.int .i64 a.kind, .int .i64 a.pos, .int .i64 a.n, .string a.s] 38) = w1 at *
  clear hW
  generalize w.heap.size = b at *
  have HD := hide ((unhide HA).kpn (Kp.drew w1))
  have cS : w1.drew.cell? ⟨g, 0, none⟩ = some (.pointer (some ⟨p, 0, none⟩)) ∧ w1.drew.cell? ⟨g, 1, none⟩ = some tv ∧ w1.drew.cell? ⟨g, 2, none⟩ = some (.pointer (some ⟨q, 0, none⟩)) ∧ w1.drew.cell? ⟨g, 3, none⟩ = some mv ∧ w1.drew.cell? ⟨g, 4, none⟩ = some (.string n) ∧ w1.drew.cell? ⟨g, 5, none⟩ = some (.bool true) ∧ w1.drew.cell? ⟨b, 0, none⟩ = some (.int .i64 a.kind) ∧ w1.drew.cell? ⟨b, 1, none⟩ = some (.int .i64 a.pos) ∧ w1.drew.cell? ⟨b, 2, none⟩ = some (.int .i64 a.n) ∧ w1.drew.cell? ⟨b, 3, none⟩ = some (.string a.s) := (unhide HD).all
  have L1 := hide (write_any n a.pos a.s p d F w1.drew (unhide HD).tb.dk hn m0 m1 hsz)
  have R1 := hide (fun W G' (hr : RDk W q d G') => rwrite_any n a.pos a.s q d G' W hr hi hn hz)
  have HT := hide hT
  clear hi hT
  generalize d.wrE n a.pos a.s = X at *
  go_upto_region 25 with fail
  go_cut [199] (fun x wd => x = .bool false ∧ ∃ F2 G3, Hid (TB w0 wd g p q n (d.wrD n a.pos a.s) (d.wrD n a.pos a.s) tv mv true F2 G3))
  case first =>
    go_region_held3 (fun W => W.cell? ⟨g, 0, none⟩ = some (.pointer (some ⟨p, 0, none⟩)) ∧ W.cell? ⟨g, 1, none⟩ = some tv ∧ W.cell? ⟨g, 2, none⟩ = some (.pointer (some ⟨q, 0, none⟩)) ∧ W.cell? ⟨g, 3, none⟩ = some mv ∧ W.cell? ⟨g, 4, none⟩ = some (.string n) ∧ W.cell? ⟨g, 5, none⟩ = some (.bool true) ∧ W.cell? ⟨b, 0, none⟩ = some (.int .i64 a.kind) ∧ W.cell? ⟨b, 1, none⟩ = some (.int .i64 a.pos) ∧ W.cell? ⟨b, 2, none⟩ = some (.int .i64 a.n) ∧ W.cell? ⟨b, 3, none⟩ = some (.string a.s))
      (first | with_reducible exact cS | with_reducible exact cS2 | with_reducible exact cS3)
      (first
        | (go_at_call 29; refine (unhide R1 _ _ (unhide H2).tb.rd).mono ?_; rintro r w3 ⟨rfl, hd3⟩; obtain ⟨G3, sb3, kG3⟩ := (unhide H2).right hd3; have H3 := hide sb3.tb; have cS3 := sb3.all; clear hd3 sb3 kG3)
        | (go_at_call 28; refine (unhide L1).mono ?_; rintro r w2 ⟨rfl, hd2⟩; obtain ⟨F2, sb2, kF2⟩ := (unhide HD).left hd2; have H2 := hide sb2; have cS2 := sb2.all; clear hd2 sb2 kF2))
    go_wp2
    go_meet
    exact ⟨rfl, F2, G3, H3⟩
  case rest =>
    obtain ⟨rfl, F2, G3, H3⟩ := hcut
    clear cS e0 e1 e2 e3 e4 e5 a0 a1 a2 a3 HD L1 R1
    have OP := hide (wopen_any g p q n _ tv mv true F2 G3 w0 wc (unhide H3) (unhide HT) hn)
    go_wp2_with fail
    refine (unhide OP).mono ?_
    rintro r w4 ⟨rfl, tw4⟩
    have T4 := hide tw4
    clear tw4 OP
    go_wp2
    go_ret
    exact ⟨rfl, _, (unhide T4).more (Nat.zero_le _), fun h => srt_op (srt_wr h n a.pos a.s) n⟩
set_option maxHeartbeats 2000000 in
set_option maxRecDepth 100000 in
theorem wstep_5f (a : A4) (g p q : Nat) (n : ByteArray) (d : Dk) (tv mv : Value) (F G : List Nat) (c : Nat) (w0 w : World) (h : TB w0 w g p q n d d tv mv false F G) (hok : a.ok) (hk : a.kind % 7 = 5) (hT : TabW w0) (hn : n.size ≤ 9223372036854775807) (hz : a.s.size ≤ 140737488355328) :
    Calls Tryz.prog 8 #[.pointer (some ⟨g, 0, none⟩), .agg #[.int .i64 a.kind, .int .i64 a.pos, .int .i64 a.n, .string a.s]] w fun r w' => r = .returned (.bool true) ∧ ∃ d', TW w0 w' g p q n d' (c + 1) ∧ (Srt d.safe → Srt d'.safe) := by
  obtain ⟨_, ⟨m0, m1⟩, _, hsz⟩ := hok
  have hi := h.dk.inv
  have AM := hide (fun W => among_any a.kind 7 W (by decide) (by decide))
  rw [hk] at AM
  have HA := hide (h.act a)
  change Hid (SB w0 (w.alloc (.cells #[.int .i64 a.kind, .int .i64 a.pos, .int .i64 a.n, .string a.s] 38)) g p q n d d tv mv false F G w.heap.size a) at HA
  clear h hk
  obtain ⟨e0, e1, e2, e3, e4, e5, a0, a1, a2, a3⟩ := (unhide HA).all
  go_enter Tryz.func8, Tryz.ntmps8
  go_wp2_with fail
  refine (unhide AM _).mono ?_
  rintro r w1 ⟨rfl, rfl⟩
  clear AM
  generalize hW : w.alloc (.cells #[.int .i64 a.kind, .int .i64 a.pos, .int .i64 a.n, .string a.s] 38) = w1 at *
  clear hW
  generalize w.heap.size = b at *
  have HD := hide ((unhide HA).kpn (Kp.drew w1))
  have cS : w1.drew.cell? ⟨g, 0, none⟩ = some (.pointer (some ⟨p, 0, none⟩)) ∧ w1.drew.cell? ⟨g, 1, none⟩ = some tv ∧ w1.drew.cell? ⟨g, 2, none⟩ = some (.pointer (some ⟨q, 0, none⟩)) ∧ w1.drew.cell? ⟨g, 3, none⟩ = some mv ∧ w1.drew.cell? ⟨g, 4, none⟩ = some (.string n) ∧ w1.drew.cell? ⟨g, 5, none⟩ = some (.bool false) ∧ w1.drew.cell? ⟨b, 0, none⟩ = some (.int .i64 a.kind) ∧ w1.drew.cell? ⟨b, 1, none⟩ = some (.int .i64 a.pos) ∧ w1.drew.cell? ⟨b, 2, none⟩ = some (.int .i64 a.n) ∧ w1.drew.cell? ⟨b, 3, none⟩ = some (.string a.s) := (unhide HD).all
  have L1 := hide (write_any n a.pos a.s p d F w1.drew (unhide HD).tb.dk hn m0 m1 hsz)
  have R1 := hide (fun W G' (hr : RDk W q d G') => rwrite_any n a.pos a.s q d G' W hr hi hn hz)
  have HT := hide hT
  clear hi hT
  generalize d.wrE n a.pos a.s = X at *
  go_upto_region 25 with fail
  go_cut [199] (fun x wd => x = .bool false ∧ ∃ F2 G3, Hid (TB w0 wd g p q n (d.wrD n a.pos a.s) (d.wrD n a.pos a.s) tv mv false F2 G3))
  case first =>
    go_region_held3 (fun W => W.cell? ⟨g, 0, none⟩ = some (.pointer (some ⟨p, 0, none⟩)) ∧ W.cell? ⟨g, 1, none⟩ = some tv ∧ W.cell? ⟨g, 2, none⟩ = some (.pointer (some ⟨q, 0, none⟩)) ∧ W.cell? ⟨g, 3, none⟩ = some mv ∧ W.cell? ⟨g, 4, none⟩ = some (.string n) ∧ W.cell? ⟨g, 5, none⟩ = some (.bool false) ∧ W.cell? ⟨b, 0, none⟩ = some (.int .i64 a.kind) ∧ W.cell? ⟨b, 1, none⟩ = some (.int .i64 a.pos) ∧ W.cell? ⟨b, 2, none⟩ = some (.int .i64 a.n) ∧ W.cell? ⟨b, 3, none⟩ = some (.string a.s))
      (first | with_reducible exact cS | with_reducible exact cS2 | with_reducible exact cS3)
      (first
        | (go_at_call 29; refine (unhide R1 _ _ (unhide H2).tb.rd).mono ?_; rintro r w3 ⟨rfl, hd3⟩; obtain ⟨G3, sb3, kG3⟩ := (unhide H2).right hd3; have H3 := hide sb3.tb; have cS3 := sb3.all; clear hd3 sb3 kG3)
        | (go_at_call 28; refine (unhide L1).mono ?_; rintro r w2 ⟨rfl, hd2⟩; obtain ⟨F2, sb2, kF2⟩ := (unhide HD).left hd2; have H2 := hide sb2; have cS2 := sb2.all; clear hd2 sb2 kF2))
    go_wp2
    go_meet
    exact ⟨rfl, F2, G3, H3⟩
  case rest =>
    obtain ⟨rfl, F2, G3, H3⟩ := hcut
    clear cS e0 e1 e2 e3 e4 e5 a0 a1 a2 a3 HD L1 R1
    have OP := hide (wopen_any g p q n _ tv mv false F2 G3 w0 wc (unhide H3) (unhide HT) hn)
    go_wp2_with fail
    refine (unhide OP).mono ?_
    rintro r w4 ⟨rfl, tw4⟩
    have T4 := hide tw4
    clear tw4 OP
    go_wp2
    go_ret
    exact ⟨rfl, _, (unhide T4).more (Nat.zero_le _), fun h => srt_op (srt_wr h n a.pos a.s) n⟩
set_option maxHeartbeats 2000000 in
set_option maxRecDepth 100000 in
theorem wstep_6 (a : A4) (g p q : Nat) (n : ByteArray) (d : Dk) (tv mv : Value) (F G : List Nat) (c : Nat) (w0 w : World) (h : TB w0 w g p q n d d tv mv false F G) (hok : a.ok) (hk : a.kind % 7 = 6) (hT : TabW w0) (hn : n.size ≤ 9223372036854775807) :
    Calls Tryz.prog 8 #[.pointer (some ⟨g, 0, none⟩), .agg #[.int .i64 a.kind, .int .i64 a.pos, .int .i64 a.n, .string a.s]] w fun r w' => r = .returned (.bool true) ∧ ∃ d', TW w0 w' g p q n d' (c + 1) ∧ (Srt d.safe → Srt d'.safe) := by
  obtain ⟨_, _, _, _⟩ := hok
  have AM := hide (fun W => among_any a.kind 7 W (by decide) (by decide))
  rw [hk] at AM
  have HA := hide (h.act a)
  change Hid (SB w0 (w.alloc (.cells #[.int .i64 a.kind, .int .i64 a.pos, .int .i64 a.n, .string a.s] 38)) g p q n d d tv mv false F G w.heap.size a) at HA
  clear h hk
  obtain ⟨e0, e1, e2, e3, e4, e5, a0, a1, a2, a3⟩ := (unhide HA).all
  go_enter Tryz.func8, Tryz.ntmps8
  go_wp2_with fail
  refine (unhide AM _).mono ?_
  rintro r w1 ⟨rfl, rfl⟩
  clear AM
  generalize hW : w.alloc (.cells #[.int .i64 a.kind, .int .i64 a.pos, .int .i64 a.n, .string a.s] 38) = w1 at *
  clear hW
  generalize w.heap.size = b at *
  have OP := hide (wopen_any g p q n d tv mv false F G w0 w1 (unhide HA).tb hT hn)
  clear hT
  go_wp2_with fail
  refine (unhide OP).mono ?_
  rintro r w4 ⟨rfl, tw4⟩
  have T4 := hide tw4
  clear tw4 OP
  go_wp2
  go_ret
  exact ⟨rfl, _, (unhide T4).more (Nat.zero_le _), fun h => srt_op h n⟩
theorem wstep_any (a : A4) (g p q : Nat) (n : ByteArray) (d : Dk) (c : Nat) (w0 w : World) (h : TW w0 w g p q n d c) (hc6 : c < 60) (hok : a.ok) (hz : a.s.size ≤ 140737488355328) (hT : TabW w0) (hn : n.size ≤ 9223372036854775807) :
    Calls Tryz.prog 8 #[.pointer (some ⟨g, 0, none⟩), .agg #[.int .i64 a.kind, .int .i64 a.pos, .int .i64 a.n, .string a.s]] w fun r w' => r = .returned (.bool true) ∧ ∃ d', TW w0 w' g p q n d' (c + 1) ∧ (Srt d.safe → Srt d'.safe) := by
  obtain ⟨tv, mv, lost, F, G, hb, ht⟩ := h
  have h7 : a.kind % 7 = 0 ∨ a.kind % 7 = 1 ∨ a.kind % 7 = 2 ∨ a.kind % 7 = 3 ∨ a.kind % 7 = 4 ∨ a.kind % 7 = 5 ∨ a.kind % 7 = 6 := by omega
  cases lost with
  | true =>
    by_cases h4 : a.kind % 7 = 4
    · exact wstep_4t a g p q n d tv mv F G c w0 w hb hok h4 hT hn
    · by_cases h5 : a.kind % 7 = 5
      · exact wstep_5t a g p q n d tv mv F G c w0 w hb hok h5 hT hn hz
      · exact wstep_lost a g p q n d tv mv F G c w0 w hb h4 h5
  | false =>
    obtain ⟨t, m, v, u, ts, rfl, rfl, hs, hc⟩ := ht rfl
    rcases h7 with e | e | e | e | e | e | e
    · by_cases hX : d.apE n a.s = 0
      · exact wstep_0y a g p q n d t m v u ts F G c w0 w hb hs hc hc6 hok e hT hn hX
      · by_cases h3 : d.apE n a.s = 31
        · exact wstep_0d a g p q n d t m v u ts F G c w0 w hb hs hc hc6 hok e hT hn h3
        · exact wstep_0n a g p q n d t m v u ts F G c w0 w hb hs hc hc6 hok e hT hn hX h3
    · cases hr : d.readyB with
      | true => exact wstep_1r a g p q n d t m v u ts F G c w0 w hb hs hc hc6 hok e hr
      | false => exact wstep_1n a g p q n d t m v u ts F G c w0 w hb hs hc hc6 hok e hr
    · exact wstep_2 a g p q n d t m v u ts F G c w0 w hb hs hc hc6 hok e
    · exact wstep_3 a g p q n d t m v u ts F G c w0 w hb hs hc hc6 hok e
    · exact wstep_4f a g p q n d _ _ F G c w0 w hb hok e hT hn
    · exact wstep_5f a g p q n d _ _ F G c w0 w hb hok e hT hn hz
    · exact wstep_6 a g p q n d _ _ F G c w0 w hb hok e hT hn
end Go.Proofs.YtboffmbaaokbnaaGreatDoor
namespace Go.Proofs.YtboffmbaaokbnaaGreatDoor
open Go.RowKit

set_option maxHeartbeats 1000000 in
theorem names_any (p : Nat) (d : Dk) (F : List Nat) (w : World) (h : DiskAt w p d F) :
    Calls Tryz.prog 30 #[.pointer (some ⟨p, 0, none⟩)] w fun e w' => ∃ v, e = .returned v ∧ TxRow w' v (nmL d.now) ∧ Kp [] w w' ∧ ∀ k, v.ownBlock = some k → w.heap.size ≤ k := by
  have hroom := h.inv.now
  obtain ⟨bs, bn, wv, Ls, Ln, ha, rfl, _⟩ := h
  have c := ha.cells
  have nf := names_files bn d.now Ln w ha.now hroom
  have NF := hide nf
  clear nf ha hroom
  go_enter Tryz.func30, Tryz.ntmps30
  go_wp2_with fail
  refine (unhide NF).mono ?_
  rintro e w1 ⟨v, rfl, h1, h2, h3⟩
  have H1 := hide h1
  have H3 := hide h3
  clear h1 h3 c
  go_wp2
  go_ret
  exact ⟨v, rfl, unhide H1, h2, unhide H3⟩
theorem nmL_read {d : Dk} (hr : Room d.now) (hn : (d.now.map (·.1)).Nodup) {s : ByteArray} (hs : s ∈ nmL d.now) : d.rdE s = 0 ∧ d.rdS s = ⟨(hasF d.now s).toArray⟩ ∧ s.size ≤ 32 := by
  obtain ⟨x, hx⟩ := nmL_mem hs
  have hd := hr.2 _ hx
  have e := badN_0 (d := d) hd (by rw [getF_mem hn hx]; rfl)
  exact ⟨e, by unfold Dk.rdS; rw [if_pos e], dnm_len hd⟩
end Go.Proofs.YtboffmbaaokbnaaGreatDoor
namespace Go.Proofs.YtboffmbaaokbnaaGreatDoor
open Go.RowKit

theorem Kp.drewN (w : World) (n : Nat) : Kp [] w (w.drewN n) := ⟨rfl, rfl, rfl, Nat.le_refl _, fun _ _ _ => rfl⟩
set_option maxHeartbeats 1000000 in
theorem sameTx_any (v1 v2 : Value) (ts : List ByteArray) (w : World) (h1 : TxRow w v1 ts) (h2 : TxRow w v2 ts) (hl : ts.length ≤ 9223372036854775807) :
    Calls Tryz.prog 31 #[v1, v2] w fun e w' => e = .returned (.bool true) ∧ Kp [] w w' := by
  have H1 := hide h1
  have H2 := hide h2
  obtain ⟨_, ⟨rfl, h0⟩ | ⟨g1, c1, cur1, rfl, _⟩⟩ := h1
  · obtain rfl : ts = [] := List.eq_nil_of_length_eq_zero h0
    obtain ⟨a2, c2, rfl⟩ : ∃ a2 c2, v2 = .slice a2 0 c2 := by
      obtain ⟨_, ⟨rfl, h0⟩ | ⟨g2, c2, cur2, rfl, _⟩⟩ := h2
      · exact ⟨_, _, rfl⟩
      · exact ⟨_, _, rfl⟩
    clear h2
    go_enter Tryz.func31, Tryz.ntmps31
    go_wp2
    go_loopw [5] (fun i wr => i = .int .i64 0 ∧ wr = w) (fun _ _ => 0)
    case atStart => exact ⟨rfl, rfl⟩
    case round =>
      obtain ⟨rfl, rfl⟩ := hrel
      go_wp2
      go_ret
      exact ⟨rfl, Kp.refl _ _⟩
  · by_cases hne : ts = []
    · subst hne
      obtain ⟨a2, c2, rfl⟩ : ∃ a2 c2, v2 = .slice a2 0 c2 := by
        obtain ⟨_, ⟨rfl, h0⟩ | ⟨g2, c2, cur2, rfl, _⟩⟩ := h2
        · exact ⟨_, _, rfl⟩
        · exact ⟨_, _, rfl⟩
      clear h2
      go_enter Tryz.func31, Tryz.ntmps31
      go_wp2
      go_loopw [5] (fun i wr => i = .int .i64 0 ∧ wr = w) (fun _ _ => 0)
      case atStart => exact ⟨rfl, rfl⟩
      case round =>
        obtain ⟨rfl, rfl⟩ := hrel
        go_wp2
        go_ret
        exact ⟨rfl, Kp.refl _ _⟩
    · obtain ⟨_, ⟨_, h0⟩ | ⟨g2, c2, cur2, rfl, _⟩⟩ := h2
      · exact absurd (List.eq_nil_of_length_eq_zero h0) hne
      · clear hne
        go_enter Tryz.func31, Tryz.ntmps31
        go_wp2
        go_loopw [5] (fun i wr => ∃ k n : Nat, k ≤ ts.length ∧ i = .int .i64 (k : Int) ∧ wr = w.drewN n) (fun i _ => ts.length - (intOf i).toNat)
        case atStart => exact ⟨0, 0, Nat.zero_le _, rfl, rfl⟩
        case round =>
          obtain ⟨k, n, hk, rfl, rfl⟩ := hrel
          by_cases hlt : k < ts.length
          · have x1 := (unhide H1).cell k hlt
            have y1 := (unhide H2).cell k hlt
            have hli : (k : Int) < (ts.length : Int) := by omega
            clear H1 H2
            generalize ts[k] = s at *
            go_wp2
            go_quiet (fail)
            go_wp2
            go_roundw
            case rel => exact ⟨k + 1, _, by omega, by go_num, rfl⟩
            case measure => simp [intOf]; omega
          · clear H1 H2
            go_wp2
            go_ret
            exact ⟨rfl, Kp.drewN _ _⟩
end Go.Proofs.YtboffmbaaokbnaaGreatDoor
namespace Go.Proofs.YtboffmbaaokbnaaGreatDoor
open Go.RowKit

set_option maxHeartbeats 400000 in
theorem waiting_any (p : Nat) (d : Dk) (F : List Nat) (w : World) (h : DiskAt w p d F) :
    Calls Tryz.prog 33 #[.pointer (some ⟨p, 0, none⟩)] w fun e w' => e = .returned (.int .i64 (d.wait.length : Int)) ∧ w' = w := by
  obtain ⟨bs, bn, wv, Ls, Ln, ha, rfl, _⟩ := h
  have hc := ha.cells
  obtain ⟨ad, cap, rfl, _⟩ := ha.wait.form
  generalize d.wait.length = n at *
  clear ha
  go_enter Tryz.func33, Tryz.ntmps33
  go_wp2
  go_ret
  exact ⟨rfl, rfl⟩
end Go.Proofs.YtboffmbaaokbnaaGreatDoor
