/-
  among: a number from 0 to n - 1; rows of numbers, and what a slice of texts that came in reads.
  A slice of acts on tapes that comes in as an argument: its acts lie where it says.
  What happens to both: a fuse, a sync, reading.
-/
import Derived.Test.YtboffmbaaokbnaaGreatDoorG24
import Derived.ProofKit
import Derived.OpenShut
import Derived.Deep.Slices
namespace Go.Proofs.YtboffmbaaokbnaaGreatDoor
open Go.RowKit

set_option maxHeartbeats 400000 in
theorem among_any (x n : Int) (w : World) (hn : 0 < n) (hn1 : n ≤ 1099511627776) :
    Calls Tryz.prog 15 #[.int .i64 x, .int .i64 n] w fun e w' => e = .returned (.int .i64 (x % n)) ∧ w' = w := by
  have hne : (n == 0) = false := beq_eq_false_iff_ne.2 (by omega)
  have e1 := among_eq x n hn
  have b1 : -n < x.tmod n := Int.lt_tmod_of_pos x hn
  have b2 : x.tmod n < n := Int.tmod_lt_of_pos x hn
  go_enter Tryz.func15, Tryz.ntmps15
  go_wp2
  go_ret
  exact ⟨rfl, rfl⟩
theorem TextsAt.kp {w w' : World} {ad : Option Addr} {l : List (List UInt8)} (h : TextsAt w ad l) (hk : Kp [] w w') : TextsAt w' ad l := fun hl => by
  obtain ⟨b, off, e, hlt, hc⟩ := h hl
  exact ⟨b, off, e, Nat.lt_of_lt_of_le hlt hk.size, fun i hi => hk.cell (hc i hi) (by simp)⟩
/-- Numbers lie in a row of their own. -/
def IRow (w : World) (v : Value) (l : List Int) : Prop := w.ownsRow 0 3 1 v l.length (l.map (Value.int .i64))
theorem IRow.kp {F : List Nat} {w w' : World} {v : Value} {l : List Int} (h : IRow w v l) (hk : Kp F w w') (hF : ∀ k, v.ownBlock = some k → k ∉ F) : IRow w' v l := by
  obtain ⟨h1, h2 | ⟨g, cp, cur, rfl, hb, hh, r⟩⟩ := h
  · exact ⟨h1, Or.inl h2⟩
  · exact ⟨h1, Or.inr ⟨g, cp, cur, rfl, hb, (hk.block g (Array.getElem?_eq_some_iff.1 hh).1 (hF g rfl)).trans hh, r⟩⟩
theorem IRow.oth {X : List Nat} {w w' : World} {v : Value} {l : List Int} (h : IRow w v l) (hk : Oth X w w') (hF : ∀ k, v.ownBlock = some k → k ∉ X) : IRow w' v l := by
  obtain ⟨h1, h2 | ⟨g, cp, cur, rfl, hb, hh, r⟩⟩ := h
  · exact ⟨h1, Or.inl h2⟩
  · exact ⟨h1, Or.inr ⟨g, cp, cur, rfl, hb, hk.block g _ _ _ hh (by decide) (by decide) (by decide) (hF g rfl), r⟩⟩
theorem IRow.block {w : World} {v : Value} {l : List Int} (h : IRow w v l) {k : Nat} (hk : v.ownBlock = some k) : k < w.heap.size ∧ ∃ cur, w.heap[k]? = some (.cells cur 3 (0, 0)) := by
  obtain ⟨_, ⟨rfl, h0⟩ | ⟨g, cp, cur, rfl, hb, hh, _⟩⟩ := h
  · simp [Value.ownBlock] at hk
  · simp [Value.ownBlock] at hk
    subst hk
    exact ⟨(Array.getElem?_eq_some_iff.1 hh).1, cur, hh⟩
theorem IRow.cell {w : World} {g cap : Nat} {l : List Int} (h : IRow w (.slice (some ⟨g, 0, none⟩) l.length cap) l) (i : Nat) (hi : i < l.length) : w.cell? ⟨g, i, none⟩ = some (.int .i64 l[i]) := by
  rw [World.ownsRow.cellAt h i (by omega)]
  simp [hi]
theorem IRow.shape {w : World} {v : Value} {l : List Int} (h : IRow w v l) (hl : l ≠ []) : ∃ g cap, v = .slice (some ⟨g, 0, none⟩) l.length cap ∧ l.length ≤ cap ∧ cap ≤ 9223372036854775807 := by
  obtain ⟨_, ⟨rfl, h0⟩ | ⟨g, cap, cur, rfl, _, _, hn, hm, _⟩⟩ := h
  · exact absurd (List.eq_nil_of_length_eq_zero h0) hl
  · exact ⟨g, cap, rfl, hn, by unfold maxLen at hm; omega⟩
/-- A row of numbers lies apart from a tape. -/
theorem IRow.no {w : World} {v : Value} {l : List Int} (h : IRow w v l) {t p : Nat} {n : ByteArray} {u : Value} {ts : List (List UInt8)} (ht : TpAt w t p n u ts) : ∀ k, v.ownBlock = some k → k ∉ t :: u.ownBlock.toList := fun k hk hm => by
  obtain ⟨_, cur, hc⟩ := h.block hk
  rw [List.mem_cons] at hm
  rcases hm with rfl | hm
  · have hb : w.heap[k]? = _ := ht.box
    rw [hc] at hb
    injection hb with e; injection e with _ e; exact absurd e (by decide)
  · obtain ⟨_, _, cur2, hc2⟩ := ht.row.block (by simpa using hm : u.ownBlock = some k)
    rw [hc] at hc2
    injection hc2 with e; injection e with _ e; exact absurd e (by decide)
theorem info_int : (Tryz.prog.info? 3).map (fun i => (i.zero, i.size, i.bytes)) = some (some (.int .i64 0), 1, 8) := by kernel_rfl
end Go.Proofs.YtboffmbaaokbnaaGreatDoor
namespace Go.Proofs.YtboffmbaaokbnaaGreatDoor
open Go.RowKit Go.Deep

/-- An act. -/
structure A4 where
  kind : Int
  pos : Int
  n : Int
  s : ByteArray
def A4.ok (a : A4) : Prop := (-9223372036854775808 ≤ a.kind ∧ a.kind ≤ 9223372036854775807) ∧ (-9223372036854775808 ≤ a.pos ∧ a.pos ≤ 9223372036854775807) ∧ (-9223372036854775808 ≤ a.n ∧ a.n ≤ 9223372036854775807) ∧ a.s.size ≤ 9223372036854775807
def Acts4 (w : World) (ad : Option Addr) (l : List A4) : Prop :=
  l ≠ [] → ∃ b off, ad = some ⟨b, off, none⟩ ∧ b < w.heap.size ∧ ∀ i (h : i < l.length),
    w.cell? ⟨b, off + i * 4, none⟩ = some (.int .i64 l[i].kind) ∧ w.cell? ⟨b, off + i * 4 + 1, none⟩ = some (.int .i64 l[i].pos) ∧ w.cell? ⟨b, off + i * 4 + 2, none⟩ = some (.int .i64 l[i].n) ∧ w.cell? ⟨b, off + i * 4 + 3, none⟩ = some (.string l[i].s)
theorem Acts4.kp {w w' : World} {ad : Option Addr} {l : List A4} (h : Acts4 w ad l) (hk : Kp [] w w') : Acts4 w' ad l := fun hl => by
  obtain ⟨b, off, e, hlt, hc⟩ := h hl
  refine ⟨b, off, e, Nat.lt_of_lt_of_le hlt hk.size, fun i hi => ?_⟩
  obtain ⟨c0, c1, c2, c3⟩ := hc i hi
  exact ⟨hk.cell c0 (by simp), hk.cell c1 (by simp), hk.cell c2 (by simp), hk.cell c3 (by simp)⟩
theorem cells_Act4 : Tryz.prog.cellsOf 38 = 4 := by kernel_rfl
theorem cells_int4 : Tryz.prog.cellsOf 3 = 1 := by kernel_rfl
theorem cells_string4 : Tryz.prog.cellsOf 9 = 1 := by kernel_rfl
theorem fields_Act4 : ∃ f0 f1 f2 f3 : Field, Tryz.prog.underlying 38 = some (.struct #[f0, f1, f2, f3]) ∧ f0.type = 3 ∧ f1.type = 3 ∧ f2.type = 3 ∧ f3.type = 9 ∧ f0.offset = 0 ∧ f1.offset = 1 ∧ f2.offset = 2 ∧ f3.offset = 3 :=
  ⟨_, _, _, _, Tryz.underlying38, rfl, rfl, rfl, rfl, rfl, rfl, rfl, rfl⟩
theorem list4 {α : Type} : ∀ (l : List α), l.length = 4 → ∃ a b c d, l = [a, b, c, d]
  | [a, b, c, d], _ => ⟨a, b, c, d, rfl⟩
set_option maxRecDepth 100000 in
theorem open_acts4 {H : Type} {enc : TypeId × Value → H} {W : World} {spare : Nat → Bool} {held : Bool} {fuel : Nat} {v : Value} {x : DataW H × List MemPlace}
    (h : DataW.trod enc Tryz.prog W 0 spare held fuel 22 [v] = some x) :
    ∃ (ad : Option Addr) (cap : Nat) (l : List A4), v = .slice ad l.length cap ∧ l.length ≤ 9223372036854775807 ∧ Acts4 W ad l ∧ ∀ y ∈ l, y.ok := by
  obtain ⟨f0, f1, f2, f3, hu, t0, t1, t2, t3, o0, o1, o2, o3⟩ := fields_Act4
  rcases open_slice Tryz.underlying22 h with ⟨hcs, _⟩ | ⟨a, len, cap, m, n, D, Pl, hcs, hb, hl, hm, hmm, _, hx⟩
  · simp only [List.cons.injEq, and_true] at hcs
    subst hcs
    exact ⟨none, 0, [], rfl, by simp, fun hne => absurd rfl hne, by simp⟩
  · simp only [List.cons.injEq, and_true] at hcs
    subst hcs
    have hlm : len ≤ m := by rw [hmm]; split <;> omega
    have each : ∀ i, i < len → ∃ y : A4, W.cell? (a.add (i * 4)) = some (.int .i64 y.kind) ∧ W.cell? (a.add (i * 4 + 1)) = some (.int .i64 y.pos) ∧ W.cell? (a.add (i * 4 + 2)) = some (.int .i64 y.n) ∧ W.cell? (a.add (i * 4 + 3)) = some (.string y.s) ∧ y.ok := by
      intro i hi
      obtain ⟨cs', h1, h2⟩ := hx i (by omega)
      rw [cells_Act4] at h1
      obtain ⟨_, hlen, hcell⟩ := World.cells?_some h1
      obtain ⟨xs, k, hk, hxy, _, hxl, hf⟩ := DataW.trod_struct hu h2
      obtain ⟨y0, y1, y2, y3, rfl⟩ := list4 xs hxl
      obtain ⟨v0, v1, v2, v3, rfl⟩ := list4 cs' hlen
      have g0 := hf 0 f0 rfl
      have g1 := hf 1 f1 rfl
      have g2 := hf 2 f2 rfl
      have g3 := hf 3 f3 rfl
      simp [o0, o1, o2, o3, t0, t1, t2, t3, cells_int4, cells_string4] at g0 g1 g2 g3
      have e0 := hcell 0 (by omega)
      have e1 := hcell 1 (by omega)
      have e2 := hcell 2 (by omega)
      have e3 := hcell 3 (by omega)
      rw [Go.Deep.add_add] at e0 e1 e2 e3
      obtain ⟨k0, q0, _, wf0⟩ := DataW.trod_int Tryz.underlying3 g0
      obtain ⟨k1, q1, _, wf1⟩ := DataW.trod_int Tryz.underlying3 g1
      obtain ⟨k2, q2, _, wf2⟩ := DataW.trod_int Tryz.underlying3 g2
      obtain ⟨s3, q3, _, hs3⟩ := DataW.trod_string Tryz.underlying9 g3
      simp only [List.cons.injEq, and_true] at q0 q1 q2 q3
      subst q0 q1 q2 q3
      have b0 := bounds_i64 wf0
      have b1 := bounds_i64 wf1
      have b2 := bounds_i64 wf2
      unfold maxLen at hs3
      exact ⟨⟨k0, k1, k2, s3⟩, by simpa using e0, by simpa using e1, by simpa using e2, by simpa using e3, ⟨b0.1, by show k0 ≤ _; omega⟩, ⟨b1.1, by show k1 ≤ _; omega⟩, ⟨b2.1, by show k2 ≤ _; omega⟩, by show s3.size ≤ _; omega⟩
    have hinh : Inhabited A4 := ⟨⟨0, 0, 0, ⟨#[]⟩⟩⟩
    obtain ⟨q, hq⟩ := choose_lt each
    refine ⟨some a, cap, (List.range len).map q, by simp, by simp; unfold maxLen at hm; omega, fun hne => ?_, fun y hy => ?_⟩
    · have h0 : 0 < len := by
        rcases Nat.eq_zero_or_pos len with e | e
        · subst e; simp at hne
        · exact e
      obtain ⟨b, off, spot⟩ := a
      have hc0 := (hq 0 h0).1
      have hspot : spot = none := by simpa [Addr.add] using World.cell?_spot hc0
      subst hspot
      refine ⟨b, off, rfl, ?_, fun i hi => ?_⟩
      · rcases Nat.lt_or_ge b W.heap.size with hlt | hge
        · exact hlt
        · exfalso
          rw [Go.WideShapes.add_plain] at hc0
          simp [World.cell?, Array.getElem?_eq_none hge] at hc0
      · have hi' : i < len := by simpa using hi
        obtain ⟨c0, c1, c2, c3, _⟩ := hq i hi'
        rw [Go.WideShapes.add_plain] at c0 c1 c2 c3
        simp only [List.getElem_map, List.getElem_range]
        exact ⟨c0, by rw [Nat.add_assoc]; exact c1, by rw [Nat.add_assoc]; exact c2, by rw [Nat.add_assoc]; exact c3⟩
    · obtain ⟨i, hi, rfl⟩ := List.mem_map.1 hy
      exact (hq i (List.mem_range.1 hi)).2.2.2.2
end Go.Proofs.YtboffmbaaokbnaaGreatDoor
namespace Go.Proofs.YtboffmbaaokbnaaGreatDoor
open Go.RowKit

/-- An act as cells. -/
def a4C (a : A4) : Array Value := #[.int .i64 a.kind, .int .i64 a.pos, .int .i64 a.n, .string a.s]
/-- Both disks, the law's world, and an act's box. -/
structure SB (w0 w : World) (g p q : Nat) (n : ByteArray) (d e : Dk) (tv mv : Value) (lost : Bool) (F G : List Nat) (b : Nat) (a : A4) : Prop where
  tb : TB w0 w g p q n d e tv mv lost F G
  ac : CBox b (a4C a) 38 w
section
variable {w0 w w' : World} {g p q b : Nat} {n : ByteArray} {d e : Dk} {tv mv : Value} {lost : Bool} {F G : List Nat} {a : A4}
theorem SB.all (h : SB w0 w g p q n d e tv mv lost F G b a) : w.cell? ⟨g, 0, none⟩ = some (.pointer (some ⟨p, 0, none⟩)) ∧ w.cell? ⟨g, 1, none⟩ = some tv ∧ w.cell? ⟨g, 2, none⟩ = some (.pointer (some ⟨q, 0, none⟩)) ∧ w.cell? ⟨g, 3, none⟩ = some mv ∧ w.cell? ⟨g, 4, none⟩ = some (.string n) ∧ w.cell? ⟨g, 5, none⟩ = some (.bool lost) ∧ w.cell? ⟨b, 0, none⟩ = some (.int .i64 a.kind) ∧ w.cell? ⟨b, 1, none⟩ = some (.int .i64 a.pos) ∧ w.cell? ⟨b, 2, none⟩ = some (.int .i64 a.n) ∧ w.cell? ⟨b, 3, none⟩ = some (.string a.s) :=
  ⟨h.tb.bx.cell rfl, h.tb.bx.cell rfl, h.tb.bx.cell rfl, h.tb.bx.cell rfl, h.tb.bx.cell rfl, h.tb.bx.cell rfl, h.ac.cell rfl, h.ac.cell rfl, h.ac.cell rfl, h.ac.cell rfl⟩
theorem SB.kpn (h : SB w0 w g p q n d e tv mv lost F G b a) (hk : Kp [] w w') : SB w0 w' g p q n d e tv mv lost F G b a := ⟨h.tb.kpn hk, h.ac.kp hk (by simp)⟩
theorem SB.left {d' : Dk} (h : SB w0 w g p q n d e tv mv lost F G b a) (hd : Did w F p d' w') : ∃ F', SB w0 w' g p q n d' e tv mv lost F' G b a ∧ Kp F w w' := by
  obtain ⟨F', h1, h2, h3⟩ := h.tb.left hd
  exact ⟨F', ⟨h1, h3 _ _ h.ac⟩, h2⟩
theorem SB.right {e' : Dk} (h : SB w0 w g p q n d e tv mv lost F G b a) (hd : RDid w G q e' w') : ∃ G', SB w0 w' g p q n d e' tv mv lost F G' b a ∧ Kp G w w' := by
  obtain ⟨G', h1, h2, h3⟩ := h.tb.right hd
  exact ⟨G', ⟨h1, h3 _ _ h.ac⟩, h2⟩
theorem TB.act (h : TB w0 w g p q n d e tv mv lost F G) (a : A4) : SB w0 (w.alloc (.cells (a4C a) 38)) g p q n d e tv mv lost F G w.heap.size a := ⟨h.kpn (Kp.alloc _ _), CBox.new _ _ _⟩
/-- The law's world keeps whether all is lost. -/
theorem TB.lose (h : TB w0 w g p q n d e tv mv lost F G) (l : Bool) : TB w0 (w.setCell ⟨g, 5, none⟩ (.bool l)) g p q n d e tv mv l F G ∧ w.frozen? ⟨g, 5, none⟩ = false := ⟨h.set rfl, h.bx.froz 5⟩
end
set_option maxHeartbeats 1000000 in
set_option maxRecDepth 100000 in
theorem wstep_lost (a : A4) (g p q : Nat) (n : ByteArray) (d : Dk) (tv mv : Value) (F G : List Nat) (c : Nat) (w0 w : World) (h : TB w0 w g p q n d d tv mv true F G) (h4 : a.kind % 7 ≠ 4) (h5 : a.kind % 7 ≠ 5) :
    Calls Tryz.prog 8 #[.pointer (some ⟨g, 0, none⟩), .agg #[.int .i64 a.kind, .int .i64 a.pos, .int .i64 a.n, .string a.s]] w fun r w' => r = .returned (.bool true) ∧ ∃ d', TW w0 w' g p q n d' (c + 1) ∧ (Srt d.safe → Srt d'.safe) := by
  have AM := hide (fun W => among_any a.kind 7 W (by decide) (by decide))
  have HA := hide (h.act a)
  change Hid (SB w0 (w.alloc (.cells #[.int .i64 a.kind, .int .i64 a.pos, .int .i64 a.n, .string a.s] 38)) g p q n d d tv mv true F G w.heap.size a) at HA
  have g4 : (a.kind % 7 != 4) = true := by simpa using h4
  have g5 : (a.kind % 7 != 5) = true := by simpa using h5
  generalize a.kind % 7 = X at *
  clear h
  obtain ⟨e0, e1, e2, e3, e4, e5, a0, a1, a2, a3⟩ := (unhide HA).all
  go_enter Tryz.func8, Tryz.ntmps8
  go_wp2_with fail
  refine (unhide AM _).mono ?_
  rintro r w1 ⟨rfl, rfl⟩
  go_wp2
  go_ret
  exact ⟨rfl, d, ⟨_, _, _, _, _, (unhide HA).tb, fun h => absurd h (by decide)⟩, id⟩
set_option maxHeartbeats 2000000 in
set_option maxRecDepth 100000 in
theorem wstep_3 (a : A4) (g p q : Nat) (n : ByteArray) (d : Dk) (t m : Nat) (v u : Value) (ts : List (List UInt8)) (F G : List Nat) (c : Nat) (w0 w : World) (h : TB w0 w g p q n d d (.pointer (some ⟨t, 0, none⟩)) (.pointer (some ⟨m, 0, none⟩)) false F G) (hs : TS w0 w t m p q n v u ts (hasF d.now n).length) (hc : ts.length ≤ 300000 + c) (_ : c < 60) (hok : a.ok) (hk : a.kind % 7 = 3) :
    Calls Tryz.prog 8 #[.pointer (some ⟨g, 0, none⟩), .agg #[.int .i64 a.kind, .int .i64 a.pos, .int .i64 a.n, .string a.s]] w fun r w' => r = .returned (.bool true) ∧ ∃ d', TW w0 w' g p q n d' (c + 1) ∧ (Srt d.safe → Srt d'.safe) := by
  obtain ⟨_, _, ⟨_, n1⟩, _⟩ := hok
  have AM := hide (fun W => among_any a.kind 7 W (by decide) (by decide))
  rw [hk] at AM
  have HA := hide (h.act a)
  have HS := hide (hs.kpn (Kp.alloc w (.cells (a4C a) 38)))
  have HC := hide hc
  change Hid (SB w0 (w.alloc (.cells #[.int .i64 a.kind, .int .i64 a.pos, .int .i64 a.n, .string a.s] 38)) g p q n d d (.pointer (some ⟨t, 0, none⟩)) (.pointer (some ⟨m, 0, none⟩)) false F G w.heap.size a) at HA
  change Hid (TS w0 (w.alloc (.cells #[.int .i64 a.kind, .int .i64 a.pos, .int .i64 a.n, .string a.s] 38)) t m p q n v u ts (hasF d.now n).length) at HS
  clear h hk hs hc
  obtain ⟨e0, e1, e2, e3, e4, e5, a0, a1, a2, a3⟩ := (unhide HA).all
  go_enter Tryz.func8, Tryz.ntmps8
  go_wp2_with fail
  refine (unhide AM _).mono ?_
  rintro r w1 ⟨rfl, rfl⟩
  clear AM
  generalize hW : w.alloc (.cells #[.int .i64 a.kind, .int .i64 a.pos, .int .i64 a.n, .string a.s] 38) = w1 at *
  clear hW
  generalize w.heap.size = b at *
  have HD := hide ((unhide HA).kpn (Kp.drew w1))
  have HSd := hide ((unhide HS).kpn (Kp.drew w1))
  have cS : w1.drew.cell? ⟨g, 0, none⟩ = some (.pointer (some ⟨p, 0, none⟩)) ∧ w1.drew.cell? ⟨g, 1, none⟩ = some (.pointer (some ⟨t, 0, none⟩)) ∧ w1.drew.cell? ⟨g, 2, none⟩ = some (.pointer (some ⟨q, 0, none⟩)) ∧ w1.drew.cell? ⟨g, 3, none⟩ = some (.pointer (some ⟨m, 0, none⟩)) ∧ w1.drew.cell? ⟨g, 4, none⟩ = some (.string n) ∧ w1.drew.cell? ⟨g, 5, none⟩ = some (.bool false) ∧ w1.drew.cell? ⟨b, 0, none⟩ = some (.int .i64 a.kind) ∧ w1.drew.cell? ⟨b, 1, none⟩ = some (.int .i64 a.pos) ∧ w1.drew.cell? ⟨b, 2, none⟩ = some (.int .i64 a.n) ∧ w1.drew.cell? ⟨b, 3, none⟩ = some (.string a.s) := (unhide HD).all
  have L1 := hide (fuse_any p d F a.n w1.drew (unhide HD).tb.dk n1)
  have R1 := hide (fun W G' (hr : RDk W q d G') => rfuse_dk q d a.n G' W hr)
  go_wp2_with fail
  go_region_held3 (fun W => W.cell? ⟨g, 0, none⟩ = some (.pointer (some ⟨p, 0, none⟩)) ∧ W.cell? ⟨g, 1, none⟩ = some (.pointer (some ⟨t, 0, none⟩)) ∧ W.cell? ⟨g, 2, none⟩ = some (.pointer (some ⟨q, 0, none⟩)) ∧ W.cell? ⟨g, 3, none⟩ = some (.pointer (some ⟨m, 0, none⟩)) ∧ W.cell? ⟨g, 4, none⟩ = some (.string n) ∧ W.cell? ⟨g, 5, none⟩ = some (.bool false) ∧ W.cell? ⟨b, 0, none⟩ = some (.int .i64 a.kind) ∧ W.cell? ⟨b, 1, none⟩ = some (.int .i64 a.pos) ∧ W.cell? ⟨b, 2, none⟩ = some (.int .i64 a.n) ∧ W.cell? ⟨b, 3, none⟩ = some (.string a.s))
    (first | with_reducible exact cS | with_reducible exact cS2 | with_reducible exact cS3)
    (first
      | (go_at_call 25; refine (unhide R1 _ _ (unhide H2).tb.rd).mono ?_; rintro r w3 ⟨rfl, hd3⟩; obtain ⟨G3, sb3, kG3⟩ := (unhide H2).right hd3; have H3 := hide sb3; have K3 := hide kG3; have cS3 := sb3.all; clear hd3 sb3 kG3)
      | (go_at_call 24; refine (unhide L1).mono ?_; rintro r w2 ⟨rfl, hd2⟩; obtain ⟨F2, sb2, kF2⟩ := (unhide HD).left hd2; have H2 := hide sb2; have K2 := hide kF2; have cS2 := sb2.all; clear hd2 sb2 kF2))
  have s3 := ((unhide HSd).left (unhide HD).tb.dk (unhide K2)).right (unhide H2).tb.rd (unhide K3)
  have FN : Hid (TW w0 w3 g p q n (d.fuD a.n) (c + 1)) := hide ⟨_, _, _, _, _, (unhide H3).tb, fun _ => ⟨t, m, v, u, ts, rfl, rfl, by rw [(fuD_same d a.n).2.2]; exact s3, by have := unhide HC; omega⟩⟩
  clear s3
  go_wp2
  go_ret
  exact ⟨rfl, _, unhide FN, fun h => srt_fu h a.n⟩
end Go.Proofs.YtboffmbaaokbnaaGreatDoor
