/-
  A tape in memory; a text of it; Len, Read, Last, Sync.
-/
import Derived.Test.YtllkkflolijpaaaDoorTpA
import Derived.Test.YtllkkflolijpaaaDoorFnd
namespace Go.Proofs.YtllkkflolijpaaaDoor
open Go.RowKit

/-- A disk's blocks are none of another type. -/
theorem DiskAt.no {w : World} {p : Nat} {d : Dk} {F : List Nat} (h : DiskAt w p d F) {k : Nat} {cur : Array Value} {t : TypeId} {f : Nat × Nat} (hk : w.heap[k]? = some (.cells cur t f)) (h1 : t ≠ 5) (h2 : t ≠ 68) (h3 : t ≠ 57) : k ∉ F := by
  obtain ⟨bs, bn, wv, Ls, Ln, ha, rfl, _⟩ := h
  intro hm
  unfold foot at hm
  rw [List.mem_cons, List.mem_cons, List.mem_cons, List.mem_append, List.mem_append] at hm
  have hb : w.heap[p]? = some (.cells (dkC bs bn wv d.left d.down) 57 (0, 0)) := ha.box
  rcases hm with rfl | rfl | rfl | hm | hm | hm
  · rw [hb] at hk; injection hk with e; injection e with _ e; exact h3 e.symm
  · obtain ⟨l, c, m, _⟩ := ha.safe
    rw [m.here] at hk; cases hk
  · obtain ⟨l, c, m, _⟩ := ha.now
    rw [m.here] at hk; cases hk
  · obtain ⟨cur', e⟩ := ha.wait.block (by simpa using hm)
    rw [e] at hk; injection hk with e; injection e with _ e; exact h2 e.symm
  · obtain ⟨_, cur', e⟩ := ha.safe.rows hm
    rw [e] at hk; injection hk with e; injection e with _ e; exact h1 e.symm
  · obtain ⟨_, cur', e⟩ := ha.now.rows hm
    rw [e] at hk; injection hk with e; injection e with _ e; exact h1 e.symm
/-- Texts lie in a row of their own. -/
abbrev Txs (w : World) (v : Value) (ts : List (List UInt8)) : Prop := OwnsS 0 w v ts
theorem OwnsS.kp {B : Nat} {F : List Nat} {w w' : World} {v : Value} {ts : List (List UInt8)} (h : OwnsS B w v ts) (hk : Kp F w w') (hF : ∀ k, v.ownBlock = some k → k ∉ F) : OwnsS B w' v ts := by
  obtain ⟨h1, h2 | ⟨g, cp, cur, rfl, hb, hh, r⟩⟩ := h
  · exact ⟨h1, Or.inl h2⟩
  · exact ⟨h1, Or.inr ⟨g, cp, cur, rfl, hb, (hk.block g (Array.getElem?_eq_some_iff.1 hh).1 (hF g rfl)).trans hh, r⟩⟩
theorem OwnsS.block {B : Nat} {w : World} {v : Value} {ts : List (List UInt8)} (h : OwnsS B w v ts) {k : Nat} (hk : v.ownBlock = some k) : B ≤ k ∧ k < w.heap.size ∧ ∃ cur, w.heap[k]? = some (.cells cur 9 (0, 0)) := by
  obtain ⟨_, ⟨rfl, h0⟩ | ⟨g, cp, cur, rfl, hb, hh, _⟩⟩ := h
  · simp [Value.ownBlock] at hk
  · simp [Value.ownBlock] at hk
    subst hk
    exact ⟨hb, (Array.getElem?_eq_some_iff.1 hh).1, cur, hh⟩
theorem OwnsS.low {B : Nat} {w : World} {v : Value} {ts : List (List UInt8)} (h : OwnsS B w v ts) : Txs w v ts := by
  obtain ⟨h1, h2 | ⟨g, cp, cur, rfl, hb, hh, r⟩⟩ := h
  · exact ⟨h1, Or.inl h2⟩
  · exact ⟨h1, Or.inr ⟨g, cp, cur, rfl, Nat.zero_le _, hh, r⟩⟩
theorem OwnsS.shape {B : Nat} {w : World} {v : Value} {ts : List (List UInt8)} (h : OwnsS B w v ts) : (v = .slice none 0 0 ∧ ts = []) ∨ ∃ g cap, v = .slice (some ⟨g, 0, none⟩) ts.length cap ∧ ts.length ≤ cap ∧ cap ≤ 9223372036854775807 := by
  obtain ⟨_, ⟨rfl, h0⟩ | ⟨g, cap, cur, rfl, _, _, hn, hm, _⟩⟩ := h
  · exact Or.inl ⟨rfl, List.eq_nil_of_length_eq_zero h0⟩
  · exact Or.inr ⟨g, cap, rfl, hn, by unfold maxLen at hm; omega⟩
theorem OwnsS.cell {B : Nat} {w : World} {g cap : Nat} {ts : List (List UInt8)} (h : OwnsS B w (.slice (some ⟨g, 0, none⟩) ts.length cap) ts) (i : Nat) (hi : i < ts.length) : w.cell? ⟨g, i, none⟩ = some (.string ⟨ts[i].toArray⟩) := by
  rw [World.ownsRow.cellAt h i (by omega)]
  simp [textC, hi]
/-- A tape lies there. -/
structure TpAt (w : World) (t p : Nat) (n : ByteArray) (v : Value) (ts : List (List UInt8)) : Prop where
  box : CBox t #[.pointer (some ⟨p, 0, none⟩), .string n, v] 63 w
  row : Txs w v ts
  nm : dnm n = true
  small : ∀ x ∈ ts, x.length ≤ 65536
section
variable {w w' : World} {t p : Nat} {n : ByteArray} {v : Value} {ts : List (List UInt8)} {d : Dk} {F : List Nat}
theorem TpAt.lt (h : TpAt w t p n v ts) : t < w.heap.size := (Array.getElem?_eq_some_iff.1 h.box).1
theorem TpAt.no (h : TpAt w t p n v ts) (hd : DiskAt w p d F) : t ∉ F ∧ ∀ k, v.ownBlock = some k → k ∉ F ∧ k ≠ t := by
  refine ⟨hd.no h.box (by decide) (by decide) (by decide), fun k hk => ?_⟩
  obtain ⟨_, _, cur, hc⟩ := h.row.block hk
  refine ⟨hd.no hc (by decide) (by decide) (by decide), fun e => ?_⟩
  subst e
  have hb : w.heap[k]? = _ := h.box
  rw [hc] at hb
  injection hb with e; injection e with _ e; exact absurd e (by decide)
theorem TpAt.kp {G : List Nat} (h : TpAt w t p n v ts) (hk : Kp G w w') (ht : t ∉ G) (hv : ∀ k, v.ownBlock = some k → k ∉ G) : TpAt w' t p n v ts := ⟨h.box.kp hk ht, h.row.kp hk hv, h.nm, h.small⟩
theorem TpAt.cells (h : TpAt w t p n v ts) : w.cell? ⟨t, 0, none⟩ = some (.pointer (some ⟨p, 0, none⟩)) ∧ w.cell? ⟨t, 1, none⟩ = some (.string n) ∧ w.cell? ⟨t, 2, none⟩ = some v := ⟨h.box.cell rfl, h.box.cell rfl, h.box.cell rfl⟩
end
set_option maxHeartbeats 400000 in
theorem len_any (t p : Nat) (n : ByteArray) (v : Value) (ts : List (List UInt8)) (w : World) (h : TpAt w t p n v ts) :
    Calls Tryd.prog 10 #[.pointer (some ⟨t, 0, none⟩)] w fun e w' => e = .returned (.int .i64 (ts.length : Int)) ∧ w' = w := by
  obtain ⟨c0, c1, c2⟩ := h.cells
  obtain ⟨rfl, rfl⟩ | ⟨g, cap, rfl, _⟩ := h.row.shape
  · clear h
    go_enter Tryd.func10, Tryd.ntmps10
    go_wp2
    go_ret
    exact ⟨rfl, rfl⟩
  · clear h
    go_enter Tryd.func10, Tryd.ntmps10
    go_wp2
    go_ret
    exact ⟨rfl, rfl⟩
/-- The text of a number. -/
def txE (ts : List (List UInt8)) (i e : Int) : Int := if 0 ≤ i ∧ i < (ts.length : Int) then 0 else e
def txS (ts : List (List UInt8)) (i : Int) : List UInt8 := if 0 ≤ i ∧ i < (ts.length : Int) then ts.getD i.toNat [] else []
set_option maxHeartbeats 1000000 in
set_option maxRecDepth 100000 in
theorem text_ok (t p : Nat) (n : ByteArray) (v : Value) (ts : List (List UInt8)) (k : Nat) (hk : k < ts.length) (e : Int) (w : World) (h : TpAt w t p n v ts) :
    Calls Tryd.prog 31 #[.pointer (some ⟨t, 0, none⟩), .int .i64 (k : Int), .int .i64 e] w fun r w' => r = .returned (.string ⟨ts[k].toArray⟩) ∧ Kp [] w w' := by
  obtain ⟨c0, c1, c2⟩ := h.cells
  obtain ⟨rfl, rfl⟩ | ⟨g, cap, rfl, hc, hm⟩ := h.row.shape
  · exact absurd hk (by simp)
  · have ck := h.row.cell k hk
    have hb := h.small ts[k] (List.getElem_mem hk)
    have CL := hide (clone_any ⟨ts[k].toArray⟩ w (by show ts[k].toArray.size ≤ _; rw [List.size_toArray]; omega))
    have hki : (k : Int) < (ts.length : Int) := by omega
    have hkn : ¬ ((ts.length : Int) ≤ (k : Int)) := by omega
    clear h hb
    generalize (⟨ts[k].toArray⟩ : ByteArray) = s at *
    go_enter Tryd.func31, Tryd.ntmps31
    go_wp2_with fail
    refine (unhide CL).mono ?_
    rintro r w1 ⟨rfl, hb1⟩
    have HK := hide (Kp.ofBelow hb1)
    clear hb1
    go_wp2
    go_ret
    exact ⟨rfl, unhide HK⟩
set_option maxHeartbeats 1000000 in
set_option maxRecDepth 100000 in
theorem text_not (t p : Nat) (n : ByteArray) (v : Value) (ts : List (List UInt8)) (i : Int) (hi : ¬ (0 ≤ i ∧ i < (ts.length : Int))) (e : Int) (w : World) (h : TpAt w t p n v ts) :
    Calls Tryd.prog 31 #[.pointer (some ⟨t, 0, none⟩), .int .i64 i, .int .i64 e] w fun r w' => r = .panicked (pan e) ∧ w' = w := by
  obtain ⟨c0, c1, c2⟩ := h.cells
  have GU := hide (giveUp_any e w)
  obtain ⟨ad, cap, hv⟩ : ∃ ad cap, v = .slice ad ts.length cap := by
    obtain ⟨rfl, rfl⟩ | ⟨g, cap, rfl, hc, hm⟩ := h.row.shape
    · exact ⟨_, _, rfl⟩
    · exact ⟨_, _, rfl⟩
  subst hv
  clear h
  by_cases h0 : i < 0
  · clear hi
    go_enter Tryd.func31, Tryd.ntmps31
    go_wp2_with fail
    refine (unhide GU).mono ?_
    rintro r w1 ⟨rfl, rfl⟩
    exact ⟨rfl, rfl, rfl⟩
  · have hg : (ts.length : Int) ≤ i := by omega
    clear hi
    go_enter Tryd.func31, Tryd.ntmps31
    go_wp2_with fail
    refine (unhide GU).mono ?_
    rintro r w1 ⟨rfl, rfl⟩
    exact ⟨rfl, rfl, rfl⟩
end Go.Proofs.YtllkkflolijpaaaDoor
