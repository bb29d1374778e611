/-
  A tape in memory; a text of it; Len, Read, Last, Sync.
  A tape's faces: Read, Last, Sync.
  A tape is opened: the inner function.
-/
import Derived.Test.YtboffmbaaokbnaaGreatDoorG08
import Derived.Test.YtboffmbaaokbnaaGreatDoorG10
namespace Go.Proofs.YtboffmbaaokbnaaGreatDoor
open Go.RowKit

/-- A disk's blocks are none of another type. -/
theorem DiskAt.no {w : World} {p : Nat} {d : Dk} {F : List Nat} (h : DiskAt w p d F) {k : Nat} {cur : Array Value} {t : TypeId} {f : Nat × Nat} (hk : w.heap[k]? = some (.cells cur t f)) (h1 : t ≠ 5) (h2 : t ≠ 92) (h3 : t ≠ 46) : k ∉ F := by
  obtain ⟨bs, bn, wv, Ls, Ln, ha, rfl, _⟩ := h
  intro hm
  unfold foot at hm
  rw [List.mem_cons, List.mem_cons, List.mem_cons, List.mem_append, List.mem_append] at hm
  have hb : w.heap[p]? = some (.cells (dkC bs bn wv d.left d.down) 46 (0, 0)) := ha.box
  rcases hm with rfl | rfl | rfl | hm | hm | hm
  · rw [hb] at hk; injection hk with e; injection e with _ e; exact h3 e.symm
  · obtain ⟨l, c, m, _⟩ := ha.safe
    rw [m.here] at hk; cases hk
  · obtain ⟨l, c, m, _⟩ := ha.now
    rw [m.here] at hk; cases hk
  · obtain ⟨cur', e⟩ := ha.wait.block (by simpa using hm)
    rw [e] at hk; injection hk with e; injection e with _ e; exact h2 e.symm
  · obtain ⟨_, cur', e⟩ := ha.safe.rows hm
    rw [e] at hk; injection hk with e; injection e with _ e; exact h1 e.symm
  · obtain ⟨_, cur', e⟩ := ha.now.rows hm
    rw [e] at hk; injection hk with e; injection e with _ e; exact h1 e.symm
/-- Texts lie in a row of their own. -/
abbrev Txs (w : World) (v : Value) (ts : List (List UInt8)) : Prop := OwnsS 0 w v ts
theorem OwnsS.kp {B : Nat} {F : List Nat} {w w' : World} {v : Value} {ts : List (List UInt8)} (h : OwnsS B w v ts) (hk : Kp F w w') (hF : ∀ k, v.ownBlock = some k → k ∉ F) : OwnsS B w' v ts := by
  obtain ⟨h1, h2 | ⟨g, cp, cur, rfl, hb, hh, r⟩⟩ := h
  · exact ⟨h1, Or.inl h2⟩
  · exact ⟨h1, Or.inr ⟨g, cp, cur, rfl, hb, (hk.block g (Array.getElem?_eq_some_iff.1 hh).1 (hF g rfl)).trans hh, r⟩⟩
theorem OwnsS.block {B : Nat} {w : World} {v : Value} {ts : List (List UInt8)} (h : OwnsS B w v ts) {k : Nat} (hk : v.ownBlock = some k) : B ≤ k ∧ k < w.heap.size ∧ ∃ cur, w.heap[k]? = some (.cells cur 9 (0, 0)) := by
  obtain ⟨_, ⟨rfl, h0⟩ | ⟨g, cp, cur, rfl, hb, hh, _⟩⟩ := h
  · simp [Value.ownBlock] at hk
  · simp [Value.ownBlock] at hk
    subst hk
    exact ⟨hb, (Array.getElem?_eq_some_iff.1 hh).1, cur, hh⟩
theorem OwnsS.low {B : Nat} {w : World} {v : Value} {ts : List (List UInt8)} (h : OwnsS B w v ts) : Txs w v ts := by
  obtain ⟨h1, h2 | ⟨g, cp, cur, rfl, hb, hh, r⟩⟩ := h
  · exact ⟨h1, Or.inl h2⟩
  · exact ⟨h1, Or.inr ⟨g, cp, cur, rfl, Nat.zero_le _, hh, r⟩⟩
theorem OwnsS.shape {B : Nat} {w : World} {v : Value} {ts : List (List UInt8)} (h : OwnsS B w v ts) : (v = .slice none 0 0 ∧ ts = []) ∨ ∃ g cap, v = .slice (some ⟨g, 0, none⟩) ts.length cap ∧ ts.length ≤ cap ∧ cap ≤ 9223372036854775807 := by
  obtain ⟨_, ⟨rfl, h0⟩ | ⟨g, cap, cur, rfl, _, _, hn, hm, _⟩⟩ := h
  · exact Or.inl ⟨rfl, List.eq_nil_of_length_eq_zero h0⟩
  · exact Or.inr ⟨g, cap, rfl, hn, by unfold maxLen at hm; omega⟩
theorem OwnsS.cell {B : Nat} {w : World} {g cap : Nat} {ts : List (List UInt8)} (h : OwnsS B w (.slice (some ⟨g, 0, none⟩) ts.length cap) ts) (i : Nat) (hi : i < ts.length) : w.cell? ⟨g, i, none⟩ = some (.string ⟨ts[i].toArray⟩) := by
  rw [World.ownsRow.cellAt h i (by omega)]
  simp [textC, hi]
/-- A tape lies there. -/
structure TpAt (w : World) (t p : Nat) (n : ByteArray) (v : Value) (ts : List (List UInt8)) : Prop where
  box : CBox t #[.pointer (some ⟨p, 0, none⟩), .string n, v] 82 w
  row : Txs w v ts
  nm : dnm n = true
  small : ∀ x ∈ ts, x.length ≤ 65536
section
variable {w w' : World} {t p : Nat} {n : ByteArray} {v : Value} {ts : List (List UInt8)} {d : Dk} {F : List Nat}
theorem TpAt.lt (h : TpAt w t p n v ts) : t < w.heap.size := (Array.getElem?_eq_some_iff.1 h.box).1
theorem TpAt.no (h : TpAt w t p n v ts) (hd : DiskAt w p d F) : t ∉ F ∧ ∀ k, v.ownBlock = some k → k ∉ F ∧ k ≠ t := by
  refine ⟨hd.no h.box (by decide) (by decide) (by decide), fun k hk => ?_⟩
  obtain ⟨_, _, cur, hc⟩ := h.row.block hk
  refine ⟨hd.no hc (by decide) (by decide) (by decide), fun e => ?_⟩
  subst e
  have hb : w.heap[k]? = _ := h.box
  rw [hc] at hb
  injection hb with e; injection e with _ e; exact absurd e (by decide)
theorem TpAt.kp {G : List Nat} (h : TpAt w t p n v ts) (hk : Kp G w w') (ht : t ∉ G) (hv : ∀ k, v.ownBlock = some k → k ∉ G) : TpAt w' t p n v ts := ⟨h.box.kp hk ht, h.row.kp hk hv, h.nm, h.small⟩
theorem TpAt.cells (h : TpAt w t p n v ts) : w.cell? ⟨t, 0, none⟩ = some (.pointer (some ⟨p, 0, none⟩)) ∧ w.cell? ⟨t, 1, none⟩ = some (.string n) ∧ w.cell? ⟨t, 2, none⟩ = some v := ⟨h.box.cell rfl, h.box.cell rfl, h.box.cell rfl⟩
end
set_option maxHeartbeats 400000 in
theorem len_any (t p : Nat) (n : ByteArray) (v : Value) (ts : List (List UInt8)) (w : World) (h : TpAt w t p n v ts) :
    Calls Tryz.prog 35 #[.pointer (some ⟨t, 0, none⟩)] w fun e w' => e = .returned (.int .i64 (ts.length : Int)) ∧ w' = w := by
  obtain ⟨c0, c1, c2⟩ := h.cells
  obtain ⟨rfl, rfl⟩ | ⟨g, cap, rfl, _⟩ := h.row.shape
  · clear h
    go_enter Tryz.func35, Tryz.ntmps35
    go_wp2
    go_ret
    exact ⟨rfl, rfl⟩
  · clear h
    go_enter Tryz.func35, Tryz.ntmps35
    go_wp2
    go_ret
    exact ⟨rfl, rfl⟩
/-- The text of a number. -/
def txE (ts : List (List UInt8)) (i e : Int) : Int := if 0 ≤ i ∧ i < (ts.length : Int) then 0 else e
def txS (ts : List (List UInt8)) (i : Int) : List UInt8 := if 0 ≤ i ∧ i < (ts.length : Int) then ts.getD i.toNat [] else []
set_option maxHeartbeats 1000000 in
set_option maxRecDepth 100000 in
theorem text_ok (t p : Nat) (n : ByteArray) (v : Value) (ts : List (List UInt8)) (k : Nat) (hk : k < ts.length) (e : Int) (w : World) (h : TpAt w t p n v ts) :
    Calls Tryz.prog 54 #[.pointer (some ⟨t, 0, none⟩), .int .i64 (k : Int), .int .i64 e] w fun r w' => r = .returned (.string ⟨ts[k].toArray⟩) ∧ Kp [] w w' := by
  obtain ⟨c0, c1, c2⟩ := h.cells
  obtain ⟨rfl, rfl⟩ | ⟨g, cap, rfl, hc, hm⟩ := h.row.shape
  · exact absurd hk (by simp)
  · have ck := h.row.cell k hk
    have hb := h.small ts[k] (List.getElem_mem hk)
    have CL := hide (clone_any ⟨ts[k].toArray⟩ w (by show ts[k].toArray.size ≤ _; rw [List.size_toArray]; omega))
    have hki : (k : Int) < (ts.length : Int) := by omega
    have hkn : ¬ ((ts.length : Int) ≤ (k : Int)) := by omega
    clear h hb
    generalize (⟨ts[k].toArray⟩ : ByteArray) = s at *
    go_enter Tryz.func54, Tryz.ntmps54
    go_wp2_with fail
    refine (unhide CL).mono ?_
    rintro r w1 ⟨rfl, hb1⟩
    have HK := hide (Kp.ofBelow hb1)
    clear hb1
    go_wp2
    go_ret
    exact ⟨rfl, unhide HK⟩
set_option maxHeartbeats 1000000 in
set_option maxRecDepth 100000 in
theorem text_not (t p : Nat) (n : ByteArray) (v : Value) (ts : List (List UInt8)) (i : Int) (hi : ¬ (0 ≤ i ∧ i < (ts.length : Int))) (e : Int) (w : World) (h : TpAt w t p n v ts) :
    Calls Tryz.prog 54 #[.pointer (some ⟨t, 0, none⟩), .int .i64 i, .int .i64 e] w fun r w' => r = .panicked (pan e) ∧ w' = w := by
  obtain ⟨c0, c1, c2⟩ := h.cells
  have GU := hide (giveUp_any e w)
  obtain ⟨ad, cap, hv⟩ : ∃ ad cap, v = .slice ad ts.length cap := by
    obtain ⟨rfl, rfl⟩ | ⟨g, cap, rfl, hc, hm⟩ := h.row.shape
    · exact ⟨_, _, rfl⟩
    · exact ⟨_, _, rfl⟩
  subst hv
  clear h
  by_cases h0 : i < 0
  · clear hi
    go_enter Tryz.func54, Tryz.ntmps54
    go_wp2_with fail
    refine (unhide GU).mono ?_
    rintro r w1 ⟨rfl, rfl⟩
    exact ⟨rfl, rfl, rfl⟩
  · have hg : (ts.length : Int) ≤ i := by omega
    clear hi
    go_enter Tryz.func54, Tryz.ntmps54
    go_wp2_with fail
    refine (unhide GU).mono ?_
    rintro r w1 ⟨rfl, rfl⟩
    exact ⟨rfl, rfl, rfl⟩
end Go.Proofs.YtboffmbaaokbnaaGreatDoor
namespace Go.Proofs.YtboffmbaaokbnaaGreatDoor
open Go.RowKit

theorem hmf (fn : Fn) (first cap : Array Value) (w : World) : (Instr.makeFunc fn first cap).run Tryz.prog w = .ok (.func fn first cap) w := rfl
theorem Kp.setNew {F : List Nat} {w w1 : World} (h : Kp F w w1) {p : Nat} (hp : w.heap.size ≤ p) (i : Nat) (v : Value) : Kp F w (w1.setCell ⟨p, i, none⟩ v) := h.trans (Kp.set w1 p i v) (fun x hx => by simp at hx; subst hx; exact Or.inr hp)
/-- Behind a face that gave up: the answer's cell, and what stays. -/
theorem Caught.out {p : Nat} {x e : Int} {w w' : World} (h : Caught ⟨p, 0, none⟩ e w w') (hb : CBox p #[.int .i64 x] 24 w) : w'.cell? ⟨p, 0, none⟩ = some (.int .i64 e) ∧ Kp [p] w w' := by
  obtain ⟨w1, hk, rfl⟩ := h
  have b1 := (hb.kp hk (by simp)).set 0 (.int .i64 e)
  exact ⟨b1.cell rfl, (hk.mono (by simp)).trans (Kp.set w1 p 0 _) (by simp)⟩
set_option maxHeartbeats 1000000 in
set_option maxRecDepth 100000 in
theorem tread_ok (t p : Nat) (n : ByteArray) (v : Value) (ts : List (List UInt8)) (k : Nat) (hk : k < ts.length) (w : World) (h : TpAt w t p n v ts) :
    Calls Tryz.prog 20 #[.pointer (some ⟨t, 0, none⟩), .int .i64 (k : Int)] w fun r w' => r = .returned (.tuple #[.string ⟨ts[k].toArray⟩, .int .i64 0]) ∧ Kp [] w w' := by
  have mf := hmf
  have bx := CBox.new w #[.int .i64 0] 24
  have hka := Kp.alloc w (.cells #[.int .i64 0] 24)
  have TX := hide (text_ok t p n v ts k hk 1 _ (h.kp hka (by simp) (by simp)))
  have BX := hide bx
  have KA := hide hka
  clear h bx hka
  go_enter_defers Tryz.func20, Tryz.ntmps20
  go_wp2_with fail
  refine (unhide TX).mono ?_
  rintro r w1 ⟨rfl, hk1⟩
  have b1 := (unhide BX).kp hk1 (by simp)
  have c0 : w1.cell? ⟨w.heap.size, 0, none⟩ = some (.int .i64 0) := b1.cell rfl
  have f0 := b1.froz 0
  have c9 : (w1.setCell ⟨w.heap.size, 0, none⟩ (.int .i64 0)).cell? ⟨w.heap.size, 0, none⟩ = some (.int .i64 0) := (b1.set 0 (.int .i64 0)).cell rfl
  have K1 := hide (((unhide KA).trans hk1 (by simp)).setNew (Nat.le_refl _) 0 (.int .i64 0))
  clear b1 hk1
  go_wp2
  refine leaves_cons (f := 53) (args := #[.pointer (some ⟨w.heap.size, 0, none⟩)]) (by simp) (by simp [go_sem]) ?_
  refine (read_idle ⟨w.heap.size, 0, none⟩ _).mono ?_
  rintro e u' w'' ⟨rfl, rfl, rfl⟩
  simp [Leaves, settle, results, Tryz.results20, go_sem, c9]
  exact unhide K1
set_option maxHeartbeats 1000000 in
set_option maxRecDepth 100000 in
theorem tread_not (t p : Nat) (n : ByteArray) (v : Value) (ts : List (List UInt8)) (i : Int) (hi : ¬ (0 ≤ i ∧ i < (ts.length : Int))) (w : World) (h : TpAt w t p n v ts) :
    Calls Tryz.prog 20 #[.pointer (some ⟨t, 0, none⟩), .int .i64 i] w fun r w' => r = .returned (.tuple #[.string ⟨#[]⟩, .int .i64 1]) ∧ Kp [] w w' := by
  have mf := hmf
  have bx := CBox.new w #[.int .i64 0] 24
  have hka := Kp.alloc w (.cells #[.int .i64 0] 24)
  have TX := hide (text_not t p n v ts i hi 1 _ (h.kp hka (by simp) (by simp)))
  have BX := hide bx
  have KA := hide hka
  clear h bx hka hi
  go_enter_defers Tryz.func20, Tryz.ntmps20
  go_wp2_with fail
  refine (unhide TX).mono ?_
  rintro r w1 ⟨rfl, rfl⟩
  refine leaves_cons (f := 53) (args := #[.pointer (some ⟨w.heap.size, 0, none⟩)]) (by simp) (by simp [go_sem]) ?_
  refine (read_caught w.heap.size 0 1 _ (unhide BX)).mono ?_
  rintro e u' w'' ⟨rfl, rfl, hc⟩
  obtain ⟨c9, hk9⟩ := hc.out (unhide BX)
  have K1 := hide ((unhide KA).trans hk9 (fun x hx => by simp at hx; subst hx; exact Or.inr (Nat.le_refl _)))
  clear hk9 hc
  simp [Leaves, settle, results, Tryz.results20, go_sem, c9]
  exact unhide K1
set_option maxHeartbeats 1000000 in
set_option maxRecDepth 100000 in
theorem last_ok (t p : Nat) (n : ByteArray) (v : Value) (ts : List (List UInt8)) (k : Nat) (hk : ts.length = k + 1) (w : World) (h : TpAt w t p n v ts) :
    Calls Tryz.prog 22 #[.pointer (some ⟨t, 0, none⟩)] w fun r w' => r = .returned (.tuple #[.string ⟨(ts.getD k []).toArray⟩, .int .i64 0]) ∧ Kp [] w w' := by
  have mf := hmf
  have bx := CBox.new w #[.int .i64 0] 24
  have hka := Kp.alloc w (.cells #[.int .i64 0] 24)
  have h1 := h.kp hka (by simp) (by simp)
  have TX0 := text_ok t p n v ts k (by omega) 5 _ h1
  rw [show ts[k] = ts.getD k [] by simp [List.getD, List.getElem?_eq_getElem (show k < ts.length by omega)]] at TX0
  have TX := hide TX0
  have cv := h1.cells.2.2
  obtain ⟨_, h0⟩ | ⟨g, cap, rfl, hc, hm⟩ := h.row.shape
  · rw [h0] at hk; cases hk
  have BX := hide bx
  have KA := hide hka
  have hkk : ((k + 1 : Nat) : Int) - 1 = (k : Int) := by omega
  have hk2 : (k : Int) < 9223372036854775807 := by omega
  rw [hk] at cv
  clear h bx hka h1 TX0
  generalize ts.getD k [] = x at *
  go_enter_defers Tryz.func22, Tryz.ntmps22
  go_wp2_with fail
  refine (unhide TX).mono ?_
  rintro r w1 ⟨rfl, hk1⟩
  have b1 := (unhide BX).kp hk1 (by simp)
  have c0 : w1.cell? ⟨w.heap.size, 0, none⟩ = some (.int .i64 0) := b1.cell rfl
  have f0 := b1.froz 0
  have c9 : (w1.setCell ⟨w.heap.size, 0, none⟩ (.int .i64 0)).cell? ⟨w.heap.size, 0, none⟩ = some (.int .i64 0) := (b1.set 0 (.int .i64 0)).cell rfl
  have K1 := hide (((unhide KA).trans hk1 (by simp)).setNew (Nat.le_refl _) 0 (.int .i64 0))
  clear b1 hk1
  go_wp2
  refine leaves_cons (f := 55) (args := #[.pointer (some ⟨w.heap.size, 0, none⟩)]) (by simp) (by simp [go_sem]) ?_
  refine (last_idle ⟨w.heap.size, 0, none⟩ _).mono ?_
  rintro e u' w'' ⟨rfl, rfl, rfl⟩
  simp [Leaves, settle, results, Tryz.results22, go_sem, c9]
  exact unhide K1
set_option maxHeartbeats 1000000 in
set_option maxRecDepth 100000 in
theorem last_not (t p : Nat) (n : ByteArray) (v : Value) (w : World) (h : TpAt w t p n v []) :
    Calls Tryz.prog 22 #[.pointer (some ⟨t, 0, none⟩)] w fun r w' => r = .returned (.tuple #[.string ⟨#[]⟩, .int .i64 5]) ∧ Kp [] w w' := by
  have mf := hmf
  have bx := CBox.new w #[.int .i64 0] 24
  have hka := Kp.alloc w (.cells #[.int .i64 0] 24)
  have h1 := h.kp hka (by simp) (by simp)
  have TX := hide (text_not t p n v [] (-1) (by simp) 5 _ h1)
  have cv := h1.cells.2.2
  obtain ⟨ad, cap, rfl⟩ : ∃ ad cap, v = .slice ad 0 cap := by
    obtain ⟨rfl, _⟩ | ⟨g, cap, rfl, hc, hm⟩ := h.row.shape
    · exact ⟨_, _, rfl⟩
    · exact ⟨_, _, rfl⟩
  have BX := hide bx
  have KA := hide hka
  clear h bx hka h1
  go_enter_defers Tryz.func22, Tryz.ntmps22
  go_wp2_with fail
  refine (unhide TX).mono ?_
  rintro r w1 ⟨rfl, rfl⟩
  refine leaves_cons (f := 55) (args := #[.pointer (some ⟨w.heap.size, 0, none⟩)]) (by simp) (by simp [go_sem]) ?_
  refine (last_caught w.heap.size 0 5 _ (unhide BX)).mono ?_
  rintro e u' w'' ⟨rfl, rfl, hc⟩
  obtain ⟨c9, hk9⟩ := hc.out (unhide BX)
  have K1 := hide ((unhide KA).trans hk9 (fun x hx => by simp at hx; subst hx; exact Or.inr (Nat.le_refl _)))
  clear hk9 hc
  simp [Leaves, settle, results, Tryz.results22, go_sem, c9]
  exact unhide K1
/-- A disk's call, with cells of the call's own written ahead of it and behind it. -/
theorem Did.post {w w1 w2 : World} {F : List Nat} {p q : Nat} {d : Dk} (h : Did w F p d w1) (hk : Kp [q] w1 w2) (hq : w.heap.size ≤ q) (hb : ∀ F', DiskAt w1 p d F' → q ∉ F') : Did w F p d w2 := by
  obtain ⟨F', hd, h1, h2⟩ := h
  exact ⟨F', hd.kp hk (fun k hk2 hm => by simp at hm; subst hm; exact hb F' hd hk2), h1.trans hk (fun x hx => by simp at hx; subst hx; exact Or.inr hq), h2⟩
theorem CBox.outD {w : World} {q p : Nat} {d : Dk} {x : Int} (hb : CBox q #[.int .i64 x] 24 w) : ∀ F', DiskAt w p d F' → q ∉ F' := fun F' hd => hd.no hb (by decide) (by decide) (by decide)
set_option maxHeartbeats 1000000 in
set_option maxRecDepth 100000 in
theorem tsync_any (t p : Nat) (n : ByteArray) (v : Value) (ts : List (List UInt8)) (d : Dk) (F : List Nat) (w : World) (h : TpAt w t p n v ts) (hd : DiskAt w p d F) :
    Calls Tryz.prog 18 #[.pointer (some ⟨t, 0, none⟩)] w fun r w' => r = .returned (.int .i64 d.syE) ∧ Did w F p d.syD w' := by
  have mf := hmf
  have bx := CBox.new w #[.int .i64 0] 24
  have hka := Kp.alloc w (.cells #[.int .i64 0] 24)
  have SY := hide (sync_any p d F _ (hd.kp hka (by simp)))
  have cv := (h.kp hka (by simp) (by simp)).cells.1
  have hdn := (hd.kp hka (by simp)).no bx (by decide) (by decide) (by decide)
  have BX := hide bx
  have KA := hide hka
  have HN := hide hdn
  clear h bx hka hd hdn
  cases hr : d.readyB with
  | true =>
    have he : d.syE = 0 := by unfold Dk.syE; rw [if_pos hr]
    rw [he] at SY ⊢
    clear hr he
    go_enter_defers Tryz.func18, Tryz.ntmps18
    go_wp2_with fail
    refine (unhide SY).mono ?_
    rintro r w1 ⟨rfl, hd1⟩
    have hk1 : Kp F _ w1 := let ⟨_, _, a, _⟩ := hd1; a
    have b1 := (unhide BX).kp hk1 (unhide HN)
    have B1 := hide b1
    have HD1 := hide hd1
    clear hk1 b1 hd1
    go_wp2_with fail
    refine (mustBeOK_ok w1).mono ?_
    rintro r w2 ⟨rfl, rfl⟩
    have c0 : w2.cell? ⟨w.heap.size, 0, none⟩ = some (.int .i64 0) := (unhide B1).cell rfl
    have f0 := (unhide B1).froz 0
    have b2 := (unhide B1).set 0 (.int .i64 0)
    have c9 : (w2.setCell ⟨w.heap.size, 0, none⟩ (.int .i64 0)).cell? ⟨w.heap.size, 0, none⟩ = some (.int .i64 0) := b2.cell rfl
    have HD2 := hide ((Did.pre (unhide KA) (unhide HD1)).post (Kp.set w2 w.heap.size 0 (.int .i64 0)) (Nat.le_refl _) (CBox.outD (unhide B1)))
    clear b2
    go_wp2
    refine leaves_cons (f := 50) (args := #[.pointer (some ⟨w.heap.size, 0, none⟩)]) (by simp) (by simp [go_sem]) ?_
    refine (sync_idle ⟨w.heap.size, 0, none⟩ _).mono ?_
    rintro e u' w'' ⟨rfl, rfl, rfl⟩
    simp [Leaves, settle, results, Tryz.results18, go_sem, c9]
    exact unhide HD2
  | false =>
    have he : d.syE = 31 := by unfold Dk.syE; rw [if_neg (by simp [hr])]
    rw [he] at SY ⊢
    clear hr he
    go_enter_defers Tryz.func18, Tryz.ntmps18
    go_wp2_with fail
    refine (unhide SY).mono ?_
    rintro r w1 ⟨rfl, hd1⟩
    have hk1 : Kp F _ w1 := let ⟨_, _, a, _⟩ := hd1; a
    have b1 := (unhide BX).kp hk1 (unhide HN)
    have B1 := hide b1
    have HD1 := hide hd1
    clear hk1 b1 hd1
    go_wp2_with fail
    refine (mustBeOK_not 31 (by decide) w1).mono ?_
    rintro r w2 ⟨rfl, rfl⟩
    refine leaves_cons (f := 50) (args := #[.pointer (some ⟨w.heap.size, 0, none⟩)]) (by simp) (by simp [go_sem]) ?_
    refine (sync_caught w.heap.size 0 31 _ (unhide B1)).mono ?_
    rintro e u' w'' ⟨rfl, rfl, hc⟩
    obtain ⟨c9, hk9⟩ := hc.out (unhide B1)
    have HD2 := hide ((Did.pre (unhide KA) (unhide HD1)).post hk9 (Nat.le_refl _) (CBox.outD (unhide B1)))
    clear hk9 hc
    simp [Leaves, settle, results, Tryz.results18, go_sem, c9]
    exact unhide HD2
end Go.Proofs.YtboffmbaaokbnaaGreatDoor
namespace Go.Proofs.YtboffmbaaokbnaaGreatDoor
open Go.RowKit

theorem frsF_small : ∀ (f : Nat) (l : List UInt8) (e : Nat), ∀ x ∈ (frsF f l e).1, x.length ≤ 65536
  | 0, _, _ => fun x hx => by simp [frsF] at hx
  | f + 1, l, e => fun x hx => by
    rw [frsF] at hx
    split at hx
    · simp at hx
    · rename_i hb
      rw [List.mem_cons] at hx
      rcases hx with rfl | hx
      · exact (bodyS_ok _ (by simpa using hb)).2
      · exact frsF_small f l _ x hx
theorem frsS_small (l : List UInt8) : ∀ x ∈ (frsS l).1, x.length ≤ 65536 := frsF_small _ _ _
/-- Where the whole frames of a file end. -/
def Dk.fEnd (d : Dk) (n : ByteArray) : Nat := (frsS (hasF d.now n)).2
def Dk.fCode (d : Dk) (n : ByteArray) : Int := (bodyS ((hasF d.now n).drop (d.fEnd n))).2
def Dk.opE (d : Dk) (n : ByteArray) : Int := if dnm n = false then 30 else if d.fEnd n < (hasF d.now n).length then (if d.fCode n = 11 then d.ctE n (d.fEnd n : Int) else 40) else 0
def Dk.opD (d : Dk) (n : ByteArray) : Dk := if dnm n = false then d else if d.fEnd n < (hasF d.now n).length then (if d.fCode n = 11 then d.ctD n (d.fEnd n : Int) else d) else d
def Dk.opL (d : Dk) (n : ByteArray) : List (List UInt8) := (frsS (hasF d.now n)).1
theorem unf_code (l : List UInt8) (k : Nat) (h : k ≤ l.length) : (unfS l (k : Int)).2.2.2 = (bodyS (l.drop k)).2 := by
  unfold unfS
  rw [if_neg (by omega), Int.toNat_natCast]
  split
  · rfl
  · rename_i hb
    have : (bodyS (l.drop k)).2 = 0 := by simpa using hb
    rw [this]
set_option maxHeartbeats 1000000 in
set_option maxRecDepth 100000 in
theorem bytesOf_any (p : Nat) (n : ByteArray) (d : Dk) (F : List Nat) (w : World) (hd : DiskAt w p d F) (hn : dnm n = true) :
    Calls Tryz.prog 37 #[.pointer (some ⟨p, 0, none⟩), .string n] w fun r w' => r = .returned (.string ⟨(hasF d.now n).toArray⟩) ∧ w' = w := by
  have hl := dnm_len hn
  have RD := hide (read_any n p d F w hd (by omega))
  clear hd
  cases hg : (getF d.now n).isSome with
  | true =>
    have e0 : d.badN n = 0 := badN_0 hn hg
    unfold Dk.rdS Dk.rdE at RD
    rw [e0, if_pos rfl] at RD
    clear hg e0 hn hl
    generalize (⟨(hasF d.now n).toArray⟩ : ByteArray) = s at *
    go_enter Tryz.func37, Tryz.ntmps37
    go_wp2_with fail
    refine (unhide RD).mono ?_
    rintro r w1 ⟨rfl, rfl⟩
    go_wp2_with fail
    refine (mustBeOK_ok w1).mono ?_
    rintro r w2 ⟨rfl, rfl⟩
    go_wp2
    go_ret
    exact ⟨rfl, rfl⟩
  | false =>
    have e0 : d.badN n = 5 := badN_5 hn hg
    have hh : hasF d.now n = [] := by
      unfold hasF
      cases h : getF d.now n with
      | none => rfl
      | some x => rw [h] at hg; cases hg
    rw [hh]
    unfold Dk.rdS Dk.rdE at RD
    rw [e0, if_neg (by decide)] at RD
    clear hg e0 hn hl hh
    go_enter Tryz.func37, Tryz.ntmps37
    go_wp2_with fail
    refine (unhide RD).mono ?_
    rintro r w1 ⟨rfl, rfl⟩
    go_wp2
    go_ret
    exact ⟨rfl, rfl⟩
set_option maxHeartbeats 1000000 in
set_option maxRecDepth 100000 in
theorem bytesOf_not (p : Nat) (n : ByteArray) (d : Dk) (F : List Nat) (w : World) (hd : DiskAt w p d F) (hn : dnm n = false) (hs : n.size ≤ 9223372036854775807) :
    Calls Tryz.prog 37 #[.pointer (some ⟨p, 0, none⟩), .string n] w fun r w' => r = .panicked (pan 30) ∧ w' = w := by
  have RD := hide (read_any n p d F w hd hs)
  have e0 : d.badN n = 30 := badN_30 hn
  unfold Dk.rdS Dk.rdE at RD
  rw [e0, if_neg (by decide)] at RD
  clear hd e0 hn
  go_enter Tryz.func37, Tryz.ntmps37
  go_wp2_with fail
  refine (unhide RD).mono ?_
  rintro r w1 ⟨rfl, rfl⟩
  go_wp2_with fail
  refine (mustBeOK_not 30 (by decide) w1).mono ?_
  rintro r w2 ⟨rfl, rfl⟩
  exact ⟨rfl, rfl, rfl⟩
set_option maxHeartbeats 1000000 in
set_option maxRecDepth 100000 in
theorem mustBeTorn_ok (b : ByteArray) (k : Nat) (w : World) (hb : b.size ≤ 9223372036854775807) (hk : k ≤ b.size) (hT : TabW w) (hc : (bodyS (b.data.toList.drop k)).2 = 11) :
    Calls Tryz.prog 39 #[.string b, .int .i64 (k : Int)] w fun r w' => r = .returned (.tuple #[]) ∧ Kp [] w w' := by
  have UN := unframe_any b (k : Int) w hb hT
  rw [unf_code b.data.toList k (by rw [Array.length_toList]; exact hk), hc] at UN
  generalize unfS b.data.toList (k : Int) = R at *
  have UN := hide UN
  clear hc hT
  go_enter Tryz.func39, Tryz.ntmps39
  go_wp2_with fail
  refine (unhide UN).mono ?_
  rintro r w1 ⟨rfl, hb1⟩
  have HK := hide ((Kp.ofBelow hb1).trans (Kp.alloc w1 (.cells #[.int .i64 R.2.2.1, .int .i64 11] 84)) (by simp))
  clear hb1
  go_wp2
  go_end0
  exact ⟨rfl, unhide HK⟩
set_option maxHeartbeats 1000000 in
set_option maxRecDepth 100000 in
theorem mustBeTorn_not (b : ByteArray) (k : Nat) (w : World) (hb : b.size ≤ 9223372036854775807) (hk : k ≤ b.size) (hT : TabW w) (hc : (bodyS (b.data.toList.drop k)).2 ≠ 11) :
    Calls Tryz.prog 39 #[.string b, .int .i64 (k : Int)] w fun r w' => r = .panicked (pan 40) ∧ Kp [] w w' := by
  have UN := unframe_any b (k : Int) w hb hT
  rw [unf_code b.data.toList k (by rw [Array.length_toList]; exact hk)] at UN
  generalize (bodyS (b.data.toList.drop k)).2 = c at *
  generalize unfS b.data.toList (k : Int) = R at *
  have UN := hide UN
  have hcb : (c != 11) = true := by simpa using hc
  clear hT
  go_enter Tryz.func39, Tryz.ntmps39
  go_wp2_with fail
  refine (unhide UN).mono ?_
  rintro r w1 ⟨rfl, hb1⟩
  have HK := hide ((Kp.ofBelow hb1).trans (Kp.alloc w1 (.cells #[.int .i64 R.2.2.1, .int .i64 c] 84)) (by simp))
  clear hb1
  go_wp2_with fail
  refine (giveUp_any 40 _).mono ?_
  rintro r w2 ⟨rfl, rfl⟩
  exact ⟨rfl, rfl, unhide HK⟩
end Go.Proofs.YtboffmbaaokbnaaGreatDoor
