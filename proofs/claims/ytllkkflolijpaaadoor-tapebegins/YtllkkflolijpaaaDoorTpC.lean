/-
  A tape's faces: Read, Last, Sync.
-/
import Derived.Test.YtllkkflolijpaaaDoorTpB
namespace Go.Proofs.YtllkkflolijpaaaDoor
open Go.RowKit

theorem hmf (fn : Fn) (first cap : Array Value) (w : World) : (Instr.makeFunc fn first cap).run Tryd.prog w = .ok (.func fn first cap) w := rfl
theorem Kp.setNew {F : List Nat} {w w1 : World} (h : Kp F w w1) {p : Nat} (hp : w.heap.size ≤ p) (i : Nat) (v : Value) : Kp F w (w1.setCell ⟨p, i, none⟩ v) := h.trans (Kp.set w1 p i v) (fun x hx => by simp at hx; subst hx; exact Or.inr hp)
/-- Behind a face that gave up: the answer's cell, and what stays. -/
theorem Caught.out {p : Nat} {x e : Int} {w w' : World} (h : Caught ⟨p, 0, none⟩ e w w') (hb : CBox p #[.int .i64 x] 28 w) : w'.cell? ⟨p, 0, none⟩ = some (.int .i64 e) ∧ Kp [p] w w' := by
  obtain ⟨w1, hk, rfl⟩ := h
  have b1 := (hb.kp hk (by simp)).set 0 (.int .i64 e)
  exact ⟨b1.cell rfl, (hk.mono (by simp)).trans (Kp.set w1 p 0 _) (by simp)⟩
set_option maxHeartbeats 1000000 in
set_option maxRecDepth 100000 in
theorem tread_ok (t p : Nat) (n : ByteArray) (v : Value) (ts : List (List UInt8)) (k : Nat) (hk : k < ts.length) (w : World) (h : TpAt w t p n v ts) :
    Calls Tryd.prog 15 #[.pointer (some ⟨t, 0, none⟩), .int .i64 (k : Int)] w fun r w' => r = .returned (.tuple #[.string ⟨ts[k].toArray⟩, .int .i64 0]) ∧ Kp [] w w' := by
  have mf := hmf
  have bx := CBox.new w #[.int .i64 0] 28
  have hka := Kp.alloc w (.cells #[.int .i64 0] 28)
  have TX := hide (text_ok t p n v ts k hk 1 _ (h.kp hka (by simp) (by simp)))
  have BX := hide bx
  have KA := hide hka
  clear h bx hka
  go_enter_defers Tryd.func15, Tryd.ntmps15
  go_wp2_with fail
  refine (unhide TX).mono ?_
  rintro r w1 ⟨rfl, hk1⟩
  have b1 := (unhide BX).kp hk1 (by simp)
  have c0 : w1.cell? ⟨w.heap.size, 0, none⟩ = some (.int .i64 0) := b1.cell rfl
  have f0 := b1.froz 0
  have c9 : (w1.setCell ⟨w.heap.size, 0, none⟩ (.int .i64 0)).cell? ⟨w.heap.size, 0, none⟩ = some (.int .i64 0) := (b1.set 0 (.int .i64 0)).cell rfl
  have K1 := hide (((unhide KA).trans hk1 (by simp)).setNew (Nat.le_refl _) 0 (.int .i64 0))
  clear b1 hk1
  go_wp2
  refine leaves_cons (f := 30) (args := #[.pointer (some ⟨w.heap.size, 0, none⟩)]) (by simp) (by simp [go_sem]) ?_
  refine (read_idle ⟨w.heap.size, 0, none⟩ _).mono ?_
  rintro e u' w'' ⟨rfl, rfl, rfl⟩
  simp [Leaves, settle, results, Tryd.results15, go_sem, c9]
  exact unhide K1
set_option maxHeartbeats 1000000 in
set_option maxRecDepth 100000 in
theorem tread_not (t p : Nat) (n : ByteArray) (v : Value) (ts : List (List UInt8)) (i : Int) (hi : ¬ (0 ≤ i ∧ i < (ts.length : Int))) (w : World) (h : TpAt w t p n v ts) :
    Calls Tryd.prog 15 #[.pointer (some ⟨t, 0, none⟩), .int .i64 i] w fun r w' => r = .returned (.tuple #[.string ⟨#[]⟩, .int .i64 1]) ∧ Kp [] w w' := by
  have mf := hmf
  have bx := CBox.new w #[.int .i64 0] 28
  have hka := Kp.alloc w (.cells #[.int .i64 0] 28)
  have TX := hide (text_not t p n v ts i hi 1 _ (h.kp hka (by simp) (by simp)))
  have BX := hide bx
  have KA := hide hka
  clear h bx hka hi
  go_enter_defers Tryd.func15, Tryd.ntmps15
  go_wp2_with fail
  refine (unhide TX).mono ?_
  rintro r w1 ⟨rfl, rfl⟩
  refine leaves_cons (f := 30) (args := #[.pointer (some ⟨w.heap.size, 0, none⟩)]) (by simp) (by simp [go_sem]) ?_
  refine (read_caught w.heap.size 0 1 _ (unhide BX)).mono ?_
  rintro e u' w'' ⟨rfl, rfl, hc⟩
  obtain ⟨c9, hk9⟩ := hc.out (unhide BX)
  have K1 := hide ((unhide KA).trans hk9 (fun x hx => by simp at hx; subst hx; exact Or.inr (Nat.le_refl _)))
  clear hk9 hc
  simp [Leaves, settle, results, Tryd.results15, go_sem, c9]
  exact unhide K1
set_option maxHeartbeats 1000000 in
set_option maxRecDepth 100000 in
theorem last_ok (t p : Nat) (n : ByteArray) (v : Value) (ts : List (List UInt8)) (k : Nat) (hk : ts.length = k + 1) (w : World) (h : TpAt w t p n v ts) :
    Calls Tryd.prog 18 #[.pointer (some ⟨t, 0, none⟩)] w fun r w' => r = .returned (.tuple #[.string ⟨(ts.getD k []).toArray⟩, .int .i64 0]) ∧ Kp [] w w' := by
  have mf := hmf
  have bx := CBox.new w #[.int .i64 0] 28
  have hka := Kp.alloc w (.cells #[.int .i64 0] 28)
  have h1 := h.kp hka (by simp) (by simp)
  have TX0 := text_ok t p n v ts k (by omega) 5 _ h1
  rw [show ts[k] = ts.getD k [] by simp [List.getD, List.getElem?_eq_getElem (show k < ts.length by omega)]] at TX0
  have TX := hide TX0
  have cv := h1.cells.2.2
  obtain ⟨_, h0⟩ | ⟨g, cap, rfl, hc, hm⟩ := h.row.shape
  · rw [h0] at hk; cases hk
  have BX := hide bx
  have KA := hide hka
  have hkk : ((k + 1 : Nat) : Int) - 1 = (k : Int) := by omega
  have hk2 : (k : Int) < 9223372036854775807 := by omega
  rw [hk] at cv
  clear h bx hka h1 TX0
  generalize ts.getD k [] = x at *
  go_enter_defers Tryd.func18, Tryd.ntmps18
  go_wp2_with fail
  refine (unhide TX).mono ?_
  rintro r w1 ⟨rfl, hk1⟩
  have b1 := (unhide BX).kp hk1 (by simp)
  have c0 : w1.cell? ⟨w.heap.size, 0, none⟩ = some (.int .i64 0) := b1.cell rfl
  have f0 := b1.froz 0
  have c9 : (w1.setCell ⟨w.heap.size, 0, none⟩ (.int .i64 0)).cell? ⟨w.heap.size, 0, none⟩ = some (.int .i64 0) := (b1.set 0 (.int .i64 0)).cell rfl
  have K1 := hide (((unhide KA).trans hk1 (by simp)).setNew (Nat.le_refl _) 0 (.int .i64 0))
  clear b1 hk1
  go_wp2
  refine leaves_cons (f := 36) (args := #[.pointer (some ⟨w.heap.size, 0, none⟩)]) (by simp) (by simp [go_sem]) ?_
  refine (last_idle ⟨w.heap.size, 0, none⟩ _).mono ?_
  rintro e u' w'' ⟨rfl, rfl, rfl⟩
  simp [Leaves, settle, results, Tryd.results18, go_sem, c9]
  exact unhide K1
set_option maxHeartbeats 1000000 in
set_option maxRecDepth 100000 in
theorem last_not (t p : Nat) (n : ByteArray) (v : Value) (w : World) (h : TpAt w t p n v []) :
    Calls Tryd.prog 18 #[.pointer (some ⟨t, 0, none⟩)] w fun r w' => r = .returned (.tuple #[.string ⟨#[]⟩, .int .i64 5]) ∧ Kp [] w w' := by
  have mf := hmf
  have bx := CBox.new w #[.int .i64 0] 28
  have hka := Kp.alloc w (.cells #[.int .i64 0] 28)
  have h1 := h.kp hka (by simp) (by simp)
  have TX := hide (text_not t p n v [] (-1) (by simp) 5 _ h1)
  have cv := h1.cells.2.2
  obtain ⟨ad, cap, rfl⟩ : ∃ ad cap, v = .slice ad 0 cap := by
    obtain ⟨rfl, _⟩ | ⟨g, cap, rfl, hc, hm⟩ := h.row.shape
    · exact ⟨_, _, rfl⟩
    · exact ⟨_, _, rfl⟩
  have BX := hide bx
  have KA := hide hka
  clear h bx hka h1
  go_enter_defers Tryd.func18, Tryd.ntmps18
  go_wp2_with fail
  refine (unhide TX).mono ?_
  rintro r w1 ⟨rfl, rfl⟩
  refine leaves_cons (f := 36) (args := #[.pointer (some ⟨w.heap.size, 0, none⟩)]) (by simp) (by simp [go_sem]) ?_
  refine (last_caught w.heap.size 0 5 _ (unhide BX)).mono ?_
  rintro e u' w'' ⟨rfl, rfl, hc⟩
  obtain ⟨c9, hk9⟩ := hc.out (unhide BX)
  have K1 := hide ((unhide KA).trans hk9 (fun x hx => by simp at hx; subst hx; exact Or.inr (Nat.le_refl _)))
  clear hk9 hc
  simp [Leaves, settle, results, Tryd.results18, go_sem, c9]
  exact unhide K1
/-- A disk's call, with cells of the call's own written ahead of it and behind it. -/
theorem Did.post {w w1 w2 : World} {F : List Nat} {p q : Nat} {d : Dk} (h : Did w F p d w1) (hk : Kp [q] w1 w2) (hq : w.heap.size ≤ q) (hb : ∀ F', DiskAt w1 p d F' → q ∉ F') : Did w F p d w2 := by
  obtain ⟨F', hd, h1, h2⟩ := h
  exact ⟨F', hd.kp hk (fun k hk2 hm => by simp at hm; subst hm; exact hb F' hd hk2), h1.trans hk (fun x hx => by simp at hx; subst hx; exact Or.inr hq), h2⟩
theorem CBox.outD {w : World} {q p : Nat} {d : Dk} {x : Int} (hb : CBox q #[.int .i64 x] 28 w) : ∀ F', DiskAt w p d F' → q ∉ F' := fun F' hd => hd.no hb (by decide) (by decide) (by decide)
set_option maxHeartbeats 1000000 in
set_option maxRecDepth 100000 in
theorem tsync_any (t p : Nat) (n : ByteArray) (v : Value) (ts : List (List UInt8)) (d : Dk) (F : List Nat) (w : World) (h : TpAt w t p n v ts) (hd : DiskAt w p d F) :
    Calls Tryd.prog 9 #[.pointer (some ⟨t, 0, none⟩)] w fun r w' => r = .returned (.int .i64 d.syE) ∧ Did w F p d.syD w' := by
  have mf := hmf
  have bx := CBox.new w #[.int .i64 0] 28
  have hka := Kp.alloc w (.cells #[.int .i64 0] 28)
  have SY := hide (sync_any p d F _ (hd.kp hka (by simp)))
  have cv := (h.kp hka (by simp) (by simp)).cells.1
  have hdn := (hd.kp hka (by simp)).no bx (by decide) (by decide) (by decide)
  have BX := hide bx
  have KA := hide hka
  have HN := hide hdn
  clear h bx hka hd hdn
  cases hr : d.readyB with
  | true =>
    have he : d.syE = 0 := by unfold Dk.syE; rw [if_pos hr]
    rw [he] at SY ⊢
    clear hr he
    go_enter_defers Tryd.func9, Tryd.ntmps9
    go_wp2_with fail
    refine (unhide SY).mono ?_
    rintro r w1 ⟨rfl, hd1⟩
    have hk1 : Kp F _ w1 := let ⟨_, _, a, _⟩ := hd1; a
    have b1 := (unhide BX).kp hk1 (unhide HN)
    have B1 := hide b1
    have HD1 := hide hd1
    clear hk1 b1 hd1
    go_wp2_with fail
    refine (mustBeOK_ok w1).mono ?_
    rintro r w2 ⟨rfl, rfl⟩
    have c0 : w2.cell? ⟨w.heap.size, 0, none⟩ = some (.int .i64 0) := (unhide B1).cell rfl
    have f0 := (unhide B1).froz 0
    have b2 := (unhide B1).set 0 (.int .i64 0)
    have c9 : (w2.setCell ⟨w.heap.size, 0, none⟩ (.int .i64 0)).cell? ⟨w.heap.size, 0, none⟩ = some (.int .i64 0) := b2.cell rfl
    have HD2 := hide ((Did.pre (unhide KA) (unhide HD1)).post (Kp.set w2 w.heap.size 0 (.int .i64 0)) (Nat.le_refl _) (CBox.outD (unhide B1)))
    clear b2
    go_wp2
    refine leaves_cons (f := 22) (args := #[.pointer (some ⟨w.heap.size, 0, none⟩)]) (by simp) (by simp [go_sem]) ?_
    refine (sync_idle ⟨w.heap.size, 0, none⟩ _).mono ?_
    rintro e u' w'' ⟨rfl, rfl, rfl⟩
    simp [Leaves, settle, results, Tryd.results9, go_sem, c9]
    exact unhide HD2
  | false =>
    have he : d.syE = 31 := by unfold Dk.syE; rw [if_neg (by simp [hr])]
    rw [he] at SY ⊢
    clear hr he
    go_enter_defers Tryd.func9, Tryd.ntmps9
    go_wp2_with fail
    refine (unhide SY).mono ?_
    rintro r w1 ⟨rfl, hd1⟩
    have hk1 : Kp F _ w1 := let ⟨_, _, a, _⟩ := hd1; a
    have b1 := (unhide BX).kp hk1 (unhide HN)
    have B1 := hide b1
    have HD1 := hide hd1
    clear hk1 b1 hd1
    go_wp2_with fail
    refine (mustBeOK_not 31 (by decide) w1).mono ?_
    rintro r w2 ⟨rfl, rfl⟩
    refine leaves_cons (f := 22) (args := #[.pointer (some ⟨w.heap.size, 0, none⟩)]) (by simp) (by simp [go_sem]) ?_
    refine (sync_caught w.heap.size 0 31 _ (unhide B1)).mono ?_
    rintro e u' w'' ⟨rfl, rfl, hc⟩
    obtain ⟨c9, hk9⟩ := hc.out (unhide B1)
    have HD2 := hide ((Did.pre (unhide KA) (unhide HD1)).post hk9 (Nat.le_refl _) (CBox.outD (unhide B1)))
    clear hk9 hc
    simp [Leaves, settle, results, Tryd.results9, go_sem, c9]
    exact unhide HD2
end Go.Proofs.YtllkkflolijpaaaDoor
