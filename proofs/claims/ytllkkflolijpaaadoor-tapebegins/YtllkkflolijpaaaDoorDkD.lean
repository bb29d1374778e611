/-
  A disk in memory, and its small functions: isName, takes, size, Waiting, Fuse, New.
-/
import Derived.Test.YtllkkflolijpaaaDoorDkA
import Derived.Test.YtllkkflolijpaaaDoorDkS
import Derived.Deep.QuietTactic
import Derived.BigQuiet
namespace Go.Proofs.YtllkkflolijpaaaDoor
open Go.RowKit

theorem apply_any (c : Chg) (b : Nat) (fs : Fs) (L : List Nat) (w : World) (h : FilesAt w b fs L) (hf : Fit fs c) :
    Calls Tryd.prog 44 #[.map (some b), chV c] w fun e w' => e = .returned (.tuple #[]) ∧ Made w b (made fs c) L w' := by
  cases c with
  | wr n pos d => exact apply_wr n pos d b fs L w h hf.1 (by have := hf.2; omega)
  | ct n len => exact apply_ct n len b fs L w h hf.1 (by have := hf.2; omega)
  | rn a c => exact apply_rn a c b fs L w h
  | rm n => exact apply_rm n b fs L w h
/-- Changes that wait lie in a row of their own. -/
def WaitsAt (w : World) (v : Value) (cs : List Chg) : Prop := w.ownsRow 0 68 1 v cs.length (cs.map chV)
theorem WaitsAt.kp {F : List Nat} {w w' : World} {v : Value} {l : List Chg} (h : WaitsAt w v l) (hk : Kp F w w') (hF : ∀ k, v.ownBlock = some k → k ∉ F) : WaitsAt w' v l := by
  obtain ⟨h1, h2 | ⟨g, cp, cur, rfl, hb, hh, r⟩⟩ := h
  · exact ⟨h1, Or.inl h2⟩
  · exact ⟨h1, Or.inr ⟨g, cp, cur, rfl, hb, (hk.block g (Array.getElem?_eq_some_iff.1 hh).1 (hF g rfl)).trans hh, r⟩⟩
theorem WaitsAt.block {w : World} {v : Value} {l : List Chg} (h : WaitsAt w v l) {k : Nat} (hk : v.ownBlock = some k) : ∃ cur, w.heap[k]? = some (.cells cur 68 (0, 0)) := by
  obtain ⟨_, ⟨rfl, h0⟩ | ⟨g, cp, cur, rfl, _, hh, _⟩⟩ := h
  · simp [Value.ownBlock] at hk
  · simp [Value.ownBlock] at hk
    subst hk
    exact ⟨cur, hh⟩
theorem WaitsAt.form {w : World} {v : Value} {l : List Chg} (h : WaitsAt w v l) : ∃ ad cap, v = .slice ad l.length cap ∧ l.length ≤ cap ∧ cap ≤ maxLen := by
  obtain ⟨_, ⟨rfl, h0⟩ | ⟨g, cp, cur, rfl, _, _, hn, hm, _⟩⟩ := h
  · exact ⟨_, _, by rw [h0], by omega, by simp⟩
  · exact ⟨_, _, rfl, hn, hm⟩
theorem WaitsAt.nil (w : World) : WaitsAt w nilS [] := World.ownsRow_nil _ _ _ _
def dkC (bs bn : Nat) (wv : Value) (left : Int) (down : Bool) : Array Value := #[.map (some bs), .map (some bn), wv, .int .i64 left, .bool down]
/-- A disk's parts. -/
structure DkAt (w : World) (p bs bn : Nat) (wv : Value) (Ls Ln : List Nat) (d : Dk) : Prop where
  box : CBox p (dkC bs bn wv d.left d.down) 57 w
  safe : FilesAt w bs d.safe Ls
  now : FilesAt w bn d.now Ln
  wait : WaitsAt w wv d.wait
  ne : bs ≠ bn
  dis : ∀ k ∈ Ls, k ∉ Ln
def foot (p bs bn : Nat) (wv : Value) (Ls Ln : List Nat) : List Nat := p :: bs :: bn :: (wv.ownBlock.toList ++ (Ls ++ Ln))
/-- A disk lies there, with these blocks. -/
def DiskAt (w : World) (p : Nat) (d : Dk) (F : List Nat) : Prop := ∃ bs bn wv Ls Ln, DkAt w p bs bn wv Ls Ln d ∧ F = foot p bs bn wv Ls Ln ∧ Inv d
/-- What a call leaves. -/
def Did (w : World) (F : List Nat) (p : Nat) (d : Dk) (w' : World) : Prop := ∃ F', DiskAt w' p d F' ∧ Kp F w w' ∧ ∀ k ∈ F', k ∈ F ∨ w.heap.size ≤ k
section
variable {w w' : World} {p bs bn : Nat} {wv : Value} {Ls Ln : List Nat} {d : Dk} {F : List Nat}
theorem DkAt.froz (h : DkAt w p bs bn wv Ls Ln d) (i : Nat) : w.frozen? ⟨p, i, none⟩ = false := by
  have := h.box
  unfold CBox at this
  simp [World.frozen?, this]
theorem DkAt.cells (h : DkAt w p bs bn wv Ls Ln d) : w.cell? ⟨p, 0, none⟩ = some (.map (some bs)) ∧ w.cell? ⟨p, 1, none⟩ = some (.map (some bn)) ∧ w.cell? ⟨p, 2, none⟩ = some wv ∧ w.cell? ⟨p, 3, none⟩ = some (.int .i64 d.left) ∧ w.cell? ⟨p, 4, none⟩ = some (.bool d.down) :=
  ⟨h.box.cell rfl, h.box.cell rfl, h.box.cell rfl, h.box.cell rfl, h.box.cell rfl⟩
theorem DkAt.frozs (h : DkAt w p bs bn wv Ls Ln d) : w.frozen? ⟨p, 0, none⟩ = false ∧ w.frozen? ⟨p, 1, none⟩ = false ∧ w.frozen? ⟨p, 2, none⟩ = false ∧ w.frozen? ⟨p, 3, none⟩ = false ∧ w.frozen? ⟨p, 4, none⟩ = false :=
  ⟨h.froz 0, h.froz 1, h.froz 2, h.froz 3, h.froz 4⟩
theorem DkAt.lt (h : DkAt w p bs bn wv Ls Ln d) : p < w.heap.size := (Array.getElem?_eq_some_iff.1 h.box).1
/-- The parts lie apart. -/
theorem DkAt.pm (h : DkAt w p bs bn wv Ls Ln d) : p ≠ bs ∧ p ≠ bn ∧ (∀ k, wv.ownBlock = some k → k ≠ p ∧ k ≠ bs ∧ k ≠ bn ∧ k ∉ Ls ∧ k ∉ Ln) ∧ p ∉ Ls ∧ p ∉ Ln ∧ bs ∉ Ls ∧ bs ∉ Ln ∧ bn ∉ Ls ∧ bn ∉ Ln := by
  have hb : w.heap[p]? = some (.cells (dkC bs bn wv d.left d.down) 57 (0, 0)) := h.box
  obtain ⟨ls, cs, ms, _⟩ := h.safe
  obtain ⟨ln, cn, mn, _⟩ := h.now
  have rows : ∀ L b fs, FilesAt w b fs L → ∀ k ∈ L, ∃ cur, w.heap[k]? = some (.cells cur 5 (0, 0)) := fun L b fs hf k hk => (hf.rows hk).2
  have r1 := rows _ _ _ h.safe
  have r2 := rows _ _ _ h.now
  have mapno : ∀ L : List Nat, (∀ k ∈ L, ∃ cur, w.heap[k]? = some (.cells cur 5 (0, 0))) → ∀ b l c, MapIs w b l c → b ∉ L := fun L hL b l c hm hb => by
    obtain ⟨cur, hc⟩ := hL b hb
    rw [hm.here] at hc
    cases hc
  have boxno : ∀ L : List Nat, (∀ k ∈ L, ∃ cur, w.heap[k]? = some (.cells cur 5 (0, 0))) → p ∉ L := fun L hL hp => by
    obtain ⟨cur, hc⟩ := hL p hp
    rw [hb] at hc
    simp at hc
  refine ⟨?_, ?_, fun k hk => ?_, boxno _ r1, boxno _ r2, mapno _ r1 _ _ _ ms, mapno _ r2 _ _ _ ms, mapno _ r1 _ _ _ mn, mapno _ r2 _ _ _ mn⟩
  · rintro rfl; rw [ms.here] at hb; cases hb
  · rintro rfl; rw [mn.here] at hb; cases hb
  · obtain ⟨cur, hw⟩ := h.wait.block hk
    refine ⟨?_, ?_, ?_, fun hm => ?_, fun hm => ?_⟩
    · rintro rfl; rw [hb] at hw; simp at hw
    · rintro rfl; rw [ms.here] at hw; cases hw
    · rintro rfl; rw [mn.here] at hw; cases hw
    · obtain ⟨c2, h2⟩ := r1 k hm
      rw [hw] at h2
      simp at h2
    · obtain ⟨c2, h2⟩ := r2 k hm
      rw [hw] at h2
      simp at h2
theorem DkAt.kp (h : DkAt w p bs bn wv Ls Ln d) (hk : Kp F w w') (hF : ∀ k ∈ foot p bs bn wv Ls Ln, k ∉ F) : DkAt w' p bs bn wv Ls Ln d := by
  unfold foot at hF
  refine ⟨h.box.kp hk (hF p (by simp)), h.safe.kp hk (hF bs (by simp)) (fun k hm => hF k (by simp [hm])), h.now.kp hk (hF bn (by simp)) (fun k hm => hF k (by simp [hm])), h.wait.kp hk (fun k hm => hF k (by simp [hm])), h.ne, h.dis⟩
theorem foot_lt (h : DkAt w p bs bn wv Ls Ln d) : ∀ k ∈ foot p bs bn wv Ls Ln, k < w.heap.size := by
  intro k hk
  unfold foot at hk
  simp only [List.mem_cons, List.mem_append, Option.mem_toList] at hk
  rcases hk with rfl | rfl | rfl | hk | hk | hk
  · exact h.lt
  · exact h.safe.lt
  · exact h.now.lt
  · exact (World.ownsRow.lt h.wait k hk).2
  · exact (h.safe.rows hk).1
  · exact (h.now.rows hk).1
theorem DiskAt.lt (h : DiskAt w p d F) : ∀ k ∈ F, k < w.heap.size := by
  obtain ⟨bs, bn, wv, Ls, Ln, ha, rfl, _⟩ := h
  exact foot_lt ha
theorem DiskAt.kp {G : List Nat} (h : DiskAt w p d F) (hk : Kp G w w') (hF : ∀ k ∈ F, k ∉ G) : DiskAt w' p d F := by
  obtain ⟨bs, bn, wv, Ls, Ln, ha, rfl, hi⟩ := h
  exact ⟨bs, bn, wv, Ls, Ln, ha.kp hk hF, rfl, hi⟩
theorem DiskAt.inv (h : DiskAt w p d F) : Inv d := let ⟨_, _, _, _, _, _, _, hi⟩ := h; hi
theorem DiskAt.nodup (h : DiskAt w p d F) : (d.now.map (·.1)).Nodup := let ⟨_, _, _, _, _, ha, _, _⟩ := h; ha.now.nodup
/-- A cell of the box is set. -/
theorem kp_set (w : World) (p i : Nat) (v : Value) : Kp [p] w (w.setCell ⟨p, i, none⟩ v) := ⟨rfl, rfl, rfl, by simp [World.setCell], fun k _ hk => Below.heap_setCell _ _ _ _ (fun e => hk (by simp [e]))⟩
theorem CBox.set {g : Nat} {cs : Array Value} {t : TypeId} {w : World} (h : CBox g cs t w) (i : Nat) (v : Value) : CBox g (cs.setIfInBounds i v) t (w.setCell ⟨g, i, none⟩ v) := by
  unfold CBox at *
  unfold World.setCell
  simp [h, Array.getElem?_modify]
theorem DkAt.setBox {wv' : Value} {l' : Int} {dn' : Bool} (h : DkAt w p bs bn wv Ls Ln d) (hk : Kp [p] w w') (hb : CBox p (dkC bs bn wv' l' dn') 57 w') (hw : wv' = wv) : DkAt w' p bs bn wv Ls Ln { d with left := l', down := dn' } := by
  subst hw
  obtain ⟨q1, q2, q3, q4, q5, q6, q7, q8, q9⟩ := h.pm
  have nn : ∀ k, k ≠ p → k ∉ [p] := fun k hk hm => hk (by simpa using hm)
  exact ⟨hb, h.safe.kp hk (nn _ q1.symm) (fun k hm => nn k (fun e => q4 (by rw [← e]; exact hm))), h.now.kp hk (nn _ q2.symm) (fun k hm => nn k (fun e => q5 (by rw [← e]; exact hm))), h.wait.kp hk (fun k hm => nn k (q3 k hm).1), h.ne, h.dis⟩
theorem Did.of (h : DkAt w' p bs bn wv Ls Ln d) (hi : Inv d) (hk : Kp F w w') (hF : ∀ k ∈ foot p bs bn wv Ls Ln, k ∈ F ∨ w.heap.size ≤ k) : Did w F p d w' := ⟨_, ⟨bs, bn, wv, Ls, Ln, h, rfl, hi⟩, hk, hF⟩
theorem DiskAt.did (h : DiskAt w p d F) : Did w F p d w := ⟨F, h, Kp.refl _ _, fun _ hk => Or.inl hk⟩
theorem DiskAt.did' (h : DiskAt w p d F) (hk : Kp [] w w') : Did w F p d w' := ⟨F, h.kp hk (by simp), hk.mono (by simp), fun _ hk => Or.inl hk⟩
end
set_option maxHeartbeats 400000 in
theorem takes_any (p : Nat) (d : Dk) (F : List Nat) (w : World) (h : DiskAt w p d F) :
    Calls Tryd.prog 42 #[.pointer (some ⟨p, 0, none⟩)] w fun e w' => e = .returned (.bool d.readyB) ∧ Did w F p d.ready w' := by
  have hi := h.inv.ready
  have hl0 := h.inv.left0
  have hl1 := h.inv.left1
  obtain ⟨bs, bn, wv, Ls, Ln, ha, rfl, _⟩ := h
  have hc := ha.cells
  have hf := ha.frozs
  have hfoot : ∀ k ∈ foot p bs bn wv Ls Ln, k ∈ foot p bs bn wv Ls Ln ∨ w.heap.size ≤ k := fun _ hk => Or.inl hk
  have hpf : ∀ x ∈ [p], x ∈ foot p bs bn wv Ls Ln := by unfold foot; simp
  obtain ⟨sf, nw, wt, left, down⟩ := d
  dsimp only at hc hl0 hl1
  by_cases h0 : left = 0
  · subst h0
    have e1 : (Dk.mk sf nw wt 0 down).readyB = false := by simp [Dk.readyB]
    have e2 : (Dk.mk sf nw wt 0 down).ready = ⟨sf, nw, wt, 0, true⟩ := by simp [Dk.ready, e1]
    rw [e2] at hi ⊢
    rw [e1]
    have hkp := kp_set w p 4 (.bool true)
    have hbox := ha.box.set 4 (.bool true)
    have hD := ha.setBox hkp (wv' := wv) (l' := 0) (dn' := true) hbox rfl
    have HD := hide (Did.of hD hi (hkp.mono hpf) hfoot)
    clear hD hbox hi e1 e2 ha hfoot hpf hkp
    go_enter Tryd.func42, Tryd.ntmps42
    go_wp2
    go_ret
    exact ⟨rfl, unhide HD⟩
  · have g0 : (left == 0) = false := beq_eq_false_iff_ne.2 h0
    cases down with
    | true =>
      have e1 : (Dk.mk sf nw wt left true).readyB = false := by simp [Dk.readyB]
      have e2 : (Dk.mk sf nw wt left true).ready = ⟨sf, nw, wt, left, true⟩ := by simp [Dk.ready, e1]
      rw [e2] at hi ⊢
      rw [e1]
      have HD := hide (Did.of ha hi (Kp.refl _ _) hfoot)
      clear hi e1 e2 ha hfoot hpf h0
      go_enter Tryd.func42, Tryd.ntmps42
      go_wp2
      go_ret
      exact ⟨rfl, unhide HD⟩
    | false =>
      have e1 : (Dk.mk sf nw wt left false).readyB = true := by simp [Dk.readyB, h0]
      by_cases hm : left = -1
      · subst hm
        have e2 : (Dk.mk sf nw wt (-1) false).ready = ⟨sf, nw, wt, -1, false⟩ := by simp [Dk.ready, e1]
        rw [e2] at hi ⊢
        rw [e1]
        have HD := hide (Did.of ha hi (Kp.refl _ _) hfoot)
        clear hi e1 e2 ha hfoot hpf h0
        go_enter Tryd.func42, Tryd.ntmps42
        go_wp2
        go_ret
        exact ⟨rfl, unhide HD⟩
      · have e2 : (Dk.mk sf nw wt left false).ready = ⟨sf, nw, wt, left - 1, false⟩ := by simp [Dk.ready, e1, hm]
        have gm : (left != -1) = true := by rw [bne_iff_ne]; exact hm
        rw [e2] at hi ⊢
        rw [e1]
        have hkp := kp_set w p 3 (.int .i64 (left - 1))
        have hbox := ha.box.set 3 (.int .i64 (left - 1))
        have hD := ha.setBox hkp (wv' := wv) (l' := left - 1) (dn' := false) hbox rfl
        have HD := hide (Did.of hD hi (hkp.mono hpf) hfoot)
        clear hi e1 e2 ha hfoot hpf hkp hbox hD h0 hm
        go_enter Tryd.func42, Tryd.ntmps42
        go_wp2
        go_ret
        exact ⟨rfl, unhide HD⟩
end Go.Proofs.YtllkkflolijpaaaDoor
