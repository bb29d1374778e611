/-
  A disk in memory, and its small functions: isName, takes, size, Waiting, Fuse, New.
  Names of files: isNameByte, isName return what the plain functions say; strings.Clone returns the same bytes.
  size, and the small calls of a disk: Waiting, New.
-/
import Derived.Test.YtfnljfkgkadlaaaG05
import Derived.Test.YtfnljfkgkadlaaaG06
import Derived.Deep.QuietTactic
import Derived.BigQuiet
namespace Go.Proofs.Ytfnljfkgkadlaaa
open Go.RowKit

theorem apply_any (c : Chg) (b : Nat) (fs : Fs) (L : List Nat) (w : World) (h : FilesAt w b fs L) (hf : Fit fs c) :
    Calls Try.prog 47 #[.map (some b), chV c] w fun e w' => e = .returned (.tuple #[]) ∧ Made w b (made fs c) L w' := by
  cases c with
  | wr n pos d => exact apply_wr n pos d b fs L w h hf.1 (by have := hf.2; omega)
  | ct n len => exact apply_ct n len b fs L w h hf.1 (by have := hf.2; omega)
  | rn a c => exact apply_rn a c b fs L w h
  | rm n => exact apply_rm n b fs L w h
/-- Changes that wait lie in a row of their own. -/
def WaitsAt (w : World) (v : Value) (cs : List Chg) : Prop := w.ownsRow 0 82 1 v cs.length (cs.map chV)
theorem WaitsAt.kp {F : List Nat} {w w' : World} {v : Value} {l : List Chg} (h : WaitsAt w v l) (hk : Kp F w w') (hF : ∀ k, v.ownBlock = some k → k ∉ F) : WaitsAt w' v l := by
  obtain ⟨h1, h2 | ⟨g, cp, cur, rfl, hb, hh, r⟩⟩ := h
  · exact ⟨h1, Or.inl h2⟩
  · exact ⟨h1, Or.inr ⟨g, cp, cur, rfl, hb, (hk.block g (Array.getElem?_eq_some_iff.1 hh).1 (hF g rfl)).trans hh, r⟩⟩
theorem WaitsAt.block {w : World} {v : Value} {l : List Chg} (h : WaitsAt w v l) {k : Nat} (hk : v.ownBlock = some k) : ∃ cur, w.heap[k]? = some (.cells cur 82 (0, 0)) := by
  obtain ⟨_, ⟨rfl, h0⟩ | ⟨g, cp, cur, rfl, _, hh, _⟩⟩ := h
  · simp [Value.ownBlock] at hk
  · simp [Value.ownBlock] at hk
    subst hk
    exact ⟨cur, hh⟩
theorem WaitsAt.form {w : World} {v : Value} {l : List Chg} (h : WaitsAt w v l) : ∃ ad cap, v = .slice ad l.length cap ∧ l.length ≤ cap ∧ cap ≤ maxLen := by
  obtain ⟨_, ⟨rfl, h0⟩ | ⟨g, cp, cur, rfl, _, _, hn, hm, _⟩⟩ := h
  · exact ⟨_, _, by rw [h0], by omega, by simp⟩
  · exact ⟨_, _, rfl, hn, hm⟩
theorem WaitsAt.nil (w : World) : WaitsAt w nilS [] := World.ownsRow_nil _ _ _ _
def dkC (bs bn : Nat) (wv : Value) (left : Int) (down : Bool) : Array Value := #[.map (some bs), .map (some bn), wv, .int .i64 left, .bool down]
/-- A disk's parts. -/
structure DkAt (w : World) (p bs bn : Nat) (wv : Value) (Ls Ln : List Nat) (d : Dk) : Prop where
  box : CBox p (dkC bs bn wv d.left d.down) 37 w
  safe : FilesAt w bs d.safe Ls
  now : FilesAt w bn d.now Ln
  wait : WaitsAt w wv d.wait
  ne : bs ≠ bn
  dis : ∀ k ∈ Ls, k ∉ Ln
def foot (p bs bn : Nat) (wv : Value) (Ls Ln : List Nat) : List Nat := p :: bs :: bn :: (wv.ownBlock.toList ++ (Ls ++ Ln))
/-- A disk lies there, with these blocks. -/
def DiskAt (w : World) (p : Nat) (d : Dk) (F : List Nat) : Prop := ∃ bs bn wv Ls Ln, DkAt w p bs bn wv Ls Ln d ∧ F = foot p bs bn wv Ls Ln ∧ Inv d
/-- What a call leaves. -/
def Did (w : World) (F : List Nat) (p : Nat) (d : Dk) (w' : World) : Prop := ∃ F', DiskAt w' p d F' ∧ Kp F w w' ∧ ∀ k ∈ F', k ∈ F ∨ w.heap.size ≤ k
section
variable {w w' : World} {p bs bn : Nat} {wv : Value} {Ls Ln : List Nat} {d : Dk} {F : List Nat}
theorem DkAt.froz (h : DkAt w p bs bn wv Ls Ln d) (i : Nat) : w.frozen? ⟨p, i, none⟩ = false := by
  have := h.box
  unfold CBox at this
  simp [World.frozen?, this]
theorem DkAt.cells (h : DkAt w p bs bn wv Ls Ln d) : w.cell? ⟨p, 0, none⟩ = some (.map (some bs)) ∧ w.cell? ⟨p, 1, none⟩ = some (.map (some bn)) ∧ w.cell? ⟨p, 2, none⟩ = some wv ∧ w.cell? ⟨p, 3, none⟩ = some (.int .i64 d.left) ∧ w.cell? ⟨p, 4, none⟩ = some (.bool d.down) :=
  ⟨h.box.cell rfl, h.box.cell rfl, h.box.cell rfl, h.box.cell rfl, h.box.cell rfl⟩
theorem DkAt.frozs (h : DkAt w p bs bn wv Ls Ln d) : w.frozen? ⟨p, 0, none⟩ = false ∧ w.frozen? ⟨p, 1, none⟩ = false ∧ w.frozen? ⟨p, 2, none⟩ = false ∧ w.frozen? ⟨p, 3, none⟩ = false ∧ w.frozen? ⟨p, 4, none⟩ = false :=
  ⟨h.froz 0, h.froz 1, h.froz 2, h.froz 3, h.froz 4⟩
theorem DkAt.lt (h : DkAt w p bs bn wv Ls Ln d) : p < w.heap.size := (Array.getElem?_eq_some_iff.1 h.box).1
/-- The parts lie apart. -/
theorem DkAt.pm (h : DkAt w p bs bn wv Ls Ln d) : p ≠ bs ∧ p ≠ bn ∧ (∀ k, wv.ownBlock = some k → k ≠ p ∧ k ≠ bs ∧ k ≠ bn ∧ k ∉ Ls ∧ k ∉ Ln) ∧ p ∉ Ls ∧ p ∉ Ln ∧ bs ∉ Ls ∧ bs ∉ Ln ∧ bn ∉ Ls ∧ bn ∉ Ln := by
  have hb : w.heap[p]? = some (.cells (dkC bs bn wv d.left d.down) 37 (0, 0)) := h.box
  obtain ⟨ls, cs, ms, _⟩ := h.safe
  obtain ⟨ln, cn, mn, _⟩ := h.now
  have rows : ∀ L b fs, FilesAt w b fs L → ∀ k ∈ L, ∃ cur, w.heap[k]? = some (.cells cur 5 (0, 0)) := fun L b fs hf k hk => (hf.rows hk).2
  have r1 := rows _ _ _ h.safe
  have r2 := rows _ _ _ h.now
  have mapno : ∀ L : List Nat, (∀ k ∈ L, ∃ cur, w.heap[k]? = some (.cells cur 5 (0, 0))) → ∀ b l c, MapIs w b l c → b ∉ L := fun L hL b l c hm hb => by
    obtain ⟨cur, hc⟩ := hL b hb
    rw [hm.here] at hc
    cases hc
  have boxno : ∀ L : List Nat, (∀ k ∈ L, ∃ cur, w.heap[k]? = some (.cells cur 5 (0, 0))) → p ∉ L := fun L hL hp => by
    obtain ⟨cur, hc⟩ := hL p hp
    rw [hb] at hc
    simp at hc
  refine ⟨?_, ?_, fun k hk => ?_, boxno _ r1, boxno _ r2, mapno _ r1 _ _ _ ms, mapno _ r2 _ _ _ ms, mapno _ r1 _ _ _ mn, mapno _ r2 _ _ _ mn⟩
  · rintro rfl; rw [ms.here] at hb; cases hb
  · rintro rfl; rw [mn.here] at hb; cases hb
  · obtain ⟨cur, hw⟩ := h.wait.block hk
    refine ⟨?_, ?_, ?_, fun hm => ?_, fun hm => ?_⟩
    · rintro rfl; rw [hb] at hw; simp at hw
    · rintro rfl; rw [ms.here] at hw; cases hw
    · rintro rfl; rw [mn.here] at hw; cases hw
    · obtain ⟨c2, h2⟩ := r1 k hm
      rw [hw] at h2
      simp at h2
    · obtain ⟨c2, h2⟩ := r2 k hm
      rw [hw] at h2
      simp at h2
theorem DkAt.kp (h : DkAt w p bs bn wv Ls Ln d) (hk : Kp F w w') (hF : ∀ k ∈ foot p bs bn wv Ls Ln, k ∉ F) : DkAt w' p bs bn wv Ls Ln d := by
  unfold foot at hF
  refine ⟨h.box.kp hk (hF p (by simp)), h.safe.kp hk (hF bs (by simp)) (fun k hm => hF k (by simp [hm])), h.now.kp hk (hF bn (by simp)) (fun k hm => hF k (by simp [hm])), h.wait.kp hk (fun k hm => hF k (by simp [hm])), h.ne, h.dis⟩
theorem foot_lt (h : DkAt w p bs bn wv Ls Ln d) : ∀ k ∈ foot p bs bn wv Ls Ln, k < w.heap.size := by
  intro k hk
  unfold foot at hk
  simp only [List.mem_cons, List.mem_append, Option.mem_toList] at hk
  rcases hk with rfl | rfl | rfl | hk | hk | hk
  · exact h.lt
  · exact h.safe.lt
  · exact h.now.lt
  · exact (World.ownsRow.lt h.wait k hk).2
  · exact (h.safe.rows hk).1
  · exact (h.now.rows hk).1
theorem DiskAt.lt (h : DiskAt w p d F) : ∀ k ∈ F, k < w.heap.size := by
  obtain ⟨bs, bn, wv, Ls, Ln, ha, rfl, _⟩ := h
  exact foot_lt ha
theorem DiskAt.kp {G : List Nat} (h : DiskAt w p d F) (hk : Kp G w w') (hF : ∀ k ∈ F, k ∉ G) : DiskAt w' p d F := by
  obtain ⟨bs, bn, wv, Ls, Ln, ha, rfl, hi⟩ := h
  exact ⟨bs, bn, wv, Ls, Ln, ha.kp hk hF, rfl, hi⟩
theorem DiskAt.inv (h : DiskAt w p d F) : Inv d := let ⟨_, _, _, _, _, _, _, hi⟩ := h; hi
theorem DiskAt.nodup (h : DiskAt w p d F) : (d.now.map (·.1)).Nodup := let ⟨_, _, _, _, _, ha, _, _⟩ := h; ha.now.nodup
/-- A cell of the box is set. -/
theorem kp_set (w : World) (p i : Nat) (v : Value) : Kp [p] w (w.setCell ⟨p, i, none⟩ v) := ⟨rfl, rfl, rfl, by simp [World.setCell], fun k _ hk => Below.heap_setCell _ _ _ _ (fun e => hk (by simp [e]))⟩
theorem DkAt.setBox {wv' : Value} {l' : Int} {dn' : Bool} (h : DkAt w p bs bn wv Ls Ln d) (hk : Kp [p] w w') (hb : CBox p (dkC bs bn wv' l' dn') 37 w') (hw : wv' = wv) : DkAt w' p bs bn wv Ls Ln { d with left := l', down := dn' } := by
  subst hw
  obtain ⟨q1, q2, q3, q4, q5, q6, q7, q8, q9⟩ := h.pm
  have nn : ∀ k, k ≠ p → k ∉ [p] := fun k hk hm => hk (by simpa using hm)
  exact ⟨hb, h.safe.kp hk (nn _ q1.symm) (fun k hm => nn k (fun e => q4 (by rw [← e]; exact hm))), h.now.kp hk (nn _ q2.symm) (fun k hm => nn k (fun e => q5 (by rw [← e]; exact hm))), h.wait.kp hk (fun k hm => nn k (q3 k hm).1), h.ne, h.dis⟩
theorem Did.of (h : DkAt w' p bs bn wv Ls Ln d) (hi : Inv d) (hk : Kp F w w') (hF : ∀ k ∈ foot p bs bn wv Ls Ln, k ∈ F ∨ w.heap.size ≤ k) : Did w F p d w' := ⟨_, ⟨bs, bn, wv, Ls, Ln, h, rfl, hi⟩, hk, hF⟩
theorem DiskAt.did (h : DiskAt w p d F) : Did w F p d w := ⟨F, h, Kp.refl _ _, fun _ hk => Or.inl hk⟩
theorem DiskAt.did' (h : DiskAt w p d F) (hk : Kp [] w w') : Did w F p d w' := ⟨F, h.kp hk (by simp), hk.mono (by simp), fun _ hk => Or.inl hk⟩
end
set_option maxHeartbeats 400000 in
theorem takes_any (p : Nat) (d : Dk) (F : List Nat) (w : World) (h : DiskAt w p d F) :
    Calls Try.prog 39 #[.pointer (some ⟨p, 0, none⟩)] w fun e w' => e = .returned (.bool d.readyB) ∧ Did w F p d.ready w' := by
  have hi := h.inv.ready
  have hl0 := h.inv.left0
  have hl1 := h.inv.left1
  obtain ⟨bs, bn, wv, Ls, Ln, ha, rfl, _⟩ := h
  have hc := ha.cells
  have hf := ha.frozs
  have hfoot : ∀ k ∈ foot p bs bn wv Ls Ln, k ∈ foot p bs bn wv Ls Ln ∨ w.heap.size ≤ k := fun _ hk => Or.inl hk
  have hpf : ∀ x ∈ [p], x ∈ foot p bs bn wv Ls Ln := by unfold foot; simp
  obtain ⟨sf, nw, wt, left, down⟩ := d
  dsimp only at hc hl0 hl1
  by_cases h0 : left = 0
  · subst h0
    have e1 : (Dk.mk sf nw wt 0 down).readyB = false := by simp [Dk.readyB]
    have e2 : (Dk.mk sf nw wt 0 down).ready = ⟨sf, nw, wt, 0, true⟩ := by simp [Dk.ready, e1]
    rw [e2] at hi ⊢
    rw [e1]
    have hkp := kp_set w p 4 (.bool true)
    have hbox := ha.box.set 4 (.bool true)
    have hD := ha.setBox hkp (wv' := wv) (l' := 0) (dn' := true) hbox rfl
    have HD := hide (Did.of hD hi (hkp.mono hpf) hfoot)
    clear hD hbox hi e1 e2 ha hfoot hpf hkp
    go_enter Try.func39, Try.ntmps39
    go_wp2
    go_ret
    exact ⟨rfl, unhide HD⟩
  · have g0 : (left == 0) = false := beq_eq_false_iff_ne.2 h0
    cases down with
    | true =>
      have e1 : (Dk.mk sf nw wt left true).readyB = false := by simp [Dk.readyB]
      have e2 : (Dk.mk sf nw wt left true).ready = ⟨sf, nw, wt, left, true⟩ := by simp [Dk.ready, e1]
      rw [e2] at hi ⊢
      rw [e1]
      have HD := hide (Did.of ha hi (Kp.refl _ _) hfoot)
      clear hi e1 e2 ha hfoot hpf h0
      go_enter Try.func39, Try.ntmps39
      go_wp2
      go_ret
      exact ⟨rfl, unhide HD⟩
    | false =>
      have e1 : (Dk.mk sf nw wt left false).readyB = true := by simp [Dk.readyB, h0]
      by_cases hm : left = -1
      · subst hm
        have e2 : (Dk.mk sf nw wt (-1) false).ready = ⟨sf, nw, wt, -1, false⟩ := by simp [Dk.ready, e1]
        rw [e2] at hi ⊢
        rw [e1]
        have HD := hide (Did.of ha hi (Kp.refl _ _) hfoot)
        clear hi e1 e2 ha hfoot hpf h0
        go_enter Try.func39, Try.ntmps39
        go_wp2
        go_ret
        exact ⟨rfl, unhide HD⟩
      · have e2 : (Dk.mk sf nw wt left false).ready = ⟨sf, nw, wt, left - 1, false⟩ := by simp [Dk.ready, e1, hm]
        have gm : (left != -1) = true := by rw [bne_iff_ne]; exact hm
        rw [e2] at hi ⊢
        rw [e1]
        have hkp := kp_set w p 3 (.int .i64 (left - 1))
        have hbox := ha.box.set 3 (.int .i64 (left - 1))
        have hD := ha.setBox hkp (wv' := wv) (l' := left - 1) (dn' := false) hbox rfl
        have HD := hide (Did.of hD hi (hkp.mono hpf) hfoot)
        clear hi e1 e2 ha hfoot hpf hkp hbox hD h0 hm
        go_enter Try.func39, Try.ntmps39
        go_wp2
        go_ret
        exact ⟨rfl, unhide HD⟩
end Go.Proofs.Ytfnljfkgkadlaaa
namespace Go.Proofs.Ytfnljfkgkadlaaa
open Go.RowKit

set_option maxHeartbeats 400000 in
theorem ddnmyte_any (c : UInt8) (w : World) :
    Calls Try.prog 46 #[.int .u8 (c.toNat : Int)] w fun e w' => e = .returned (.bool (dnb c)) ∧ w' = w := by
  unfold dnb
  have hc := c.toNat_lt
  generalize c.toNat = n at *
  by_cases h5 : n = 46
  · subst h5
    go_enter Try.func46, Try.ntmps46
    go_wp2
    go_ret
    exact ⟨ret_bool (by decide), rfl⟩
  · have g5 : ((n : Int) == 46) = false := beq_eq_false_iff_ne.2 (by omega)
    by_cases h1 : 97 ≤ n <;> by_cases h2 : n ≤ 122 <;> by_cases h3 : 48 ≤ n <;> by_cases h4 : n ≤ 57 <;> first | (exfalso; omega) | skip
    all_goals
      go_enter Try.func46, Try.ntmps46
      go_wp2
      go_ret
      refine ⟨ret_bool ?_, rfl⟩
      rw [Bool.eq_iff_iff]
      first | done | (simp; omega) | simp
set_option maxHeartbeats 1000000 in
theorem dname_any (s : ByteArray) (w : World) (hs : s.size ≤ 9223372036854775807) :
    Calls Try.prog 30 #[.string s] w fun e w' => e = .returned (.bool (dnm s)) ∧ w' = w := by
  by_cases h1 : 1 ≤ s.size
  · by_cases h2 : s.size ≤ 32
    · have hn : dnm s = s.data.toList.all dnb := by unfold dnm; simp [h1, h2]
      rw [hn]
      clear hn
      generalize hR : s.data.toList.all dnb = R
      have HR := hide hR
      clear hR
      have hlen : s.data.toList.length = s.size := Array.length_toList
      go_enter Try.func30, Try.ntmps30
      go_wp2
      go_loop [14, 3] (fun i _ => ∃ k : Nat, k ≤ s.size ∧ i = .int .i64 (k : Int) ∧ Hid (∀ c ∈ s.data.toList.take k, dnb c = true)) (fun i _ => s.size - (intOf i).toNat)
      case atStart => exact ⟨0, Nat.zero_le _, rfl, hide (by simp)⟩
      case round =>
        obtain ⟨k, hk, rfl, HK⟩ := hrel
        by_cases hlt : k < s.size
        · have hget : s[k] ∈ s.data.toList := by
            have : s[k] = s.data.toList[k]'(by omega) := rfl
            rw [this]; exact List.getElem_mem _
          have hsn : s.data.toList.take (k + 1) = s.data.toList.take k ++ [s[k]] := by
            rw [List.take_succ_eq_append_getElem (by omega)]; rfl
          have HG := hide hget
          have HS := hide hsn
          clear hget hsn hlen
          have hby := fun w => ddnmyte_any s[k] w
          by_cases hb : dnb s[k] = true
          · simp only [hb] at hby
            have HB := hide hby
            clear hby
            go_wp2_with fail
            refine (unhide HB _).mono ?_
            rintro e w1 ⟨rfl, rfl⟩
            go_wp2
            go_round
            case rel => exact ⟨k + 1, by omega, by go_num, hide (fun c hc => by
              rw [unhide HS, List.mem_append] at hc
              rcases hc with hc | hc
              · exact unhide HK c hc
              · rw [List.mem_singleton] at hc; rw [hc]; exact hb)⟩
            case measure => simp [intOf]; omega
          · have hb' : dnb s[k] = false := by simpa using hb
            have hall : s.data.toList.all dnb = false := List.all_eq_false.2 ⟨_, unhide HG, by rw [hb']; simp⟩
            have HALL := hide hall
            simp only [hb'] at hby
            have HB := hide hby
            clear hby hb hb' hall
            go_wp2_with fail
            refine (unhide HB _).mono ?_
            rintro e w1 ⟨rfl, rfl⟩
            go_wp2
            go_ret
            exact ⟨by rw [← unhide HR, unhide HALL]; rfl, rfl⟩
        · have hall : s.data.toList.all dnb = true := List.all_eq_true.2 (fun c hc => unhide HK c (by rw [List.take_of_length_le (by omega)]; exact hc))
          have HALL := hide hall
          clear hall
          go_wp2
          go_ret
          exact ⟨by rw [← unhide HR, unhide HALL]; rfl, rfl⟩
    · have hn : dnm s = false := by unfold dnm; simp [h2]
      rw [hn]
      go_enter Try.func30, Try.ntmps30
      go_wp2
      all_goals go_ret
      all_goals exact ⟨rfl, rfl⟩
  · have hn : dnm s = false := by unfold dnm; simp [h1]
    rw [hn]
    go_enter Try.func30, Try.ntmps30
    go_wp2
    all_goals go_ret
    all_goals exact ⟨rfl, rfl⟩
end Go.Proofs.Ytfnljfkgkadlaaa
namespace Go.Proofs.Ytfnljfkgkadlaaa
open Go.RowKit

def lsum (l : List Ent) : Nat := (l.map fun x => x.has.length).sum
theorem lsum_total {l : List Ent} {fs : Fs} (hp : (l.map Ent.p).Perm fs) : lsum l = total fs := by
  rw [← total_perm hp]
  unfold lsum total
  rw [List.map_map]; rfl
theorem lsum_step : ∀ {l : List Ent} {x : Ent}, (l.map Ent.born).Nodup → x ∈ l → lsum l = x.has.length + lsum (lessE l x)
  | [], _, _, h => by simp at h
  | a :: l, x, hn, hx => by
    rw [List.map_cons, List.nodup_cons] at hn
    rw [List.mem_cons] at hx
    rcases hx with rfl | hx
    · have e : l.filter (fun y => decide (y.born ≠ x.born)) = l := List.filter_eq_self.2 (fun y hy => by
        simp only [decide_eq_true_eq]
        exact fun e => hn.1 (List.mem_map.2 ⟨y, hy, e⟩))
      unfold lessE
      rw [List.filter_cons_of_neg (by simp), e]
      unfold lsum
      rw [List.map_cons, List.sum_cons]
    · have hne : a.born ≠ x.born := fun e => hn.1 (List.mem_map.2 ⟨x, hx, e.symm⟩)
      have := lsum_step hn.2 hx
      unfold lessE at *
      rw [List.filter_cons_of_pos (by simpa using hne)]
      unfold lsum at *
      rw [List.map_cons, List.sum_cons, List.map_cons, List.sum_cons]; omega
theorem RngIs.left_eq {w : World} {b r : Nat} {l left : List Ent} (h : RngIs w b r l left) : w.rangeLeft b r = left.length := by
  obtain ⟨clock, since, seen, c0, hm, hr, _, _, _, rfl⟩ := h
  unfold World.rangeLeft
  rw [hm.here, hr]
  dsimp only
  unfold leftOf
  rw [← Array.length_toList, Array.toList_filter, List.filter_map, List.length_map]
  rfl
theorem RngIs.bnd {w : World} {b r : Nat} {l left : List Ent} (h : RngIs w b r l left) : (left.map Ent.born).Nodup := by
  have hs := h.sub
  obtain ⟨clock, hm⟩ := h.map
  exact (hs.map _).nodup hm.born
theorem RngIs.kp {F : List Nat} {w w' : World} {b r : Nat} {l left : List Ent} (h : RngIs w b r l left) (hk : Kp F w w') (h1 : b ∉ F) (h2 : r ∉ F) : RngIs w' b r l left := by
  obtain ⟨clock, since, seen, c0, hm, hr, q⟩ := h
  exact ⟨clock, since, seen, c0, hm.kp hk h1, (hk.block r (Array.getElem?_eq_some_iff.1 hr).1 h2).trans hr, q⟩
section
variable {w : World} {ops : Array Oper} {rest : List Oper} {o : Oper} {a : Act} {Q : Exit → Act → World → Prop}
theorem wpList_lenV (hg : o.guard = none) (m : Operand) (hop : o.op = Op.call { callee := Callee.builtin Builtin.len, args := #[m], argTypes := #[60] }) (v : Value) (hm : a.eval m = v) {l : List UInt8} {W : World} (h : Row W v l)
    (hK : wpList Try.prog ops Q rest (a.put o.dst (.int .i64 (l.length : Int))) w) : wpList Try.prog ops Q (o :: rest) a w := by
  refine wpList_plain hg fun K' hK' => ?_
  obtain ⟨ad, cap, rfl, _⟩ := h.form
  unfold Oper.wp
  simp [execOp, hop, resolve, invoke, builtin, hm, Builtin.len_, run_underlying Try.underlying60, Result.andThen, goInt]
  exact hK' _ _ hK
end
set_option maxHeartbeats 1000000 in
set_option maxRecDepth 100000 in
theorem size_any (b : Nat) (fs : Fs) (L : List Nat) (w : World) (h : FilesAt w b fs L) (hr0 : total fs ≤ 262144) :
    Calls Try.prog 31 #[.map (some b)] w fun e w' => e = .returned (.int .i64 (total fs : Int)) ∧ Kp [] w w' := by
  obtain ⟨l, clock, hm, hr, hp, rfl, hn⟩ := h
  have hsum := lsum_total hp
  have hbl := hm.lt
  have HR := hide hr
  generalize total fs = T at *
  have HS := hide hsum
  clear hr hp hsum hn
  go_enter Try.func31, Try.ntmps31
  go_wp2_with (at_range; refine wpList_rangeE rfl _ rfl rfl hm ?_; intro w0 hrg0 hk0)
  go_frame
  go_loopw [3, 5] (fun n _ wr => ∃ (k : Nat) (left : List Ent), n = .int .i64 (k : Int) ∧ RngIs wr b w.heap.size l left ∧ Kp [] w wr ∧ Hid (k + lsum left = T)) (fun _ _ wr => wr.rangeLeft b w.heap.size)
  case atStart => exact ⟨0, l, rfl, hrg0, hk0, hide (by have := unhide HS; omega)⟩
  case round =>
    obtain ⟨k, left, rfl, hrg, hk, HK⟩ := hrel
    go_wp2_with (at_next; refine wpList_nextE rfl _ rfl w.heap.size left rfl hrg ?_ ?_)
    · intro hl0
      subst hl0
      have hkT : k = T := by have := unhide HK; simpa [lsum] using this
      clear HK
      go_wp2
      go_ret
      exact ⟨by rw [hkT]; rfl, hk⟩
    · intro x w1 hx hrg1 hlt hk1 hs1 hen
      have hrow := (unhide HR x (hrg.sub.subset hx)).kp hk (by simp)
      have hst := lsum_step hrg.bnd hx
      have hkT := unhide HK
      have hbd : (k : Int) + (x.has.length : Int) ≤ 262144 := by omega
      have HN : Hid (k + x.has.length + lsum (lessE left x) = T) := hide (by omega)
      clear hst hkT
      go_wp2_with (at_len; refine wpList_lenV rfl _ rfl _ rfl hrow ?_)
      go_roundw
      case rel => exact ⟨k + x.has.length, _, by go_num, hrg1, hk.trans hk1 (by simp), HN⟩
      case measure => rw [hrg1.left_eq, hrg.left_eq]; exact hlt
theorem DiskAt.ptr {w : World} {p : Nat} {d : Dk} {F : List Nat} (h : DiskAt w p d F) : p ∈ F := by
  obtain ⟨bs, bn, wv, Ls, Ln, ha, rfl, _⟩ := h
  simp [foot]
set_option maxHeartbeats 400000 in
theorem new_any (w : World) :
    Calls Try.prog 4 #[] w fun e w' => ∃ p F, e = .returned (.pointer (some ⟨p, 0, none⟩)) ∧ DiskAt w' p Dk.new F ∧ Kp [] w w' ∧ ∀ k ∈ F, w.heap.size ≤ k := by
  have hmm := @run_makeMap Try.prog
  go_enter Try.func4, Try.ntmps4
  go_wp2
  have s1 : (w.alloc (.map #[] 0)).heap.size = w.heap.size + 1 := by simp
  have f1 := FilesAt.made w
  have f2 := FilesAt.made (w.alloc (.map #[] 0))
  have k1 := Kp.alloc w (.map #[] 0)
  have k2 := Kp.alloc (w.alloc (.map #[] 0)) (.map #[] 0)
  have k3 := Kp.alloc ((w.alloc (.map #[] 0)).alloc (.map #[] 0)) (.cells (dkC w.heap.size (w.heap.size + 1) nilS (-1) false) 37)
  have bx := CBox.new ((w.alloc (.map #[] 0)).alloc (.map #[] 0)) (dkC w.heap.size (w.heap.size + 1) nilS (-1) false) 37
  have s2 : ((w.alloc (.map #[] 0)).alloc (.map #[] 0)).heap.size = w.heap.size + 1 + 1 := by simp
  rw [s1] at f2
  rw [s2] at bx
  have hD : DkAt (((w.alloc (.map #[] 0)).alloc (.map #[] 0)).alloc (.cells (dkC w.heap.size (w.heap.size + 1) nilS (-1) false) 37)) (w.heap.size + 1 + 1) w.heap.size (w.heap.size + 1) nilS [] [] Dk.new :=
    ⟨bx, (f1.kp k2 (by simp) (by simp)).kp k3 (by simp) (by simp), f2.kp k3 (by simp) (by simp), WaitsAt.nil _, by omega, by simp⟩
  refine bodyPost_ret (v := .pointer (some ⟨w.heap.size + 1 + 1, 0, none⟩)) (by simp [results, Try.results4, go_sem]) rfl ⟨_, _, rfl, ⟨_, _, _, _, _, hD, rfl, Inv.new⟩, (k1.trans k2 (by simp)).trans k3 (by simp), fun k hk => ?_⟩
  simp [foot, nilS, Value.ownBlock] at hk
  omega
end Go.Proofs.Ytfnljfkgkadlaaa
