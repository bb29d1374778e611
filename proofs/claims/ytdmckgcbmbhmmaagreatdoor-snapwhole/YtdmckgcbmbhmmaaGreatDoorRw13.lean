/-
  Names of files: isNameByte, isName return what the plain functions say; strings.Clone returns the same bytes.
  size, and the small calls of a disk: Waiting, New.
  settle, tear, clone: changes made on the safe files; what a crash leaves of a change; files copied.
-/
import Derived.Test.YtdmckgcbmbhmmaaGreatDoorRw12
namespace Go.Proofs.YtdmckgcbmbhmmaaGreatDoor
open Go.RowKit

set_option maxHeartbeats 400000 in
theorem ddnmyte_any (c : UInt8) (w : World) :
    Calls Tryz.prog 84 #[.int .u8 (c.toNat : Int)] w fun e w' => e = .returned (.bool (dnb c)) ∧ w' = w := by
  unfold dnb
  have hc := c.toNat_lt
  generalize c.toNat = n at *
  by_cases h5 : n = 46
  · subst h5
    go_enter Tryz.func84, Tryz.ntmps84
    go_wp2
    go_ret
    exact ⟨ret_bool (by decide), rfl⟩
  · have g5 : ((n : Int) == 46) = false := beq_eq_false_iff_ne.2 (by omega)
    by_cases h1 : 97 ≤ n <;> by_cases h2 : n ≤ 122 <;> by_cases h3 : 48 ≤ n <;> by_cases h4 : n ≤ 57 <;> first | (exfalso; omega) | skip
    all_goals
      go_enter Tryz.func84, Tryz.ntmps84
      go_wp2
      go_ret
      refine ⟨ret_bool ?_, rfl⟩
      rw [Bool.eq_iff_iff]
      first | done | (simp; omega) | simp
set_option maxHeartbeats 1000000 in
theorem dname_any (s : ByteArray) (w : World) (hs : s.size ≤ 9223372036854775807) :
    Calls Tryz.prog 51 #[.string s] w fun e w' => e = .returned (.bool (dnm s)) ∧ w' = w := by
  by_cases h1 : 1 ≤ s.size
  · by_cases h2 : s.size ≤ 32
    · have hn : dnm s = s.data.toList.all dnb := by unfold dnm; simp [h1, h2]
      rw [hn]
      clear hn
      generalize hR : s.data.toList.all dnb = R
      have HR := hide hR
      clear hR
      have hlen : s.data.toList.length = s.size := Array.length_toList
      go_enter Tryz.func51, Tryz.ntmps51
      go_wp2
      go_loop [14, 3] (fun i _ => ∃ k : Nat, k ≤ s.size ∧ i = .int .i64 (k : Int) ∧ Hid (∀ c ∈ s.data.toList.take k, dnb c = true)) (fun i _ => s.size - (intOf i).toNat)
      case atStart => exact ⟨0, Nat.zero_le _, rfl, hide (by simp)⟩
      case round =>
        obtain ⟨k, hk, rfl, HK⟩ := hrel
        by_cases hlt : k < s.size
        · have hget : s[k] ∈ s.data.toList := by
            have : s[k] = s.data.toList[k]'(by omega) := rfl
            rw [this]; exact List.getElem_mem _
          have hsn : s.data.toList.take (k + 1) = s.data.toList.take k ++ [s[k]] := by
            rw [List.take_succ_eq_append_getElem (by omega)]; rfl
          have HG := hide hget
          have HS := hide hsn
          clear hget hsn hlen
          have hby := fun w => ddnmyte_any s[k] w
          by_cases hb : dnb s[k] = true
          · simp only [hb] at hby
            have HB := hide hby
            clear hby
            go_wp2_with fail
            refine (unhide HB _).mono ?_
            rintro e w1 ⟨rfl, rfl⟩
            go_wp2
            go_round
            case rel => exact ⟨k + 1, by omega, by go_num, hide (fun c hc => by
              rw [unhide HS, List.mem_append] at hc
              rcases hc with hc | hc
              · exact unhide HK c hc
              · rw [List.mem_singleton] at hc; rw [hc]; exact hb)⟩
            case measure => simp [intOf]; omega
          · have hb' : dnb s[k] = false := by simpa using hb
            have hall : s.data.toList.all dnb = false := List.all_eq_false.2 ⟨_, unhide HG, by rw [hb']; simp⟩
            have HALL := hide hall
            simp only [hb'] at hby
            have HB := hide hby
            clear hby hb hb' hall
            go_wp2_with fail
            refine (unhide HB _).mono ?_
            rintro e w1 ⟨rfl, rfl⟩
            go_wp2
            go_ret
            exact ⟨by rw [← unhide HR, unhide HALL]; rfl, rfl⟩
        · have hall : s.data.toList.all dnb = true := List.all_eq_true.2 (fun c hc => unhide HK c (by rw [List.take_of_length_le (by omega)]; exact hc))
          have HALL := hide hall
          clear hall
          go_wp2
          go_ret
          exact ⟨by rw [← unhide HR, unhide HALL]; rfl, rfl⟩
    · have hn : dnm s = false := by unfold dnm; simp [h2]
      rw [hn]
      go_enter Tryz.func51, Tryz.ntmps51
      go_wp2
      all_goals go_ret
      all_goals exact ⟨rfl, rfl⟩
  · have hn : dnm s = false := by unfold dnm; simp [h1]
    rw [hn]
    go_enter Tryz.func51, Tryz.ntmps51
    go_wp2
    all_goals go_ret
    all_goals exact ⟨rfl, rfl⟩
end Go.Proofs.YtdmckgcbmbhmmaaGreatDoor
namespace Go.Proofs.YtdmckgcbmbhmmaaGreatDoor
open Go.RowKit

def lsum (l : List Ent) : Nat := (l.map fun x => x.has.length).sum
theorem lsum_total {l : List Ent} {fs : Fs} (hp : (l.map Ent.p).Perm fs) : lsum l = total fs := by
  rw [← total_perm hp]
  unfold lsum total
  rw [List.map_map]; rfl
theorem lsum_step : ∀ {l : List Ent} {x : Ent}, (l.map Ent.born).Nodup → x ∈ l → lsum l = x.has.length + lsum (lessE l x)
  | [], _, _, h => by simp at h
  | a :: l, x, hn, hx => by
    rw [List.map_cons, List.nodup_cons] at hn
    rw [List.mem_cons] at hx
    rcases hx with rfl | hx
    · have e : l.filter (fun y => decide (y.born ≠ x.born)) = l := List.filter_eq_self.2 (fun y hy => by
        simp only [decide_eq_true_eq]
        exact fun e => hn.1 (List.mem_map.2 ⟨y, hy, e⟩))
      unfold lessE
      rw [List.filter_cons_of_neg (by simp), e]
      unfold lsum
      rw [List.map_cons, List.sum_cons]
    · have hne : a.born ≠ x.born := fun e => hn.1 (List.mem_map.2 ⟨x, hx, e.symm⟩)
      have := lsum_step hn.2 hx
      unfold lessE at *
      rw [List.filter_cons_of_pos (by simpa using hne)]
      unfold lsum at *
      rw [List.map_cons, List.sum_cons, List.map_cons, List.sum_cons]; omega
theorem RngIs.left_eq {w : World} {b r : Nat} {l left : List Ent} (h : RngIs w b r l left) : w.rangeLeft b r = left.length := by
  obtain ⟨clock, since, seen, c0, hm, hr, _, _, _, rfl⟩ := h
  unfold World.rangeLeft
  rw [hm.here, hr]
  dsimp only
  unfold leftOf
  rw [← Array.length_toList, Array.toList_filter, List.filter_map, List.length_map]
  rfl
theorem RngIs.bnd {w : World} {b r : Nat} {l left : List Ent} (h : RngIs w b r l left) : (left.map Ent.born).Nodup := by
  have hs := h.sub
  obtain ⟨clock, hm⟩ := h.map
  exact (hs.map _).nodup hm.born
theorem RngIs.kp {F : List Nat} {w w' : World} {b r : Nat} {l left : List Ent} (h : RngIs w b r l left) (hk : Kp F w w') (h1 : b ∉ F) (h2 : r ∉ F) : RngIs w' b r l left := by
  obtain ⟨clock, since, seen, c0, hm, hr, q⟩ := h
  exact ⟨clock, since, seen, c0, hm.kp hk h1, (hk.block r (Array.getElem?_eq_some_iff.1 hr).1 h2).trans hr, q⟩
section
variable {w : World} {ops : Array Oper} {rest : List Oper} {o : Oper} {a : Act} {Q : Exit → Act → World → Prop}
theorem wpList_lenV (hg : o.guard = none) (m : Operand) (hop : o.op = Op.call { callee := Callee.builtin Builtin.len, args := #[m], argTypes := #[91] }) (v : Value) (hm : a.eval m = v) {l : List UInt8} {W : World} (h : Row W v l)
    (hK : wpList Tryz.prog ops Q rest (a.put o.dst (.int .i64 (l.length : Int))) w) : wpList Tryz.prog ops Q (o :: rest) a w := by
  refine wpList_plain hg fun K' hK' => ?_
  obtain ⟨ad, cap, rfl, _⟩ := h.form
  unfold Oper.wp
  simp [execOp, hop, resolve, invoke, builtin, hm, Builtin.len_, run_underlying Tryz.underlying91, Result.andThen, goInt]
  exact hK' _ _ hK
end
set_option maxHeartbeats 1000000 in
set_option maxRecDepth 100000 in
theorem size_any (b : Nat) (fs : Fs) (L : List Nat) (w : World) (h : FilesAt w b fs L) (hr0 : total fs ≤ 262144) :
    Calls Tryz.prog 52 #[.map (some b)] w fun e w' => e = .returned (.int .i64 (total fs : Int)) ∧ Kp [] w w' := by
  obtain ⟨l, clock, hm, hr, hp, rfl, hn⟩ := h
  have hsum := lsum_total hp
  have hbl := hm.lt
  have HR := hide hr
  generalize total fs = T at *
  have HS := hide hsum
  clear hr hp hsum hn
  go_enter Tryz.func52, Tryz.ntmps52
  go_wp2_with (at_range; refine wpList_rangeE rfl _ rfl rfl hm ?_; intro w0 hrg0 hk0)
  go_frame
  go_loopw [3, 5] (fun n _ wr => ∃ (k : Nat) (left : List Ent), n = .int .i64 (k : Int) ∧ RngIs wr b w.heap.size l left ∧ Kp [] w wr ∧ Hid (k + lsum left = T)) (fun _ _ wr => wr.rangeLeft b w.heap.size)
  case atStart => exact ⟨0, l, rfl, hrg0, hk0, hide (by have := unhide HS; omega)⟩
  case round =>
    obtain ⟨k, left, rfl, hrg, hk, HK⟩ := hrel
    go_wp2_with (at_next; refine wpList_nextE rfl _ rfl w.heap.size left rfl hrg ?_ ?_)
    · intro hl0
      subst hl0
      have hkT : k = T := by have := unhide HK; simpa [lsum] using this
      clear HK
      go_wp2
      go_ret
      exact ⟨by rw [hkT]; rfl, hk⟩
    · intro x w1 hx hrg1 hlt hk1 hs1 hen
      have hrow := (unhide HR x (hrg.sub.subset hx)).kp hk (by simp)
      have hst := lsum_step hrg.bnd hx
      have hkT := unhide HK
      have hbd : (k : Int) + (x.has.length : Int) ≤ 262144 := by omega
      have HN : Hid (k + x.has.length + lsum (lessE left x) = T) := hide (by omega)
      clear hst hkT
      go_wp2_with (at_len; refine wpList_lenV rfl _ rfl _ rfl hrow ?_)
      go_roundw
      case rel => exact ⟨k + x.has.length, _, by go_num, hrg1, hk.trans hk1 (by simp), HN⟩
      case measure => rw [hrg1.left_eq, hrg.left_eq]; exact hlt
theorem DiskAt.ptr {w : World} {p : Nat} {d : Dk} {F : List Nat} (h : DiskAt w p d F) : p ∈ F := by
  obtain ⟨bs, bn, wv, Ls, Ln, ha, rfl, _⟩ := h
  simp [foot]
set_option maxHeartbeats 400000 in
theorem new_any (w : World) :
    Calls Tryz.prog 7 #[] w fun e w' => ∃ p F, e = .returned (.pointer (some ⟨p, 0, none⟩)) ∧ DiskAt w' p Dk.new F ∧ Kp [] w w' ∧ ∀ k ∈ F, w.heap.size ≤ k := by
  have hmm := @run_makeMap Tryz.prog
  go_enter Tryz.func7, Tryz.ntmps7
  go_wp2
  have s1 : (w.alloc (.map #[] 0)).heap.size = w.heap.size + 1 := by simp
  have f1 := FilesAt.made w
  have f2 := FilesAt.made (w.alloc (.map #[] 0))
  have k1 := Kp.alloc w (.map #[] 0)
  have k2 := Kp.alloc (w.alloc (.map #[] 0)) (.map #[] 0)
  have k3 := Kp.alloc ((w.alloc (.map #[] 0)).alloc (.map #[] 0)) (.cells (dkC w.heap.size (w.heap.size + 1) nilS (-1) false) 58)
  have bx := CBox.new ((w.alloc (.map #[] 0)).alloc (.map #[] 0)) (dkC w.heap.size (w.heap.size + 1) nilS (-1) false) 58
  have s2 : ((w.alloc (.map #[] 0)).alloc (.map #[] 0)).heap.size = w.heap.size + 1 + 1 := by simp
  rw [s1] at f2
  rw [s2] at bx
  have hD : DkAt (((w.alloc (.map #[] 0)).alloc (.map #[] 0)).alloc (.cells (dkC w.heap.size (w.heap.size + 1) nilS (-1) false) 58)) (w.heap.size + 1 + 1) w.heap.size (w.heap.size + 1) nilS [] [] Dk.new :=
    ⟨bx, (f1.kp k2 (by simp) (by simp)).kp k3 (by simp) (by simp), f2.kp k3 (by simp) (by simp), WaitsAt.nil _, by omega, by simp⟩
  refine bodyPost_ret (v := .pointer (some ⟨w.heap.size + 1 + 1, 0, none⟩)) (by simp [results, Tryz.results7, go_sem]) rfl ⟨_, _, rfl, ⟨_, _, _, _, _, hD, rfl, Inv.new⟩, (k1.trans k2 (by simp)).trans k3 (by simp), fun k hk => ?_⟩
  simp [foot, nilS, Value.ownBlock] at hk
  omega
end Go.Proofs.YtdmckgcbmbhmmaaGreatDoor
namespace Go.Proofs.YtdmckgcbmbhmmaaGreatDoor
open Go.RowKit

section
variable {w w' : World} {p bs bn : Nat} {wv : Value} {Ls Ln : List Nat} {d : Dk}
theorem DkAt.ltL (h : DkAt w p bs bn wv Ls Ln d) : (∀ k ∈ Ls, k < w.heap.size) ∧ (∀ k ∈ Ln, k < w.heap.size) ∧ ∀ k, wv.ownBlock = some k → k < w.heap.size :=
  ⟨fun _ hk => (h.safe.rows hk).1, fun _ hk => (h.now.rows hk).1, fun k hk => (World.ownsRow.lt h.wait k hk).2⟩
theorem DkAt.newSafe {fs : Fs} (h : DkAt w p bs bn wv Ls Ln d) (hm : Made w bs fs Ls w') : ∃ Ls', DkAt w' p bs bn wv Ls' Ln { d with safe := fs } ∧ Kp (bs :: Ls) w w' ∧ ∀ k ∈ Ls', k ∈ Ls ∨ w.heap.size ≤ k := by
  obtain ⟨L', hf, hk, hL⟩ := hm
  obtain ⟨q1, q2, q3, q4, q5, q6, q7, q8, q9⟩ := h.pm
  have nin : ∀ k, k ≠ bs → k ∉ Ls → k ∉ bs :: Ls := fun k h1 h2 hm => by
    rw [List.mem_cons] at hm
    exact hm.elim h1 h2
  refine ⟨L', ⟨h.box.kp hk (nin _ q1 q4), hf, h.now.kp hk (nin _ h.ne.symm q8) (fun k hm => nin k (fun e => q7 (by rw [← e]; exact hm)) (fun hs => h.dis k hs hm)), h.wait.kp hk (fun k hm => nin k (q3 k hm).2.1 (q3 k hm).2.2.2.1), h.ne, fun k hk' hn => ?_⟩, hk, hL⟩
  rcases hL k hk' with h1 | h1
  · exact h.dis k h1 hn
  · have := h.ltL.2.1 k hn; omega
theorem DkAt.newNow {fs : Fs} (h : DkAt w p bs bn wv Ls Ln d) (hm : Made w bn fs Ln w') : ∃ Ln', DkAt w' p bs bn wv Ls Ln' { d with now := fs } ∧ Kp (bn :: Ln) w w' ∧ ∀ k ∈ Ln', k ∈ Ln ∨ w.heap.size ≤ k := by
  obtain ⟨L', hf, hk, hL⟩ := hm
  obtain ⟨q1, q2, q3, q4, q5, q6, q7, q8, q9⟩ := h.pm
  have nin : ∀ k, k ≠ bn → k ∉ Ln → k ∉ bn :: Ln := fun k h1 h2 hm => by
    rw [List.mem_cons] at hm
    exact hm.elim h1 h2
  refine ⟨L', ⟨h.box.kp hk (nin _ q2 q5), h.safe.kp hk (nin _ h.ne q7) (fun k hm => nin k (fun e => q8 (by rw [← e]; exact hm)) (fun hs => h.dis k hm hs)), hf, h.wait.kp hk (fun k hm => nin k (q3 k hm).2.2.1 (q3 k hm).2.2.2.2), h.ne, fun k hs hk' => ?_⟩, hk, hL⟩
  rcases hL k hk' with h1 | h1
  · exact h.dis k hs h1
  · have := h.ltL.1 k hs; omega
theorem WaitsAt.cell {g cap : Nat} {cs : List Chg} (h : WaitsAt w (.slice (some ⟨g, 0, none⟩) cs.length cap) cs) (i : Nat) (hi : i < cs.length) : w.cell? ⟨g, i, none⟩ = some (chV cs[i]) := by
  rw [World.ownsRow.cellAt h i (by omega)]
  simp [hi]
end
theorem info_chg : (Tryz.prog.info? 88).map (fun i => (i.zero, i.size, i.bytes)) = some (some .nilIface, 1, 16) := by kernel_rfl
theorem play_take {fs : Fs} {cs : List Chg} {i : Nat} (hi : i < cs.length) : playAll fs (cs.take (i + 1)) = made (playAll fs (cs.take i)) cs[i] := by
  rw [List.take_succ_eq_append_getElem hi, playAll_snoc]
set_option maxHeartbeats 2000000 in
set_option maxRecDepth 100000 in
theorem settle_any (p bs bn : Nat) (wv : Value) (Ls Ln : List Nat) (d : Dk) (n : Nat) (w : World) (h : DkAt w p bs bn wv Ls Ln d) (hn : n ≤ d.wait.length) (hc : CanAll d.safe d.wait) :
    Calls Tryz.prog 48 #[.pointer (some ⟨p, 0, none⟩), .int .i64 (n : Int)] w fun e w' => e = .returned (.tuple #[]) ∧
      ∃ Ls', DkAt w' p bs bn wv Ls' Ln { d with safe := playAll d.safe (d.wait.take n) } ∧ Kp (bs :: Ls) w w' ∧ ∀ k ∈ Ls', k ∈ Ls ∨ w.heap.size ≤ k := by
  have hcl := h.cells
  have HC := hide hc
  have H0 := hide h
  obtain ⟨_, ⟨rfl, h0⟩ | ⟨g, cap, cur, rfl, _, _, hnc, hcm, _⟩⟩ := id h.wait
  · obtain rfl : n = 0 := by omega
    have HF : Hid (DkAt w p bs bn (.slice none 0 0) Ls Ln { d with safe := playAll d.safe (d.wait.take 0) }) := hide h
    clear h hc
    go_enter Tryz.func48, Tryz.ntmps48
    go_wp2
    go_loopw [13, 5] (fun i _ wr => i = .int .i64 0 ∧ wr = w) (fun _ _ _ => 0)
    case atStart => exact ⟨rfl, rfl⟩
    case round =>
      obtain ⟨rfl, rfl⟩ := hrel
      go_wp2
      go_end0
      exact ⟨rfl, _, unhide HF, Kp.refl _ _, fun _ hk => Or.inl hk⟩
  · unfold maxLen at hcm
    have b1 : (0 : Int) ≤ (n : Int) := by omega
    have b2 : (n : Int) ≤ (cap : Int) := by omega
    clear h hc
    go_enter Tryz.func48, Tryz.ntmps48
    go_wp2
    go_loopw [13, 5] (fun i _ wr => ∃ (k : Nat) (L : List Nat), k ≤ n ∧ i = .int .i64 (k : Int) ∧ DkAt wr p bs bn (.slice (some ⟨g, 0, none⟩) d.wait.length cap) L Ln { d with safe := playAll d.safe (d.wait.take k) } ∧ Kp (bs :: Ls) w wr ∧ Hid (∀ k ∈ L, k ∈ Ls ∨ w.heap.size ≤ k)) (fun i _ _ => n - (intOf i).toNat)
    case atStart => exact ⟨0, Ls, Nat.zero_le _, rfl, unhide H0, Kp.refl _ _, hide (fun _ hk => Or.inl hk)⟩
    case round =>
      obtain ⟨k, L, hk, rfl, hD, hkp, HL⟩ := hrel
      by_cases hlt : k < n
      · have hkw : k < d.wait.length := by omega
        have c1 := hD.wait.cell k hkw
        have c2 := hD.cells.1
        have ap := apply_any (d.wait[k]) bs _ L wr hD.safe (canAll_get k hkw (unhide HC)).1
        have HA := hide ap
        have HD := hide hD
        have hli : (k : Int) < (n : Int) := by omega
        have hst := play_take (fs := d.safe) hkw
        have HST := hide hst
        clear ap hD hst
        generalize chV d.wait[k] = cv at *
        go_wp2_with fail
        refine (unhide HA).mono ?_
        rintro e w1 ⟨rfl, hm1⟩
        obtain ⟨L', hD', hk', hL'⟩ := (unhide HD).newSafe hm1
        rw [← unhide HST] at hD'
        have hkp' : Kp (bs :: Ls) w w1 := hkp.trans hk' (fun x hx => by
          rw [List.mem_cons] at hx
          rcases hx with rfl | hx
          · exact Or.inl (by simp)
          · rcases unhide HL x hx with h1 | h1
            · exact Or.inl (by simp [h1])
            · exact Or.inr h1)
        have hsz := hkp.size
        have HL2 : Hid (∀ k ∈ L', k ∈ Ls ∨ w.heap.size ≤ k) := hide (fun x hx => by
          rcases hL' x hx with h1 | h1
          · exact unhide HL x h1
          · exact Or.inr (by omega))
        have HD2 := hide hD'
        clear hD' hm1 HA HD c1 c2 hL' HST
        go_wp2
        go_roundw
        case rel => exact ⟨k + 1, L', by omega, by go_num, unhide HD2, hkp', HL2⟩
        case measure => simp [intOf]; omega
      · obtain rfl : k = n := by omega
        have HD := hide hD
        clear hD
        go_wp2
        go_end0
        exact ⟨rfl, _, unhide HD, hkp, unhide HL⟩
theorem made_refl {w w' : World} {b : Nat} {fs : Fs} {L : List Nat} (h : FilesAt w b fs L) (hk : Kp [] w w') : Made w b fs L w' := ⟨L, h.kp hk (by simp) (by simp), hk.mono (by simp), fun _ hm => Or.inl hm⟩
theorem Made.pre {w w1 w' : World} {b : Nat} {fs : Fs} {L : List Nat} (hk : Kp [] w w1) (h : Made w1 b fs L w') : Made w b fs L w' := by
  obtain ⟨L', hf, h1, h2⟩ := h
  refine ⟨L', hf, (hk.mono (by simp)).trans h1 (fun x hx => Or.inl hx), fun k hm => ?_⟩
  rcases h2 k hm with h3 | h3
  · exact Or.inl h3
  · have := hk.size; exact Or.inr (by omega)
set_option maxHeartbeats 1000000 in
set_option maxRecDepth 100000 in
theorem tear_any (c : Chg) (t : Int) (b : Nat) (fs : Fs) (L : List Nat) (w : World) (h : FilesAt w b fs L) (hf : Fit fs c) (ht : t ≤ 9223372036854775807) :
    Calls Tryz.prog 49 #[.map (some b), chV c, .int .i64 t] w fun e w' => e = .returned (.tuple #[]) ∧ Made w b (torn fs t c) L w' := by
  cases c with
  | wr n pos d =>
    have hk0 := Kp.alloc w (.cells #[.string n, .int .i64 (pos : Int), .string d] 96)
    have a1 := as_wr_wr
    by_cases h0 : t < 0
    · have e1 : torn fs t (.wr n pos d) = fs := if_pos h0
      rw [e1]
      have HM := hide (made_refl h hk0)
      clear h hf hk0 e1
      show Calls Tryz.prog _ #[.map (some b), .iface 96 (.agg #[.string n, .int .i64 (pos : Int), .string d]), .int .i64 t] w _
      go_enter Tryz.func49, Tryz.ntmps49
      go_wp2
      go_end0
      exact ⟨rfl, unhide HM⟩
    · obtain ⟨u, rfl⟩ := Int.eq_ofNat_of_zero_le (by omega : 0 ≤ t)
      have hdl : d.data.toList.length = d.size := Array.length_toList
      obtain ⟨du, hdu⟩ : ∃ du : ByteArray, du = ⟨(d.data.toList.take u).toArray⟩ := ⟨_, rfl⟩
      have hdul : du.size = min u d.size := by
        have e : du.size = du.data.toList.length := Array.length_toList.symm
        rw [e, hdu, List.length_take, hdl]
      have hds : du.size ≤ d.size := by omega
      have e1 : torn fs (u : Int) (.wr n pos d) = made fs (.wr n pos du) := by
        have e0 : torn fs (u : Int) (.wr n pos d) = if (u : Int) < 0 then fs else made fs (.wr n pos ⟨(d.data.toList.take (u : Int).toNat).toArray⟩) := rfl
        rw [e0, if_neg h0, Int.toNat_natCast, ← hdu]
      rw [e1]
      have hx : ∀ m : Nat, m = min u d.size → d.extract 0 m = du := fun m hm => by
        rw [hdu]
        apply ByteArray.ext
        apply Array.ext'
        simp only [ByteArray.data_extract, Array.toList_extract, List.extract_eq_take_drop, Nat.sub_zero, List.drop_zero]
        rw [hm, ← hdl]
        rcases Nat.le_total u d.data.toList.length with h1 | h1
        · rw [Nat.min_eq_left h1]
        · rw [Nat.min_eq_right h1, List.take_length, List.take_of_length_le h1]
      have hx' : d.extract 0 (min (u : Int) (d.size : Int)).toNat = du := hx _ (by omega)
      have hk1 := Kp.alloc w (.cells #[.string n, .int .i64 (pos : Int), .string du] 96)
      have hf2 : Fit fs (.wr n pos du) := ⟨hf.1, by have := hf.2; omega⟩
      have ap := apply_any (.wr n pos du) b fs L _ (h.kp hk1 (by simp) (by simp)) hf2
      have HA := hide ap
      clear h hf hf2 e1 ap hx hdu
      show Calls Tryz.prog _ #[.map (some b), .iface 96 (.agg #[.string n, .int .i64 (pos : Int), .string d]), .int .i64 (u : Int)] w _
      go_enter Tryz.func49, Tryz.ntmps49
      go_wp2_with fail
      refine (unhide HA).mono ?_
      rintro e w1 ⟨rfl, hm1⟩
      have HM := hide (hm1.pre hk1)
      clear hm1
      go_wp2
      go_end0
      exact ⟨rfl, unhide HM⟩
  | ct n len =>
    have a1 := as_ct_wr
    have HM := hide (made_refl h (Kp.refl [] w))
    clear h hf
    show Calls Tryz.prog _ #[.map (some b), .iface 155 (.agg #[.string n, .int .i64 (len : Int)]), .int .i64 t] w _
    go_enter Tryz.func49, Tryz.ntmps49
    go_wp2
    go_end0
    exact ⟨rfl, unhide HM⟩
  | rn a c =>
    have a1 := as_rn_wr
    have HM := hide (made_refl h (Kp.refl [] w))
    clear h hf
    show Calls Tryz.prog _ #[.map (some b), .iface 143 (.agg #[.string a, .string c]), .int .i64 t] w _
    go_enter Tryz.func49, Tryz.ntmps49
    go_wp2
    go_end0
    exact ⟨rfl, unhide HM⟩
  | rm n =>
    have a1 := as_rm_wr
    have HM := hide (made_refl h (Kp.refl [] w))
    clear h hf
    show Calls Tryz.prog _ #[.map (some b), .iface 138 (.agg #[.string n]), .int .i64 t] w _
    go_enter Tryz.func49, Tryz.ntmps49
    go_wp2
    go_end0
    exact ⟨rfl, unhide HM⟩
theorem toS_self {w : World} {v : Value} {l : List UInt8} (h : Row w v l) : toS v l.length = v := by
  obtain ⟨ad, cap, rfl, _⟩ := h.form
  rfl
theorem less_perm {l : List Ent} {x : Ent} (hn : (l.map Ent.born).Nodup) (hx : x ∈ l) : (x.p :: (lessE l x).map Ent.p).Perm (l.map Ent.p) := by
  obtain ⟨a, b, rfl⟩ := List.append_of_mem hx
  have h1 : ∀ y ∈ a ++ b, y.born ≠ x.born := fun y hy e => by
    rw [List.map_append, List.map_cons] at hn
    have h2 := (List.perm_middle.nodup_iff).1 hn
    rw [List.nodup_cons, ← List.map_append] at h2
    exact h2.1 (List.mem_map.2 ⟨y, hy, e⟩)
  have e : lessE (a ++ x :: b) x = a ++ b := by
    unfold lessE
    rw [List.filter_append, List.filter_cons_of_neg (by simp), ← List.filter_append, List.filter_eq_self.2 (fun y hy => by simpa using h1 y hy)]
  rw [e, List.map_append, List.map_append, List.map_cons]
  exact List.perm_middle.symm
set_option maxHeartbeats 2000000 in
set_option maxRecDepth 100000 in
theorem clone_files (b : Nat) (fs : Fs) (L : List Nat) (w : World) (h : FilesAt w b fs L) (hr0 : total fs ≤ 262144) :
    Calls Tryz.prog 50 #[.map (some b)] w fun e w' => ∃ b' L', e = .returned (.map (some b')) ∧ FilesAt w' b' fs L' ∧ Kp [] w w' ∧ w.heap.size ≤ b' ∧ ∀ k ∈ L', w.heap.size ≤ k := by
  obtain ⟨l, clock, hm, hr, hp, rfl, hn⟩ := h
  have hbl := hm.lt
  have hmm := @run_makeMap Tryz.prog
  have hk0 := Kp.alloc w (.map #[] 0)
  have hm0 := hm.kp hk0 (by simp)
  have mo : MapIs (w.alloc (.map #[] 0)) w.heap.size [] 0 := ⟨heap_alloc_new w _, by simp, by simp, by simp⟩
  have e1 : (w.alloc (.map #[] 0)).heap.size = w.heap.size + 1 := by simp
  have hlen : ∀ x ∈ l, x.has.length ≤ 140737488355328 := fun x hx => by
    have h1 : (x.nm, x.has) ∈ fs := hp.mem_iff.1 (List.mem_map.2 ⟨x, hx, rfl⟩)
    have h2 := getF_mem (names_perm hp hm.nm) h1
    have h3 := hasF_le (fs := fs) x.nm
    unfold hasF at h3
    rw [h2] at h3
    dsimp only [Option.getD_some] at h3
    omega
  have HNF := hide (names_perm hp hm.nm)
  have HR := hide hr
  have HP := hide hp
  have HL := hide hlen
  clear hr hp hn hm hlen
  go_enter Tryz.func50, Tryz.ntmps50
  go_wp2_with (at_range; refine wpList_rangeE rfl _ rfl rfl hm0 ?_; intro w0 hrg0 hk1)
  go_frame
  rw [e1] at hrg0 ⊢
  go_loopw [4, 5] (fun _ _ wr => ∃ (left lo : List Ent) (c : Nat), RngIs wr b (w.heap.size + 1) l left ∧ MapIs wr w.heap.size lo c ∧ Hid (∀ x ∈ lo, Row wr x.v x.has) ∧ Hid ((lo.map Ent.p ++ left.map Ent.p).Perm fs) ∧ Hid ((blE lo).Nodup ∧ ∀ k ∈ blE lo, w.heap.size ≤ k) ∧ Kp [] w wr) (fun _ _ wr => wr.rangeLeft b (w.heap.size + 1))
  case atStart => exact ⟨l, [], 0, hrg0, mo.kp hk1 (by simp), hide (by simp), hide (by simpa using unhide HP), hide (by simp [blE]), hk0.trans hk1 (by simp)⟩
  case round =>
    obtain ⟨left, lo, c, hrg, hmo, HRo, HPo, HB, hk⟩ := hrel
    go_wp2_with (at_next; refine wpList_nextE rfl _ rfl (w.heap.size + 1) left rfl hrg ?_ ?_)
    · intro hl0
      subst hl0
      have hpp := unhide HPo
      rw [List.map_nil, List.append_nil] at hpp
      have HF := hide (FilesAt.mk hmo (unhide HRo) hpp (unhide HB).1)
      clear hpp HPo
      go_wp2
      go_ret
      exact ⟨_, _, rfl, unhide HF, hk, Nat.le_refl _, (unhide HB).2⟩
    · intro x w1 hx hrg1 hlt hk1' hs1 hen
      have hrow0 := (unhide HR x (hrg.sub.subset hx)).kp hk (by simp)
      have hbk : ∀ k, x.v.ownBlock = some k → k < w.heap.size := fun k hk => (unhide HR x (hrg.sub.subset hx)).lt hk
      have hrow := hrow0.kp hk1' (fun k hk' hm => by have := hbk k hk'; simp at hm; omega)
      have bc := bytesClone_any hrow x.has.length (Nat.le_refl _) (unhide HL x (hrg.sub.subset hx))
      rw [toS_self hrow] at bc
      have BC := hide bc
      have hmo1 := hmo.kp hk1' (by simp)
      have hpm := less_perm hrg.bnd hx
      have HPM := hide hpm
      have hszr := hk.size
      clear bc hpm
      go_wp2_with (first
        | (go_at_call 83; refine (unhide BC).mono ?_; rintro e w2 ⟨v2, rfl, hr2, hb2, ho2⟩; have hmo2 := hmo1.kp (Kp.ofBelow hb2) (by simp))
        | (at_mapUpdate; refine wpList_putE rfl _ _ _ rfl rfl hmo2 _ rfl v2 rfl x.has ?_; intro w3 c3 hm3 hg3; go_frame))
      have hpp := unhide HPo
      have hno : findE lo x.nm = none := by
        cases hf : findE lo x.nm with
        | none => rfl
        | some y =>
          obtain ⟨hy, hyx⟩ := findE_some hf
          have hnd := (hpp.map (·.1)).nodup_iff.2 (unhide HNF)
          rw [List.map_append, List.nodup_append] at hnd
          exact absurd hyx (hnd.2.2 y.nm (List.mem_map.2 ⟨y.p, List.mem_map.2 ⟨y, hy, rfl⟩, rfl⟩) x.nm (List.mem_map.2 ⟨x.p, List.mem_map.2 ⟨x, hx, rfl⟩, rfl⟩))
      rw [putE_none hno] at hm3
      rw [List.take_length] at hr2
      have hka : Kp [] w w1 := hk.trans hk1' (by simp)
      have hkb : Kp [] w w3 := (hka.trans (Kp.ofBelow hb2) (by simp)).trans (Kp.of hg3) (by simp)
      have hrg3 := (hrg1.kp (Kp.ofBelow hb2) (by simp) (by simp)).kp (Kp.of hg3) (by simp; omega) (by simp)
      have hit : ∀ k, (∃ cur, wr.heap[k]? = some (.cells cur 5 (0, 0))) → k ≠ w.heap.size + 1 ∧ k ≠ w.heap.size := fun k ⟨cur, hc⟩ => by
        obtain ⟨_, _, _, _, _, hr', _⟩ := hrg
        refine ⟨?_, ?_⟩
        · rintro rfl; rw [hc] at hr'; cases hr'
        · rintro rfl; rw [hmo.here] at hc; cases hc
      have hrows : ∀ y ∈ lo ++ [⟨x.nm, x.has, v2, c⟩], Row w3 y.v y.has := fun y hy => by
        rw [List.mem_append, List.mem_singleton] at hy
        rcases hy with hy | rfl
        · have r0 := unhide HRo y hy
          have hne := fun k (hk : y.v.ownBlock = some k) => hit k (r0.block hk)
          exact ((r0.kp hk1' (fun k hk' hm => (hne k hk').1 (by simpa using hm))).kp (Kp.ofBelow hb2) (by simp)).kp (Kp.of hg3) (fun k hk' hm => (hne k hk').2 (by simpa using hm))
        · exact hr2.kp (Kp.of hg3) (fun k hk' hm => by
            have h1 := ho2 k hk'
            have h2 := hmo1.lt
            simp at hm
            omega)
      have hbl3 : (blE (lo ++ [⟨x.nm, x.has, v2, c⟩])).Nodup ∧ ∀ k ∈ blE (lo ++ [⟨x.nm, x.has, v2, c⟩]), w.heap.size ≤ k := by
        have hb0 := unhide HB
        have hold : ∀ k ∈ blE lo, k < w1.heap.size := fun k hk => by
          have := (blE_row (unhide HRo) hk).1
          omega
        rw [blE_append, blE_cons]
        refine ⟨?_, fun k hk => ?_⟩
        · rw [List.nodup_append]
          refine ⟨hb0.1, ?_, fun a ha c' hc e => ?_⟩
          · cases v2.ownBlock <;> simp [blE]
          · have h1 := hold a ha
            have h2 := ho2 c' (by simpa [blE] using hc)
            omega
        · rw [List.mem_append] at hk
          rcases hk with hk | hk
          · exact hb0.2 k hk
          · have h2 := ho2 k (by simpa [blE] using hk)
            have := hka.size
            omega
      have hperm : ((lo ++ [(⟨x.nm, x.has, v2, c⟩ : Ent)]).map Ent.p ++ (lessE left x).map Ent.p).Perm fs := by
        refine List.Perm.trans ?_ hpp
        rw [List.map_append, List.append_assoc]
        exact List.Perm.append_left _ (unhide HPM)
      go_roundw
      case rel => exact ⟨lessE left x, _, c3, hrg3, hm3, hide hrows, hide hperm, hide hbl3, hkb⟩
      case measure => rw [hrg3.left_eq, hrg.left_eq]; exact hlt
end Go.Proofs.YtdmckgcbmbhmmaaGreatDoor
