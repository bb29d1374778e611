/-
  Names of a disk: the files' names, rising.
  Plain facts on files that stand by their names, of no program.
  Fuse of a disk.
  A tape of the call's own, on a disk of the call's own; what else stays; works of tapes.
-/
import Derived.Test.YtboffmbaaokbnaaGreatDoorG08
import Derived.Test.YtboffmbaaokbnaaGreatDoorG22
import Derived.Test.YtboffmbaaokbnaaGreatDoorG13
namespace Go.Proofs.YtboffmbaaokbnaaGreatDoor
open Go.RowKit Go.Maps Go.Sort Go.Shelf

theorem le_tr (x y z : List UInt8) : decide (x ≤ y) = true → decide (y ≤ z) = true → decide (x ≤ z) = true := fun h1 h2 => by
  rw [decide_eq_true_eq] at *
  exact List.le_trans h1 h2
theorem le_to (x y : List UInt8) : (decide (x ≤ y) || decide (y ≤ x)) = true := by
  rw [Bool.or_eq_true, decide_eq_true_eq, decide_eq_true_eq]
  exact List.le_total x y
theorem sort_unique {a b : List (List UInt8)} (h : a.Perm b) : a.mergeSort (fun x y => decide (x ≤ y)) = b.mergeSort (fun x y => decide (x ≤ y)) := by
  have p := ((List.mergeSort_perm a (fun x y => decide (x ≤ y))).trans h).trans (List.mergeSort_perm b (fun x y => decide (x ≤ y))).symm
  refine p.eq_of_pairwise (le := fun x y => decide (x ≤ y) = true) (fun x y _ _ h1 h2 => ?_) (List.pairwise_mergeSort le_tr le_to a) (List.pairwise_mergeSort le_tr le_to b)
  rw [decide_eq_true_eq] at h1 h2
  exact List.le_antisymm h1 h2
/-- Files' names, rising. -/
def nmL (fs : Fs) : List ByteArray := ((fs.map fun p => p.1.data.toList).mergeSort (fun x y => decide (x ≤ y))).map fun l => ⟨l.toArray⟩
theorem nmL_perm {a b : Fs} (h : a.Perm b) : nmL a = nmL b := by
  unfold nmL
  rw [sort_unique (h.map _)]
theorem nmL_len (fs : Fs) : (nmL fs).length = fs.length := by
  unfold nmL
  rw [List.length_map, (List.mergeSort_perm _ _).length_eq, List.length_map]
theorem nmL_mem {fs : Fs} {s : ByteArray} (h : s ∈ nmL fs) : ∃ d, (s, d) ∈ fs := by
  unfold nmL at h
  obtain ⟨x, hx, rfl⟩ := List.mem_map.1 h
  obtain ⟨q, hq, rfl⟩ := List.mem_map.1 ((List.mergeSort_perm _ _).mem_iff.1 hx)
  refine ⟨q.2, ?_⟩
  have : (⟨q.1.data.toList.toArray⟩ : ByteArray) = q.1 := by apply ByteArray.ext; simp
  rw [this]
  exact hq
def R0 : Value → Option (DataW Unit × List MemPlace) := fun _ => some (.nil, [])
set_option maxRecDepth 100000 in
theorem MapIs.owns {w : World} {b : Nat} {l : List Ent} {clock : Nat} (h : MapIs w b l clock) (hn : ∀ x ∈ l, x.nm.size ≤ maxLen) (hl : l.length ≤ maxLen) :
    ∃ D : DataW Unit, w.ownsMap Tryz.prog 9 R0 b l.length D ∧ Maps.size D = l.length ∧ (strKeys D).Perm (l.map fun x => x.nm.data.toList) := by
  have hrd : ∀ x ∈ l, WideElems.rd Tryz.prog 9 R0 x.entry = some (.string x.nm.data.toList, .nil) := fun x hx => WideElems.rd_mk (WideMaps.keyOf_string_mk Tryz.underlying9 (hn x hx)) (R := R0) (val := x.v) (yv := (.nil, [])) (born := x.born) rfl
  have hrg : (l.map Ent.entry).map (WideElems.rg Tryz.prog 9 R0) = l.map fun x => ((.string x.nm.data.toList : Lit), (.nil : DataW Unit)) := by
    rw [List.map_map]
    refine List.map_congr_left (fun x hx => ?_)
    show WideElems.rg Tryz.prog 9 R0 x.entry = _
    exact WideElems.rg_of (hrd x hx)
  refine ⟨.map (((l.map Ent.entry).map (WideElems.rg Tryz.prog 9 R0)).foldr DataW.insert []), ⟨(l.map Ent.entry).toArray, clock, h.here, ⟨by simpa using hl, ⟨?_, ?_, ?_⟩, ?_⟩, by simp, by simp⟩, ?_, ?_⟩
  · intro x hx
    obtain ⟨y, hy, rfl⟩ := List.mem_map.1 (by simpa using hx)
    exact h.old y hy
  · simpa [List.map_map, Function.comp_def, Ent.entry] using h.born
  · have e : ((l.map Ent.entry).toArray.toList.map (·.key)) = (l.map Ent.nm).map Value.string := by simp [List.map_map, Function.comp_def, Ent.entry]
    rw [e]
    exact List.Pairwise.map _ (fun a c hac e => hac (by injection e)) h.nm
  · intro x hx
    obtain ⟨y, hy, rfl⟩ := List.mem_map.1 (by simpa using hx)
    exact ⟨_, hrd y hy⟩
  · show (List.foldr DataW.insert [] _).length = _
    rw [length_sorted]; simp
  · show ((List.foldr DataW.insert [] _).map fun p => strOf p.1).Perm _
    refine ((WideShapes.sorted_perm _).map _).trans ?_
    rw [hrg, List.map_map]
    exact List.Perm.of_eq rfl
/-- Texts lie in a row of their own. -/
def TxRow (w : World) (v : Value) (ts : List ByteArray) : Prop := w.ownsRow 0 9 1 v ts.length (ts.map Value.string)
theorem TxRow.kp {F : List Nat} {w w' : World} {v : Value} {l : List ByteArray} (h : TxRow w v l) (hk : Kp F w w') (hF : ∀ k, v.ownBlock = some k → k ∉ F) : TxRow w' v l := by
  obtain ⟨h1, h2 | ⟨g, cp, cur, rfl, hb, hh, r⟩⟩ := h
  · exact ⟨h1, Or.inl h2⟩
  · exact ⟨h1, Or.inr ⟨g, cp, cur, rfl, hb, (hk.block g (Array.getElem?_eq_some_iff.1 hh).1 (hF g rfl)).trans hh, r⟩⟩
theorem TxRow.cell {w : World} {g cap : Nat} {ts : List ByteArray} (h : TxRow w (.slice (some ⟨g, 0, none⟩) ts.length cap) ts) (i : Nat) (hi : i < ts.length) : w.cell? ⟨g, i, none⟩ = some (.string ts[i]) := by
  rw [World.ownsRow.cellAt h i (by omega)]
  simp [hi]
theorem setCell_self {w : World} {g i : Nat} {cur : Array Value} {t : TypeId} {f : Nat × Nat} {v : Value} (hb : w.heap[g]? = some (.cells cur t f)) (hc : cur[i]? = some v) : w.setCell ⟨g, i, none⟩ v = w := by
  have e : (w.setCell ⟨g, i, none⟩ v).heap = w.heap := by
    apply Array.ext_getElem?
    intro k
    by_cases hk : k = g
    · subst hk
      rw [hb]
      unfold World.setCell
      simp only [Array.getElem?_modify, if_true, hb, Option.map_some]
      have : cur.setIfInBounds i v = cur := by
        apply Array.ext_getElem?
        intro j
        rw [Array.getElem?_setIfInBounds]
        split
        · rename_i hij; subst hij
          split
          · exact hc.symm
          · rename_i hlt; rw [Array.getElem?_eq_none (by omega)]
        · rfl
      simp [this]
    · exact Below.heap_setCell _ _ _ _ hk
  cases w
  simp only [World.setCell] at e ⊢
  rw [e]
set_option maxHeartbeats 4000000 in
set_option maxRecDepth 100000 in
theorem names_files (b : Nat) (fs : Fs) (L : List Nat) (w : World) (h : FilesAt w b fs L) (hr : Room fs) :
    Calls Tryz.prog 67 #[.map (some b)] w fun e w' => ∃ v, e = .returned v ∧ TxRow w' v (nmL fs) ∧ Kp [] w w' ∧ ∀ k, v.ownBlock = some k → w.heap.size ≤ k := by
  obtain ⟨l, clock, hm, _, hp, rfl, hn⟩ := h
  have hnm : ∀ x ∈ l, x.nm.size ≤ 32 := fun x hx => dnm_len (hr.2 x.p (hp.mem_iff.1 (List.mem_map.2 ⟨x, hx, rfl⟩)))
  have hlen : l.length ≤ 64 := by have := hp.length_eq; rw [List.length_map] at this; rw [this]; exact hr.1.2
  obtain ⟨D, hown, hsz, hpk⟩ := hm.owns (fun x hx => by have := hnm x hx; unfold maxLen; omega) (by unfold maxLen; omega)
  have hkeys : ∀ ss : List (List UInt8), ss.Perm (strKeys D) → (ss.mergeSort (fun x y => decide (x ≤ y))).map encStr = (nmL fs).map Value.string ∧ ss.length = (nmL fs).length := fun ss hs => by
    have hpp : ss.Perm (fs.map fun p => p.1.data.toList) := (hs.trans hpk).trans (by
      have := hp.map fun p : ByteArray × List UInt8 => p.1.data.toList
      rw [List.map_map] at this
      exact this)
    refine ⟨?_, by rw [nmL_len, hpp.length_eq, List.length_map]⟩
    unfold nmL
    rw [sort_unique hpp, List.map_map]; rfl
  have hnl : ∀ s ∈ nmL fs, s.size ≤ 32 := fun s hs => by
    obtain ⟨d, hd⟩ := nmL_mem hs
    exact dnm_len (hr.2 _ hd)
  have cK := fun W => callsIn_wide.1 (Tryz.maps_Keys_83 (some b) W)
  have cS := callsIn_wide.1 (Tryz.slices_Sorted_keys_82_83 b l.length D R0 w hown (by rw [hsz]; unfold maxLen; omega) (by rw [hsz]; omega))
  have hk0 := Kp.alloc w (.cells #[.map (some b)] 43)
  have hl64 : (nmL fs).length ≤ 64 := by rw [nmL_len]; exact hr.1.2
  generalize nmL fs = NS at *
  have CK := hide cK
  have CS := hide cS
  have HKY := hide hkeys
  have HNL := hide hnl
  have HK0 := hide hk0
  clear cK cS hkeys hnl hown hsz hpk hm hp hn hnm hr hk0
  go_enter Tryz.func67, Tryz.ntmps67
  go_wp2_with fail
  refine (unhide CK w).mono ?_
  rintro e w1 ⟨rfl, rfl⟩
  go_wp2_with fail
  refine (unhide CS).mono ?_
  rintro e w2 ⟨v, ss, rfl, hS, hrow, hnil, hb2⟩
  obtain ⟨q1, q2⟩ := unhide HKY ss hS
  rw [q1, q2] at hrow
  have hkk : Kp [] w w2 := (unhide HK0).trans (Kp.ofBelow hb2) (by simp)
  have hvb : ∀ k, v.ownBlock = some k → w.heap.size ≤ k := fun k hk => by
    have := (World.ownsRow.lt hrow k hk).1
    simp at this
    omega
  have htx : TxRow w2 v NS := by
    obtain ⟨x1, x2 | ⟨g, cp, cur, rfl, hb, r⟩⟩ := hrow
    · exact ⟨x1, Or.inl x2⟩
    · exact ⟨x1, Or.inr ⟨g, cp, cur, rfl, Nat.zero_le _, r⟩⟩
  have HVB := hide hvb
  have HTX := hide htx
  clear hS hrow hnil hb2 q1 q2 hvb
  obtain ⟨_, ⟨rfl, h0⟩ | ⟨g, cap, cur, rfl, _, hh, hnc, hcm, hcs, htk⟩⟩ := htx
  · obtain rfl : NS = [] := List.eq_nil_of_length_eq_zero h0
    go_wp2
    go_loopw [11, 4, 5] (fun i _ _ wr => i = .int .i64 0 ∧ wr = w2) (fun _ _ _ _ => 0)
    case atStart => exact ⟨rfl, rfl⟩
    case round =>
      obtain ⟨rfl, rfl⟩ := hrel
      go_wp2
      go_ret
      exact ⟨_, rfl, unhide HTX, hkk, unhide HVB⟩
  · unfold maxLen at hcm
    clear hh hcs htk
    go_wp2
    go_loopw [11, 4, 5] (fun i _ _ wr => ∃ k : Nat, k ≤ NS.length ∧ i = .int .i64 (k : Int) ∧ Hid (TxRow wr (.slice (some ⟨g, 0, none⟩) NS.length cap) NS) ∧ Kp [] w wr) (fun i _ _ _ => NS.length - (intOf i).toNat)
    case atStart => exact ⟨0, by omega, rfl, HTX, hkk⟩
    case round =>
      clear hkk
      obtain ⟨k, hk, rfl, HT, hkk⟩ := hrel
      by_cases hlt : k < NS.length
      · have hli : (k : Int) < (NS.length : Int) := by omega
        have c1 := (unhide HT).cell k hlt
        have cl := fun W => clone_any NS[k] W (by have := unhide HNL NS[k] (List.getElem_mem hlt); omega)
        have hself : ∀ W, TxRow W (.slice (some ⟨g, 0, none⟩) NS.length cap) NS → W.setCell ⟨g, k, none⟩ (.string NS[k]) = W ∧ W.frozen? ⟨g, k, none⟩ = false ∧ W.cell? ⟨g, k, none⟩ = some (.string NS[k]) := fun W hT => by
          have hc := hT.cell k hlt
          obtain ⟨_, ⟨e, _⟩ | ⟨g2, cp2, cur2, e, _, hb2, r2⟩⟩ := hT
          · cases e
          · simp only [Value.slice.injEq, Option.some.injEq, Addr.mk.injEq, and_true, true_and] at e
            obtain ⟨rfl, rfl⟩ := e
            have hcc : cur2[k]? = some (.string NS[k]) := by simpa [World.cell?, hb2] using hc
            exact ⟨setCell_self hb2 hcc, by simp [World.frozen?, hb2], hc⟩
        have CL := hide cl
        have HSF := hide hself
        clear cl hself
        generalize NS[k] = s at *
        go_wp2_with fail
        refine (unhide CL wr).mono ?_
        rintro e w3 ⟨rfl, hb3⟩
        have hT3 := (unhide HT).kp (Kp.ofBelow hb3) (by simp)
        obtain ⟨e3, f3, c3⟩ := unhide HSF w3 hT3
        have hk3 := hkk.trans (Kp.ofBelow hb3) (by simp)
        have HT3 := hide hT3
        have HE3 := hide e3
        clear c1 hb3 hT3 HT hkk e3
        go_wp2
        go_roundw
        case rel =>
          rw [unhide HE3]
          exact ⟨k + 1, by omega, by go_num, HT3, hk3⟩
        case measure => simp [intOf]; omega
      · go_wp2
        go_ret
        exact ⟨_, rfl, unhide HT, hkk, unhide HVB⟩
end Go.Proofs.YtboffmbaaokbnaaGreatDoor
namespace Go.Proofs.YtboffmbaaokbnaaGreatDoor

theorem cmp_lt : ∀ a b : List UInt8, Lib.compareBytes a b < 0 ↔ a < b
  | [], [] => by simp [Lib.compareBytes]
  | [], _ :: _ => by simp [Lib.compareBytes]
  | _ :: _, [] => by simp [Lib.compareBytes]
  | a :: x, b :: y => by
    unfold Lib.compareBytes
    rw [List.cons_lt_cons_iff]
    by_cases h : a < b
    · simp [h]
    · by_cases h' : b < a
      · have h2 : a ≠ b := fun e => h (by rw [e] at h' ⊢; exact h')
        simp [h, h', h2]
      · obtain rfl : a = b := UInt8.le_antisymm (UInt8.not_lt.1 h') (UInt8.not_lt.1 h)
        simp
        exact cmp_lt x y
theorem nlt_lt (a b : ByteArray) : nlt a b = true ↔ a.data.toList < b.data.toList := by
  unfold nlt
  rw [decide_eq_true_eq, cmp_lt]
theorem ba_eq {a b : ByteArray} (h : a.data.toList = b.data.toList) : a = b := by
  apply ByteArray.ext
  apply Array.ext'
  exact h
theorem nlt_trans {a b c : ByteArray} (h1 : nlt a b = true) (h2 : nlt b c = true) : nlt a c = true := by
  rw [nlt_lt] at *
  exact List.lt_trans h1 h2
theorem nlt_else {a b : ByteArray} (h1 : nlt a b = false) (hne : a ≠ b) : nlt b a = true := by
  rw [nlt_lt]
  have h2 : ¬ a.data.toList < b.data.toList := fun h => by rw [← nlt_lt, h1] at h; cases h
  rcases Decidable.em (b.data.toList < a.data.toList) with h | h
  · exact h
  · exact absurd (ba_eq (List.le_antisymm (List.not_lt.1 h) (List.not_lt.1 h2))) hne
/-- Files stand by their names. -/
def Srt (fs : Fs) : Prop := fs.Pairwise fun p q => nlt p.1 q.1 = true
theorem srt_without {fs : Fs} (h : Srt fs) (n : ByteArray) : Srt (without fs n) := List.Pairwise.filter _ h
theorem srt_with {fs : Fs} (h : Srt fs) (n : ByteArray) (d : List UInt8) : Srt (withF fs n d) := by
  have hs := srt_without h n
  have hno : ∀ p ∈ without fs n, p.1 ≠ n := fun p hp => by simpa using (List.mem_filter.1 hp).2
  unfold withF
  generalize without fs n = l at *
  have hw : l.takeWhile (fun p => nlt p.1 n) ++ l.dropWhile (fun p => nlt p.1 n) = l := List.takeWhile_append_dropWhile
  have h1 : ∀ p ∈ l.takeWhile (fun p => nlt p.1 n), nlt p.1 n = true := fun p hp => by
    have := List.all_takeWhile (p := fun p : ByteArray × List UInt8 => nlt p.1 n) (l := l)
    exact List.all_eq_true.1 this p hp
  have h2 : ∀ p ∈ l.dropWhile (fun p => nlt p.1 n), nlt n p.1 = true := by
    have hsub : Srt (l.dropWhile (fun p => nlt p.1 n)) := List.Pairwise.sublist (List.dropWhile_sublist _) hs
    have hno2 : ∀ p ∈ l.dropWhile (fun p => nlt p.1 n), p.1 ≠ n := fun p hp => hno p ((List.dropWhile_sublist _).subset hp)
    cases hd : l.dropWhile (fun p => nlt p.1 n) with
    | nil => intro p hp; cases hp
    | cons q r =>
      rw [hd] at hsub hno2
      have hq : nlt q.1 n = false := by
        have := List.head?_dropWhile_not (fun p : ByteArray × List UInt8 => nlt p.1 n) l
        rw [hd] at this
        simpa using this
      have hq2 := nlt_else hq (hno2 q (by simp))
      intro p hp
      rcases List.mem_cons.1 hp with rfl | hp
      · exact hq2
      · exact nlt_trans hq2 ((List.pairwise_cons.1 hsub).1 p hp)
  unfold Srt at *
  rw [← hw] at hs
  rw [List.pairwise_append] at hs ⊢
  refine ⟨hs.1, List.pairwise_cons.2 ⟨h2, hs.2.1⟩, fun a ha b hb => ?_⟩
  rcases List.mem_cons.1 hb with rfl | hb
  · exact h1 a ha
  · exact hs.2.2 a ha b hb
theorem srt_made {fs : Fs} (h : Srt fs) : ∀ c : Chg, Srt (made fs c)
  | .wr _ _ _ => srt_with h _ _
  | .ct _ _ => srt_with h _ _
  | .rn _ _ => srt_with (srt_without h _) _ _
  | .rm _ => srt_without h _
theorem srt_play : ∀ {fs : Fs} (cs : List Chg), Srt fs → Srt (playAll fs cs)
  | _, [], h => h
  | fs, c :: cs, h => srt_play (fs := made fs c) cs (srt_made h c)
theorem srt_torn {fs : Fs} (h : Srt fs) (t : Int) : ∀ c : Chg, Srt (torn fs t c)
  | .wr n pos d => by
    show Srt (if t < 0 then fs else made fs (.wr n pos ⟨(d.data.toList.take t.toNat).toArray⟩))
    by_cases ht : t < 0
    · rw [if_pos ht]; exact h
    · rw [if_neg ht]; exact srt_made h _
  | .ct _ _ => h
  | .rn _ _ => h
  | .rm _ => h
/-- Names of files that stand by them. -/
theorem nmL_srt {fs : Fs} (h : Srt fs) : nmL fs = fs.map (·.1) := by
  unfold nmL
  rw [List.mergeSort_of_pairwise]
  · rw [List.map_map]
    refine List.map_congr_left fun p _ => ?_
    exact ba_eq (by simp)
  · rw [List.pairwise_map]
    refine h.imp fun {a b} hab => ?_
    rw [decide_eq_true_eq]
    exact List.le_of_lt ((nlt_lt _ _).1 hab)
/-- The safe files of a disk stand by their names: so do all. -/
theorem srt_now {d : Dk} (hi : Inv d) (h : Srt d.safe) : Srt d.now := by rw [← hi.play]; exact srt_play _ h
theorem srt_do {d : Dk} (h : Srt d.safe) (c : Chg) : Srt (d.doD c).safe := by
  unfold Dk.doD
  split
  · exact h
  · split
    · show Srt d.ready.safe
      rw [(ready_now d).2.1]; exact h
    · rw [(ready_now d).2.1]; exact h
theorem srt_wr {d : Dk} (h : Srt d.safe) (n : ByteArray) (m : Int) (s : ByteArray) : Srt (d.wrD n m s).safe := by unfold Dk.wrD; split; exact srt_do h _; exact h
theorem srt_ct {d : Dk} (h : Srt d.safe) (n : ByteArray) (m : Int) : Srt (d.ctD n m).safe := by unfold Dk.ctD; split; exact srt_do h _; exact h
theorem srt_rn {d : Dk} (h : Srt d.safe) (a b : ByteArray) : Srt (d.rnD a b).safe := by unfold Dk.rnD; split; exact srt_do h _; exact h
theorem srt_rm {d : Dk} (h : Srt d.safe) (n : ByteArray) : Srt (d.rmD n).safe := by unfold Dk.rmD; split; exact srt_do h _; exact h
theorem srt_sy {d : Dk} (hi : Inv d) (h : Srt d.safe) : Srt d.syD.safe := by
  unfold Dk.syD
  split
  · exact srt_now hi h
  · rw [(ready_now d).2.1]; exact h
theorem srt_fu {d : Dk} (h : Srt d.safe) (n : Int) : Srt (d.fuD n).safe := by unfold Dk.fuD; split <;> exact h
theorem srt_crash {d : Dk} (h : Srt d.safe) (keep t : Int) : Srt (d.crash keep t).safe := by
  show Srt (d.left' keep t)
  unfold Dk.left'
  split
  · exact srt_torn (srt_play _ h) t _
  · exact srt_play _ h
end Go.Proofs.YtboffmbaaokbnaaGreatDoor
namespace Go.Proofs.YtboffmbaaokbnaaGreatDoor
open Go.RowKit

set_option maxHeartbeats 400000 in
theorem fuse_any (p : Nat) (d : Dk) (F : List Nat) (n : Int) (w : World) (h : DiskAt w p d F) (hn : n ≤ 9223372036854775807) :
    Calls Tryz.prog 24 #[.pointer (some ⟨p, 0, none⟩), .int .i64 n] w fun e w' => e = .returned (.int .i64 (Dk.fuE n)) ∧ Did w F p (d.fuD n) w' := by
  unfold Dk.fuE Dk.fuD
  by_cases h0 : n < 0
  · rw [if_pos h0, if_pos h0]
    have HD := hide h.did
    clear h
    go_enter Tryz.func24, Tryz.ntmps24
    go_wp2
    go_ret
    exact ⟨rfl, unhide HD⟩
  · rw [if_neg h0, if_neg h0]
    have hv := h.inv
    obtain ⟨bs, bn, wv, Ls, Ln, ha, rfl, _⟩ := h
    have hc := ha.cells
    have hf := ha.frozs
    have hi : Inv { d with left := n } := ⟨hv.play, hv.can, hv.room, hv.few, by dsimp only; omega, hn⟩
    have hkp := kp_set w p 3 (.int .i64 n)
    have hbox := ha.box.set 3 (.int .i64 n)
    have hD := ha.setBox hkp (wv' := wv) (l' := n) (dn' := d.down) hbox rfl
    have HD := hide (Did.of hD hi (hkp.mono (by unfold foot; simp)) (fun _ hk => Or.inl hk))
    clear hD hbox hi ha hkp hv
    go_enter Tryz.func24, Tryz.ntmps24
    go_wp2
    go_ret
    exact ⟨rfl, unhide HD⟩
end Go.Proofs.YtboffmbaaokbnaaGreatDoor
namespace Go.Proofs.YtboffmbaaokbnaaGreatDoor
open Go.RowKit

/-- What else stays: all cells of other types, but some blocks. -/
structure Oth (X : List Nat) (w w' : World) : Prop where
  os : w'.os = w.os
  tape : w'.tape = w.tape
  output : w'.output = w.output
  size : w.heap.size ≤ w'.heap.size
  block : ∀ k cur t f, w.heap[k]? = some (.cells cur t f) → t ≠ 5 → t ≠ 92 → t ≠ 46 → k ∉ X → w'.heap[k]? = some (.cells cur t f)
theorem Oth.refl (X : List Nat) (w : World) : Oth X w w := ⟨rfl, rfl, rfl, Nat.le_refl _, fun _ _ _ _ h _ _ _ _ => h⟩
theorem Oth.trans {X : List Nat} {a b c : World} (h : Oth X a b) (k : Oth X b c) : Oth X a c :=
  ⟨k.os.trans h.os, k.tape.trans h.tape, k.output.trans h.output, Nat.le_trans h.size k.size, fun i cur t f hi h1 h2 h3 hn => k.block i cur t f (h.block i cur t f hi h1 h2 h3 hn) h1 h2 h3 hn⟩
theorem Oth.mono {X Y : List Nat} {a b : World} (h : Oth X a b) (hY : ∀ x ∈ X, x ∈ Y) : Oth Y a b := ⟨h.os, h.tape, h.output, h.size, fun i cur t f hi h1 h2 h3 hn => h.block i cur t f hi h1 h2 h3 (fun hm => hn (hY i hm))⟩
theorem Oth.of {w w' : World} (h : Kp [] w w') (X : List Nat) : Oth X w w' := ⟨h.os, h.tape, h.output, h.size, fun i _ _ _ hi _ _ _ _ => (h.block i (Array.getElem?_eq_some_iff.1 hi).1 (by simp)).trans hi⟩
theorem Oth.disk {w w' : World} {p : Nat} {d : Dk} {F X : List Nat} (hd : DiskAt w p d F) (h : Kp (X ++ F) w w') : Oth X w w' :=
  ⟨h.os, h.tape, h.output, h.size, fun i _ _ _ hi h1 h2 h3 hn => (h.block i (Array.getElem?_eq_some_iff.1 hi).1 (by
    rw [List.mem_append]
    rintro (e | e)
    · exact hn e
    · exact hd.no hi h1 h2 h3 e)).trans hi⟩
theorem OwnsS.oth {B : Nat} {X : List Nat} {w w' : World} {v : Value} {ts : List (List UInt8)} (h : OwnsS B w v ts) (hk : Oth X w w') (hF : ∀ k, v.ownBlock = some k → k ∉ X) : OwnsS B w' v ts := by
  obtain ⟨h1, h2 | ⟨g, cp, cur, rfl, hb, hh, r⟩⟩ := h
  · exact ⟨h1, Or.inl h2⟩
  · exact ⟨h1, Or.inr ⟨g, cp, cur, rfl, hb, hk.block g _ _ _ hh (by decide) (by decide) (by decide) (hF g rfl), r⟩⟩
theorem CBox.oth {g : Nat} {cs : Array Value} {t : TypeId} {w w' : World} {X : List Nat} (h : CBox g cs t w) (hk : Oth X w w') (h1 : t ≠ 5) (h2 : t ≠ 92) (h3 : t ≠ 46) (hg : g ∉ X) : CBox g cs t w' := hk.block g _ _ _ h h1 h2 h3 hg
/-- A tape of the call's own. -/
def OwnT (w0 w : World) (p : Nat) (d : Dk) (t : Nat) (n : ByteArray) (v : Value) (ts : List (List UInt8)) : Prop :=
  ∃ F, DiskAt w p d F ∧ TpAt w t p n v ts ∧ Kp [] w0 w ∧ (∀ k ∈ F, w0.heap.size ≤ k) ∧ w0.heap.size ≤ t ∧ ∀ k, v.ownBlock = some k → w0.heap.size ≤ k
section
variable {w0 w w' : World} {p t : Nat} {d : Dk} {n : ByteArray} {v : Value} {ts : List (List UInt8)}
theorem OwnT.own (h : OwnT w0 w p d t n v ts) : OwnD w0 w p d := let ⟨F, a, _, b, c, _⟩ := h; ⟨F, a, b, c⟩
theorem OwnT.at (h : OwnT w0 w p d t n v ts) : TpAt w t p n v ts := let ⟨_, _, a, _⟩ := h; a
theorem OwnT.bel (h : OwnT w0 w p d t n v ts) : Kp [] w0 w := h.own.bel
theorem OwnT.ge (h : OwnT w0 w p d t n v ts) : w0.heap.size ≤ t ∧ ∀ k, v.ownBlock = some k → w0.heap.size ≤ k := let ⟨_, _, _, _, _, a⟩ := h; a
theorem OwnT.kp (h : OwnT w0 w p d t n v ts) (hk : Kp [] w w') : OwnT w0 w' p d t n v ts := by
  obtain ⟨F, hd, ht, h1, h2, h3⟩ := h
  exact ⟨F, hd.kp hk (by simp), ht.kp hk (by simp) (by simp), h1.trans hk (by simp), h2, h3⟩
/-- A call of the disk, a tape beside it. -/
theorem OwnT.did {d' : Dk} (h : OwnT w0 w p d t n v ts) (hn : ∀ F, DiskAt w p d F → Did w F p d' w') : OwnT w0 w' p d' t n v ts ∧ Oth [] w w' := by
  obtain ⟨F, hd, ht, h1, h2, h3⟩ := h
  obtain ⟨F', hd', hk, hF'⟩ := hn F hd
  obtain ⟨n1, n2⟩ := ht.no hd
  refine ⟨⟨F', hd', ht.kp hk n1 (fun k hk => (n2 k hk).1), h1.trans hk (fun x hx => Or.inr (h2 x hx)), fun k hk => ?_, h3⟩, Oth.disk hd hk⟩
  rcases hF' k hk with h5 | h5
  · exact h2 k h5
  · have := h1.size; omega
theorem OwnD.did2 {d' : Dk} (h : OwnD w0 w p d) (hn : ∀ F, DiskAt w p d F → Did w F p d' w') : OwnD w0 w' p d' ∧ Oth [] w w' := by
  refine ⟨h.did hn, ?_⟩
  obtain ⟨F, hd, h1, h2⟩ := h
  obtain ⟨F', hd', hk, hF'⟩ := hn F hd
  exact Oth.disk hd hk
theorem OwnT.added {d' : Dk} {ts' : List (List UInt8)} (h : OwnT w0 w p d t n v ts) (hn : ∀ F, DiskAt w p d F → Added w F p d' n t v ts' w') : ∃ v', OwnT w0 w' p d' t n v' ts' ∧ Oth (t :: v.ownBlock.toList) w w' ∧ (v'.ownBlock = v.ownBlock ∨ ∀ k, v'.ownBlock = some k → w.heap.size ≤ k) := by
  obtain ⟨F, hd, ht, h1, h2, h3, h4⟩ := h
  obtain ⟨F', v', hd', ht', hk, hF', hv'⟩ := hn F hd
  have hs := h1.size
  refine ⟨v', ⟨F', hd', ht', h1.trans hk (fun x hx => Or.inr ?_), fun k hk => ?_, h3, fun k hk => ?_⟩, Oth.disk hd hk, hv'⟩
  · rw [List.mem_cons, List.mem_append] at hx
    rcases hx with rfl | hx | hx
    · exact h3
    · exact h4 x (by simpa using hx)
    · exact h2 x hx
  · rcases hF' k hk with h5 | h5
    · exact h2 k h5
    · omega
  · rcases hv' with h5 | h5
    · exact h4 k (by rw [← h5]; exact hk)
    · have := h5 k hk; omega
theorem OwnD.opened {d' : Dk} (h : OwnD w0 w p d) (hn : ∀ F, DiskAt w p d F → Opened w F p d' n t v ts w') : OwnT w0 w' p d' t n v ts ∧ Oth [] w w' ∧ w.heap.size ≤ t ∧ ∀ k, v.ownBlock = some k → w.heap.size ≤ k := by
  obtain ⟨F, hd, h1, h2⟩ := h
  obtain ⟨⟨F', hd', hk, hF'⟩, ht', h3, h4⟩ := hn F hd
  have hs := h1.size
  refine ⟨⟨F', hd', ht', h1.trans hk (fun x hx => Or.inr (h2 x hx)), fun k hk => ?_, by omega, fun k hk => by have := h4 k hk; omega⟩, Oth.disk hd hk, h3, h4⟩
  rcases hF' k hk with h5 | h5
  · exact h2 k h5
  · omega
theorem OwnD.topen (h : OwnD w0 w p d) (hT : TabW w0) (hs : n.size ≤ 9223372036854775807) :
    Calls Tryz.prog 4 #[.pointer (some ⟨p, 0, none⟩), .string n] w fun r w' =>
      (d.opE n = 0 ∧ ∃ t v, r = .returned (.tuple #[.pointer (some ⟨t, 0, none⟩), .int .i64 0]) ∧ OwnT w0 w' p (d.opD n) t n v (d.opL n) ∧ Oth [] w w' ∧ w.heap.size ≤ t ∧ ∀ k, v.ownBlock = some k → w.heap.size ≤ k) ∨ (d.opE n ≠ 0 ∧ r = .returned (.tuple #[.pointer none, .int .i64 (d.opE n)]) ∧ OwnD w0 w' p (d.opD n) ∧ Oth [] w w') := by
  obtain ⟨F, hd, h1, h2⟩ := id h
  refine (topen_any p n d F w hd (hT.kp h1 (by simp)) hs).mono fun r w' hh => ?_
  rcases hh with ⟨he, t, v, hr, ho⟩ | ⟨he, hr, ho⟩
  · obtain ⟨⟨F', hd', hk, hF'⟩, ht', h3, h4⟩ := ho
    have hs := h1.size
    refine Or.inl ⟨he, t, v, hr, ⟨F', hd', ht', h1.trans hk (fun x hx => Or.inr (h2 x hx)), fun k hk => ?_, by omega, fun k hk => by have := h4 k hk; omega⟩, Oth.disk hd hk, h3, h4⟩
    rcases hF' k hk with h5 | h5
    · exact h2 k h5
    · omega
  · obtain ⟨F', hd', hk, hF'⟩ := ho
    refine Or.inr ⟨he, hr, ⟨F', hd', h1.trans hk (fun x hx => Or.inr (h2 x hx)), fun k hk => ?_⟩, Oth.disk hd hk⟩
    rcases hF' k hk with h5 | h5
    · exact h2 k h5
    · have := h1.size; omega
theorem OwnT.append (h : OwnT w0 w p d t n v ts) (s : ByteArray) (hT : TabW w0) (hts : ts.length ≤ 1000000) (hs : s.size ≤ 9223372036854775807) :
    Calls Tryz.prog 16 #[.pointer (some ⟨t, 0, none⟩), .string s] w fun r w' =>
      (d.apE n s = 0 ∧ r = .returned (.int .i64 0) ∧ ∃ v', OwnT w0 w' p (d.apD n s) t n v' (ts ++ [s.data.toList]) ∧ Oth (t :: v.ownBlock.toList) w w' ∧ (v'.ownBlock = v.ownBlock ∨ ∀ k, v'.ownBlock = some k → w.heap.size ≤ k)) ∨ (d.apE n s ≠ 0 ∧ r = .returned (.int .i64 (d.apE n s)) ∧ OwnT w0 w' p (d.apD n s) t n v ts ∧ Oth [] w w') := by
  obtain ⟨F, hd, ht, h1, h2, h3, h4⟩ := id h
  refine (tappend_any t p n v ts s d F w ht hd (hT.kp h1 (by simp)) hts hs).mono fun r w' hh => ?_
  have hsz := h1.size
  rcases hh with ⟨he, hr, ho⟩ | ⟨he, hr, ho⟩
  · obtain ⟨F', v', hd', ht', hk, hF', hv'⟩ := ho
    refine Or.inl ⟨he, hr, v', ⟨F', hd', ht', h1.trans hk (fun x hx => Or.inr ?_), fun k hk => ?_, h3, fun k hk => ?_⟩, Oth.disk hd hk, hv'⟩
    · rw [List.mem_cons, List.mem_append] at hx
      rcases hx with rfl | hx | hx
      · exact h3
      · exact h4 x (by simpa using hx)
      · exact h2 x hx
    · rcases hF' k hk with h5 | h5
      · exact h2 k h5
      · omega
    · rcases hv' with h5 | h5
      · exact h4 k (by rw [← h5]; exact hk)
      · have := h5 k hk; omega
  · obtain ⟨F', hd', hk, hF'⟩ := ho
    obtain ⟨n1, n2⟩ := ht.no hd
    refine Or.inr ⟨he, hr, ⟨F', hd', ht.kp hk n1 (fun k hk => (n2 k hk).1), h1.trans hk (fun x hx => Or.inr (h2 x hx)), fun k hk => ?_, h3, h4⟩, Oth.disk hd hk⟩
    rcases hF' k hk with h5 | h5
    · exact h2 k h5
    · omega
theorem OwnT.step {d' : Dk} {f : Nat} {args : Array Value} {r : Ending} (h : OwnT w0 w p d t n v ts) (hc : ∀ F, DiskAt w p d F → Calls Tryz.prog f args w fun e w' => e = r ∧ Did w F p d' w') : Calls Tryz.prog f args w fun e w' => e = r ∧ OwnT w0 w' p d' t n v ts ∧ Oth [] w w' := by
  obtain ⟨F, hd, ht, h1, h2, h3⟩ := id h
  refine (hc F hd).mono fun e w' hh => ⟨hh.1, ?_⟩
  obtain ⟨F', hd', hk, hF'⟩ := hh.2
  obtain ⟨n1, n2⟩ := ht.no hd
  refine ⟨⟨F', hd', ht.kp hk n1 (fun k hk => (n2 k hk).1), h1.trans hk (fun x hx => Or.inr (h2 x hx)), fun k hk => ?_, h3⟩, Oth.disk hd hk⟩
  rcases hF' k hk with h5 | h5
  · exact h2 k h5
  · have := h1.size; omega
theorem OwnT.sync (h : OwnT w0 w p d t n v ts) : Calls Tryz.prog 18 #[.pointer (some ⟨t, 0, none⟩)] w fun e w' => e = .returned (.int .i64 d.syE) ∧ OwnT w0 w' p d.syD t n v ts ∧ Oth [] w w' := h.step fun F hd => tsync_any t p n v ts d F w h.at hd
theorem OwnT.crash (h : OwnT w0 w p d t n v ts) (k u : Int) (hu : u ≤ 9223372036854775807) : Calls Tryz.prog 26 #[.pointer (some ⟨p, 0, none⟩), .int .i64 k, .int .i64 u] w fun e w' => e = .returned (.tuple #[]) ∧ OwnT w0 w' p (d.crash k u) t n v ts ∧ Oth [] w w' := h.step fun F hd => crash_any k u p d F w hd hu
theorem OwnT.fuse (h : OwnT w0 w p d t n v ts) (k : Int) (hk : k ≤ 9223372036854775807) : Calls Tryz.prog 24 #[.pointer (some ⟨p, 0, none⟩), .int .i64 k] w fun e w' => e = .returned (.int .i64 (Dk.fuE k)) ∧ OwnT w0 w' p (d.fuD k) t n v ts ∧ Oth [] w w' := h.step fun F hd => fuse_any p d F k w hd hk
theorem OwnT.write (h : OwnT w0 w p d t n v ts) (a : ByteArray) (m : Int) (s : ByteArray) (hn : a.size ≤ 9223372036854775807) (hm0 : -9223372036854775808 ≤ m) (hm1 : m ≤ 9223372036854775807) (hs : s.size ≤ 9223372036854775807) :
    Calls Tryz.prog 28 #[.pointer (some ⟨p, 0, none⟩), .string a, .int .i64 m, .string s] w fun e w' => e = .returned (.int .i64 (d.wrE a m s)) ∧ OwnT w0 w' p (d.wrD a m s) t n v ts ∧ Oth [] w w' := h.step fun F hd => write_any a m s p d F w hd hn hm0 hm1 hs
end
end Go.Proofs.YtboffmbaaokbnaaGreatDoor
