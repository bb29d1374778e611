/-
  Crash of a disk.
  Plain facts on files by their names, of no program.
  Snapshots on a disk, plainly: a file's name and how it is taken apart, the manifest, what each call answers and leaves.
-/
import Derived.Test.YtdmckgcbmbhmmaaGreatDoorRw14
import Derived.Test.YtdmckgcbmbhmmaaGreatDoorRw06
import Derived.Test.YtdmckgcbmbhmmaaGreatDoorRw08
import Derived.Lib.ItoaNum
namespace Go.Proofs.YtdmckgcbmbhmmaaGreatDoor
open Go.RowKit

theorem kept_le (d : Dk) (keep : Int) : d.kept keep ≤ d.wait.length ∧ min (max keep 0) (d.wait.length : Int) = (d.kept keep : Int) := by
  unfold Dk.kept
  have h0 : 0 ≤ min (max keep 0) (d.wait.length : Int) := by omega
  refine ⟨by omega, (Int.toNat_of_nonneg h0).symm⟩
theorem room_torn {fs : Fs} (hn : (fs.map (·.1)).Nodup) (hr : Room fs) (t : Int) : ∀ {c : Chg}, Can fs c → Room (torn fs t c)
  | .wr n pos s, h => by
    unfold torn
    by_cases h0 : t < 0
    · simp only [h0, if_true]; exact hr
    · simp only [h0, if_false]
      obtain ⟨hf, ⟨hm1, hm2⟩, hm3⟩ := h
      have e1 := total_with hn n (over (hasF fs n) pos s.data.toList)
      have e2 := total_with hn n (over (hasF fs n) pos (s.data.toList.take t.toNat))
      have o1 := over_len (hasF fs n) pos s.data.toList hf.1
      have o2 := over_len (hasF fs n) pos (s.data.toList.take t.toNat) hf.1
      have hl : (s.data.toList.take t.toNat).length ≤ s.data.toList.length := by rw [List.length_take]; omega
      have hdn : dnm n = true := hm3 (n, over (hasF fs n) pos s.data.toList) ((withF_perm fs n _).mem_iff.2 (by simp))
      refine ⟨⟨?_, ?_⟩, names_with hr.2 hdn _⟩
      · have hm1' : total (withF fs n (over (hasF fs n) pos s.data.toList)) ≤ 262144 := hm1
        show total (withF fs n (over (hasF fs n) pos (s.data.toList.take t.toNat))) ≤ 262144
        have : (over (hasF fs n) pos (s.data.toList.take t.toNat)).length ≤ (over (hasF fs n) pos s.data.toList).length := by rw [o1, o2]; omega
        omega
      · have hm2' : (withF fs n (over (hasF fs n) pos s.data.toList)).length ≤ 64 := hm2
        show (withF fs n (over (hasF fs n) pos (s.data.toList.take t.toNat))).length ≤ 64
        rw [len_with] at hm2' ⊢; exact hm2'
  | .ct _ _, _ => hr
  | .rn _ _, _ => hr
  | .rm _, _ => hr
theorem nodup_made {fs : Fs} (hn : (fs.map (·.1)).Nodup) : ∀ c : Chg, ((made fs c).map (·.1)).Nodup := by
  have hw : ∀ {fs : Fs}, (fs.map (·.1)).Nodup → ∀ n d, ((withF fs n d).map (·.1)).Nodup := fun {fs} hn n d => by
    refine ((withF_perm fs n d).map (·.1)).nodup_iff.2 ?_
    rw [List.map_cons, List.nodup_cons]
    refine ⟨fun hm => ?_, nodup_without hn n⟩
    obtain ⟨q, hq, he⟩ := List.mem_map.1 hm
    have := (List.mem_filter.1 hq).2
    simp [he] at this
  intro c
  cases c with
  | wr n pos d => exact hw hn _ _
  | ct n len => exact hw hn _ _
  | rn a b => exact hw (nodup_without hn a) _ _
  | rm n => exact nodup_without hn n
theorem nodup_play : ∀ {fs : Fs} (cs : List Chg), (fs.map (·.1)).Nodup → ((playAll fs cs).map (·.1)).Nodup
  | _, [], h => h
  | fs, c :: cs, h => nodup_play (fs := made fs c) cs (nodup_made h c)
theorem Inv.crash {d : Dk} (h : Inv d) (hn : (d.safe.map (·.1)).Nodup) (keep t : Int) : Inv (d.crash keep t) := by
  obtain ⟨hk, _⟩ := kept_le d keep
  have hr : Room (playAll d.safe (d.wait.take (d.kept keep))) := canAll_room h.room (canAll_take _ h.can)
  have : Room (d.left' keep t) := by
    unfold Dk.left'
    rcases Nat.lt_or_ge (d.kept keep) d.wait.length with h1 | h1
    · rw [List.getElem?_eq_getElem h1]
      exact room_torn (nodup_play _ hn) hr t (canAll_get _ h1 h.can)
    · rw [List.getElem?_eq_none h1]; exact hr
  exact ⟨rfl, trivial, this, by simp [Dk.crash], by simp [Dk.crash], by simp [Dk.crash]⟩
/-- The disk that a crash leaves. -/
theorem DkAt.reset {w w4 : World} {p bs bn bn' : Nat} {wv : Value} {Ls Ln Ln' : List Nat} {d : Dk} {fs : Fs} (h : DkAt w p bs bn wv Ls Ln d) (hk : Kp [] w w4) (hf : FilesAt w4 bn' fs Ln') (hb : w.heap.size ≤ bn') (hL : ∀ k ∈ Ln', w.heap.size ≤ k) (hs : d.safe = fs) :
    DkAt (((((w4.setCell ⟨p, 0, none⟩ (.map (some bs))).setCell ⟨p, 1, none⟩ (.map (some bn'))).setCell ⟨p, 2, none⟩ (.slice none 0 0)).setCell ⟨p, 3, none⟩ (.int .i64 (-1))).setCell ⟨p, 4, none⟩ (.bool false)) p bs bn' nilS Ls Ln' ⟨fs, fs, [], -1, false⟩ ∧
    Kp [p] w4 (((((w4.setCell ⟨p, 0, none⟩ (.map (some bs))).setCell ⟨p, 1, none⟩ (.map (some bn'))).setCell ⟨p, 2, none⟩ (.slice none 0 0)).setCell ⟨p, 3, none⟩ (.int .i64 (-1))).setCell ⟨p, 4, none⟩ (.bool false)) := by
  obtain ⟨q1, q2, q3, q4, q5, q6, _⟩ := h.pm
  have hlt := h.lt
  have np : ∀ k, k ≠ p → k ∉ [p] := fun k hk hm => hk (by simpa using hm)
  have bx := (h.box.kp hk (by simp))
  have b5 := ((((bx.set 0 (.map (some bs))).set 1 (.map (some bn'))).set 2 (.slice none 0 0)).set 3 (.int .i64 (-1))).set 4 (.bool false)
  have k5 : Kp [p] w4 (((((w4.setCell ⟨p, 0, none⟩ (.map (some bs))).setCell ⟨p, 1, none⟩ (.map (some bn'))).setCell ⟨p, 2, none⟩ (.slice none 0 0)).setCell ⟨p, 3, none⟩ (.int .i64 (-1))).setCell ⟨p, 4, none⟩ (.bool false)) :=
    ((((kp_set _ _ _ _).trans (kp_set _ _ _ _) (by simp)).trans (kp_set _ _ _ _) (by simp)).trans (kp_set _ _ _ _) (by simp)).trans (kp_set _ _ _ _) (by simp)
  refine ⟨⟨b5, ?_, ?_, WaitsAt.nil _, ?_, fun k h1 h2 => ?_⟩, k5⟩
  · subst hs
    exact (h.safe.kp hk (by simp) (by simp)).kp k5 (np _ q1.symm) (fun k hm => np k (fun e => q4 (by rw [← e]; exact hm)))
  · exact hf.kp k5 (np _ (by omega)) (fun k hm => np k (by have := hL k hm; omega))
  · have := h.safe.lt; omega
  · have := hL k h2
    have := (h.safe.rows h1).1
    omega
theorem cell_reset {w : World} {p : Nat} {v a b c e x : Value} (h : w.cell? ⟨p, 0, none⟩ = some x) : (((((w.setCell ⟨p, 0, none⟩ v).setCell ⟨p, 1, none⟩ a).setCell ⟨p, 2, none⟩ b).setCell ⟨p, 3, none⟩ c).setCell ⟨p, 4, none⟩ e).cell? ⟨p, 0, none⟩ = some v := by
  have hb : ∀ (u : World) (i : Nat) (y : Value), i ≠ 0 → (u.setCell ⟨p, i, none⟩ y).cell? ⟨p, 0, none⟩ = u.cell? ⟨p, 0, none⟩ := fun u i y hi => by
    unfold World.setCell World.cell?
    cases hu : u.heap[p]? with
    | none => simp [hu, Array.getElem?_modify]
    | some o => cases o <;> simp [hu, Array.getElem?_modify, hi]
  rw [hb _ 4 _ (by decide), hb _ 3 _ (by decide), hb _ 2 _ (by decide), hb _ 1 _ (by decide)]
  exact World.cell?_setCell_same _ _ _ h
set_option maxHeartbeats 4000000 in
set_option maxRecDepth 100000 in
theorem crash_any (keep t : Int) (p : Nat) (d : Dk) (F : List Nat) (w : World) (h : DiskAt w p d F) (ht : t ≤ 9223372036854775807) :
    Calls Tryz.prog 19 #[.pointer (some ⟨p, 0, none⟩), .int .i64 keep, .int .i64 t] w fun e w' => e = .returned (.tuple #[]) ∧ Did w F p (d.crash keep t) w' := by
  obtain ⟨hkl, hke⟩ := kept_le d keep
  have hinv := h.inv
  obtain ⟨bs, bn, wv, Ls, Ln, ha, hF, _⟩ := h
  have hI := hinv.crash ha.safe.nodup keep t
  have hleft : d.left' keep t = match d.wait[d.kept keep]? with
    | some c => torn (playAll d.safe (d.wait.take (d.kept keep))) t c
    | none => playAll d.safe (d.wait.take (d.kept keep)) := rfl
  have hcr : d.crash keep t = ⟨d.left' keep t, d.left' keep t, [], -1, false⟩ := rfl
  rw [hcr] at hI ⊢
  have st := settle_any p bs bn wv Ls Ln d (d.kept keep) w ha hkl hinv.can
  obtain ⟨ad, cap, hwv, hcap, hcm⟩ := ha.wait.form
  have c0 := ha.cells
  rw [hwv] at c0
  have hroomL : Room (d.left' keep t) := hI.room
  generalize d.left' keep t = LL at *
  generalize d.kept keep = K at *
  have ST := hide st
  have HI := hide hI
  have HIN := hide hinv
  have HLEFT := hide hleft
  have HWV := hide hwv
  have HF := hide hF
  have hlen : d.wait.length ≤ 1024 := hinv.few
  clear st hI hinv hleft ha hcr hF hwv
  go_enter Tryz.func19, Tryz.ntmps19
  go_wp2_with fail
  refine (unhide ST).mono ?_
  rintro e w2 ⟨rfl, Ls2, ha2, hk2, hL2⟩
  have c2 := ha2.cells
  rw [unhide HWV] at c2
  clear c0 ST
  -- the rest, whatever was torn
  have fin : ∀ (w3 : World) (Ls3 : List Nat), DkAt w3 p bs bn wv Ls3 Ln { d with safe := LL } → Kp (bs :: Ls) w w3 → (∀ k ∈ Ls3, k ∈ Ls ∨ w.heap.size ≤ k) → Hid (∀ b' Ln' w4, FilesAt w4 b' LL Ln' → Kp [] w3 w4 → w3.heap.size ≤ b' → (∀ k ∈ Ln', w3.heap.size ≤ k) →
      Did w F p ⟨LL, LL, [], -1, false⟩ (((((w4.setCell ⟨p, 0, none⟩ (.map (some bs))).setCell ⟨p, 1, none⟩ (.map (some b'))).setCell ⟨p, 2, none⟩ (.slice none 0 0)).setCell ⟨p, 3, none⟩ (.int .i64 (-1))).setCell ⟨p, 4, none⟩ (.bool false))) := by
    intro w3 Ls3 h3 hk3 hL3 b' Ln' w4 hf4 hk4 hb' hLn'
    obtain ⟨hD, hkD⟩ := h3.reset hk4 hf4 hb' hLn' rfl
    have hs3 := hk3.size
    have hFe := unhide HF
    refine Did.of hD (unhide HI) ?_ (fun k hk => ?_)
    · refine ((hk3.mono (fun x hx => ?_)).trans hk4 (by simp)).trans hkD (fun x hx => ?_)
      · rw [hFe]; unfold foot; rw [List.mem_cons] at hx; rcases hx with rfl | hx <;> simp [*]
      · rw [hFe]; unfold foot; simp at hx; simp [hx]
    · rw [hFe]
      unfold foot at hk ⊢
      simp only [nilS, Value.ownBlock, Option.toList_none, List.nil_append, List.mem_cons, List.mem_append] at hk ⊢
      rcases hk with h1 | h1 | h1 | h1 | h1
      · exact Or.inl (Or.inl h1)
      · exact Or.inl (Or.inr (Or.inl h1))
      · right; omega
      · rcases hL3 k h1 with h2 | h2
        · exact Or.inl (Or.inr (Or.inr (Or.inr (Or.inr (Or.inl h2)))))
        · exact Or.inr h2
      · right; have := hLn' k h1; omega
  have FIN := hide fin
  clear fin
  by_cases hlt : K < d.wait.length
  · have hwt := ha2.wait
    have hne : wv ≠ nilS := fun e => by
      rw [unhide HWV] at e
      unfold nilS at e
      simp only [Value.slice.injEq] at e
      omega
    obtain ⟨g, rfl⟩ : ∃ g, ad = some ⟨g, 0, none⟩ := by
      obtain ⟨_, ⟨h1, _⟩ | ⟨g, cp, cur, h1, _⟩⟩ := hwt
      · exact absurd h1 hne
      · rw [unhide HWV] at h1
        simp only [Value.slice.injEq] at h1
        exact ⟨g, h1.1⟩
    rw [unhide HWV] at hwt
    have hcell := hwt.cell K hlt
    have hfit := (canAll_get K hlt (unhide HIN).can).1
    have hL := unhide HLEFT
    rw [List.getElem?_eq_getElem hlt] at hL
    dsimp only at hL
    have hkd2 := Kp.drew w2
    have hada := ha2.kp hkd2 (by simp)
    have te := tear_any d.wait[K] t bs _ Ls2 w2.drew hada.safe hfit ht
    dsimp only at te
    rw [← hL] at te
    have TE := hide te
    have HAD := hide hada
    have hli : (K : Int) < (d.wait.length : Int) := by omega
    have hl0 : (0 : Int) ≤ (K : Int) := by omega
    have cd : w2.drew.cell? ⟨p, 0, none⟩ = some (.map (some bs)) ∧ w2.drew.cell? ⟨p, 2, none⟩ = some (.slice (some ⟨g, 0, none⟩) d.wait.length cap) ∧ w2.drew.cell? ⟨g, K, none⟩ = some (chV d.wait[K]) := ⟨c2.1, c2.2.2.1, hcell⟩
    have HK2 := hide hk2
    have HL2 := hide hL2
    clear te hada hwt hfit hL hcell ha2 hne hk2 hL2
    generalize hcv : chV d.wait[K] = cv at *
    have HCV := hide hcv
    clear hcv
    go_wp2_with fail
    go_region_held3 (fun W => W.cell? ⟨p, 0, none⟩ = some (.map (some bs)) ∧ W.cell? ⟨p, 2, none⟩ = some (.slice (some ⟨g, 0, none⟩) d.wait.length cap) ∧ W.cell? ⟨g, K, none⟩ = some cv) (first | with_reducible exact cd | with_reducible exact ce)
      (first
        | (go_at_call 49; refine (unhide TE).mono ?_; rintro e w3 ⟨rfl, hm3⟩;
           obtain ⟨Ls3, ha3, hk3, hL3⟩ := (unhide HAD).newSafe hm3;
           have hw3 := ha3.wait;
           rw [unhide HWV] at hw3;
           have ce : w3.cell? ⟨p, 0, none⟩ = some (.map (some bs)) ∧ w3.cell? ⟨p, 2, none⟩ = some (.slice (some ⟨g, 0, none⟩) d.wait.length cap) ∧ w3.cell? ⟨g, K, none⟩ = some cv := ⟨ha3.cells.1, by rw [← unhide HWV]; exact ha3.cells.2.2.1, by rw [← unhide HCV]; exact hw3.cell K hlt⟩))
    have ha3' : DkAt w3 p bs bn wv Ls3 Ln { d with safe := LL } := ha3
    have hsz2 := (unhide HK2).size
    have hkA : Kp (bs :: Ls) w w3 := ((unhide HK2).trans (Kp.drew w2) (by simp)).trans hk3 (fun x hx => by
      rw [List.mem_cons] at hx
      rcases hx with rfl | hx
      · exact Or.inl (by simp)
      · rcases unhide HL2 x hx with h1 | h1
        · exact Or.inl (by simp [h1])
        · exact Or.inr h1)
    have hLA : ∀ k ∈ Ls3, k ∈ Ls ∨ w.heap.size ≤ k := fun k hk => by
      rcases hL3 k hk with h1 | h1
      · exact unhide HL2 k h1
      · have e1 : w2.drew.heap.size = w2.heap.size := rfl
        exact Or.inr (by omega)
    clear ha3 hm3 hk3 hL3 hw3 ce cd
    have ha3 := ha3'
    clear ha3'
    go_wp2_with fail
    have had3 := ha3.kp (Kp.drew w3) (by simp)
    have cg := had3.cells
    have cf := clone_files bs LL Ls3 w3.drew had3.safe hroomL.1.1
    have FN := unhide FIN w3 Ls3 ha3 hkA hLA
    have CF := hide cf
    have HFN := hide FN
    have c4 : w3.drew.cell? ⟨p, 0, none⟩ = some (.map (some bs)) := cg.1
    have hcs := fun W (hk : Kp [] w3.drew W) => And.intro (had3.kp hk (by simp)).cells (had3.kp hk (by simp)).frozs
    have HCS := hide hcs
    clear cf FN had3 cg hcs ha3
    go_region_held3 (fun W => W.cell? ⟨p, 0, none⟩ = some (.map (some bs))) (first | with_reducible exact c4 | with_reducible exact c5 | with_reducible exact c6)
      (first
        | (go_at_call 50; refine (unhide CF).mono ?_; rintro e w4 ⟨b4, L4, rfl, hf4, hk4, hb4, hL4⟩;
           obtain ⟨cs4, fs4⟩ := unhide HCS w4 hk4;
           have c5 : w4.cell? ⟨p, 0, none⟩ = some (.map (some bs)) := cs4.1;
           have hdid := unhide HFN b4 L4 w4 hf4 ((Kp.drew w3).trans hk4 (by simp)) hb4 hL4;
           have c6 : (((((w4.setCell ⟨p, 0, none⟩ (.map (some bs))).setCell ⟨p, 1, none⟩ (.map (some b4))).setCell ⟨p, 2, none⟩ (.slice none 0 0)).setCell ⟨p, 3, none⟩ (.int .i64 (-1))).setCell ⟨p, 4, none⟩ (.bool false)).cell? ⟨p, 0, none⟩ = some (.map (some bs)) := (cell_reset cs4.1);
           have HDID := hide hdid; clear hdid))
    go_wp2
    go_end0
    exact ⟨rfl, unhide HDID⟩
  · obtain rfl : K = d.wait.length := by omega
    have hL := unhide HLEFT
    rw [List.getElem?_eq_none (Nat.le_refl _)] at hL
    dsimp only at hL
    rw [← hL] at ha2
    have hkA := hk2
    have hLA := hL2
    have hni : ¬ ((d.wait.length : Int) < (d.wait.length : Int)) := by omega
    clear hL hk2 hL2
    go_wp2_with fail
    have had2 := ha2.kp (Kp.drew w2) (by simp)
    have cg := had2.cells
    have cf := clone_files bs LL Ls2 w2.drew had2.safe hroomL.1.1
    have FN := unhide FIN w2 Ls2 ha2 hkA hLA
    have CF := hide cf
    have HFN := hide FN
    have c4 : w2.drew.cell? ⟨p, 0, none⟩ = some (.map (some bs)) := cg.1
    have hcs := fun W (hk : Kp [] w2.drew W) => And.intro (had2.kp hk (by simp)).cells (had2.kp hk (by simp)).frozs
    have HCS := hide hcs
    clear cf FN had2 cg hcs ha2
    go_region_held3 (fun W => W.cell? ⟨p, 0, none⟩ = some (.map (some bs))) (first | with_reducible exact c4 | with_reducible exact c5 | with_reducible exact c6)
      (first
        | (go_at_call 50; refine (unhide CF).mono ?_; rintro e w4 ⟨b4, L4, rfl, hf4, hk4, hb4, hL4⟩;
           obtain ⟨cs4, fs4⟩ := unhide HCS w4 hk4;
           have c5 : w4.cell? ⟨p, 0, none⟩ = some (.map (some bs)) := cs4.1;
           have hdid := unhide HFN b4 L4 w4 hf4 ((Kp.drew w2).trans hk4 (by simp)) hb4 hL4;
           have c6 : (((((w4.setCell ⟨p, 0, none⟩ (.map (some bs))).setCell ⟨p, 1, none⟩ (.map (some b4))).setCell ⟨p, 2, none⟩ (.slice none 0 0)).setCell ⟨p, 3, none⟩ (.int .i64 (-1))).setCell ⟨p, 4, none⟩ (.bool false)).cell? ⟨p, 0, none⟩ = some (.map (some bs)) := (cell_reset cs4.1);
           have HDID := hide hdid; clear hdid))
    go_wp2
    go_end0
    exact ⟨rfl, unhide HDID⟩
end Go.Proofs.YtdmckgcbmbhmmaaGreatDoor
namespace Go.Proofs.YtdmckgcbmbhmmaaGreatDoor

theorem getF_perm {a b : Fs} (hp : a.Perm b) (hn : (a.map (·.1)).Nodup) (n : ByteArray) : getF a n = getF b n := by
  have hnb : (b.map (·.1)).Nodup := (hp.map _).nodup_iff.1 hn
  cases h : getF b n with
  | none =>
    refine getF_none fun hm => ?_
    obtain ⟨q, hq, he⟩ := List.mem_map.1 hm
    have := getF_mem hnb (n := n) (d := q.2) (by rw [← he]; exact hp.mem_iff.1 hq)
    rw [h] at this; cases this
  | some d => exact getF_mem hn (hp.mem_iff.2 (getF_some h))
theorem getF_without_ne {fs : Fs} (hn : (fs.map (·.1)).Nodup) {m n : ByteArray} (hne : n ≠ m) : getF (without fs m) n = getF fs n := by
  cases h : getF fs n with
  | none =>
    refine getF_none fun hm => ?_
    obtain ⟨q, hq, he⟩ := List.mem_map.1 hm
    have := getF_mem hn (n := n) (d := q.2) (by rw [← he]; exact (List.mem_filter.1 hq).1)
    rw [h] at this; cases this
  | some d => exact getF_mem (nodup_without hn m) (List.mem_filter.2 ⟨getF_some h, by simpa using hne⟩)
theorem nodup_with {fs : Fs} (hn : (fs.map (·.1)).Nodup) (n : ByteArray) (d : List UInt8) : ((withF fs n d).map (·.1)).Nodup := nodup_made hn (.wr n 0 ⟨#[]⟩) |> fun _ => by
  refine ((withF_perm fs n d).map (·.1)).nodup_iff.2 ?_
  rw [List.map_cons, List.nodup_cons]
  refine ⟨fun hm => ?_, nodup_without hn n⟩
  obtain ⟨q, hq, he⟩ := List.mem_map.1 hm
  have := (List.mem_filter.1 hq).2
  simp [he] at this
theorem getF_with {fs : Fs} (hn : (fs.map (·.1)).Nodup) (m n : ByteArray) (d : List UInt8) : getF (withF fs m d) n = if n = m then some d else getF fs n := by
  have hw := nodup_with hn m d
  rw [getF_perm (withF_perm fs m d) hw]
  by_cases h : n = m
  · subst h
    rw [if_pos rfl]
    unfold getF
    rw [List.find?_cons_of_pos (by simp)]; rfl
  · rw [if_neg h, ← getF_without_ne hn h]
    unfold getF
    rw [List.find?_cons_of_neg (by simpa using Ne.symm h)]
end Go.Proofs.YtdmckgcbmbhmmaaGreatDoor
namespace Go.Proofs.YtdmckgcbmbhmmaaGreatDoor

/-- The file of a task. -/
def sNm (c t : Nat) : ByteArray := ⟨(115 :: 46 :: (Lib.decDigits c ++ 46 :: Lib.decDigits t)).toArray⟩
def mNm : ByteArray := ⟨#[109]⟩
def mNew : ByteArray := ⟨#[109, 46, 110, 101, 119]⟩
/-- A text up to the first point, and what is behind it. -/
def upA (l : List UInt8) : List UInt8 := l.takeWhile fun b => decide (b ≠ 46)
def upB (l : List UInt8) : List UInt8 := (l.dropWhile fun b => decide (b ≠ 46)).drop 1
/-- Digits read on. -/
def nuF : List UInt8 → Nat → Bool → Option Nat
  | [], n, _ => some n
  | c :: l, n, first => if (c.toNat < 48 ∨ 57 < c.toNat) ∨ (first = false ∧ n = 0) then none else if 1073741824 < n * 10 + (c.toNat - 48) then none else nuF l (n * 10 + (c.toNat - 48)) false
def nuO (l : List UInt8) : Option Nat := if l = [] then none else nuF l 0 true
/-- The numbers of a task's file. -/
def snP (l : List UInt8) : Option (Nat × Nat) :=
  if upA l = [115] then
    match nuO (upA (upB l)), nuO (upB (upB l)) with
    | some c, some t => if 1 ≤ c ∧ t ≤ 32 then some (c, t) else none
    | _, _ => none
  else none
def Dk.oneR (d : Dk) (n : ByteArray) : List UInt8 × Int × Int × Int := unfS (d.rdS n).data.toList 0
def Dk.oneE (d : Dk) (n : ByteArray) : Int := if d.rdE n = 0 then (if (d.oneR n).2.2.2 = 0 ∧ (d.oneR n).2.1 = ((d.rdS n).size : Int) then 0 else 40) else d.rdE n
def Dk.oneS (d : Dk) (n : ByteArray) : ByteArray := if d.oneE n = 0 then ⟨(d.oneR n).1.toArray⟩ else ⟨#[]⟩
/-- What a manifest says. -/
structure Mf where
  c : Int
  t : Int
  s : ByteArray
def Mf.z : Mf := ⟨0, 0, ⟨#[]⟩⟩
def mfL : List It → Option Mf
  | [a, b, x] => if (a.t = false ∧ b.t = false ∧ x.t = true) ∧ (1 ≤ a.n ∧ a.n ≤ 1073741824) ∧ 1 ≤ b.n ∧ b.n ≤ 33 then some ⟨a.n, b.n, x.s⟩ else none
  | _ => none
def mfO (l : List UInt8) : Option Mf := if (decS l).2.2 = 0 then mfL (decS l).1 else none
def Dk.laE (d : Dk) : Int := if d.oneE mNm = 0 then (if (mfO (d.oneS mNm).data.toList).isSome then 0 else 40) else d.oneE mNm
def Dk.laM (d : Dk) : Mf := if d.oneE mNm = 0 then (mfO (d.oneS mNm).data.toList).getD Mf.z else Mf.z
/-- One step behind another. -/
def bnd (r : Int × Dk) (f : Dk → Int × Dk) : Int × Dk := if r.1 = 0 then f r.2 else r
def Dk.sy (d : Dk) : Int × Dk := (d.syE, d.syD)
def Dk.rn (d : Dk) (a b : ByteArray) : Int × Dk := (d.rnE a b, d.rnD a b)
def Dk.anew (d : Dk) (n b : ByteArray) : Int × Dk := if d.rmE n = 0 ∨ d.rmE n = 5 then ((d.rmD n).wrE n 0 b, (d.rmD n).wrD n 0 b) else (d.rmE n, d.rmD n)
def Dk.ahE (d : Dk) (c : Int) : Int := if d.laE = 0 ∨ d.laE = 5 then (if c ≤ d.laM.c then 220 else 0) else d.laE
def Dk.put (d : Dk) (c t : Int) (b : ByteArray) : Int × Dk :=
  if (1 ≤ c ∧ c ≤ 1073741824) ∧ 0 ≤ t ∧ t ≤ 32 then (if frE b = 0 then (if d.ahE c = 0 then d.anew (sNm c.toNat t.toNat) (frS b) else (d.ahE c, d)) else (frE b, d)) else (1, d)
def Dk.allB (d : Dk) (c n : Nat) : Bool := (List.range n).all fun t => decide (d.oneE (sNm c t) = 0)
def mfI (c t : Int) (s : ByteArray) : List It := [⟨false, c, ⟨#[]⟩⟩, ⟨false, t, ⟨#[]⟩⟩, ⟨true, 0, s⟩]
def mfB (c t : Int) (s : ByteArray) : ByteArray := frS (encS (mfI c t s))
def Dk.place (d : Dk) (b : ByteArray) : Int × Dk := bnd d.sy fun d1 => bnd (d1.anew mNew b) fun d2 => bnd d2.sy fun d3 => bnd (d3.rn mNew mNm) Dk.sy
def Dk.commit (d : Dk) (c t : Int) (s : ByteArray) : Int × Dk :=
  if (1 ≤ c ∧ c ≤ 1073741824) ∧ 1 ≤ t ∧ t ≤ 33 then (if 60000 < s.size then (2, d) else if d.ahE c = 0 then (if d.allB c.toNat t.toNat = true then d.place (mfB c t s) else (220, d)) else (d.ahE c, d)) else (1, d)
def Dk.reE (d : Dk) (c t : Int) : Int := if (1 ≤ c ∧ c ≤ 1073741824) ∧ 0 ≤ t ∧ t ≤ 32 then d.oneE (sNm c.toNat t.toNat) else 1
def Dk.reS (d : Dk) (c t : Int) : ByteArray := if (1 ≤ c ∧ c ≤ 1073741824) ∧ 0 ≤ t ∧ t ≤ 32 then d.oneS (sNm c.toNat t.toNat) else ⟨#[]⟩
/-- Is a name that of another snapshot's task? -/
def otB (c : Int) (n : ByteArray) : Bool := match snP n.data.toList with | some q => decide ((q.1 : Int) ≠ c) | none => false
def clF (c : Int) : List ByteArray → Int → Dk → Int × Int × Dk
  | [], k, d => (k, 0, d)
  | n :: l, k, d => if otB c n = true then (if d.rmE n = 0 then clF c l (k + 1) (d.rmD n) else (0, d.rmE n, d.rmD n)) else clF c l k d

/-! Names. -/
theorem digit_at (k : Nat) (h : k < 10) : (UInt8.ofNat (48 + k)).toNat = 48 + k := by rw [UInt8.toNat_ofNat']; omega
theorem digs_mem (u : Nat) : ∀ b ∈ Lib.decDigits u, 48 ≤ b.toNat ∧ b.toNat ≤ 57 := by
  induction u using Nat.strongRecOn with
  | _ u ih =>
    intro b hb
    by_cases h : u < 10
    · rw [Lib.decDigits, dif_pos h] at hb
      obtain rfl := List.mem_singleton.1 hb
      rw [digit_at u h]; omega
    · rw [Lib.decDigits, dif_neg h, List.mem_append] at hb
      rcases hb with hb | hb
      · exact ih (u / 10) (by omega) b hb
      · obtain rfl := List.mem_singleton.1 hb
        rw [digit_at _ (by omega)]; omega
theorem digs_len (u : Nat) : (Lib.decDigits u).length = Lib.nDigits u := by rw [Lib.decDigits_eq]; simp
theorem nd_le : ∀ (k u : Nat), u < 10 ^ (k + 1) → Lib.nDigits u ≤ k + 1
  | 0, u, h => by rw [Lib.nDigits_small (by simpa using h)]; exact Nat.le_refl _
  | k + 1, u, h => by
    by_cases h1 : u < 10
    · rw [Lib.nDigits_small h1]; omega
    · rw [Lib.nDigits_big h1]
      have := nd_le k (u / 10) (by rw [Nat.pow_succ] at h; omega)
      omega
theorem digs_few (u : Nat) (h : u ≤ 1073741824) : (Lib.decDigits u).length ≤ 10 := by
  rw [digs_len]
  exact nd_le 9 u (by omega)
theorem nuF_digs (u : Nat) (h1 : 1 ≤ u) (h2 : u ≤ 1073741824) (r : List UInt8) : nuF (Lib.decDigits u ++ r) 0 true = nuF r u false := by
  induction u using Nat.strongRecOn generalizing r with
  | _ u ih =>
    by_cases h : u < 10
    · rw [Lib.decDigits, dif_pos h]
      show nuF (UInt8.ofNat (48 + u) :: r) 0 true = _
      rw [nuF, digit_at u h, if_neg (by simp; omega), if_neg (by omega)]
      congr 1; omega
    · rw [Lib.decDigits, dif_neg h, List.append_assoc, ih (u / 10) (by omega) (by omega) (by omega)]
      show nuF (UInt8.ofNat (48 + u % 10) :: r) (u / 10) false = _
      rw [nuF, digit_at _ (by omega), if_neg (by simp; omega), if_neg (by omega)]
      congr 1; omega
theorem digs_ne (u : Nat) : Lib.decDigits u ≠ [] := fun h => by
  have := congrArg List.length h
  rw [digs_len] at this
  have := Lib.nDigits_pos u
  simp at *; omega
theorem nuO_digs (u : Nat) (h2 : u ≤ 1073741824) : nuO (Lib.decDigits u) = some u := by
  unfold nuO
  rw [if_neg (digs_ne u)]
  by_cases h1 : 1 ≤ u
  · have := nuF_digs u h1 h2 []
    rw [List.append_nil] at this
    exact this
  · obtain rfl : u = 0 := by omega
    rw [Lib.decDigits, dif_pos (by decide)]
    rfl
theorem up_app (l r : List UInt8) (h : ∀ b ∈ l, 48 ≤ b.toNat ∧ b.toNat ≤ 57) : upA (l ++ 46 :: r) = l ∧ upB (l ++ 46 :: r) = r := by
  have hl : ∀ b ∈ l, decide (b ≠ 46) = true := fun b hb => by
    have := h b hb
    simp only [decide_eq_true_eq]
    rintro rfl
    revert this; decide
  unfold upA upB
  rw [List.takeWhile_append_of_pos hl, List.dropWhile_append_of_pos hl]
  simp
theorem sNm_list (c t : Nat) : (sNm c t).data.toList = 115 :: 46 :: (Lib.decDigits c ++ 46 :: Lib.decDigits t) := by simp [sNm]
/-- A task's file is taken apart as it was made. -/
theorem snP_nm (c t : Nat) (h1 : 1 ≤ c) (h2 : c ≤ 1073741824) (h3 : t ≤ 32) : snP (sNm c t).data.toList = some (c, t) := by
  rw [sNm_list]
  have e1 : upA (115 :: 46 :: (Lib.decDigits c ++ 46 :: Lib.decDigits t)) = [115] := rfl
  have e2 : upB (115 :: 46 :: (Lib.decDigits c ++ 46 :: Lib.decDigits t)) = Lib.decDigits c ++ 46 :: Lib.decDigits t := rfl
  obtain ⟨e3, e4⟩ := up_app (Lib.decDigits c) (Lib.decDigits t) (digs_mem c)
  unfold snP
  rw [if_pos e1, e2, e3, e4, nuO_digs c h2, nuO_digs t (by omega)]
  dsimp only
  rw [if_pos ⟨h1, h3⟩]
theorem sNm_inj {c t c' t' : Nat} (h1 : 1 ≤ c) (h2 : c ≤ 1073741824) (h3 : t ≤ 32) (h1' : 1 ≤ c') (h2' : c' ≤ 1073741824) (h3' : t' ≤ 32) (h : sNm c t = sNm c' t') : c = c' ∧ t = t' := by
  have e := snP_nm c t h1 h2 h3
  rw [h, snP_nm c' t' h1' h2' h3'] at e
  simp at e
  exact ⟨e.1.symm, e.2.symm⟩
theorem sNm_size (c t : Nat) : (sNm c t).size = 3 + (Lib.decDigits c).length + (Lib.decDigits t).length := by
  have : (sNm c t).size = (sNm c t).data.toList.length := Array.length_toList.symm
  rw [this, sNm_list]
  simp; omega
theorem sNm_dnm (c t : Nat) (h2 : c ≤ 1073741824) (h3 : t ≤ 32) : dnm (sNm c t) = true := by
  unfold dnm
  have ha := digs_few c h2
  have hb := digs_few t (by omega)
  rw [sNm_size, sNm_list]
  have hd : ∀ u, (Lib.decDigits u).all dnb = true := fun u => List.all_eq_true.2 fun b hb => by
    have := digs_mem u b hb
    unfold dnb
    simp; omega
  simp only [List.all_cons, List.all_append, hd]
  have e1 : dnb 115 = true := by decide
  have e2 : dnb 46 = true := by decide
  rw [e1, e2]
  simp; omega
theorem sNm_ne_m (c t : Nat) : sNm c t ≠ mNm := fun h => by
  have := congrArg (fun x : ByteArray => x.data.toList) h
  rw [sNm_list] at this
  simp [mNm] at this
theorem sNm_ne_new (c t : Nat) : sNm c t ≠ mNew := fun h => by
  have := congrArg (fun x : ByteArray => x.data.toList) h
  rw [sNm_list] at this
  simp [mNew] at this
theorem mNew_ne_m : mNew ≠ mNm := by decide
theorem dnm_m : dnm mNm = true := by decide
theorem dnm_new : dnm mNew = true := by decide
theorem snP_m : snP mNm.data.toList = none := by decide
theorem snP_new : snP mNew.data.toList = none := by decide
end Go.Proofs.YtdmckgcbmbhmmaaGreatDoor
