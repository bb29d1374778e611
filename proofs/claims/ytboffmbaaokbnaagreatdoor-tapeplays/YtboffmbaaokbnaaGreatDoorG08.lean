/-
  Crash of a disk.
  Plain facts on files by their names, of no program.
  A disk that the call itself made.
  A tape's refusals: giving up, and what is caught at a face.
-/
import Derived.Test.YtboffmbaaokbnaaGreatDoorG07
import Derived.Recover
namespace Go.Proofs.YtboffmbaaokbnaaGreatDoor
open Go.RowKit

theorem kept_le (d : Dk) (keep : Int) : d.kept keep ≤ d.wait.length ∧ min (max keep 0) (d.wait.length : Int) = (d.kept keep : Int) := by
  unfold Dk.kept
  have h0 : 0 ≤ min (max keep 0) (d.wait.length : Int) := by omega
  refine ⟨by omega, (Int.toNat_of_nonneg h0).symm⟩
theorem room_torn {fs : Fs} (hn : (fs.map (·.1)).Nodup) (hr : Room fs) (t : Int) : ∀ {c : Chg}, Can fs c → Room (torn fs t c)
  | .wr n pos s, h => by
    unfold torn
    by_cases h0 : t < 0
    · simp only [h0, if_true]; exact hr
    · simp only [h0, if_false]
      obtain ⟨hf, ⟨hm1, hm2⟩, hm3⟩ := h
      have e1 := total_with hn n (over (hasF fs n) pos s.data.toList)
      have e2 := total_with hn n (over (hasF fs n) pos (s.data.toList.take t.toNat))
      have o1 := over_len (hasF fs n) pos s.data.toList hf.1
      have o2 := over_len (hasF fs n) pos (s.data.toList.take t.toNat) hf.1
      have hl : (s.data.toList.take t.toNat).length ≤ s.data.toList.length := by rw [List.length_take]; omega
      have hdn : dnm n = true := hm3 (n, over (hasF fs n) pos s.data.toList) ((withF_perm fs n _).mem_iff.2 (by simp))
      refine ⟨⟨?_, ?_⟩, names_with hr.2 hdn _⟩
      · have hm1' : total (withF fs n (over (hasF fs n) pos s.data.toList)) ≤ 262144 := hm1
        show total (withF fs n (over (hasF fs n) pos (s.data.toList.take t.toNat))) ≤ 262144
        have : (over (hasF fs n) pos (s.data.toList.take t.toNat)).length ≤ (over (hasF fs n) pos s.data.toList).length := by rw [o1, o2]; omega
        omega
      · have hm2' : (withF fs n (over (hasF fs n) pos s.data.toList)).length ≤ 64 := hm2
        show (withF fs n (over (hasF fs n) pos (s.data.toList.take t.toNat))).length ≤ 64
        rw [len_with] at hm2' ⊢; exact hm2'
  | .ct _ _, _ => hr
  | .rn _ _, _ => hr
  | .rm _, _ => hr
theorem nodup_made {fs : Fs} (hn : (fs.map (·.1)).Nodup) : ∀ c : Chg, ((made fs c).map (·.1)).Nodup := by
  have hw : ∀ {fs : Fs}, (fs.map (·.1)).Nodup → ∀ n d, ((withF fs n d).map (·.1)).Nodup := fun {fs} hn n d => by
    refine ((withF_perm fs n d).map (·.1)).nodup_iff.2 ?_
    rw [List.map_cons, List.nodup_cons]
    refine ⟨fun hm => ?_, nodup_without hn n⟩
    obtain ⟨q, hq, he⟩ := List.mem_map.1 hm
    have := (List.mem_filter.1 hq).2
    simp [he] at this
  intro c
  cases c with
  | wr n pos d => exact hw hn _ _
  | ct n len => exact hw hn _ _
  | rn a b => exact hw (nodup_without hn a) _ _
  | rm n => exact nodup_without hn n
theorem nodup_play : ∀ {fs : Fs} (cs : List Chg), (fs.map (·.1)).Nodup → ((playAll fs cs).map (·.1)).Nodup
  | _, [], h => h
  | fs, c :: cs, h => nodup_play (fs := made fs c) cs (nodup_made h c)
theorem Inv.crash {d : Dk} (h : Inv d) (hn : (d.safe.map (·.1)).Nodup) (keep t : Int) : Inv (d.crash keep t) := by
  obtain ⟨hk, _⟩ := kept_le d keep
  have hr : Room (playAll d.safe (d.wait.take (d.kept keep))) := canAll_room h.room (canAll_take _ h.can)
  have : Room (d.left' keep t) := by
    unfold Dk.left'
    rcases Nat.lt_or_ge (d.kept keep) d.wait.length with h1 | h1
    · rw [List.getElem?_eq_getElem h1]
      exact room_torn (nodup_play _ hn) hr t (canAll_get _ h1 h.can)
    · rw [List.getElem?_eq_none h1]; exact hr
  exact ⟨rfl, trivial, this, by simp [Dk.crash], by simp [Dk.crash], by simp [Dk.crash]⟩
/-- The disk that a crash leaves. -/
theorem DkAt.reset {w w4 : World} {p bs bn bn' : Nat} {wv : Value} {Ls Ln Ln' : List Nat} {d : Dk} {fs : Fs} (h : DkAt w p bs bn wv Ls Ln d) (hk : Kp [] w w4) (hf : FilesAt w4 bn' fs Ln') (hb : w.heap.size ≤ bn') (hL : ∀ k ∈ Ln', w.heap.size ≤ k) (hs : d.safe = fs) :
    DkAt (((((w4.setCell ⟨p, 0, none⟩ (.map (some bs))).setCell ⟨p, 1, none⟩ (.map (some bn'))).setCell ⟨p, 2, none⟩ (.slice none 0 0)).setCell ⟨p, 3, none⟩ (.int .i64 (-1))).setCell ⟨p, 4, none⟩ (.bool false)) p bs bn' nilS Ls Ln' ⟨fs, fs, [], -1, false⟩ ∧
    Kp [p] w4 (((((w4.setCell ⟨p, 0, none⟩ (.map (some bs))).setCell ⟨p, 1, none⟩ (.map (some bn'))).setCell ⟨p, 2, none⟩ (.slice none 0 0)).setCell ⟨p, 3, none⟩ (.int .i64 (-1))).setCell ⟨p, 4, none⟩ (.bool false)) := by
  obtain ⟨q1, q2, q3, q4, q5, q6, _⟩ := h.pm
  have hlt := h.lt
  have np : ∀ k, k ≠ p → k ∉ [p] := fun k hk hm => hk (by simpa using hm)
  have bx := (h.box.kp hk (by simp))
  have b5 := ((((bx.set 0 (.map (some bs))).set 1 (.map (some bn'))).set 2 (.slice none 0 0)).set 3 (.int .i64 (-1))).set 4 (.bool false)
  have k5 : Kp [p] w4 (((((w4.setCell ⟨p, 0, none⟩ (.map (some bs))).setCell ⟨p, 1, none⟩ (.map (some bn'))).setCell ⟨p, 2, none⟩ (.slice none 0 0)).setCell ⟨p, 3, none⟩ (.int .i64 (-1))).setCell ⟨p, 4, none⟩ (.bool false)) :=
    ((((kp_set _ _ _ _).trans (kp_set _ _ _ _) (by simp)).trans (kp_set _ _ _ _) (by simp)).trans (kp_set _ _ _ _) (by simp)).trans (kp_set _ _ _ _) (by simp)
  refine ⟨⟨b5, ?_, ?_, WaitsAt.nil _, ?_, fun k h1 h2 => ?_⟩, k5⟩
  · subst hs
    exact (h.safe.kp hk (by simp) (by simp)).kp k5 (np _ q1.symm) (fun k hm => np k (fun e => q4 (by rw [← e]; exact hm)))
  · exact hf.kp k5 (np _ (by omega)) (fun k hm => np k (by have := hL k hm; omega))
  · have := h.safe.lt; omega
  · have := hL k h2
    have := (h.safe.rows h1).1
    omega
theorem cell_reset {w : World} {p : Nat} {v a b c e x : Value} (h : w.cell? ⟨p, 0, none⟩ = some x) : (((((w.setCell ⟨p, 0, none⟩ v).setCell ⟨p, 1, none⟩ a).setCell ⟨p, 2, none⟩ b).setCell ⟨p, 3, none⟩ c).setCell ⟨p, 4, none⟩ e).cell? ⟨p, 0, none⟩ = some v := by
  have hb : ∀ (u : World) (i : Nat) (y : Value), i ≠ 0 → (u.setCell ⟨p, i, none⟩ y).cell? ⟨p, 0, none⟩ = u.cell? ⟨p, 0, none⟩ := fun u i y hi => by
    unfold World.setCell World.cell?
    cases hu : u.heap[p]? with
    | none => simp [hu, Array.getElem?_modify]
    | some o => cases o <;> simp [hu, Array.getElem?_modify, hi]
  rw [hb _ 4 _ (by decide), hb _ 3 _ (by decide), hb _ 2 _ (by decide), hb _ 1 _ (by decide)]
  exact World.cell?_setCell_same _ _ _ h
set_option maxHeartbeats 4000000 in
set_option maxRecDepth 100000 in
theorem crash_any (keep t : Int) (p : Nat) (d : Dk) (F : List Nat) (w : World) (h : DiskAt w p d F) (ht : t ≤ 9223372036854775807) :
    Calls Tryz.prog 26 #[.pointer (some ⟨p, 0, none⟩), .int .i64 keep, .int .i64 t] w fun e w' => e = .returned (.tuple #[]) ∧ Did w F p (d.crash keep t) w' := by
  obtain ⟨hkl, hke⟩ := kept_le d keep
  have hinv := h.inv
  obtain ⟨bs, bn, wv, Ls, Ln, ha, hF, _⟩ := h
  have hI := hinv.crash ha.safe.nodup keep t
  have hleft : d.left' keep t = match d.wait[d.kept keep]? with
    | some c => torn (playAll d.safe (d.wait.take (d.kept keep))) t c
    | none => playAll d.safe (d.wait.take (d.kept keep)) := rfl
  have hcr : d.crash keep t = ⟨d.left' keep t, d.left' keep t, [], -1, false⟩ := rfl
  rw [hcr] at hI ⊢
  have st := settle_any p bs bn wv Ls Ln d (d.kept keep) w ha hkl hinv.can
  obtain ⟨ad, cap, hwv, hcap, hcm⟩ := ha.wait.form
  have c0 := ha.cells
  rw [hwv] at c0
  have hroomL : Room (d.left' keep t) := hI.room
  generalize d.left' keep t = LL at *
  generalize d.kept keep = K at *
  have ST := hide st
  have HI := hide hI
  have HIN := hide hinv
  have HLEFT := hide hleft
  have HWV := hide hwv
  have HF := hide hF
  have hlen : d.wait.length ≤ 1024 := hinv.few
  clear st hI hinv hleft ha hcr hF hwv
  go_enter Tryz.func26, Tryz.ntmps26
  go_wp2_with fail
  refine (unhide ST).mono ?_
  rintro e w2 ⟨rfl, Ls2, ha2, hk2, hL2⟩
  have c2 := ha2.cells
  rw [unhide HWV] at c2
  clear c0 ST
  -- the rest, whatever was torn
  have fin : ∀ (w3 : World) (Ls3 : List Nat), DkAt w3 p bs bn wv Ls3 Ln { d with safe := LL } → Kp (bs :: Ls) w w3 → (∀ k ∈ Ls3, k ∈ Ls ∨ w.heap.size ≤ k) → Hid (∀ b' Ln' w4, FilesAt w4 b' LL Ln' → Kp [] w3 w4 → w3.heap.size ≤ b' → (∀ k ∈ Ln', w3.heap.size ≤ k) →
      Did w F p ⟨LL, LL, [], -1, false⟩ (((((w4.setCell ⟨p, 0, none⟩ (.map (some bs))).setCell ⟨p, 1, none⟩ (.map (some b'))).setCell ⟨p, 2, none⟩ (.slice none 0 0)).setCell ⟨p, 3, none⟩ (.int .i64 (-1))).setCell ⟨p, 4, none⟩ (.bool false))) := by
    intro w3 Ls3 h3 hk3 hL3 b' Ln' w4 hf4 hk4 hb' hLn'
    obtain ⟨hD, hkD⟩ := h3.reset hk4 hf4 hb' hLn' rfl
    have hs3 := hk3.size
    have hFe := unhide HF
    refine Did.of hD (unhide HI) ?_ (fun k hk => ?_)
    · refine ((hk3.mono (fun x hx => ?_)).trans hk4 (by simp)).trans hkD (fun x hx => ?_)
      · rw [hFe]; unfold foot; rw [List.mem_cons] at hx; rcases hx with rfl | hx <;> simp [*]
      · rw [hFe]; unfold foot; simp at hx; simp [hx]
    · rw [hFe]
      unfold foot at hk ⊢
      simp only [nilS, Value.ownBlock, Option.toList_none, List.nil_append, List.mem_cons, List.mem_append] at hk ⊢
      rcases hk with h1 | h1 | h1 | h1 | h1
      · exact Or.inl (Or.inl h1)
      · exact Or.inl (Or.inr (Or.inl h1))
      · right; omega
      · rcases hL3 k h1 with h2 | h2
        · exact Or.inl (Or.inr (Or.inr (Or.inr (Or.inr (Or.inl h2)))))
        · exact Or.inr h2
      · right; have := hLn' k h1; omega
  have FIN := hide fin
  clear fin
  by_cases hlt : K < d.wait.length
  · have hwt := ha2.wait
    have hne : wv ≠ nilS := fun e => by
      rw [unhide HWV] at e
      unfold nilS at e
      simp only [Value.slice.injEq] at e
      omega
    obtain ⟨g, rfl⟩ : ∃ g, ad = some ⟨g, 0, none⟩ := by
      obtain ⟨_, ⟨h1, _⟩ | ⟨g, cp, cur, h1, _⟩⟩ := hwt
      · exact absurd h1 hne
      · rw [unhide HWV] at h1
        simp only [Value.slice.injEq] at h1
        exact ⟨g, h1.1⟩
    rw [unhide HWV] at hwt
    have hcell := hwt.cell K hlt
    have hfit := (canAll_get K hlt (unhide HIN).can).1
    have hL := unhide HLEFT
    rw [List.getElem?_eq_getElem hlt] at hL
    dsimp only at hL
    have hkd2 := Kp.drew w2
    have hada := ha2.kp hkd2 (by simp)
    have te := tear_any d.wait[K] t bs _ Ls2 w2.drew hada.safe hfit ht
    dsimp only at te
    rw [← hL] at te
    have TE := hide te
    have HAD := hide hada
    have hli : (K : Int) < (d.wait.length : Int) := by omega
    have hl0 : (0 : Int) ≤ (K : Int) := by omega
    have cd : w2.drew.cell? ⟨p, 0, none⟩ = some (.map (some bs)) ∧ w2.drew.cell? ⟨p, 2, none⟩ = some (.slice (some ⟨g, 0, none⟩) d.wait.length cap) ∧ w2.drew.cell? ⟨g, K, none⟩ = some (chV d.wait[K]) := ⟨c2.1, c2.2.2.1, hcell⟩
    have HK2 := hide hk2
    have HL2 := hide hL2
    clear te hada hwt hfit hL hcell ha2 hne hk2 hL2
    generalize hcv : chV d.wait[K] = cv at *
    have HCV := hide hcv
    clear hcv
    go_wp2_with fail
    go_region_held3 (fun W => W.cell? ⟨p, 0, none⟩ = some (.map (some bs)) ∧ W.cell? ⟨p, 2, none⟩ = some (.slice (some ⟨g, 0, none⟩) d.wait.length cap) ∧ W.cell? ⟨g, K, none⟩ = some cv) (first | with_reducible exact cd | with_reducible exact ce)
      (first
        | (go_at_call 57; refine (unhide TE).mono ?_; rintro e w3 ⟨rfl, hm3⟩;
           obtain ⟨Ls3, ha3, hk3, hL3⟩ := (unhide HAD).newSafe hm3;
           have hw3 := ha3.wait;
           rw [unhide HWV] at hw3;
           have ce : w3.cell? ⟨p, 0, none⟩ = some (.map (some bs)) ∧ w3.cell? ⟨p, 2, none⟩ = some (.slice (some ⟨g, 0, none⟩) d.wait.length cap) ∧ w3.cell? ⟨g, K, none⟩ = some cv := ⟨ha3.cells.1, by rw [← unhide HWV]; exact ha3.cells.2.2.1, by rw [← unhide HCV]; exact hw3.cell K hlt⟩))
    have ha3' : DkAt w3 p bs bn wv Ls3 Ln { d with safe := LL } := ha3
    have hsz2 := (unhide HK2).size
    have hkA : Kp (bs :: Ls) w w3 := ((unhide HK2).trans (Kp.drew w2) (by simp)).trans hk3 (fun x hx => by
      rw [List.mem_cons] at hx
      rcases hx with rfl | hx
      · exact Or.inl (by simp)
      · rcases unhide HL2 x hx with h1 | h1
        · exact Or.inl (by simp [h1])
        · exact Or.inr h1)
    have hLA : ∀ k ∈ Ls3, k ∈ Ls ∨ w.heap.size ≤ k := fun k hk => by
      rcases hL3 k hk with h1 | h1
      · exact unhide HL2 k h1
      · have e1 : w2.drew.heap.size = w2.heap.size := rfl
        exact Or.inr (by omega)
    clear ha3 hm3 hk3 hL3 hw3 ce cd
    have ha3 := ha3'
    clear ha3'
    go_wp2_with fail
    have had3 := ha3.kp (Kp.drew w3) (by simp)
    have cg := had3.cells
    have cf := clone_files bs LL Ls3 w3.drew had3.safe hroomL.1.1
    have FN := unhide FIN w3 Ls3 ha3 hkA hLA
    have CF := hide cf
    have HFN := hide FN
    have c4 : w3.drew.cell? ⟨p, 0, none⟩ = some (.map (some bs)) := cg.1
    have hcs := fun W (hk : Kp [] w3.drew W) => And.intro (had3.kp hk (by simp)).cells (had3.kp hk (by simp)).frozs
    have HCS := hide hcs
    clear cf FN had3 cg hcs ha3
    go_region_held3 (fun W => W.cell? ⟨p, 0, none⟩ = some (.map (some bs))) (first | with_reducible exact c4 | with_reducible exact c5 | with_reducible exact c6)
      (first
        | (go_at_call 58; refine (unhide CF).mono ?_; rintro e w4 ⟨b4, L4, rfl, hf4, hk4, hb4, hL4⟩;
           obtain ⟨cs4, fs4⟩ := unhide HCS w4 hk4;
           have c5 : w4.cell? ⟨p, 0, none⟩ = some (.map (some bs)) := cs4.1;
           have hdid := unhide HFN b4 L4 w4 hf4 ((Kp.drew w3).trans hk4 (by simp)) hb4 hL4;
           have c6 : (((((w4.setCell ⟨p, 0, none⟩ (.map (some bs))).setCell ⟨p, 1, none⟩ (.map (some b4))).setCell ⟨p, 2, none⟩ (.slice none 0 0)).setCell ⟨p, 3, none⟩ (.int .i64 (-1))).setCell ⟨p, 4, none⟩ (.bool false)).cell? ⟨p, 0, none⟩ = some (.map (some bs)) := (cell_reset cs4.1);
           have HDID := hide hdid; clear hdid))
    go_wp2
    go_end0
    exact ⟨rfl, unhide HDID⟩
  · obtain rfl : K = d.wait.length := by omega
    have hL := unhide HLEFT
    rw [List.getElem?_eq_none (Nat.le_refl _)] at hL
    dsimp only at hL
    rw [← hL] at ha2
    have hkA := hk2
    have hLA := hL2
    have hni : ¬ ((d.wait.length : Int) < (d.wait.length : Int)) := by omega
    clear hL hk2 hL2
    go_wp2_with fail
    have had2 := ha2.kp (Kp.drew w2) (by simp)
    have cg := had2.cells
    have cf := clone_files bs LL Ls2 w2.drew had2.safe hroomL.1.1
    have FN := unhide FIN w2 Ls2 ha2 hkA hLA
    have CF := hide cf
    have HFN := hide FN
    have c4 : w2.drew.cell? ⟨p, 0, none⟩ = some (.map (some bs)) := cg.1
    have hcs := fun W (hk : Kp [] w2.drew W) => And.intro (had2.kp hk (by simp)).cells (had2.kp hk (by simp)).frozs
    have HCS := hide hcs
    clear cf FN had2 cg hcs ha2
    go_region_held3 (fun W => W.cell? ⟨p, 0, none⟩ = some (.map (some bs))) (first | with_reducible exact c4 | with_reducible exact c5 | with_reducible exact c6)
      (first
        | (go_at_call 58; refine (unhide CF).mono ?_; rintro e w4 ⟨b4, L4, rfl, hf4, hk4, hb4, hL4⟩;
           obtain ⟨cs4, fs4⟩ := unhide HCS w4 hk4;
           have c5 : w4.cell? ⟨p, 0, none⟩ = some (.map (some bs)) := cs4.1;
           have hdid := unhide HFN b4 L4 w4 hf4 ((Kp.drew w2).trans hk4 (by simp)) hb4 hL4;
           have c6 : (((((w4.setCell ⟨p, 0, none⟩ (.map (some bs))).setCell ⟨p, 1, none⟩ (.map (some b4))).setCell ⟨p, 2, none⟩ (.slice none 0 0)).setCell ⟨p, 3, none⟩ (.int .i64 (-1))).setCell ⟨p, 4, none⟩ (.bool false)).cell? ⟨p, 0, none⟩ = some (.map (some bs)) := (cell_reset cs4.1);
           have HDID := hide hdid; clear hdid))
    go_wp2
    go_end0
    exact ⟨rfl, unhide HDID⟩
end Go.Proofs.YtboffmbaaokbnaaGreatDoor
namespace Go.Proofs.YtboffmbaaokbnaaGreatDoor

theorem getF_perm {a b : Fs} (hp : a.Perm b) (hn : (a.map (·.1)).Nodup) (n : ByteArray) : getF a n = getF b n := by
  have hnb : (b.map (·.1)).Nodup := (hp.map _).nodup_iff.1 hn
  cases h : getF b n with
  | none =>
    refine getF_none fun hm => ?_
    obtain ⟨q, hq, he⟩ := List.mem_map.1 hm
    have := getF_mem hnb (n := n) (d := q.2) (by rw [← he]; exact hp.mem_iff.1 hq)
    rw [h] at this; cases this
  | some d => exact getF_mem hn (hp.mem_iff.2 (getF_some h))
theorem getF_without_ne {fs : Fs} (hn : (fs.map (·.1)).Nodup) {m n : ByteArray} (hne : n ≠ m) : getF (without fs m) n = getF fs n := by
  cases h : getF fs n with
  | none =>
    refine getF_none fun hm => ?_
    obtain ⟨q, hq, he⟩ := List.mem_map.1 hm
    have := getF_mem hn (n := n) (d := q.2) (by rw [← he]; exact (List.mem_filter.1 hq).1)
    rw [h] at this; cases this
  | some d => exact getF_mem (nodup_without hn m) (List.mem_filter.2 ⟨getF_some h, by simpa using hne⟩)
theorem nodup_with {fs : Fs} (hn : (fs.map (·.1)).Nodup) (n : ByteArray) (d : List UInt8) : ((withF fs n d).map (·.1)).Nodup := nodup_made hn (.wr n 0 ⟨#[]⟩) |> fun _ => by
  refine ((withF_perm fs n d).map (·.1)).nodup_iff.2 ?_
  rw [List.map_cons, List.nodup_cons]
  refine ⟨fun hm => ?_, nodup_without hn n⟩
  obtain ⟨q, hq, he⟩ := List.mem_map.1 hm
  have := (List.mem_filter.1 hq).2
  simp [he] at this
theorem getF_with {fs : Fs} (hn : (fs.map (·.1)).Nodup) (m n : ByteArray) (d : List UInt8) : getF (withF fs m d) n = if n = m then some d else getF fs n := by
  have hw := nodup_with hn m d
  rw [getF_perm (withF_perm fs m d) hw]
  by_cases h : n = m
  · subst h
    rw [if_pos rfl]
    unfold getF
    rw [List.find?_cons_of_pos (by simp)]; rfl
  · rw [if_neg h, ← getF_without_ne hn h]
    unfold getF
    rw [List.find?_cons_of_neg (by simpa using Ne.symm h)]
end Go.Proofs.YtboffmbaaokbnaaGreatDoor
namespace Go.Proofs.YtboffmbaaokbnaaGreatDoor
open Go.RowKit

/-- A disk of the call's own. -/
def OwnD (w0 w : World) (p : Nat) (d : Dk) : Prop := ∃ F, DiskAt w p d F ∧ Kp [] w0 w ∧ ∀ k ∈ F, w0.heap.size ≤ k
theorem OwnD.kp {w0 w w' : World} {p : Nat} {d : Dk} (h : OwnD w0 w p d) (hk : Kp [] w w') : OwnD w0 w' p d := by
  obtain ⟨F, hd, h1, h2⟩ := h
  exact ⟨F, hd.kp hk (by simp), h1.trans hk (by simp), h2⟩
theorem OwnD.bel {w0 w : World} {p : Nat} {d : Dk} (h : OwnD w0 w p d) : Kp [] w0 w := let ⟨_, _, h1, _⟩ := h; h1
theorem OwnD.inv {w0 w : World} {p : Nat} {d : Dk} (h : OwnD w0 w p d) : Inv d := let ⟨_, h1, _⟩ := h; h1.inv
theorem OwnD.nodup {w0 w : World} {p : Nat} {d : Dk} (h : OwnD w0 w p d) : (d.now.map (·.1)).Nodup := let ⟨_, h1, _⟩ := h; h1.nodup
theorem OwnD.did {w0 w w' : World} {p : Nat} {d d' : Dk} (h : OwnD w0 w p d) (hn : ∀ F, DiskAt w p d F → Did w F p d' w') : OwnD w0 w' p d' := by
  obtain ⟨F, hd, h1, h2⟩ := h
  obtain ⟨F', hd', h3, h4⟩ := hn F hd
  refine ⟨F', hd', h1.trans h3 (fun x hx => Or.inr (h2 x hx)), fun k hk => ?_⟩
  rcases h4 k hk with h5 | h5
  · exact h2 k h5
  · have := h1.size; omega
theorem OwnD.step {w0 w : World} {p : Nat} {d d' : Dk} {f : Nat} {args : Array Value} {r : Ending} (h : OwnD w0 w p d) (hc : ∀ F, DiskAt w p d F → Calls Tryz.prog f args w fun e w' => e = r ∧ Did w F p d' w') : Calls Tryz.prog f args w fun e w' => e = r ∧ OwnD w0 w' p d' := by
  obtain ⟨F, hd, h1, h2⟩ := h
  refine (hc F hd).mono fun e w' hh => ⟨hh.1, ?_⟩
  obtain ⟨F', hd', h3, h4⟩ := hh.2
  refine ⟨F', hd', h1.trans h3 (fun x hx => Or.inr (h2 x hx)), fun k hk => ?_⟩
  rcases h4 k hk with h5 | h5
  · exact h2 k h5
  · have := h1.size; omega
theorem new_own (w : World) : Calls Tryz.prog 5 #[] w fun e w' => ∃ p, e = .returned (.pointer (some ⟨p, 0, none⟩)) ∧ OwnD w w' p Dk.new :=
  (new_any w).mono fun _ _ ⟨p, F, he, hd, hk, hF⟩ => ⟨p, he, F, hd, hk, hF⟩
section
variable {w0 w : World} {p : Nat} {d : Dk}
theorem OwnD.write (h : OwnD w0 w p d) (n : ByteArray) (m : Int) (s : ByteArray) (hn : n.size ≤ 9223372036854775807) (hm0 : -9223372036854775808 ≤ m) (hm1 : m ≤ 9223372036854775807) (hs : s.size ≤ 9223372036854775807) :
    Calls Tryz.prog 28 #[.pointer (some ⟨p, 0, none⟩), .string n, .int .i64 m, .string s] w fun e w' => e = .returned (.int .i64 (d.wrE n m s)) ∧ OwnD w0 w' p (d.wrD n m s) := h.step fun F hd => write_any n m s p d F w hd hn hm0 hm1 hs
theorem OwnD.cut (h : OwnD w0 w p d) (n : ByteArray) (m : Int) (hn : n.size ≤ 9223372036854775807) (hm0 : -9223372036854775808 ≤ m) (hm1 : m ≤ 9223372036854775807) :
    Calls Tryz.prog 41 #[.pointer (some ⟨p, 0, none⟩), .string n, .int .i64 m] w fun e w' => e = .returned (.int .i64 (d.ctE n m)) ∧ OwnD w0 w' p (d.ctD n m) := h.step fun F hd => cut_any n m p d F w hd hn hm0 hm1
theorem OwnD.sync (h : OwnD w0 w p d) : Calls Tryz.prog 51 #[.pointer (some ⟨p, 0, none⟩)] w fun e w' => e = .returned (.int .i64 d.syE) ∧ OwnD w0 w' p d.syD := h.step fun F hd => sync_any p d F w hd
theorem OwnD.crash (h : OwnD w0 w p d) (k t : Int) (ht : t ≤ 9223372036854775807) : Calls Tryz.prog 26 #[.pointer (some ⟨p, 0, none⟩), .int .i64 k, .int .i64 t] w fun e w' => e = .returned (.tuple #[]) ∧ OwnD w0 w' p (d.crash k t) := h.step fun F hd => crash_any k t p d F w hd ht
theorem OwnD.read (h : OwnD w0 w p d) (n : ByteArray) (hn : n.size ≤ 9223372036854775807) :
    Calls Tryz.prog 34 #[.pointer (some ⟨p, 0, none⟩), .string n] w fun e w' => e = .returned (.tuple #[.string (d.rdS n), .int .i64 (d.rdE n)]) ∧ w' = w := let ⟨F, hd, _⟩ := h; read_any n p d F w hd hn
end
end Go.Proofs.YtboffmbaaokbnaaGreatDoor
namespace Go.Proofs.YtboffmbaaokbnaaGreatDoor
open Go.RowKit

/-- What a call gives up with. -/
def rfV (e : Int) : Value := .iface 72 (.agg #[.int .i64 e])
def pan (e : Int) : List PanicEntry := [{ v := rfV e, recovered := false }]
set_option maxHeartbeats 400000 in
theorem giveUp_any (e : Int) (w : World) : Calls Tryz.prog 36 #[.int .i64 e] w fun x w' => x = .panicked (pan e) ∧ w' = w := by
  go_enter Tryz.func36, Tryz.ntmps36
  go_wp2
  exact ⟨rfl, rfl, rfl⟩
set_option maxHeartbeats 400000 in
theorem mustBeOK_ok (w : World) : Calls Tryz.prog 40 #[.int .i64 0] w fun x w' => x = .returned (.tuple #[]) ∧ w' = w := by
  go_enter Tryz.func40, Tryz.ntmps40
  go_wp2
  go_end0
  exact ⟨rfl, rfl⟩
set_option maxHeartbeats 400000 in
theorem mustBeOK_not (e : Int) (he : e ≠ 0) (w : World) : Calls Tryz.prog 40 #[.int .i64 e] w fun x w' => x = .panicked (pan e) ∧ w' = w := by
  have hb : (e != 0) = true := by simpa using he
  go_enter Tryz.func40, Tryz.ntmps40
  go_wp2_with fail
  refine (giveUp_any e w).mono ?_
  rintro x w1 ⟨rfl, rfl⟩
  exact ⟨rfl, rfl, rfl⟩
theorem as_rf (v : Value) (w : World) : (Instr.typeAssert (.iface 72 v) 20 72 true).run Tryz.prog w = .ok (.tuple #[v, .bool true]) w := by kernel_rfl
set_option maxHeartbeats 400000 in
set_option maxRecDepth 100000 in
theorem codeOf_any (e : Int) (w : World) : Calls Tryz.prog 12 #[.iface 72 (.agg #[.int .i64 e])] w fun x w' => x = .returned (.int .i64 e) ∧ Kp [] w w' := by
  have ha := as_rf (.agg #[.int .i64 e])
  have HK := hide (Kp.alloc w (.cells #[.int .i64 e] 72))
  go_enter Tryz.func12, Tryz.ntmps12
  go_wp2
  go_ret
  exact ⟨rfl, unhide HK⟩
/-- What a world is behind a face that gave up: nothing turned but the answer's cell. -/
def Caught (p : Addr) (e : Int) (w w' : World) : Prop := ∃ w1, Kp [] w w1 ∧ w' = w1.setCell p (.int .i64 e)
set_option maxHeartbeats 400000 in
set_option maxRecDepth 100000 in
theorem open_caught (p : Nat) (x e : Int) (w : World) (hc : CBox p #[.int .i64 x] 24 w) :
    CallsD Tryz.prog 11 #[.pointer (some ⟨p, 0, none⟩)] (.panicking (pan e)) w fun r u' w' =>
      r = .returned (.tuple #[]) ∧ u' = .panicking [{ v := rfV e, recovered := true }] ∧ Caught ⟨p, 0, none⟩ e w w' := by
  have CO := hide (codeOf_any e w)
  have HC := hide hc
  clear hc
  refine callsD_of_wpS Tryz.func11 rfl fun c₀ cs hu => ?_
  apply wpS_seq
  apply wpS_region
  simp [wpOpsS, go_sem, recoverD, hu, pan, Tryz.ntmps11, Exit.thenS]
  apply wpS_seq
  apply wpS_region
  simp [wpOpsS, go_sem, rfV, Exit.thenS]
  refine wpS_cond (t := true) (by simp [Act.eval, Array.replicate]) ?_
  simp only [if_true]
  refine wpS_of_wp ?_
  go_wp2_with fail
  refine (unhide CO).mono ?_
  rintro r w1 ⟨rfl, hk⟩
  have b1 := (unhide HC).kp hk (by simp)
  have c0 : w1.cell? ⟨p, 0, none⟩ = some (.int .i64 x) := b1.cell rfl
  have f0 := b1.froz 0
  have HK := hide hk
  clear hk b1
  go_wp2
  exact ⟨rfl, _, rfl, .tuple #[], by simp [results, Tryz.results11], rfl, rfl, w1, unhide HK, rfl⟩
theorem open_idle (p : Addr) (w : World) :
    CallsD Tryz.prog 11 #[.pointer (some p)] .returning w fun e u' w' => e = .returned (.tuple #[]) ∧ u' = .returning ∧ w' = w := by
  refine callsD_of_wpS Tryz.func11 rfl fun c₀ cs hu => ?_
  apply wpS_seq
  apply wpS_region
  simp [wpOpsS, go_sem, recoverD, hu, Tryz.ntmps11, Exit.thenS]
  apply wpS_seq
  apply wpS_region
  simp [wpOpsS, go_sem, Exit.thenS]
  refine wpS_cond (t := false) (by simp [Act.eval, Array.replicate]) ?_
  simp only [Bool.false_eq_true, if_false]
  refine wpS_of_wp (wp_skip ?_)
  cases c₀
  simp_all [bodyPostS, results, Tryz.results11]
set_option maxHeartbeats 400000 in
set_option maxRecDepth 100000 in
theorem append_caught (p : Nat) (x e : Int) (w : World) (hc : CBox p #[.int .i64 x] 24 w) :
    CallsD Tryz.prog 47 #[.pointer (some ⟨p, 0, none⟩)] (.panicking (pan e)) w fun r u' w' =>
      r = .returned (.tuple #[]) ∧ u' = .panicking [{ v := rfV e, recovered := true }] ∧ Caught ⟨p, 0, none⟩ e w w' := by
  have CO := hide (codeOf_any e w)
  have HC := hide hc
  clear hc
  refine callsD_of_wpS Tryz.func47 rfl fun c₀ cs hu => ?_
  apply wpS_seq
  apply wpS_region
  simp [wpOpsS, go_sem, recoverD, hu, pan, Tryz.ntmps47, Exit.thenS]
  apply wpS_seq
  apply wpS_region
  simp [wpOpsS, go_sem, rfV, Exit.thenS]
  refine wpS_cond (t := true) (by simp [Act.eval, Array.replicate]) ?_
  simp only [if_true]
  refine wpS_of_wp ?_
  go_wp2_with fail
  refine (unhide CO).mono ?_
  rintro r w1 ⟨rfl, hk⟩
  have b1 := (unhide HC).kp hk (by simp)
  have c0 : w1.cell? ⟨p, 0, none⟩ = some (.int .i64 x) := b1.cell rfl
  have f0 := b1.froz 0
  have HK := hide hk
  clear hk b1
  go_wp2
  exact ⟨rfl, _, rfl, .tuple #[], by simp [results, Tryz.results47], rfl, rfl, w1, unhide HK, rfl⟩
theorem append_idle (p : Addr) (w : World) :
    CallsD Tryz.prog 47 #[.pointer (some p)] .returning w fun e u' w' => e = .returned (.tuple #[]) ∧ u' = .returning ∧ w' = w := by
  refine callsD_of_wpS Tryz.func47 rfl fun c₀ cs hu => ?_
  apply wpS_seq
  apply wpS_region
  simp [wpOpsS, go_sem, recoverD, hu, Tryz.ntmps47, Exit.thenS]
  apply wpS_seq
  apply wpS_region
  simp [wpOpsS, go_sem, Exit.thenS]
  refine wpS_cond (t := false) (by simp [Act.eval, Array.replicate]) ?_
  simp only [Bool.false_eq_true, if_false]
  refine wpS_of_wp (wp_skip ?_)
  cases c₀
  simp_all [bodyPostS, results, Tryz.results47]
set_option maxHeartbeats 400000 in
set_option maxRecDepth 100000 in
theorem sync_caught (p : Nat) (x e : Int) (w : World) (hc : CBox p #[.int .i64 x] 24 w) :
    CallsD Tryz.prog 50 #[.pointer (some ⟨p, 0, none⟩)] (.panicking (pan e)) w fun r u' w' =>
      r = .returned (.tuple #[]) ∧ u' = .panicking [{ v := rfV e, recovered := true }] ∧ Caught ⟨p, 0, none⟩ e w w' := by
  have CO := hide (codeOf_any e w)
  have HC := hide hc
  clear hc
  refine callsD_of_wpS Tryz.func50 rfl fun c₀ cs hu => ?_
  apply wpS_seq
  apply wpS_region
  simp [wpOpsS, go_sem, recoverD, hu, pan, Tryz.ntmps50, Exit.thenS]
  apply wpS_seq
  apply wpS_region
  simp [wpOpsS, go_sem, rfV, Exit.thenS]
  refine wpS_cond (t := true) (by simp [Act.eval, Array.replicate]) ?_
  simp only [if_true]
  refine wpS_of_wp ?_
  go_wp2_with fail
  refine (unhide CO).mono ?_
  rintro r w1 ⟨rfl, hk⟩
  have b1 := (unhide HC).kp hk (by simp)
  have c0 : w1.cell? ⟨p, 0, none⟩ = some (.int .i64 x) := b1.cell rfl
  have f0 := b1.froz 0
  have HK := hide hk
  clear hk b1
  go_wp2
  exact ⟨rfl, _, rfl, .tuple #[], by simp [results, Tryz.results50], rfl, rfl, w1, unhide HK, rfl⟩
theorem sync_idle (p : Addr) (w : World) :
    CallsD Tryz.prog 50 #[.pointer (some p)] .returning w fun e u' w' => e = .returned (.tuple #[]) ∧ u' = .returning ∧ w' = w := by
  refine callsD_of_wpS Tryz.func50 rfl fun c₀ cs hu => ?_
  apply wpS_seq
  apply wpS_region
  simp [wpOpsS, go_sem, recoverD, hu, Tryz.ntmps50, Exit.thenS]
  apply wpS_seq
  apply wpS_region
  simp [wpOpsS, go_sem, Exit.thenS]
  refine wpS_cond (t := false) (by simp [Act.eval, Array.replicate]) ?_
  simp only [Bool.false_eq_true, if_false]
  refine wpS_of_wp (wp_skip ?_)
  cases c₀
  simp_all [bodyPostS, results, Tryz.results50]
set_option maxHeartbeats 400000 in
set_option maxRecDepth 100000 in
theorem read_caught (p : Nat) (x e : Int) (w : World) (hc : CBox p #[.int .i64 x] 24 w) :
    CallsD Tryz.prog 53 #[.pointer (some ⟨p, 0, none⟩)] (.panicking (pan e)) w fun r u' w' =>
      r = .returned (.tuple #[]) ∧ u' = .panicking [{ v := rfV e, recovered := true }] ∧ Caught ⟨p, 0, none⟩ e w w' := by
  have CO := hide (codeOf_any e w)
  have HC := hide hc
  clear hc
  refine callsD_of_wpS Tryz.func53 rfl fun c₀ cs hu => ?_
  apply wpS_seq
  apply wpS_region
  simp [wpOpsS, go_sem, recoverD, hu, pan, Tryz.ntmps53, Exit.thenS]
  apply wpS_seq
  apply wpS_region
  simp [wpOpsS, go_sem, rfV, Exit.thenS]
  refine wpS_cond (t := true) (by simp [Act.eval, Array.replicate]) ?_
  simp only [if_true]
  refine wpS_of_wp ?_
  go_wp2_with fail
  refine (unhide CO).mono ?_
  rintro r w1 ⟨rfl, hk⟩
  have b1 := (unhide HC).kp hk (by simp)
  have c0 : w1.cell? ⟨p, 0, none⟩ = some (.int .i64 x) := b1.cell rfl
  have f0 := b1.froz 0
  have HK := hide hk
  clear hk b1
  go_wp2
  exact ⟨rfl, _, rfl, .tuple #[], by simp [results, Tryz.results53], rfl, rfl, w1, unhide HK, rfl⟩
theorem read_idle (p : Addr) (w : World) :
    CallsD Tryz.prog 53 #[.pointer (some p)] .returning w fun e u' w' => e = .returned (.tuple #[]) ∧ u' = .returning ∧ w' = w := by
  refine callsD_of_wpS Tryz.func53 rfl fun c₀ cs hu => ?_
  apply wpS_seq
  apply wpS_region
  simp [wpOpsS, go_sem, recoverD, hu, Tryz.ntmps53, Exit.thenS]
  apply wpS_seq
  apply wpS_region
  simp [wpOpsS, go_sem, Exit.thenS]
  refine wpS_cond (t := false) (by simp [Act.eval, Array.replicate]) ?_
  simp only [Bool.false_eq_true, if_false]
  refine wpS_of_wp (wp_skip ?_)
  cases c₀
  simp_all [bodyPostS, results, Tryz.results53]
set_option maxHeartbeats 400000 in
set_option maxRecDepth 100000 in
theorem last_caught (p : Nat) (x e : Int) (w : World) (hc : CBox p #[.int .i64 x] 24 w) :
    CallsD Tryz.prog 55 #[.pointer (some ⟨p, 0, none⟩)] (.panicking (pan e)) w fun r u' w' =>
      r = .returned (.tuple #[]) ∧ u' = .panicking [{ v := rfV e, recovered := true }] ∧ Caught ⟨p, 0, none⟩ e w w' := by
  have CO := hide (codeOf_any e w)
  have HC := hide hc
  clear hc
  refine callsD_of_wpS Tryz.func55 rfl fun c₀ cs hu => ?_
  apply wpS_seq
  apply wpS_region
  simp [wpOpsS, go_sem, recoverD, hu, pan, Tryz.ntmps55, Exit.thenS]
  apply wpS_seq
  apply wpS_region
  simp [wpOpsS, go_sem, rfV, Exit.thenS]
  refine wpS_cond (t := true) (by simp [Act.eval, Array.replicate]) ?_
  simp only [if_true]
  refine wpS_of_wp ?_
  go_wp2_with fail
  refine (unhide CO).mono ?_
  rintro r w1 ⟨rfl, hk⟩
  have b1 := (unhide HC).kp hk (by simp)
  have c0 : w1.cell? ⟨p, 0, none⟩ = some (.int .i64 x) := b1.cell rfl
  have f0 := b1.froz 0
  have HK := hide hk
  clear hk b1
  go_wp2
  exact ⟨rfl, _, rfl, .tuple #[], by simp [results, Tryz.results55], rfl, rfl, w1, unhide HK, rfl⟩
theorem last_idle (p : Addr) (w : World) :
    CallsD Tryz.prog 55 #[.pointer (some p)] .returning w fun e u' w' => e = .returned (.tuple #[]) ∧ u' = .returning ∧ w' = w := by
  refine callsD_of_wpS Tryz.func55 rfl fun c₀ cs hu => ?_
  apply wpS_seq
  apply wpS_region
  simp [wpOpsS, go_sem, recoverD, hu, Tryz.ntmps55, Exit.thenS]
  apply wpS_seq
  apply wpS_region
  simp [wpOpsS, go_sem, Exit.thenS]
  refine wpS_cond (t := false) (by simp [Act.eval, Array.replicate]) ?_
  simp only [Bool.false_eq_true, if_false]
  refine wpS_of_wp (wp_skip ?_)
  cases c₀
  simp_all [bodyPostS, results, Tryz.results55]
end Go.Proofs.YtboffmbaaokbnaaGreatDoor
