/-
  Write: a pattern's text.
  works of patterns: the chapter's examples.
-/
import Derived.Test.YtgcmfcidmmjfiaaGreatDoorN45
import Derived.Test.YtgcmfcidmmjfiaaGreatDoorN41
import Derived.Deep.RegionLaw
namespace Go.Proofs.YtgcmfcidmmjfiaaGreatDoor
open Go.RowKit Go.Shelf

theorem bad1_none (l : List Stg) : ∀ (ah : List ByteArray) (i : Nat), bad1 l ah i = none → ∀ k (h : k < l.length), stOk l[k] (ah ++ nmsOf (l.take k)) = true := by
  induction l with
  | nil => intro ah i _ k h; simp at h
  | cons s r ih =>
    intro ah i hb k h
    rw [bad1] at hb
    split at hb
    · rename_i hs
      cases k with
      | zero => simpa [nmsOf] using hs
      | succ k =>
        have := ih (ah ++ [s.nm]) (i + 1) hb k (by simpa using h)
        simpa [nmsOf] using this
    · cases hb
/-- What may be of a pattern that Check does not refuse. -/
theorem pc_ok {p : Ptn} (h : (pcR p).2 = 0) : 1 ≤ p.ss.length ∧ p.ss.length ≤ 8 ∧ (1 ≤ p.wi ∧ p.wi ≤ 256) ∧ ∀ k (hk : k < p.ss.length), stOk p.ss[k] (nmsOf (p.ss.take k)) = true := by
  unfold pcR at h
  split at h
  · simp at h
  · rename_i hn
    split at h
    · simp at h
    · rename_i hb
      split at h
      · rename_i hw
        unfold wiOk at hw
        simp at hw
        refine ⟨by omega, by omega, hw, fun k hk => ?_⟩
        have := bad1_none p.ss [] 0 hb k hk
        simpa using this
      · simp at h
theorem st_ok {s : Stg} {ah : List ByteArray} (h : stOk s ah = true) : isSg s.nm = true ∧ (0 ≤ s.hw ∧ s.hw ≤ 3) ∧ ckK s.cd = 3 := by
  unfold stOk hwOk cdOk at h
  simp only [Bool.and_eq_true, decide_eq_true_eq] at h
  exact ⟨h.1, ⟨h.2.2.1.1, h.2.2.1.2.1⟩, h.2.2.2.1⟩
theorem stK_len {s : Stg} (h : ckK s.cd ≠ 0) (hok : ∀ p ∈ s.cd, p.ok) : (stK s).length ≤ 1010 ∧ 0 < (stK s).length := by
  obtain ⟨_, _, _, _, _, _, _, hl, _⟩ := cdT_is h hok
  unfold stK
  simp only [List.length_append, List.length_cons, List.length_nil]
  split <;> simp <;> omega
theorem hwW_len (h : Int) : (hwW h).length ≤ 5 := by
  unfold hwW
  repeat' split
  all_goals simp
theorem small_ok (k : Int) (hk : 0 ≤ k ∧ k ≤ 4) (s : ByteArray) (hs : s.size ≤ 9223372036854775807) (n : Int) (hn : -9223372036854775808 ≤ n ∧ n ≤ 9223372036854775807) : Tk.ok ⟨k, s, n, 0⟩ := ⟨⟨by dsimp only; omega, by dsimp only; omega⟩, hs, hn, by dsimp only; omega, by dsimp only; omega⟩
theorem cdT_ok (x : List Pt) : ∀ t ∈ cdT x, t.ok := by
  unfold cdT
  cases h : tsR (wrS x) with
  | bad _ _ => simp
  | good ts =>
    have := tsL_ok (wrS x)
    rw [h] at this
    intro t ht
    exact this t (by unfold tsL; simp [ht])
theorem stK_ok {s : Stg} (hs : s.nm.size ≤ 9223372036854775807) : ∀ t ∈ stK s, t.ok := by
  intro t ht
  unfold stK at ht
  have z : (-9223372036854775808 : Int) ≤ 0 ∧ (0 : Int) ≤ 9223372036854775807 := ⟨by omega, by omega⟩
  simp only [List.mem_append, List.mem_cons, List.not_mem_nil, or_false] at ht
  rcases ht with (rfl | rfl) | ht | rfl | ht | rfl
  · exact small_ok 1 (by omega) _ (by rw [txt_size]; have := hwW_len s.hw; omega) 0 z
  · exact small_ok 1 (by omega) _ hs 0 z
  · split at ht
    · simp only [List.mem_singleton] at ht; subst ht; exact small_ok 4 (by omega) _ (by rw [txt_size]; simp) 0 z
    · cases ht
  · exact small_ok 4 (by omega) _ (by rw [txt_size]; simp) 0 z
  · exact cdT_ok s.cd t ht
  · exact small_ok 4 (by omega) _ (by rw [txt_size]; simp) 0 z
theorem flat_next {l : List Stg} {k : Nat} (h : k < l.length) : (l.take (k + 1)).flatMap stK = (l.take k).flatMap stK ++ stK l[k] := by
  rw [List.take_succ_eq_append_getElem h, List.flatMap_append]
  simp
theorem flat_bound {l : List Stg} (h : ∀ s ∈ l, (stK s).length ≤ 1010) (k : Nat) : ((l.take k).flatMap stK).length ≤ 1010 * k := by
  induction k with
  | zero => simp
  | succ k ih =>
    by_cases hk : k < l.length
    · rw [flat_next hk, List.length_append]
      have := h l[k] (List.getElem_mem hk)
      omega
    · rw [List.take_of_length_le (by omega)]
      rw [List.take_of_length_le (by omega)] at ih
      omega
set_option maxHeartbeats 4000000 in
set_option maxRecDepth 100000 in
theorem pwrite_any (sa : Option Addr) (sc : Nat) (l : List SR) (wi : Int) (w : World) (h : StsAt w sa l) (hT : TbP w) (hok : ∀ r ∈ l, r.s.ok) (hl : l.length ≤ 9223372036854775807) :
    Calls Tryz.prog 25 #[.agg #[.slice sa l.length sc, .int .i64 wi]] w fun e w' => e = .returned (.tuple #[.string (wrP ⟨stgs l, wi⟩).1, .int .i64 (wrP ⟨stgs l, wi⟩).2]) ∧ Below w.heap.size w w' := by
  have ka := Kp.alloc w (.cells #[.slice sa l.length sc, .int .i64 wi] 24)
  have CK := pcheck_any sa sc l wi _ (h.kp ka) (hT.ex.kp ka (by simp)) hok hl
  have HPC : Hid (∀ W, Kp [] (w.alloc (.cells #[.slice sa l.length sc, .int .i64 wi] 24)) W → W.cell? ⟨w.heap.size, 0, none⟩ = some (.slice sa l.length sc) ∧ W.cell? ⟨w.heap.size, 1, none⟩ = some (.int .i64 wi) ∧ w.heap.size < W.heap.size) := hide (fun W hk => pat_cells hk)
  have HKA := hide ka
  have HCK := hide CK
  by_cases h0 : (pcR ⟨stgs l, wi⟩).2 = 0
  · have hwr : wrP ⟨stgs l, wi⟩ = (txt (joR (ptK ⟨stgs l, wi⟩)).1, (joR (ptK ⟨stgs l, wi⟩)).2) := by unfold wrP; rw [if_pos h0]
    rw [hwr]
    obtain ⟨p1, p2, p3, p4⟩ := pc_ok h0
    dsimp only at p1 p2 p3 p4
    rw [stgs_len] at p1 p2
    have HOKS : Hid (∀ k (hk : k < l.length), ckK l[k].s.cd ≠ 0 ∧ 0 ≤ l[k].s.hw ∧ l[k].s.hw ≤ 3) := hide (fun k hk => by
      have := st_ok (p4 k (by rw [stgs_len]; exact hk))
      rw [stgs_at hk] at this
      exact ⟨by rw [this.2.2]; decide, this.2.1⟩)
    have HBD : Hid (∀ k, (((stgs l).take k).flatMap stK).length ≤ 1010 * k) := hide (fun k => flat_bound (fun s hs => by
      obtain ⟨i, hi, rfl⟩ := List.mem_iff_getElem.1 hs
      have h1 := st_ok (p4 i hi)
      rw [stgs_len] at hi
      rw [stgs_at hi] at h1 ⊢
      exact (stK_len (by rw [h1.2.2]; decide) (hok _ (List.getElem_mem hi)).2.2).1) k)
    have HNX : Hid (∀ k (hk : k < l.length), ((stgs l).take (k + 1)).flatMap stK = ((stgs l).take k).flatMap stK ++ stK l[k].s ∧ 0 < (stK l[k].s).length) := hide (fun k hk => by
      have := flat_next (l := stgs l) (k := k) (by rw [stgs_len]; exact hk)
      rw [stgs_at hk] at this
      have h1 := st_ok (p4 k (by rw [stgs_len]; exact hk))
      rw [stgs_at hk] at h1
      exact ⟨this, (stK_len (by rw [h1.2.2]; decide) (hok _ (List.getElem_mem hk)).2.2).2⟩)
    have HEN : Hid (((stgs l).take l.length).flatMap stK = (stgs l).flatMap stK) := hide (by rw [List.take_of_length_le (by rw [stgs_len]; omega)])
    have HTKO : Hid (∀ t ∈ ptK ⟨stgs l, wi⟩, t.ok) := hide (fun t ht => by
      unfold ptK at ht
      have z : (-9223372036854775808 : Int) ≤ 0 ∧ (0 : Int) ≤ 9223372036854775807 := ⟨by omega, by omega⟩
      simp only [List.mem_append, List.mem_flatMap, List.mem_cons, List.not_mem_nil, or_false] at ht
      rcases ht with ⟨s, hs, ht⟩ | rfl | rfl
      · unfold stgs at hs
        obtain ⟨r, hr, rfl⟩ := List.mem_map.1 hs
        exact stK_ok (hok r hr).1 t ht
      · exact small_ok 1 (by omega) _ (by decide) 0 z
      · exact small_ok 2 (by omega) _ (by show (0 : Nat) ≤ _; omega) wi (by omega))
    have HPK : Hid (ptK ⟨stgs l, wi⟩ = (stgs l).flatMap stK ++ [wdK (txt witW), ⟨2, ⟨#[]⟩, wi, 0⟩]) := hide rfl
    rw [h0] at HCK
    have HST := hide h
    have HTB := hide hT
    have HOK := hide hok
    clear h0 hwr CK ka h hT hok p4 hl
    generalize (pcR ⟨stgs l, wi⟩).1 = PA at *
    generalize ptK ⟨stgs l, wi⟩ = PK at *
    obtain ⟨n, hn⟩ : ∃ n, l.length = n := ⟨_, rfl⟩
    have HN := hide hn
    rw [hn] at HCK HPC HKA HEN p1 p2 ⊢
    clear hn
    go_enter Tryz.func25, Tryz.ntmps25
    obtain ⟨c0, c1, hlt0⟩ := unhide HPC _ (Kp.refl _ _)
    go_wp2_with fail
    refine (unhide HCK).mono ?_
    rintro e w1 ⟨rfl, hb1⟩
    have hk1 := Kp.ofBelow hb1
    obtain ⟨d0, d1, hlt1⟩ := unhide HPC w1 hk1
    have HK1 := hide hk1
    clear HCK hb1 hk1 c0 c1 hlt0
    go_wp2_with fail
    go_loopw [6, 20] (fun v i wr => ∃ (k : Nat) (a : Option Addr) (c NL : Nat), k ≤ n ∧ i = .int .i64 (k : Int) ∧ v = .slice a NL c ∧ NL = (((stgs l).take k).flatMap stK).length ∧ Hid (OwnsK (w.heap.size + 1) wr (.slice a NL c) (((stgs l).take k).flatMap stK)) ∧ Hid (Kp [] (w.alloc (.cells #[.slice sa n sc, .int .i64 wi] 24)) wr)) (fun _ i _ => n - (intOf i).toNat)
    case atStart => exact ⟨0, none, 0, 0, Nat.zero_le _, rfl, rfl, rfl, hide (OwnsK.nil _ _), HK1⟩
    case round =>
      obtain ⟨k, a, c, NL, hk, rfl, rfl, hNL, HO, HKR⟩ := hrel
      clear d0 d1 hlt1 HK1
      by_cases hlt : k < n
      · have hkx : k < l.length := by rw [unhide HN]; exact hlt
        have hli : (k : Int) < (n : Int) := by omega
        have kw : Kp [] w wr := (unhide HKA).trans (unhide HKR) (by simp)
        obtain ⟨b, off, rfl, hbl, x0, x1, x2, x3, hpts⟩ := ((unhide HST).kp kw).at k hkx
        obtain ⟨hck, hh0, hh3⟩ := unhide HOKS k hkx
        obtain ⟨hnx, hps⟩ := unhide HNX k hkx
        have hbd := unhide HBD (k + 1)
        have kst := Kp.alloc wr (.cells (stV l[k].s l[k].ad l[k].c) 51)
        have SK := stageTokens_any l[k].s l[k].ad l[k].c _ (hpts.kp kst) (((unhide HTB).kp kw (by simp)).kp kst (by simp)) (unhide HOK _ (List.getElem_mem hkx)) hck ⟨hh0, hh3⟩
        have HSK := hide SK
        have HKS := hide kst
        have HNXE := hide hnx
        rw [hnx, List.length_append, ← hNL] at hbd
        have HNL := hide hNL
        clear hpts SK kst hnx hck hh0 hh3 hNL kw HOKS HNX HBD HEN HTKO HPK HST HOK
        generalize ((stgs l).take k).flatMap stK = L0 at *
        generalize stK l[k].s = SK0 at *
        generalize l[k].s = s at *
        generalize l[k].ad = ad at *
        generalize l[k].c = cc at *
        obtain ⟨nm, hw, mn, cd⟩ := s
        unfold stV at HSK HKS
        dsimp only at x0 x1 x2 x3 HSK HKS
        generalize cd.length = CL at *
        have bx := CBox.new wr #[.string nm, .int .i64 hw, .bool mn, .slice ad CL cc] 51
        have z0 := bx.cell (i := 0) (v := .string nm) rfl
        have z1 := bx.cell (i := 1) (v := .int .i64 hw) rfl
        have z2 := bx.cell (i := 2) (v := .bool mn) rfl
        have z3 := bx.cell (i := 3) (v := .slice ad CL cc) rfl
        go_wp2_with fail
        refine (unhide HSK).mono ?_
        rintro e w3 ⟨g3, cp3, rfl, hat3, hb3⟩
        have k3 := (unhide HKS).trans (Kp.ofBelow hb3) (by simp)
        have hsz3 : w.heap.size + 1 ≤ w3.heap.size := by have h1 := (unhide HKR).size; have h2 := k3.size; simp at h1; omega
        obtain ⟨g4, c4, w4, hrun, ho4, hb4⟩ := OwnsK.app (c := cp3) ((unhide HO).kp k3) hsz3 hat3 hps (by rw [← unhide HNL]; omega) 72
        rw [← unhide HNL] at hrun ho4
        have HK4 : Hid (Kp [] (w.alloc (.cells #[.slice (some ⟨b, off, none⟩) n sc, .int .i64 wi] 24)) w4) := hide (by
          have kv := (unhide HKR).trans k3 (by simp)
          exact ⟨hb4.os.trans kv.os, hb4.tape.trans kv.tape, hb4.output.trans kv.output, Nat.le_trans kv.size hb4.size, fun i hi _ => (hb4.block i (by simpa using hi)).trans (kv.block i hi (by simp))⟩)
        obtain ⟨NL2, hNL2⟩ : ∃ q, NL + SK0.length = q := ⟨_, rfl⟩
        rw [hNL2] at hrun ho4
        have HNL2 : Hid (NL2 = (((stgs l).take (k + 1)).flatMap stK).length) := hide (by rw [unhide HNXE, List.length_append, ← unhide HNL, hNL2])
        have HO4 : Hid (OwnsK (w.heap.size + 1) w4 (.slice (some ⟨g4, 0, none⟩) NL2 c4) (((stgs l).take (k + 1)).flatMap stK)) := hide (by rw [unhide HNXE]; exact ho4)
        have HRUN := hide hrun
        clear HSK hat3 hb3 k3 hrun ho4 hb4 HKS HO HKR bx z0 z1 z2 z3 x0 x1 x2 x3 hNL2 HNXE hsz3
        dsimp only
        go_wp2_with (at_builtin; refine wpList_app_run rfl _ _ _ rfl rfl rfl (unhide HRUN) ?_)
        go_roundw
        case rel => exact ⟨k + 1, _, c4, NL2, by omega, by go_num, rfl, unhide HNL2, HO4, HK4⟩
        case measure => simp [intOf]; omega
      · obtain rfl : k = n := by omega
        have hbd := unhide HBD k
        rw [← hNL] at hbd
        rw [unhide HEN] at HO hNL
        have HNL := hide hNL
        have HPKE := hide (unhide HPK)
        obtain ⟨e0, e1, hltw⟩ := unhide HPC (wr.drew) ((unhide HKR).trans (Kp.drew wr) (by simp))
        clear HOKS HNX HBD HEN HPK HST HOK hNL
        generalize (stgs l).flatMap stK = L0 at *
        have hew : (txt witW) = ⟨#[119, 105, 116, 104, 105, 110]⟩ := rfl
        rw [hew] at HPKE
        obtain ⟨i0, hi, hz0, hz1, hz2⟩ := info_parts info_Tk
        have HWK : Hid (∀ wk, Below wr.drew.heap.size wr.drew wk → wk.cell? ⟨w.heap.size, 1, none⟩ = some (.int .i64 wi) ∧ (wk.alloc (.cells #[.int .i64 1, .string ⟨#[119, 105, 116, 104, 105, 110]⟩, .int .i64 0, .int .i64 0, .int .i64 2, .string ⟨#[]⟩, .int .i64 wi, .int .i64 0] 75)).ownsRow (w.heap.size + 1) 75 4 (.slice a NL c) NL (tkC L0) ∧ TksAt (wk.alloc (.cells #[.int .i64 1, .string ⟨#[119, 105, 116, 104, 105, 110]⟩, .int .i64 0, .int .i64 0, .int .i64 2, .string ⟨#[]⟩, .int .i64 wi, .int .i64 0] 75)) (some ⟨wk.heap.size, 0, none⟩) [wdK ⟨#[119, 105, 116, 104, 105, 110]⟩, ⟨2, ⟨#[]⟩, wi, 0⟩] ∧ w.heap.size + 1 ≤ (wk.alloc (.cells #[.int .i64 1, .string ⟨#[119, 105, 116, 104, 105, 110]⟩, .int .i64 0, .int .i64 0, .int .i64 2, .string ⟨#[]⟩, .int .i64 wi, .int .i64 0] 75)).heap.size) := hide (fun wk hb => by
          have kk := (Kp.drew wr).trans (Kp.ofBelow hb) (by simp)
          have ho := ((unhide HO).kp kk).kp (Kp.alloc wk (.cells #[.int .i64 1, .string ⟨#[119, 105, 116, 104, 105, 110]⟩, .int .i64 0, .int .i64 0, .int .i64 2, .string ⟨#[]⟩, .int .i64 wi, .int .i64 0] 75))
          unfold OwnsK at ho
          rw [← unhide HNL] at ho
          refine ⟨(Kp.ofBelow hb).cell e1 (by simp), ho, tks2 (t := wdK ⟨#[119, 105, 116, 104, 105, 110]⟩) (u := ⟨2, ⟨#[]⟩, wi, 0⟩) (CBox.new wk _ _), ?_⟩
          have h1 := (unhide HKR).size
          have h2 := kk.size
          simp at h1 ⊢
          omega)
        have HFIN : Hid (∀ wk g cap w8, Below wr.drew.heap.size wr.drew wk → w8.ownsRow (w.heap.size + 1) 75 4 (.slice (some ⟨g, 0, none⟩) (NL + 2) cap) (NL + 2) (tkC L0 ++ tkC [wdK ⟨#[119, 105, 116, 104, 105, 110]⟩, ⟨2, ⟨#[]⟩, wi, 0⟩]) → (wk.alloc (.cells #[.int .i64 1, .string ⟨#[119, 105, 116, 104, 105, 110]⟩, .int .i64 0, .int .i64 0, .int .i64 2, .string ⟨#[]⟩, .int .i64 wi, .int .i64 0] 75)).grownBy w8 (Value.slice a NL c).ownBlock → Calls Tryz.prog 43 #[.slice (some ⟨g, 0, none⟩) (NL + 2) cap] w8 (fun e w' => e = .returned (.tuple #[.string (txt (joR PK).1), .int .i64 (joR PK).2]) ∧ Below w8.heap.size w8 w') ∧ Below w.heap.size w w8) := hide (fun wk g cap w8 hb h8 hg8 => by
          have kk := (Kp.drew wr).trans (Kp.ofBelow hb) (by simp)
          have kv := ((unhide HKR).trans kk (by simp)).trans (Kp.alloc wk (.cells #[.int .i64 1, .string ⟨#[119, 105, 116, 104, 105, 110]⟩, .int .i64 0, .int .i64 0, .int .i64 2, .string ⟨#[]⟩, .int .i64 wi, .int .i64 0] 75)) (by simp)
          have hob : ∀ x ∈ (Value.slice a NL c).ownBlock.toList, w.heap.size + 1 ≤ x := fun x hx => (World.ownsRow.lt (unhide HO) x (by simpa using hx)).1
          have kp8 : Kp (Value.slice a NL c).ownBlock.toList _ w8 := Kp.of hg8
          have kall : Kp [] (w.alloc (.cells #[.slice sa k sc, .int .i64 wi] 24)) w8 := kv.trans kp8 (fun x hx => Or.inr (by have := hob x hx; simp; omega))
          have h8' : OwnsK (w.heap.size + 1) w8 (.slice (some ⟨g, 0, none⟩) (NL + 2) cap) PK := by
            rw [unhide HPKE]
            unfold OwnsK
            rw [tkC_append, List.length_append, ← unhide HNL]
            exact h8
          obtain ⟨a', c', e', hat, hcap⟩ := h8'.at
          injection e' with ea eb ec
          subst ea ec
          have J := join_any (some ⟨g, 0, none⟩) cap PK w8 ((unhide HTB).kp ((unhide HKA).trans kall (by simp)) (by simp)).ex.tok (by rw [← eb]; omega) hcap hat (unhide HTKO)
          rw [← eb] at J
          exact ⟨J, ((unhide HKA).trans kall (by simp)).below (Nat.le_refl _) (by simp)⟩)
        have WD := hide (word_tok ⟨#[119, 105, 116, 104, 105, 110]⟩ wr.drew)
        clear HO HKR HPKE HNL HTKO HTB e0
        generalize tkC L0 = TC at *
        go_wp2_with fail
        go_region_law
          (first
            | (refine step_append_lies rfl (.tmp 29) (.tmp 34) 72 rfl (w.heap.size + 1) 75 i0 (.agg #[.int .i64 0, .string ⟨#[]⟩, .int .i64 0, .int .i64 0]) 4 40 Tryz.underlying72 hi hz0 hz1 hz2 rfl (by decide) (.slice a NL c) NL TC rfl ownk ⟨wk.heap.size, 0, none⟩ 2 2 (tkC [wdK ⟨#[119, 105, 116, 104, 105, 110]⟩, ⟨2, ⟨#[]⟩, wi, 0⟩]) rfl rfl (tks_cells tksk) (tkC_one _) (by omega) (by unfold maxLen; omega) (by omega) hszk ?_; intro g8 cap8 w8 h8 hg8 hat8; obtain ⟨J8, hB8⟩ := unhide HFIN wk g8 cap8 w8 (unhide HBK) h8 hg8; have HJ8 := hide J8; have HB8 := hide hB8; clear h8 hg8 hat8 J8 hB8)
            | (go_simp; go_at_call 42; refine (unhide WD).mono ?_; rintro e wk ⟨rfl, hbk⟩; obtain ⟨e1k, ownk, tksk, hszk⟩ := unhide HWK wk hbk; have HBK := hide hbk; clear hbk))
        all_goals
          clear HFIN HWK ownk tksk hszk HBK
          go_wp2_with fail
          refine (unhide HJ8).mono ?_
          rintro e w9 ⟨rfl, hb9⟩
          have HB9 := hide ((unhide HB8).trans (hb9.mono (unhide HB8).size))
          clear hb9 HJ8 HB8
          go_wp2
          exact bodyPost_ret (results_tmp2 rfl _ _ _) rfl ⟨rfl, unhide HB9⟩
  · have hcd := pc_code ⟨stgs l, wi⟩
    have h120 : (pcR ⟨stgs l, wi⟩).2 = 120 := by rcases hcd with h | h; exact absurd h h0; exact h
    have hwr : wrP ⟨stgs l, wi⟩ = (⟨#[]⟩, 120) := by unfold wrP; rw [if_neg h0, h120]
    rw [hwr]
    rw [h120] at HCK
    clear h0 hcd h120 hwr CK ka h hT hok
    generalize (pcR ⟨stgs l, wi⟩).1 = PA at *
    obtain ⟨c0, c1, _⟩ := unhide HPC _ (Kp.refl _ _)
    go_enter Tryz.func25, Tryz.ntmps25
    go_wp2_with fail
    refine (unhide HCK).mono ?_
    rintro e w1 ⟨rfl, hb1⟩
    have HB := hide (((unhide HKA).trans (Kp.ofBelow hb1) (by simp)).below (Nat.le_refl _) (by simp))
    clear HCK hb1 c0 c1
    go_wp2
    exact bodyPost_ret (results_tmp2 rfl _ _ _) rfl ⟨rfl, unhide HB⟩
end Go.Proofs.YtgcmfcidmmjfiaaGreatDoor
namespace Go.Proofs.YtgcmfcidmmjfiaaGreatDoor
open Go.RowKit Go.Shelf

theorem rdP_ok (s : ByteArray) : (∀ g ∈ (rdP s).p.ss, g.ok) ∧ (rdP s).p.ss.length ≤ 9 ∧ -9223372036854775808 ≤ (rdP s).p.wi ∧ (rdP s).p.wi ≤ 257 := by
  have hn : (∀ g ∈ noP.ss, g.ok) ∧ noP.ss.length ≤ 9 ∧ -9223372036854775808 ≤ noP.wi ∧ noP.wi ≤ 257 := ⟨by simp [noP], by simp [noP], by simp [noP], by simp [noP]⟩
  unfold rdP
  have htk := tsL_ok s
  cases h : tsR s with
  | bad p q => exact hn
  | good ts =>
    rw [h] at htk
    dsimp only
    rw [rdPG_eq]
    have hok : ∀ t ∈ ts ++ [endZ s.size], t.ok := htk
    cases hp : ptR 9 [] (ts ++ [endZ s.size]) with
    | bad a c => exact hn
    | good p =>
      unfold poR
      dsimp only
      split
      · obtain ⟨h1, h2, h3, h4⟩ := ptR_fits 9 [] _ p (by simp) hok hp
        exact ⟨h1, by simpa using h4, h2, h3⟩
      · exact hn
/-- Read, with where it lies. -/
theorem pread_at (s : ByteArray) (hs : s.size ≤ 9223372036854775807) (W : World) (hW : TbE W) : Calls Tryz.prog 36 #[.string s] W fun e w' => ∃ ad cp rs, e = .returned (.tuple #[.agg #[.slice ad (rs : List SR).length cp, .int .i64 (rdP s).p.wi], .agg #[.int .i64 (rdP s).at_, .int .i64 (rdP s).c]]) ∧ StsAt w' ad rs ∧ stgs rs = (rdP s).p.ss ∧ (∀ r ∈ rs, r.s.ok) ∧ Below W.heap.size W w' :=
  (pread_any s W hW hs).mono fun e w' ⟨⟨ad, cp, rs, h1, h2, h3⟩, h4⟩ => by
    obtain ⟨a', c', e', hat, _⟩ := h2.at
    injection e' with ea eb ec
    refine ⟨ad, cp, rs, h1, by rw [ea]; exact hat, h3, fun r hr => (rdP_ok s).1 r.s (by rw [← h3]; unfold stgs; exact List.mem_map_of_mem hr), h4⟩
def exP : Ptn := ⟨[⟨⟨#[97]⟩, 0, false, [⟨9, 0, ⟨#[]⟩, ⟨#[]⟩, 0⟩, ⟨3, 0, ⟨#[]⟩, ⟨#[]⟩, 4⟩, ⟨2, 0, ⟨#[120]⟩, ⟨#[]⟩, 0⟩]⟩, ⟨⟨#[98]⟩, 1, true, [⟨7, 0, ⟨#[]⟩, ⟨#[]⟩, 0⟩, ⟨3, 0, ⟨#[]⟩, ⟨#[97]⟩, 0⟩, ⟨3, 0, ⟨#[]⟩, ⟨#[]⟩, 0⟩]⟩], 5⟩
theorem exP_read : rdP ⟨#[115, 116, 97, 114, 116, 32, 97, 58, 32, 116, 121, 112, 101, 32, 61, 61, 32, 39, 120, 39, 59, 32, 110, 101, 120, 116, 32, 98, 43, 58, 32, 97, 46, 110, 48, 32, 60, 32, 110, 48, 59, 32, 119, 105, 116, 104, 105, 110, 32, 53]⟩ = ⟨exP, 0, 0⟩ := by kernel_rfl
theorem exP_two : rdP ⟨#[115, 116, 97, 114, 116, 32, 97, 58, 32, 98, 46, 110, 48, 32, 60, 32, 49, 59, 32, 119, 105, 116, 104, 105, 110, 32, 53]⟩ = ⟨noP, 0, 120⟩ := by kernel_rfl
theorem exP_three : rdP ⟨#[110, 101, 120, 116]⟩ = ⟨noP, 4, 120⟩ := by kernel_rfl
theorem exP_write : wrP exP = (⟨#[115, 116, 97, 114, 116, 32, 97, 32, 58, 32, 116, 121, 112, 101, 32, 61, 61, 32, 39, 120, 39, 32, 59, 32, 110, 101, 120, 116, 32, 98, 32, 43, 32, 58, 32, 97, 32, 46, 32, 110, 48, 32, 60, 32, 110, 48, 32, 59, 32, 119, 105, 116, 104, 105, 110, 32, 53]⟩, 0) := by kernel_rfl
set_option maxHeartbeats 4000000 in
set_option maxRecDepth 100000 in
theorem pworks_any (w : World) (hT : TbP w) : Calls Tryz.prog 27 #[] w fun e w' => e = .returned (.bool true) ∧ Below w.heap.size w w' := by
  have R1 := pread_at ⟨#[115, 116, 97, 114, 116, 32, 97, 58, 32, 116, 121, 112, 101, 32, 61, 61, 32, 39, 120, 39, 59, 32, 110, 101, 120, 116, 32, 98, 43, 58, 32, 97, 46, 110, 48, 32, 60, 32, 110, 48, 59, 32, 119, 105, 116, 104, 105, 110, 32, 53]⟩ (by decide) w hT.ex
  have R2 := fun W hW => pread_at ⟨#[115, 116, 97, 114, 116, 32, 97, 58, 32, 98, 46, 110, 48, 32, 60, 32, 49, 59, 32, 119, 105, 116, 104, 105, 110, 32, 53]⟩ (by decide) W hW
  have R3 := fun W hW => pread_at ⟨#[110, 101, 120, 116]⟩ (by decide) W hW
  rw [exP_read] at R1
  rw [exP_two] at R2
  rw [exP_three] at R3
  dsimp only at R1 R2 R3
  have HR1 : Hid (Calls Tryz.prog 36 #[.string ⟨#[115, 116, 97, 114, 116, 32, 97, 58, 32, 116, 121, 112, 101, 32, 61, 61, 32, 39, 120, 39, 59, 32, 110, 101, 120, 116, 32, 98, 43, 58, 32, 97, 46, 110, 48, 32, 60, 32, 110, 48, 59, 32, 119, 105, 116, 104, 105, 110, 32, 53]⟩] w fun e w' => ∃ b off cp rs, e = .returned (.tuple #[.agg #[.slice (some ⟨b, off, none⟩) 2 cp, .int .i64 5], .agg #[.int .i64 0, .int .i64 0]]) ∧ StsAt w' (some ⟨b, off, none⟩) (rs : List SR) ∧ stgs rs = exP.ss ∧ rs.length = 2 ∧ (∀ r ∈ rs, r.s.ok) ∧ Below w.heap.size w w') := hide (R1.mono fun e w' ⟨ad, cp, rs, h1, h2, h3, h4, h5⟩ => by
    have hl : rs.length = 2 := by rw [← stgs_len, h3]; rfl
    obtain ⟨b, off, e1, _⟩ := h2 (fun e => by rw [e] at hl; simp at hl)
    subst e1
    rw [hl] at h1
    exact ⟨b, off, cp, rs, h1, h2, h3, hl, h4, h5⟩)
  have HR2 : Hid (∀ W, TbE W → Calls Tryz.prog 36 #[.string ⟨#[115, 116, 97, 114, 116, 32, 97, 58, 32, 98, 46, 110, 48, 32, 60, 32, 49, 59, 32, 119, 105, 116, 104, 105, 110, 32, 53]⟩] W fun e w' => ∃ ad cp, e = .returned (.tuple #[.agg #[.slice ad 0 cp, .int .i64 0], .agg #[.int .i64 0, .int .i64 120]]) ∧ Below W.heap.size W w') := hide (fun W hW => (R2 W hW).mono fun e w' ⟨ad, cp, rs, h1, _, h3, _, h5⟩ => by
    have hl : rs.length = 0 := by rw [← stgs_len, h3]; rfl
    rw [hl] at h1
    exact ⟨ad, cp, h1, h5⟩)
  have HR3 : Hid (∀ W, TbE W → Calls Tryz.prog 36 #[.string ⟨#[110, 101, 120, 116]⟩] W fun e w' => ∃ ad cp, e = .returned (.tuple #[.agg #[.slice ad 0 cp, .int .i64 0], .agg #[.int .i64 4, .int .i64 120]]) ∧ Below W.heap.size W w') := hide (fun W hW => (R3 W hW).mono fun e w' ⟨ad, cp, rs, h1, _, h3, _, h5⟩ => by
    have hl : rs.length = 0 := by rw [← stgs_len, h3]; rfl
    rw [hl] at h1
    exact ⟨ad, cp, h1, h5⟩)
  have HWR : Hid (∀ b off cp (rs : List SR) W, StsAt W (some ⟨b, off, none⟩) rs → stgs rs = exP.ss → rs.length = 2 → (∀ r ∈ rs, r.s.ok) → TbP W → Calls Tryz.prog 25 #[.agg #[.slice (some ⟨b, off, none⟩) 2 cp, .int .i64 5]] W fun e w' => e = .returned (.tuple #[.string ⟨#[115, 116, 97, 114, 116, 32, 97, 32, 58, 32, 116, 121, 112, 101, 32, 61, 61, 32, 39, 120, 39, 32, 59, 32, 110, 101, 120, 116, 32, 98, 32, 43, 32, 58, 32, 97, 32, 46, 32, 110, 48, 32, 60, 32, 110, 48, 32, 59, 32, 119, 105, 116, 104, 105, 110, 32, 53]⟩, .int .i64 0]) ∧ Below W.heap.size W w') := hide (fun b off cp rs W h1 h2 h3 h4 h5 => by
    have := pwrite_any (some ⟨b, off, none⟩) cp rs 5 W h1 h5 h4 (by omega)
    have he : (⟨stgs rs, 5⟩ : Ptn) = exP := by rw [h2]; rfl
    rw [he, exP_write, h3] at this
    exact this)
  have HT := hide hT
  clear R1 R2 R3 hT
  go_enter Tryz.func27, Tryz.ntmps27
  go_wp2_with fail
  refine (unhide HR1).mono ?_
  rintro e w1 ⟨b, off, cp, rs, rfl, hA, hst, hl2, hok, hb1⟩
  obtain ⟨_, _, e1, -, -, -, m2, -⟩ := hA.at 1 (by omega)
  cases e1
  have hmn : rs[1].s.mn = true := by
    have : (stgs rs)[1]'(by rw [stgs_len]; omega) = rs[1].s := stgs_at (by omega)
    rw [← this]
    simp only [hst]
    rfl
  rw [hmn] at m2
  have kv : Kp [] w1 ((w1.alloc (.cells #[.slice (some ⟨b, off, none⟩) 2 cp, .int .i64 5] 24)).alloc (.cells #[.int .i64 0, .int .i64 0] 62)) := (Kp.alloc _ _).trans (Kp.alloc _ _) (by simp)
  have hP1 := rp_b0 w1 #[.slice (some ⟨b, off, none⟩) 2 cp, .int .i64 5] 24 (.cells #[.int .i64 0, .int .i64 0] 62)
  have hF1 := rp_b1 w1 #[.int .i64 0, .int .i64 0] 62 (.cells #[.slice (some ⟨b, off, none⟩) 2 cp, .int .i64 5] 24)
  have HV : Hid (∀ W, Kp [] ((w1.alloc (.cells #[.slice (some ⟨b, off, none⟩) 2 cp, .int .i64 5] 24)).alloc (.cells #[.int .i64 0, .int .i64 0] 62)) W → (W.cell? ⟨w1.heap.size, 0, none⟩ = some (.slice (some ⟨b, off, none⟩) 2 cp) ∧ W.cell? ⟨w1.heap.size, 1, none⟩ = some (.int .i64 5) ∧ W.cell? ⟨w1.heap.size + 1, 0, none⟩ = some (.int .i64 0) ∧ W.cell? ⟨w1.heap.size + 1, 1, none⟩ = some (.int .i64 0) ∧ W.cell? ⟨b, off + 1 * 4 + 2, none⟩ = some (.bool true)) ∧ Hid (StsAt W (some ⟨b, off, none⟩) rs) ∧ Hid (TbP W) ∧ Hid (Below w.heap.size w W) ∧ w1.heap.size + 1 < W.heap.size) := hide (fun W hk => ⟨⟨(hP1.kp hk (by simp)).cell rfl, (hP1.kp hk (by simp)).cell rfl, (hF1.kp hk (by simp)).cell rfl, (hF1.kp hk (by simp)).cell rfl, (kv.trans hk (by simp)).cell m2 (by simp)⟩, hide ((hA.kp kv).kp hk), hide ((unhide HT).kp (((Kp.ofBelow hb1).trans kv (by simp)).trans hk (by simp)) (by simp)), hide ((((Kp.ofBelow hb1).trans kv (by simp)).trans hk (by simp)).below (Nat.le_refl _) (by simp)), by have := hk.size; simp at this; omega⟩)
  obtain ⟨⟨p0, p1, f0, f1, _⟩, HS1, HT1, _, _⟩ := unhide HV _ (Kp.refl _ _)
  have WR2 := hide (unhide HWR b off cp rs _ (unhide HS1) hst hl2 hok (unhide HT1))
  clear HR1 HWR hA hst hl2 hok hb1 m2 hmn kv hP1 hF1 HS1 HT1 HT
  go_wp2_with fail
  refine (unhide WR2).mono ?_
  rintro e w3 ⟨rfl, hb3⟩
  have HK3 := hide (Kp.ofBelow hb3)
  obtain ⟨_, _, HT3, _, _⟩ := unhide HV w3 (unhide HK3)
  have R4 := hide (unhide HR2 w3 (unhide HT3).ex)
  clear hb3 WR2 HR2 p0 p1 f0 f1 HT3
  go_wp2_with fail
  refine (unhide R4).mono ?_
  rintro e w4 ⟨a4, c4, rfl, hb4⟩
  have k4 : Kp [] w4 ((w4.alloc (.cells #[.slice a4 0 c4, .int .i64 0] 24)).alloc (.cells #[.int .i64 0, .int .i64 120] 62)) := (Kp.alloc _ _).trans (Kp.alloc _ _) (by simp)
  have hF4 := rp_b1 w4 #[.int .i64 0, .int .i64 120] 62 (.cells #[.slice a4 0 c4, .int .i64 0] 24)
  have HK4 := hide (((unhide HK3).trans (Kp.ofBelow hb4) (by simp)).trans k4 (by simp))
  obtain ⟨_, _, HT4, _, _⟩ := unhide HV _ (unhide HK4)
  have R5 := hide (unhide HR3 _ (unhide HT4).ex)
  have HF4 := hide hF4
  clear hb4 R4 HR3 HT4 k4 hF4 HK3
  go_wp2_with fail
  refine (unhide R5).mono ?_
  rintro e w5 ⟨a5, c5, rfl, hb5⟩
  have k5 : Kp [] w5 ((w5.alloc (.cells #[.slice a5 0 c5, .int .i64 0] 24)).alloc (.cells #[.int .i64 4, .int .i64 120] 62)) := (Kp.alloc _ _).trans (Kp.alloc _ _) (by simp)
  have hF5 := rp_b1 w5 #[.int .i64 4, .int .i64 120] 62 (.cells #[.slice a5 0 c5, .int .i64 0] 24)
  have hF45 := (unhide HF4).kp ((Kp.ofBelow hb5).trans k5 (by simp)) (by simp)
  obtain ⟨⟨p0, p1, f0, f1, mm⟩, _, _, HB, hlt⟩ := unhide HV _ (((unhide HK4).trans (Kp.ofBelow hb5) (by simp)).trans k5 (by simp))
  obtain ⟨g0, g1⟩ := two_cells hF45
  obtain ⟨h0, h1⟩ := two_cells hF5
  clear hb5 R5 HV HK4 HF4 k5 hF5 hF45
  go_wp2
  go_ret
  exact ⟨rfl, unhide HB⟩
end Go.Proofs.YtgcmfcidmmjfiaaGreatDoor
