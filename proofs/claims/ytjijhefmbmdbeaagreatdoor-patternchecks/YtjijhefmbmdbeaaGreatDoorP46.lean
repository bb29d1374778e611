/-
  Write: a pattern's text.
  The document's answer for patterns, plainly: its text is the tokens' joined; what is too long.
-/
import Derived.Test.YtjijhefmbmdbeaaGreatDoorP32
import Derived.Test.YtjijhefmbmdbeaaGreatDoorP44
import Derived.Deep.RegionLaw
namespace Go.Proofs.YtjijhefmbmdbeaaGreatDoor
open Go.RowKit Go.Shelf

theorem bad1_none (l : List Stg) : ∀ (ah : List ByteArray) (i : Nat), bad1 l ah i = none → ∀ k (h : k < l.length), stOk l[k] (ah ++ nmsOf (l.take k)) = true := by
  induction l with
  | nil => intro ah i _ k h; simp at h
  | cons s r ih =>
    intro ah i hb k h
    rw [bad1] at hb
    split at hb
    · rename_i hs
      cases k with
      | zero => simpa [nmsOf] using hs
      | succ k =>
        have := ih (ah ++ [s.nm]) (i + 1) hb k (by simpa using h)
        simpa [nmsOf] using this
    · cases hb
/-- What may be of a pattern that Check does not refuse. -/
theorem pc_ok {p : Ptn} (h : (pcR p).2 = 0) : 1 ≤ p.ss.length ∧ p.ss.length ≤ 8 ∧ (1 ≤ p.wi ∧ p.wi ≤ 256) ∧ ∀ k (hk : k < p.ss.length), stOk p.ss[k] (nmsOf (p.ss.take k)) = true := by
  unfold pcR at h
  split at h
  · simp at h
  · rename_i hn
    split at h
    · simp at h
    · rename_i hb
      split at h
      · rename_i hw
        unfold wiOk at hw
        simp at hw
        refine ⟨by omega, by omega, hw, fun k hk => ?_⟩
        have := bad1_none p.ss [] 0 hb k hk
        simpa using this
      · simp at h
theorem st_ok {s : Stg} {ah : List ByteArray} (h : stOk s ah = true) : isSg s.nm = true ∧ (0 ≤ s.hw ∧ s.hw ≤ 3) ∧ ckK s.cd = 3 := by
  unfold stOk hwOk cdOk at h
  simp only [Bool.and_eq_true, decide_eq_true_eq] at h
  exact ⟨h.1, ⟨h.2.2.1.1, h.2.2.1.2.1⟩, h.2.2.2.1⟩
theorem stK_len {s : Stg} (h : ckK s.cd ≠ 0) (hok : ∀ p ∈ s.cd, p.ok) : (stK s).length ≤ 1010 ∧ 0 < (stK s).length := by
  obtain ⟨_, _, _, _, _, _, _, hl, _⟩ := cdT_is h hok
  unfold stK
  simp only [List.length_append, List.length_cons, List.length_nil]
  split <;> simp <;> omega
theorem hwW_len (h : Int) : (hwW h).length ≤ 5 := by
  unfold hwW
  repeat' split
  all_goals simp
theorem small_ok (k : Int) (hk : 0 ≤ k ∧ k ≤ 4) (s : ByteArray) (hs : s.size ≤ 9223372036854775807) (n : Int) (hn : -9223372036854775808 ≤ n ∧ n ≤ 9223372036854775807) : Tk.ok ⟨k, s, n, 0⟩ := ⟨⟨by dsimp only; omega, by dsimp only; omega⟩, hs, hn, by dsimp only; omega, by dsimp only; omega⟩
theorem cdT_ok (x : List Pt) : ∀ t ∈ cdT x, t.ok := by
  unfold cdT
  cases h : tsR (wrS x) with
  | bad _ _ => simp
  | good ts =>
    have := tsL_ok (wrS x)
    rw [h] at this
    intro t ht
    exact this t (by unfold tsL; simp [ht])
theorem stK_ok {s : Stg} (hs : s.nm.size ≤ 9223372036854775807) : ∀ t ∈ stK s, t.ok := by
  intro t ht
  unfold stK at ht
  have z : (-9223372036854775808 : Int) ≤ 0 ∧ (0 : Int) ≤ 9223372036854775807 := ⟨by omega, by omega⟩
  simp only [List.mem_append, List.mem_cons, List.not_mem_nil, or_false] at ht
  rcases ht with (rfl | rfl) | ht | rfl | ht | rfl
  · exact small_ok 1 (by omega) _ (by rw [txt_size]; have := hwW_len s.hw; omega) 0 z
  · exact small_ok 1 (by omega) _ hs 0 z
  · split at ht
    · simp only [List.mem_singleton] at ht; subst ht; exact small_ok 4 (by omega) _ (by rw [txt_size]; simp) 0 z
    · cases ht
  · exact small_ok 4 (by omega) _ (by rw [txt_size]; simp) 0 z
  · exact cdT_ok s.cd t ht
  · exact small_ok 4 (by omega) _ (by rw [txt_size]; simp) 0 z
theorem flat_next {l : List Stg} {k : Nat} (h : k < l.length) : (l.take (k + 1)).flatMap stK = (l.take k).flatMap stK ++ stK l[k] := by
  rw [List.take_succ_eq_append_getElem h, List.flatMap_append]
  simp
theorem flat_bound {l : List Stg} (h : ∀ s ∈ l, (stK s).length ≤ 1010) (k : Nat) : ((l.take k).flatMap stK).length ≤ 1010 * k := by
  induction k with
  | zero => simp
  | succ k ih =>
    by_cases hk : k < l.length
    · rw [flat_next hk, List.length_append]
      have := h l[k] (List.getElem_mem hk)
      omega
    · rw [List.take_of_length_le (by omega)]
      rw [List.take_of_length_le (by omega)] at ih
      omega
set_option maxHeartbeats 4000000 in
set_option maxRecDepth 100000 in
theorem pwrite_any (sa : Option Addr) (sc : Nat) (l : List SR) (wi : Int) (w : World) (h : StsAt w sa l) (hT : TbP w) (hok : ∀ r ∈ l, r.s.ok) (hl : l.length ≤ 9223372036854775807) :
    Calls Tryz.prog 23 #[.agg #[.slice sa l.length sc, .int .i64 wi]] w fun e w' => e = .returned (.tuple #[.string (wrP ⟨stgs l, wi⟩).1, .int .i64 (wrP ⟨stgs l, wi⟩).2]) ∧ Below w.heap.size w w' := by
  have ka := Kp.alloc w (.cells #[.slice sa l.length sc, .int .i64 wi] 24)
  have CK := pcheck_any sa sc l wi _ (h.kp ka) (hT.ex.kp ka (by simp)) hok hl
  have HPC : Hid (∀ W, Kp [] (w.alloc (.cells #[.slice sa l.length sc, .int .i64 wi] 24)) W → W.cell? ⟨w.heap.size, 0, none⟩ = some (.slice sa l.length sc) ∧ W.cell? ⟨w.heap.size, 1, none⟩ = some (.int .i64 wi) ∧ w.heap.size < W.heap.size) := hide (fun W hk => pat_cells hk)
  have HKA := hide ka
  have HCK := hide CK
  by_cases h0 : (pcR ⟨stgs l, wi⟩).2 = 0
  · have hwr : wrP ⟨stgs l, wi⟩ = (txt (joR (ptK ⟨stgs l, wi⟩)).1, (joR (ptK ⟨stgs l, wi⟩)).2) := by unfold wrP; rw [if_pos h0]
    rw [hwr]
    obtain ⟨p1, p2, p3, p4⟩ := pc_ok h0
    dsimp only at p1 p2 p3 p4
    rw [stgs_len] at p1 p2
    have HOKS : Hid (∀ k (hk : k < l.length), ckK l[k].s.cd ≠ 0 ∧ 0 ≤ l[k].s.hw ∧ l[k].s.hw ≤ 3) := hide (fun k hk => by
      have := st_ok (p4 k (by rw [stgs_len]; exact hk))
      rw [stgs_at hk] at this
      exact ⟨by rw [this.2.2]; decide, this.2.1⟩)
    have HBD : Hid (∀ k, (((stgs l).take k).flatMap stK).length ≤ 1010 * k) := hide (fun k => flat_bound (fun s hs => by
      obtain ⟨i, hi, rfl⟩ := List.mem_iff_getElem.1 hs
      have h1 := st_ok (p4 i hi)
      rw [stgs_len] at hi
      rw [stgs_at hi] at h1 ⊢
      exact (stK_len (by rw [h1.2.2]; decide) (hok _ (List.getElem_mem hi)).2.2).1) k)
    have HNX : Hid (∀ k (hk : k < l.length), ((stgs l).take (k + 1)).flatMap stK = ((stgs l).take k).flatMap stK ++ stK l[k].s ∧ 0 < (stK l[k].s).length) := hide (fun k hk => by
      have := flat_next (l := stgs l) (k := k) (by rw [stgs_len]; exact hk)
      rw [stgs_at hk] at this
      have h1 := st_ok (p4 k (by rw [stgs_len]; exact hk))
      rw [stgs_at hk] at h1
      exact ⟨this, (stK_len (by rw [h1.2.2]; decide) (hok _ (List.getElem_mem hk)).2.2).2⟩)
    have HEN : Hid (((stgs l).take l.length).flatMap stK = (stgs l).flatMap stK) := hide (by rw [List.take_of_length_le (by rw [stgs_len]; omega)])
    have HTKO : Hid (∀ t ∈ ptK ⟨stgs l, wi⟩, t.ok) := hide (fun t ht => by
      unfold ptK at ht
      have z : (-9223372036854775808 : Int) ≤ 0 ∧ (0 : Int) ≤ 9223372036854775807 := ⟨by omega, by omega⟩
      simp only [List.mem_append, List.mem_flatMap, List.mem_cons, List.not_mem_nil, or_false] at ht
      rcases ht with ⟨s, hs, ht⟩ | rfl | rfl
      · unfold stgs at hs
        obtain ⟨r, hr, rfl⟩ := List.mem_map.1 hs
        exact stK_ok (hok r hr).1 t ht
      · exact small_ok 1 (by omega) _ (by decide) 0 z
      · exact small_ok 2 (by omega) _ (by show (0 : Nat) ≤ _; omega) wi (by omega))
    have HPK : Hid (ptK ⟨stgs l, wi⟩ = (stgs l).flatMap stK ++ [wdK (txt witW), ⟨2, ⟨#[]⟩, wi, 0⟩]) := hide rfl
    rw [h0] at HCK
    have HST := hide h
    have HTB := hide hT
    have HOK := hide hok
    clear h0 hwr CK ka h hT hok p4 hl
    generalize (pcR ⟨stgs l, wi⟩).1 = PA at *
    generalize ptK ⟨stgs l, wi⟩ = PK at *
    obtain ⟨n, hn⟩ : ∃ n, l.length = n := ⟨_, rfl⟩
    have HN := hide hn
    rw [hn] at HCK HPC HKA HEN p1 p2 ⊢
    clear hn
    go_enter Tryz.func23, Tryz.ntmps23
    obtain ⟨c0, c1, hlt0⟩ := unhide HPC _ (Kp.refl _ _)
    go_wp2_with fail
    refine (unhide HCK).mono ?_
    rintro e w1 ⟨rfl, hb1⟩
    have hk1 := Kp.ofBelow hb1
    obtain ⟨d0, d1, hlt1⟩ := unhide HPC w1 hk1
    have HK1 := hide hk1
    clear HCK hb1 hk1 c0 c1 hlt0
    go_wp2_with fail
    go_loopw [6, 20] (fun v i wr => ∃ (k : Nat) (a : Option Addr) (c NL : Nat), k ≤ n ∧ i = .int .i64 (k : Int) ∧ v = .slice a NL c ∧ NL = (((stgs l).take k).flatMap stK).length ∧ Hid (OwnsK (w.heap.size + 1) wr (.slice a NL c) (((stgs l).take k).flatMap stK)) ∧ Hid (Kp [] (w.alloc (.cells #[.slice sa n sc, .int .i64 wi] 24)) wr)) (fun _ i _ => n - (intOf i).toNat)
    case atStart => exact ⟨0, none, 0, 0, Nat.zero_le _, rfl, rfl, rfl, hide (OwnsK.nil _ _), HK1⟩
    case round =>
      obtain ⟨k, a, c, NL, hk, rfl, rfl, hNL, HO, HKR⟩ := hrel
      clear d0 d1 hlt1 HK1
      by_cases hlt : k < n
      · have hkx : k < l.length := by rw [unhide HN]; exact hlt
        have hli : (k : Int) < (n : Int) := by omega
        have kw : Kp [] w wr := (unhide HKA).trans (unhide HKR) (by simp)
        obtain ⟨b, off, rfl, hbl, x0, x1, x2, x3, hpts⟩ := ((unhide HST).kp kw).at k hkx
        obtain ⟨hck, hh0, hh3⟩ := unhide HOKS k hkx
        obtain ⟨hnx, hps⟩ := unhide HNX k hkx
        have hbd := unhide HBD (k + 1)
        have kst := Kp.alloc wr (.cells (stV l[k].s l[k].ad l[k].c) 54)
        have SK := stageTokens_any l[k].s l[k].ad l[k].c _ (hpts.kp kst) (((unhide HTB).kp kw (by simp)).kp kst (by simp)) (unhide HOK _ (List.getElem_mem hkx)) hck ⟨hh0, hh3⟩
        have HSK := hide SK
        have HKS := hide kst
        have HNXE := hide hnx
        rw [hnx, List.length_append, ← hNL] at hbd
        have HNL := hide hNL
        clear hpts SK kst hnx hck hh0 hh3 hNL kw HOKS HNX HBD HEN HTKO HPK HST HOK
        generalize ((stgs l).take k).flatMap stK = L0 at *
        generalize stK l[k].s = SK0 at *
        generalize l[k].s = s at *
        generalize l[k].ad = ad at *
        generalize l[k].c = cc at *
        obtain ⟨nm, hw, mn, cd⟩ := s
        unfold stV at HSK HKS
        dsimp only at x0 x1 x2 x3 HSK HKS
        generalize cd.length = CL at *
        have bx := CBox.new wr #[.string nm, .int .i64 hw, .bool mn, .slice ad CL cc] 54
        have z0 := bx.cell (i := 0) (v := .string nm) rfl
        have z1 := bx.cell (i := 1) (v := .int .i64 hw) rfl
        have z2 := bx.cell (i := 2) (v := .bool mn) rfl
        have z3 := bx.cell (i := 3) (v := .slice ad CL cc) rfl
        go_wp2_with fail
        refine (unhide HSK).mono ?_
        rintro e w3 ⟨g3, cp3, rfl, hat3, hb3⟩
        have k3 := (unhide HKS).trans (Kp.ofBelow hb3) (by simp)
        have hsz3 : w.heap.size + 1 ≤ w3.heap.size := by have h1 := (unhide HKR).size; have h2 := k3.size; simp at h1; omega
        obtain ⟨g4, c4, w4, hrun, ho4, hb4⟩ := OwnsK.app (c := cp3) ((unhide HO).kp k3) hsz3 hat3 hps (by rw [← unhide HNL]; omega) 71
        rw [← unhide HNL] at hrun ho4
        have HK4 : Hid (Kp [] (w.alloc (.cells #[.slice (some ⟨b, off, none⟩) n sc, .int .i64 wi] 24)) w4) := hide (by
          have kv := (unhide HKR).trans k3 (by simp)
          exact ⟨hb4.os.trans kv.os, hb4.tape.trans kv.tape, hb4.output.trans kv.output, Nat.le_trans kv.size hb4.size, fun i hi _ => (hb4.block i (by simpa using hi)).trans (kv.block i hi (by simp))⟩)
        obtain ⟨NL2, hNL2⟩ : ∃ q, NL + SK0.length = q := ⟨_, rfl⟩
        rw [hNL2] at hrun ho4
        have HNL2 : Hid (NL2 = (((stgs l).take (k + 1)).flatMap stK).length) := hide (by rw [unhide HNXE, List.length_append, ← unhide HNL, hNL2])
        have HO4 : Hid (OwnsK (w.heap.size + 1) w4 (.slice (some ⟨g4, 0, none⟩) NL2 c4) (((stgs l).take (k + 1)).flatMap stK)) := hide (by rw [unhide HNXE]; exact ho4)
        have HRUN := hide hrun
        clear HSK hat3 hb3 k3 hrun ho4 hb4 HKS HO HKR bx z0 z1 z2 z3 x0 x1 x2 x3 hNL2 HNXE hsz3
        dsimp only
        go_wp2_with (at_builtin; refine wpList_app_run rfl _ _ _ rfl rfl rfl (unhide HRUN) ?_)
        go_roundw
        case rel => exact ⟨k + 1, _, c4, NL2, by omega, by go_num, rfl, unhide HNL2, HO4, HK4⟩
        case measure => simp [intOf]; omega
      · obtain rfl : k = n := by omega
        have hbd := unhide HBD k
        rw [← hNL] at hbd
        rw [unhide HEN] at HO hNL
        have HNL := hide hNL
        have HPKE := hide (unhide HPK)
        obtain ⟨e0, e1, hltw⟩ := unhide HPC (wr.drew) ((unhide HKR).trans (Kp.drew wr) (by simp))
        clear HOKS HNX HBD HEN HPK HST HOK hNL
        generalize (stgs l).flatMap stK = L0 at *
        have hew : (txt witW) = ⟨#[119, 105, 116, 104, 105, 110]⟩ := rfl
        rw [hew] at HPKE
        obtain ⟨i0, hi, hz0, hz1, hz2⟩ := info_parts info_Tk
        have HWK : Hid (∀ wk, Below wr.drew.heap.size wr.drew wk → wk.cell? ⟨w.heap.size, 1, none⟩ = some (.int .i64 wi) ∧ (wk.alloc (.cells #[.int .i64 1, .string ⟨#[119, 105, 116, 104, 105, 110]⟩, .int .i64 0, .int .i64 0, .int .i64 2, .string ⟨#[]⟩, .int .i64 wi, .int .i64 0] 74)).ownsRow (w.heap.size + 1) 74 4 (.slice a NL c) NL (tkC L0) ∧ TksAt (wk.alloc (.cells #[.int .i64 1, .string ⟨#[119, 105, 116, 104, 105, 110]⟩, .int .i64 0, .int .i64 0, .int .i64 2, .string ⟨#[]⟩, .int .i64 wi, .int .i64 0] 74)) (some ⟨wk.heap.size, 0, none⟩) [wdK ⟨#[119, 105, 116, 104, 105, 110]⟩, ⟨2, ⟨#[]⟩, wi, 0⟩] ∧ w.heap.size + 1 ≤ (wk.alloc (.cells #[.int .i64 1, .string ⟨#[119, 105, 116, 104, 105, 110]⟩, .int .i64 0, .int .i64 0, .int .i64 2, .string ⟨#[]⟩, .int .i64 wi, .int .i64 0] 74)).heap.size) := hide (fun wk hb => by
          have kk := (Kp.drew wr).trans (Kp.ofBelow hb) (by simp)
          have ho := ((unhide HO).kp kk).kp (Kp.alloc wk (.cells #[.int .i64 1, .string ⟨#[119, 105, 116, 104, 105, 110]⟩, .int .i64 0, .int .i64 0, .int .i64 2, .string ⟨#[]⟩, .int .i64 wi, .int .i64 0] 74))
          unfold OwnsK at ho
          rw [← unhide HNL] at ho
          refine ⟨(Kp.ofBelow hb).cell e1 (by simp), ho, tks2 (t := wdK ⟨#[119, 105, 116, 104, 105, 110]⟩) (u := ⟨2, ⟨#[]⟩, wi, 0⟩) (CBox.new wk _ _), ?_⟩
          have h1 := (unhide HKR).size
          have h2 := kk.size
          simp at h1 ⊢
          omega)
        have HFIN : Hid (∀ wk g cap w8, Below wr.drew.heap.size wr.drew wk → w8.ownsRow (w.heap.size + 1) 74 4 (.slice (some ⟨g, 0, none⟩) (NL + 2) cap) (NL + 2) (tkC L0 ++ tkC [wdK ⟨#[119, 105, 116, 104, 105, 110]⟩, ⟨2, ⟨#[]⟩, wi, 0⟩]) → (wk.alloc (.cells #[.int .i64 1, .string ⟨#[119, 105, 116, 104, 105, 110]⟩, .int .i64 0, .int .i64 0, .int .i64 2, .string ⟨#[]⟩, .int .i64 wi, .int .i64 0] 74)).grownBy w8 (Value.slice a NL c).ownBlock → Calls Tryz.prog 41 #[.slice (some ⟨g, 0, none⟩) (NL + 2) cap] w8 (fun e w' => e = .returned (.tuple #[.string (txt (joR PK).1), .int .i64 (joR PK).2]) ∧ Below w8.heap.size w8 w') ∧ Below w.heap.size w w8) := hide (fun wk g cap w8 hb h8 hg8 => by
          have kk := (Kp.drew wr).trans (Kp.ofBelow hb) (by simp)
          have kv := ((unhide HKR).trans kk (by simp)).trans (Kp.alloc wk (.cells #[.int .i64 1, .string ⟨#[119, 105, 116, 104, 105, 110]⟩, .int .i64 0, .int .i64 0, .int .i64 2, .string ⟨#[]⟩, .int .i64 wi, .int .i64 0] 74)) (by simp)
          have hob : ∀ x ∈ (Value.slice a NL c).ownBlock.toList, w.heap.size + 1 ≤ x := fun x hx => (World.ownsRow.lt (unhide HO) x (by simpa using hx)).1
          have kp8 : Kp (Value.slice a NL c).ownBlock.toList _ w8 := Kp.of hg8
          have kall : Kp [] (w.alloc (.cells #[.slice sa k sc, .int .i64 wi] 24)) w8 := kv.trans kp8 (fun x hx => Or.inr (by have := hob x hx; simp; omega))
          have h8' : OwnsK (w.heap.size + 1) w8 (.slice (some ⟨g, 0, none⟩) (NL + 2) cap) PK := by
            rw [unhide HPKE]
            unfold OwnsK
            rw [tkC_append, List.length_append, ← unhide HNL]
            exact h8
          obtain ⟨a', c', e', hat, hcap⟩ := h8'.at
          injection e' with ea eb ec
          subst ea ec
          have J := join_any (some ⟨g, 0, none⟩) cap PK w8 ((unhide HTB).kp ((unhide HKA).trans kall (by simp)) (by simp)).ex.tok (by rw [← eb]; omega) hcap hat (unhide HTKO)
          rw [← eb] at J
          exact ⟨J, ((unhide HKA).trans kall (by simp)).below (Nat.le_refl _) (by simp)⟩)
        have WD := hide (word_tok ⟨#[119, 105, 116, 104, 105, 110]⟩ wr.drew)
        clear HO HKR HPKE HNL HTKO HTB e0
        generalize tkC L0 = TC at *
        go_wp2_with fail
        go_region_law
          (first
            | (refine step_append_lies rfl (.tmp 29) (.tmp 34) 71 rfl (w.heap.size + 1) 74 i0 (.agg #[.int .i64 0, .string ⟨#[]⟩, .int .i64 0, .int .i64 0]) 4 40 Tryz.underlying71 hi hz0 hz1 hz2 rfl (by decide) (.slice a NL c) NL TC rfl ownk ⟨wk.heap.size, 0, none⟩ 2 2 (tkC [wdK ⟨#[119, 105, 116, 104, 105, 110]⟩, ⟨2, ⟨#[]⟩, wi, 0⟩]) rfl rfl (tks_cells tksk) (tkC_one _) (by omega) (by unfold maxLen; omega) (by omega) hszk ?_; intro g8 cap8 w8 h8 hg8 hat8; obtain ⟨J8, hB8⟩ := unhide HFIN wk g8 cap8 w8 (unhide HBK) h8 hg8; have HJ8 := hide J8; have HB8 := hide hB8; clear h8 hg8 hat8 J8 hB8)
            | (go_simp; go_at_call 40; refine (unhide WD).mono ?_; rintro e wk ⟨rfl, hbk⟩; obtain ⟨e1k, ownk, tksk, hszk⟩ := unhide HWK wk hbk; have HBK := hide hbk; clear hbk))
        all_goals
          clear HFIN HWK ownk tksk hszk HBK
          go_wp2_with fail
          refine (unhide HJ8).mono ?_
          rintro e w9 ⟨rfl, hb9⟩
          have HB9 := hide ((unhide HB8).trans (hb9.mono (unhide HB8).size))
          clear hb9 HJ8 HB8
          go_wp2
          exact bodyPost_ret (results_tmp2 rfl _ _ _) rfl ⟨rfl, unhide HB9⟩
  · have hcd := pc_code ⟨stgs l, wi⟩
    have h120 : (pcR ⟨stgs l, wi⟩).2 = 120 := by rcases hcd with h | h; exact absurd h h0; exact h
    have hwr : wrP ⟨stgs l, wi⟩ = (⟨#[]⟩, 120) := by unfold wrP; rw [if_neg h0, h120]
    rw [hwr]
    rw [h120] at HCK
    clear h0 hcd h120 hwr CK ka h hT hok
    generalize (pcR ⟨stgs l, wi⟩).1 = PA at *
    obtain ⟨c0, c1, _⟩ := unhide HPC _ (Kp.refl _ _)
    go_enter Tryz.func23, Tryz.ntmps23
    go_wp2_with fail
    refine (unhide HCK).mono ?_
    rintro e w1 ⟨rfl, hb1⟩
    have HB := hide (((unhide HKA).trans (Kp.ofBelow hb1) (by simp)).below (Nat.le_refl _) (by simp))
    clear HCK hb1 c0 c1
    go_wp2
    exact bodyPost_ret (results_tmp2 rfl _ _ _) rfl ⟨rfl, unhide HB⟩
end Go.Proofs.YtjijhefmbmdbeaaGreatDoor
namespace Go.Proofs.YtjijhefmbmdbeaaGreatDoor
open Go.RowKit Go.Shelf

theorem toks_over (l : List Tk) (k c : Nat) (hl : ∀ t ∈ l, wrOk t = true) (hc : 4096 < c + l.length) (h0 : c ≤ 4096) : ∃ p, toks (tailB l) k c = .bad p 2 := by
  induction l generalizing k c with
  | nil => simp at hc; omega
  | cons t r ih =>
    have e : tailB (t :: r) = 32 :: (spell t ++ tailB r) := by unfold tailB; simp
    rw [e, toks_blk rfl]
    have hw := hl t (by simp)
    by_cases hf : c = 4096
    · subst hf
      exact ⟨k + 1, toks_many (tkR_app ((wrOk_iff t).1 hw).2 (tail_gap r))⟩
    · rw [toks_word hw (tail_gap r) hf]
      obtain ⟨p, hp⟩ := ih (k + 1 + (spell t).length) (c + 1) (fun x hx => hl x (by simp [hx])) (by simp at hc; omega) (by omega)
      rw [hp]
      exact ⟨p, rfl⟩
theorem join_over (l : List Tk) (hl : ∀ t ∈ l, wrOk t = true) (hc : 4096 < l.length) : ∃ p, toks (joinB l) 0 0 = .bad p 2 := by
  cases l with
  | nil => simp at hc
  | cons t r =>
    rw [joinB, toks_word (hl t (by simp)) (tail_gap r) (by omega)]
    obtain ⟨p, hp⟩ := toks_over r (0 + (spell t).length) 1 (fun x hx => hl x (by simp [hx])) (by simp at hc; omega) (by omega)
    rw [hp]
    exact ⟨p, rfl⟩
theorem joR_plain {l : List Tk} (hl : ∀ t ∈ l, wrOk t = true) (hne : isEnd l = false) : joR l = if 4096 < l.length ∨ 262144 < (joinB l).length then ([], 2) else (joinB l, 0) := by
  have e1 : cutL l = l := by unfold cutL; rw [hne]; rfl
  have e2 : endT l = ⟨0, ⟨#[]⟩, 0, 0⟩ := by unfold endT; rw [hne]; rfl
  unfold joR
  rw [e1, e2]
  by_cases h1 : 4096 < l.length
  · rw [if_pos h1, if_pos (Or.inl h1)]
  · rw [if_neg h1, if_neg (not_not_intro hl), if_neg (not_not_intro ⟨rfl, rfl⟩)]
    by_cases h2 : 262144 < (joinB l).length
    · rw [if_pos h2, if_pos (Or.inr h2)]
    · rw [if_neg h2, if_neg (by omega)]
/-- What the document's Tokens tells of a joined text. -/
theorem told_join {l : List Tk} (hl : ∀ t ∈ l, wrOk t = true) : tsC (tsR (txt (joinB l))) = if 4096 < l.length ∨ 262144 < (joinB l).length then 2 else 0 := by
  unfold tsR
  rw [txt_size, txt_list]
  by_cases h2 : 262144 < (joinB l).length
  · rw [if_pos h2, if_pos (Or.inr h2)]; rfl
  · rw [if_neg h2]
    by_cases h1 : 4096 < l.length
    · obtain ⟨p, hp⟩ := join_over l hl h1
      rw [hp, if_pos (Or.inl h1)]; rfl
    · obtain ⟨ts, ht, _⟩ := toks_join l 0 hl (by omega)
      rw [ht, if_neg (by omega)]; rfl
/-- So what the document's Write tells is what Join tells. -/
theorem write_same {l : List Tk} (hl : ∀ t ∈ l, wrOk t = true) (hne : isEnd l = false) : (txt (joR l).1, (joR l).2) = if tsC (tsR (txt (joinB l))) = 0 then (txt (joinB l), (0 : Int)) else (⟨#[]⟩, 2) := by
  rw [joR_plain hl hne, told_join hl]
  by_cases h : 4096 < l.length ∨ 262144 < (joinB l).length
  · rw [if_pos h, if_pos h, if_neg (by decide)]; rfl
  · rw [if_neg h, if_neg h, if_pos rfl]
theorem joinB_out {a b : List Tk} (h : a.map (Tk.out · 0) = b.map (Tk.out · 0)) : joinB a = joinB b := by
  have hs : a.map spell = b.map spell := by
    have := congrArg (List.map spell) h
    rw [List.map_map, List.map_map] at this
    exact this
  have ht : ∀ x y : List Tk, x.map spell = y.map spell → tailB x = tailB y := by
    intro x
    induction x with
    | nil => intro y hy; cases y with
      | nil => rfl
      | cons _ _ => cases hy
    | cons p r ih =>
      intro y hy
      cases y with
      | nil => cases hy
      | cons q s =>
        simp only [List.map_cons, List.cons.injEq] at hy
        have := ih s hy.2
        unfold tailB at this ⊢
        simp only [List.flatMap_cons, this, hy.1]
  cases a with
  | nil => cases b with
    | nil => rfl
    | cons _ _ => cases hs
  | cons p r =>
    cases b with
    | nil => cases hs
    | cons q s =>
      simp only [List.map_cons, List.cons.injEq] at hs
      rw [joinB, joinB, hs.1, ht _ _ hs.2]
/-- A condition's text is its tokens joined. -/
theorem cond_join {x : List Pt} (h : ckK x ≠ 0) (hok : ∀ p ∈ x, p.ok) : wrS x = txt (joinB (cdT x)) := by
  obtain ⟨t, h1, h2, h3, h4, h5, h6, h7, h8⟩ := cdT_is h hok
  have hfd : fdX wrv x = some (t.val wrv) := by rw [h3]; exact fdX_flat wrv t h1
  have hw : wrS x = txt t.wr := by unfold wrS; rw [if_neg h, hfd]; rfl
  rw [hw, t.wr_tok, joinB_out h6]
/-! The document's text. -/
def stB (s : Stg) : List UInt8 := (hwW s.hw ++ [32] ++ s.nm.data.toList) ++ ((if s.mn then [32, 43] else []) ++ ([32, 58, 32] ++ joinB (cdT s.cd) ++ [32, 59, 32]))
theorem joinB_cons (t : Tk) (r : List Tk) (h : r ≠ []) : joinB (t :: r) = spell t ++ ([32] ++ joinB r) := by
  have := joinB_app [t] r (by simp) h
  rw [joinB_one] at this
  exact this
theorem spell_wd (b : ByteArray) : spell (wdK b) = b.data.toList := spell_s (by decide) (by decide)
theorem spell_sg (b : ByteArray) : spell (sgK b) = b.data.toList := spell_s (by decide) (by decide)
theorem stage_join (s : Stg) (hc : cdT s.cd ≠ []) (r : List Tk) (hr : r ≠ []) : joinB (stK s ++ r) = stB s ++ joinB r := by
  have e3 : joinB (cdT s.cd ++ [sgK (txt [59])] ++ r) = joinB (cdT s.cd) ++ [32, 59, 32] ++ joinB r := by
    rw [joinB_app _ r (by simp) hr, joinB_app _ [sgK (txt [59])] hc (by simp), joinB_one, spell_sg, txt_list]
    simp
  have e2 : joinB ([sgK (txt [58])] ++ (cdT s.cd ++ [sgK (txt [59])]) ++ r) = [58, 32] ++ joinB (cdT s.cd) ++ [32, 59, 32] ++ joinB r := by
    rw [List.append_assoc, List.singleton_append, joinB_cons _ _ (by simp), e3, spell_sg, txt_list]
    simp
  unfold stK stB
  cases s.mn with
  | false =>
    simp only [Bool.false_eq_true, if_false, List.nil_append, List.cons_append]
    rw [joinB_cons _ _ (by simp), joinB_cons _ _ (by simp)]
    have e2' : joinB (sgK (txt [58]) :: (cdT s.cd ++ [sgK (txt [59])] ++ r)) = [58, 32] ++ joinB (cdT s.cd) ++ [32, 59, 32] ++ joinB r := by
      simpa using e2
    rw [e2', spell_wd, spell_wd, txt_list]
    simp
  | true =>
    simp only [if_true, List.nil_append, List.cons_append]
    rw [joinB_cons _ _ (by simp), joinB_cons _ _ (by simp), joinB_cons _ _ (by simp)]
    have e2' : joinB (sgK (txt [58]) :: (cdT s.cd ++ [sgK (txt [59])] ++ r)) = [58, 32] ++ joinB (cdT s.cd) ++ [32, 59, 32] ++ joinB r := by
      simpa using e2
    rw [e2', spell_wd, spell_wd, spell_sg, txt_list, txt_list]
    simp
theorem pat_join (l : List Stg) (hl : ∀ s ∈ l, cdT s.cd ≠ []) (wi : Int) : joinB (ptK ⟨l, wi⟩) = l.flatMap stB ++ (witW ++ [32] ++ Lib.itoa wi) := by
  unfold ptK
  dsimp only
  induction l with
  | nil =>
    rw [List.flatMap_nil, List.flatMap_nil, List.nil_append, List.nil_append, joinB_cons _ _ (by simp), joinB_one, spell_wd, spell_n, txt_list]
    simp
  | cons s r ih =>
    rw [List.flatMap_cons, List.flatMap_cons, List.append_assoc, stage_join s (hl s (by simp)) _ (by simp), ih (fun x hx => hl x (by simp [hx]))]
    simp only [List.append_assoc]
theorem hw_wr : ∀ k : Fin 4, wrOk (wdK (txt (hwW (k.val : Int)))) = true := by decide +kernel
theorem sig_wr : wrOk (sgK (txt [43])) = true ∧ wrOk (sgK (txt [58])) = true ∧ wrOk (sgK (txt [59])) = true ∧ wrOk (wdK (txt witW)) = true := by decide +kernel
theorem cdT_wr (x : List Pt) : ∀ t ∈ cdT x, wrOk t = true := by
  unfold cdT tsR
  by_cases h : 262144 < (wrS x).size
  · rw [if_pos h]; simp
  · rw [if_neg h]
    cases ht : toks (wrS x).data.toList 0 0 with
    | bad _ _ => simp
    | good ts => exact (toks_ok _ 0 0 ts ht (by omega)).2
/-- Every token of a pattern that may be could come out of a text. -/
theorem ptK_wr {p : Ptn} (h : (pcR p).2 = 0) : ∀ t ∈ ptK p, wrOk t = true := by
  obtain ⟨_, _, hw, p4⟩ := pc_ok h
  intro t ht
  unfold ptK at ht
  simp only [List.mem_append, List.mem_flatMap, List.mem_cons, List.not_mem_nil, or_false] at ht
  rcases ht with ⟨s, hs, ht⟩ | rfl | rfl
  · obtain ⟨i, hi, rfl⟩ := List.mem_iff_getElem.1 hs
    obtain ⟨h1, ⟨h2, h3⟩, _⟩ := st_ok (p4 i hi)
    unfold stK at ht
    simp only [List.mem_append, List.mem_cons, List.not_mem_nil, or_false] at ht
    rcases ht with (rfl | rfl) | ht | rfl | ht | rfl
    · have := hw_wr ⟨p.ss[i].hw.toNat, by omega⟩
      rw [show ((p.ss[i].hw.toNat : Nat) : Int) = p.ss[i].hw by omega] at this
      exact this
    · exact wr_stage _ h1
    · split at ht
      · simp only [List.mem_singleton] at ht; subst ht; exact sig_wr.1
      · cases ht
    · exact sig_wr.2.1
    · exact cdT_wr _ t ht
    · exact sig_wr.2.2.1
  · exact sig_wr.2.2.2
  · exact wr_num p.wi (by omega) (by omega)
theorem ptK_end (p : Ptn) : isEnd (ptK p) = false := by
  unfold isEnd ptK
  rw [show p.ss.flatMap stK ++ [wdK (txt witW), ⟨2, ⟨#[]⟩, p.wi, 0⟩] = (p.ss.flatMap stK ++ [wdK (txt witW)]) ++ [⟨2, ⟨#[]⟩, p.wi, 0⟩] by simp, List.getLast?_append]
  simp
end Go.Proofs.YtjijhefmbmdbeaaGreatDoor
