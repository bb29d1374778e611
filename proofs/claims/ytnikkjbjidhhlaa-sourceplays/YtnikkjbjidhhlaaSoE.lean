/-
  A source: Put, the walks.
-/
import Derived.Test.YtnikkjbjidhhlaaSoD
namespace Go.Proofs.Ytnikkjbjidhhlaa
open Go.RowKit

/-- The plain Put: the partition, the offset, the error, and what there is then. -/
def puP (ps : List (List Ev)) (e : Ev) : Nat := partOf ps.length e.k
def puE (ps : List (List Ev)) (e : Ev) : Int := if e.may = true then (if (ps[puP ps e]?.getD []).length < 4096 then 0 else 2) else 20
def puS (ps : List (List Ev)) (e : Ev) : List (List Ev) := if puE ps e = 0 then soAdd ps (puP ps e) e else ps
def puA (ps : List (List Ev)) (e : Ev) : Int := if puE ps e = 0 then (puP ps e : Int) else 0
def puO (ps : List (List Ev)) (e : Ev) : Int := if puE ps e = 0 then ((ps[puP ps e]?.getD []).length : Int) else 0
theorem Ev.may_sm {e : Ev} (h : e.may = true) : e.sm := by
  have := mayE_sizes h
  exact ⟨by omega, by omega, this.2.2⟩
set_option maxHeartbeats 1000000 in
set_option maxRecDepth 100000 in
theorem put_not (g : Nat) (e : Ev) (w : World) (hok : e.ok) (hm : e.may = false) :
    Calls Try.prog 16 #[.pointer (some ⟨g, 0, none⟩), .agg e.c] w fun r w' => r = .returned (.tuple #[.int .i64 0, .int .i64 0, .int .i64 20]) ∧ Kp [] w w' := by
  have ck := fun W => check_any e.k e.t e.x e.n0 e.n1 e.n2 e.n3 W hok.1 hok.2.1 hok.2.2.1
  have hch : chkE e.k e.t e.x = 20 := if_neg (by unfold Ev.may at hm; rw [hm]; simp)
  rw [hch] at ck
  have CK := hide ck
  clear ck hch hm hok
  obtain ⟨k, t, n0, n1, n2, n3, x⟩ := e
  unfold Ev.c
  dsimp only at CK ⊢
  go_enter Try.func16, Try.ntmps16
  go_wp2_with fail
  refine (unhide CK _).mono ?_
  rintro r w1 ⟨rfl, rfl⟩
  go_wp2
  go_ret3
  exact ⟨rfl, (Kp.alloc _ _).trans (Kp.alloc _ _) (by simp)⟩
set_option maxHeartbeats 1000000 in
set_option maxRecDepth 100000 in
theorem put_full (g q : Nat) (vs : List Value) (ps : List (List Ev)) (e : Ev) (w : World) (h : SrcV w g q vs ps) (hok : e.ok) (hm : e.may = true) (hi : puP ps e < ps.length) (hl : ¬ ps[puP ps e].length < 4096) :
    Calls Try.prog 16 #[.pointer (some ⟨g, 0, none⟩), .agg e.c] w fun r w' => r = .returned (.tuple #[.int .i64 0, .int .i64 0, .int .i64 2]) ∧ Kp [] w w' := by
  have ck := fun W => check_any e.k e.t e.x e.n0 e.n1 e.n2 e.n3 W hok.1 hok.2.1 hok.2.2.1
  have hch : chkE e.k e.t e.x = 0 := if_pos hm
  rw [hch] at ck
  have CK := hide ck
  have PA := hide (fun W (hW : Kp [] w W) => part_any g q vs ps e.k W (h.kp hW (by simp)) hok.1)
  have EN := hide (fun W (hW : Kp [] w W) => end_any g q vs ps (puP ps e) hi W (h.kp hW (by simp)))
  have hlm : ps[puP ps e].length ≤ 4096 := h.lim _ (List.getElem_mem _)
  have hlq : ps[puP ps e].length = 4096 := by omega
  rw [hlq] at EN
  have hpp : partOf ps.length e.k = puP ps e := rfl
  rw [hpp] at PA
  clear ck hch hm hok hlm hlq hl hpp h
  generalize puP ps e = p at *
  clear hi
  obtain ⟨k, t, n0, n1, n2, n3, x⟩ := e
  unfold Ev.c
  dsimp only at CK PA ⊢
  go_enter Try.func16, Try.ntmps16
  go_wp2_with fail
  refine (unhide CK _).mono ?_
  rintro r w1 ⟨rfl, rfl⟩
  have k2 : Kp [] w ((w.alloc (.cells #[.string k, .string t, .int .i64 n0, .int .i64 n1, .int .i64 n2, .int .i64 n3, .string x] 45)).alloc (.cells #[.string k, .string t, .int .i64 n0, .int .i64 n1, .int .i64 n2, .int .i64 n3, .string x] 45)) := (Kp.alloc _ _).trans (Kp.alloc _ _) (by simp)
  go_wp2_with fail
  refine (unhide PA _ k2).mono ?_
  rintro r w3 ⟨rfl, k3⟩
  have k3' := k2.trans k3 (by simp)
  have K3 := hide k3'
  clear k2 k3 k3'
  go_wp2_with fail
  refine (unhide EN w3 (unhide K3)).mono ?_
  rintro r w4 ⟨rfl, rfl⟩
  go_wp2
  go_ret3
  exact ⟨rfl, unhide K3⟩
/-- The cells that Put's last statement reads and does not write. -/
def PutC (g q n b : Nat) (e : Ev) (W : World) : Prop := W.cell? ⟨g, 0, none⟩ = some (.slice (some ⟨q, 0, none⟩) n n) ∧ W.cell? ⟨b, 0, none⟩ = some (.string e.k) ∧ W.cell? ⟨b, 1, none⟩ = some (.string e.t) ∧ W.cell? ⟨b, 2, none⟩ = some (.int .i64 e.n0) ∧ W.cell? ⟨b, 3, none⟩ = some (.int .i64 e.n1) ∧ W.cell? ⟨b, 4, none⟩ = some (.int .i64 e.n2) ∧ W.cell? ⟨b, 5, none⟩ = some (.int .i64 e.n3) ∧ W.cell? ⟨b, 6, none⟩ = some (.string e.x)
theorem PutC.of {g q n b : Nat} {e : Ev} {W : World} (h : CBox g #[.slice (some ⟨q, 0, none⟩) n n] 78 W) (hb : CBox b e.c 45 W) : PutC g q n b e W := ⟨h.cell rfl, hb.cell rfl, hb.cell rfl, hb.cell rfl, hb.cell rfl, hb.cell rfl, hb.cell rfl, hb.cell rfl⟩
theorem put_pre {w5 : World} {g q b i : Nat} {vs : List Value} {ps : List (List Ev)} {e : Ev} {ad : Option Addr} {m cap : Nat} (h : SrcV w5 g q vs ps) (hb : CBox b e.c 45 w5) (hbn : b ∉ soF g q vs) (hi : i < ps.length) (hm : ps[i].length = m) (hv : vs[i]? = some (.slice ad m cap)) (he : e.sm) :
    PutC g q ps.length b e w5 ∧ w5.cell? ⟨q, i, none⟩ = some (.slice ad m cap) ∧ Calls Try.prog 42 #[.agg e.c] w5 fun r w6 => r = .returned (.agg e.c) ∧ Kp [] w5 w6 ∧ PutC g q ps.length b e w6 ∧ w6.cell? ⟨q, i, none⟩ = some (.slice ad m cap) ∧ PutC g q ps.length b e (w6.alloc (.cells e.c 45)) ∧ (w6.alloc (.cells e.c 45)).cell? ⟨q, i, none⟩ = some (.slice ad m cap) ∧ (w6.alloc (.cells e.c 45)).ownsRow 0 45 7 (.slice ad m cap) m (evC ps[i]) ∧
      (∀ W, (w6.alloc (.cells e.c 45)).grownBy W (Value.slice ad m cap).ownBlock → W.frozen? ⟨q, i, none⟩ = false ∧ W.cell? ⟨q, i, none⟩ = some (.slice ad m cap) ∧ PutC g q ps.length b e W ∧ ∀ v, PutC g q ps.length b e (W.setCell ⟨q, i, none⟩ v)) := by
  have hcell : ∀ W, SrcV W g q vs ps → W.cell? ⟨q, i, none⟩ = some (.slice ad m cap) := fun W hW => by
    obtain ⟨ad', cap', c1, v1, _⟩ := hW.at i hi
    rw [c1, ← v1]; exact hv
  refine ⟨PutC.of h.box hb, hcell _ h, (cloneOf_any e w5 he).mono fun r w6 hh => ?_⟩
  obtain ⟨h1, hk6⟩ := hh
  have h6 := h.kp hk6 (by simp)
  have hb6 := hb.kp hk6 (by simp)
  have h7 := h6.kp (Kp.alloc w6 (.cells e.c 45)) (by simp)
  have hb7 := hb6.kp (Kp.alloc w6 (.cells e.c 45)) (by simp)
  have hr := h7.inn i _ ps[i] hv (List.getElem?_eq_getElem hi)
  have hr' : (w6.alloc (.cells e.c 45)).ownsRow 0 45 7 (.slice ad m cap) m (evC ps[i]) := by
    have : (w6.alloc (.cells e.c 45)).ownsRow 0 45 7 (.slice ad m cap) ps[i].length (evC ps[i]) := hr
    rw [hm] at this; exact this
  refine ⟨h1, hk6, PutC.of h6.box hb6, hcell _ h6, PutC.of h7.box hb7, hcell _ h7, hr', fun W hg => ?_⟩
  have hin : ∀ k, (Value.slice ad m cap).ownBlock = some k → k ∈ soF g q vs := fun k hk => by
    unfold soF
    exact List.mem_cons_of_mem _ (List.mem_cons_of_mem _ (List.mem_filterMap.2 ⟨_, List.mem_of_getElem? hv, hk⟩))
  have hbk : ∀ b, b = g ∨ b = q → some b ≠ (Value.slice ad m cap).ownBlock := fun b hb e => by
    obtain ⟨cur, hc⟩ := hr.block e.symm
    rcases hb with rfl | rfl
    · have hb : (w6.alloc (.cells _ 45)).heap[b]? = _ := h7.box
      rw [hc] at hb
      injection hb with e; injection e with _ e; exact absurd e (by decide)
    · have hb : (w6.alloc (.cells _ 45)).heap[b]? = _ := h7.row
      rw [hc] at hb
      injection hb with e; injection e with _ e; exact absurd e (by decide)
  have hgq : g ≠ q := by
    rintro rfl
    have hb : w5.heap[g]? = _ := h.box
    have hc : w5.heap[g]? = _ := h.row
    rw [hc] at hb
    injection hb with e; injection e with _ e; exact absurd e (by decide)
  have bq : CBox q vs.toArray 51 W := (hg.block q (h7.lt q (by simp [soF])) (hbk q (Or.inr rfl))).trans h7.row
  have bg : CBox g #[.slice (some ⟨q, 0, none⟩) ps.length ps.length] 78 W := (hg.block g (h7.lt g (by simp [soF])) (hbk g (Or.inl rfl))).trans h7.box
  have bb : CBox b e.c 45 W := (hg.block b (Array.getElem?_eq_some_iff.1 hb7).1 (fun e => hbn (hin b e.symm))).trans hb7
  exact ⟨bq.froz i, bq.cell (by simpa using hv), PutC.of bg bb, fun v => PutC.of (bg.kp (Kp.set W q i v) (by simpa using hgq)) (bb.kp (Kp.set W q i v) (by simp; rintro rfl; exact hbn (by simp [soF])))⟩
set_option maxHeartbeats 20000000 in
set_option maxRecDepth 100000 in
theorem put_ok (g q : Nat) (vs : List Value) (ps : List (List Ev)) (e : Ev) (w : World) (h : SrcV w g q vs ps) (hok : e.ok) (hm : e.may = true) (hi : puP ps e < ps.length) (hl : ps[puP ps e].length < 4096) :
    Calls Try.prog 16 #[.pointer (some ⟨g, 0, none⟩), .agg e.c] w fun r w' => r = .returned (.tuple #[.int .i64 (puP ps e : Int), .int .i64 (ps[puP ps e].length : Int), .int .i64 0]) ∧ SDid w (soF g q vs) g (soAdd ps (puP ps e) e) w' := by
  have ck := fun W => check_any e.k e.t e.x e.n0 e.n1 e.n2 e.n3 W hok.1 hok.2.1 hok.2.2.1
  have hch : chkE e.k e.t e.x = 0 := if_pos hm
  rw [hch] at ck
  have CK := hide ck
  have PA := hide (fun W (hW : Kp [] w W) => part_any g q vs ps e.k W (h.kp hW (by simp)) hok.1)
  have EN := hide (fun W (hW : Kp [] w W) => end_any g q vs ps (puP ps e) hi W (h.kp hW (by simp)))
  have hsm := Ev.may_sm hm
  have hpp : partOf ps.length e.k = puP ps e := rfl
  rw [hpp] at PA
  obtain ⟨ad, cap, hx1, hv0, hx2⟩ := h.at (puP ps e) hi
  have hf := h.few
  generalize hmm : ps[puP ps e].length = m at *
  clear ck hch hm hok hpp hx1 hx2
  generalize puP ps e = p at *
  have HPOST : Hid (∀ w5 w6 w7 g7 cap7, Kp [] w w5 → Kp [] w5 w6 → w7.ownsRow 0 45 7 (.slice (some ⟨g7, 0, none⟩) (m + 1) cap7) (m + 1) (evC ps[p] ++ e.c.toList) → (w6.alloc (.cells e.c 45)).grownBy w7 (Value.slice ad m cap).ownBlock → ((Value.slice ad m cap).ownBlock = some g7 ∨ g7 = (w6.alloc (.cells e.c 45)).heap.size) →
      SDid w (soF g q vs) g (soAdd ps p e) (w7.setCell ⟨q, p, none⟩ (.slice (some ⟨g7, 0, none⟩) (m + 1) cap7))) := hide (fun w5 w6 w7 g7 cap7 a1 a3 a4 a5 a6 => put_of (h.kp a1 (by simp)) a1 a3 hi hmm hv0 hsm hl a4 a5 a6)
  have HPRE := hide (fun w5 (hk : Kp [] w w5) (hb : CBox w.heap.size e.c 45 w5) => put_pre (h.kp hk (by simp)) hb (fun hm => Nat.lt_irrefl _ (h.lt _ hm)) hi hmm hv0 hsm)
  clear hsm hmm hv0 h
  generalize ps[p] = PSP at *
  have hpi : (p : Int) < (ps.length : Int) := by omega
  clear hi
  generalize ps.length = n at *
  have hbx0 := CBox.new w e.c 45
  have k1 := Kp.alloc w (.cells e.c 45)
  have k2 := Kp.alloc (w.alloc (.cells e.c 45)) (.cells e.c 45)
  have hbx := hbx0.kp k2 (by simp)
  have k2' := k1.trans k2 (by simp)
  clear hbx0 k1 k2
  have hnw := ev_new (e := e) (t := 45)
  have hon := ev_one e
  obtain ⟨k, t, n0, n1, n2, n3, x⟩ := e
  unfold PutC at HPRE
  unfold Ev.c at *
  dsimp only at CK PA HPRE HPOST hbx k2' hnw hon ⊢
  have HNW := hide hnw
  have HON := hide hon
  clear hnw hon
  go_enter Try.func16, Try.ntmps16
  go_wp2_with fail
  refine (unhide CK _).mono ?_
  rintro r w1 ⟨rfl, rfl⟩
  generalize (w.alloc (.cells #[.string k, .string t, .int .i64 n0, .int .i64 n1, .int .i64 n2, .int .i64 n3, .string x] 45)).alloc (.cells #[.string k, .string t, .int .i64 n0, .int .i64 n1, .int .i64 n2, .int .i64 n3, .string x] 45) = W2 at *
  have d0 : W2.cell? ⟨w.heap.size, 0, none⟩ = some (.string k) := hbx.cell rfl
  have K2 := hide k2'
  have HB := hide hbx
  clear k2' hbx
  go_wp2_with fail
  refine (unhide PA W2 (unhide K2)).mono ?_
  rintro r w3 ⟨rfl, k3⟩
  have K3 := hide ((unhide K2).trans k3 (by simp))
  have B3 := hide ((unhide HB).kp k3 (by simp))
  clear k3 K2 HB PA CK d0
  go_wp2_with fail
  refine (unhide EN w3 (unhide K3)).mono ?_
  rintro r w4 ⟨rfl, rfl⟩
  have K5 := hide ((unhide K3).trans (Kp.drew w4) (by simp))
  obtain ⟨cA, cB, co⟩ := unhide HPRE w4.drew (unhide K5) ((unhide B3).kp (Kp.drew w4) (by simp))
  have CO := hide co
  obtain ⟨i0, hi0, hz0, hz1, hz2⟩ := info_parts info_event
  clear co EN HPRE B3 K3
  go_wp2_with fail
  go_region_law
    (first
      | (refine step_append_lies rfl (.tmp 33) (.tmp 36) 51 rfl 0 45 i0 (.agg #[.string ⟨#[]⟩, .string ⟨#[]⟩, .int .i64 0, .int .i64 0, .int .i64 0, .int .i64 0, .string ⟨#[]⟩]) 7 80 Try.underlying51 hi0 hz0 hz1 hz2 rfl (by decide) (.slice ad m cap) m (evC PSP) rfl own6 ⟨w6.heap.size, 0, none⟩ 1 1 [.string k, .string t, .int .i64 n0, .int .i64 n1, .int .i64 n2, .int .i64 n3, .string x] rfl rfl (unhide HNW w6) (unhide HON) (by omega) (by unfold maxLen; omega) (by omega) (Nat.zero_le _) ?_; intro g7 cap7 w7 hown7 hg7 hat7; obtain ⟨fr7, q7, c7, c8⟩ := unhide HPC w7 hg7; have HOWN7 := hide hown7; have HG7 := hide hg7; have HAT7 := hide hat7; clear hown7 hg7 hat7)
      | (go_simp; go_at_call 42; refine (unhide CO).mono ?_; rintro r w6 ⟨rfl, hk6, cC, cD, cE, cF, own6, hpc⟩; have HK6 := hide hk6; have HPC := hide hpc; clear hk6 hpc))
  all_goals
    have HA := hide (unhide HPOST w4.drew w6 w7 g7 cap7 (unhide K5) (unhide HK6) (unhide HOWN7) (unhide HG7) (unhide HAT7))
    clear HOWN7 HG7 HAT7 HPC HK6 K5 HPOST HNW HON own6
    go_wp2
    go_ret3
    exact ⟨rfl, unhide HA⟩
end Go.Proofs.Ytnikkjbjidhhlaa
