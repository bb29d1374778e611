/-
  CopyPattern: a pattern of its own.
-/
import Derived.Test.YtjijhefmbmdbeaaGreatDoorP41
import Derived.Test.YtjijhefmbmdbeaaGreatDoorP44
import Derived.Test.YtjijhefmbmdbeaaGreatDoorP27
import Derived.Test.YtjijhefmbmdbeaaGreatDoorP13
import Derived.Deep.DeepCutAuto
namespace Go.Proofs.YtjijhefmbmdbeaaGreatDoor
open Go.RowKit Go.Shelf

theorem OwnsP.zero (w : World) : OwnsP w.heap.size (w.alloc (.cells #[] 86)) (.slice (some ⟨w.heap.size, 0, none⟩) 0 0) [] :=
  ⟨rfl, Or.inr ⟨w.heap.size, 0, #[], rfl, Nat.le_refl _, CBox.new w _ _, Nat.le_refl _, by unfold maxLen; omega, rfl, rfl⟩⟩
/-- append([]Part{}, x...). -/
theorem run_copyP {w : World} {ad : Option Addr} {c : Nat} {x : List Pt} (h : PtsAt w ad x) (ha : ad = none → c = 0) (hl : x.length * 56 ≤ 140737488351232) (ty : TypeId) :
    ∃ g cap w', (Builtin.append_ #[52, 52] ty #[.slice (some ⟨w.heap.size, 0, none⟩) 0 0, .slice ad x.length c]).run Tryz.prog (w.alloc (.cells #[] 86)) = .ok (.slice (some ⟨g, 0, none⟩) x.length cap) w' ∧ OwnsP w.heap.size w' (.slice (some ⟨g, 0, none⟩) x.length cap) x ∧ Kp [] w w' := by
  obtain ⟨i0, hi, hz0, hz1, hz2⟩ := info_parts info_Pt
  have ho := OwnsP.zero w
  have k0 := Kp.alloc w (.cells #[] 86)
  have hz : (w.alloc (.cells #[] 86)).heap.size = w.heap.size + 1 := by simp
  cases ad with
  | none =>
    obtain rfl := ha rfl
    obtain rfl : x = [] := by
      rcases x with _ | ⟨p, r⟩
      · rfl
      · obtain ⟨b, off, e, _⟩ := h (by simp)
        cases e
    exact ⟨w.heap.size, 0, _, by simpa using run_append_owned_none (P := Tryz.prog) (w := w.alloc (.cells #[] 86)) w.heap.size _ ty 86 i0 5 Tryz.underlying52 hi _ _ _ ho, ho, k0⟩
  | some a =>
    by_cases h0 : x = []
    · subst h0
      have := run_append_room_cells (P := Tryz.prog) (w := w.alloc (.cells #[] 86)) 52 ty 86 i0 Tryz.underlying52 hi w.heap.size 0 0 0 a 0 c [] (by simp) (fun j u hj => by simp at hj) (fun u hu => by cases hu) (by omega) (fun j hj => absurd hj (by simp)) (fun j hj => absurd hj (by simp))
      exact ⟨w.heap.size, 0, _, by simpa [World.setCells] using this, ho, k0⟩
    · obtain ⟨b, off, e, _⟩ := id (h h0)
      cases e
      have h' := h.kp k0
      have ho0 : (w.alloc (.cells #[] 86)).ownsRow 0 86 5 (.slice (some ⟨w.heap.size, 0, none⟩) 0 0) 0 [] := ho.mono (Nat.zero_le _)
      obtain ⟨g, cap, w', hr, r1, r2, r3⟩ := run_app_any (P := Tryz.prog) (w := w.alloc (.cells #[] 86)) 52 ty 86 i0 (.agg #[.int .i64 0, .int .i64 0, .string ⟨#[]⟩, .string ⟨#[]⟩, .int .i64 0]) 5 56 Tryz.underlying52 hi hz0 hz1 hz2 rfl (by decide) ho0 (some ⟨b, off, none⟩) x.length c (x.flatMap ptE) (flat_len ptE 5 ptE_len x) (fun h => by cases h) (fun a h => by cases h; rfl) (fun a h => by cases h; exact pts_cells h') (ptE_one x) (by unfold maxLen; omega) (by omega)
      rw [Nat.zero_add] at hr r1
      have hg : w.heap.size ≤ g := by rcases r3 with e | e <;> omega
      refine ⟨g, cap, w', hr, OwnsP.base (n := x.length) ?_ hg, k0.trans (Kp.of r2) (fun y hy => Or.inr (by simp at hy; omega))⟩
      simpa [OwnsP] using r1
/-- The same, as one step of a statement whose order is drawn. -/
theorem step_copyP {ops : Array Oper} {o : Oper} {a : Act} {w v : World} {K : Act → World → Prop} {Q : Exit → Act → World → Prop} {E : Prop}
    (hg : o.guard = none) (s x : Operand) (hop : o.op = Op.call { callee := Callee.builtin Builtin.append, args := #[s, x], argTypes := #[52, 52] })
    {ad : Option Addr} {c m : Nat} {xs : List Pt} (hv : v = w.alloc (.cells #[] 86)) (hs : a.eval s = .slice (some ⟨w.heap.size, 0, none⟩) 0 0) (hx : a.eval x = .slice ad m c) (hm : m = xs.length) (h : PtsAt w ad xs) (ha : ad = none → c = 0) (hl : xs.length * 56 ≤ 140737488351232)
    (hK : ∀ g cap w', OwnsP w.heap.size w' (.slice (some ⟨g, 0, none⟩) m cap) xs → Kp [] w w' → K (a.put o.dst (.slice (some ⟨g, 0, none⟩) m cap)) w') :
    if Region.wanted o (yielded ops a.tmps) = true then Oper.wp Tryz.prog o a v K Q else E := by
  subst hm hv
  have hw : Region.wanted o (yielded ops a.tmps) = true := by simp [Region.wanted, hg]
  rw [if_pos hw]
  obtain ⟨g, cap, w', hrun, r1, r2⟩ := run_copyP h ha hl o.type
  unfold Oper.wp
  simp [execOp, hop, resolve, invoke, builtin, hs, hx, hrun, Result.andThen]
  exact hK g cap w' r1 r2
theorem sts_cells {w : World} {b off : Nat} {l : List SR} (h : StsAt w (some ⟨b, off, none⟩) l) : ∀ j u, (l.flatMap srE)[j]? = some u → w.cell? ((⟨b, off, none⟩ : Addr).add j) = some u := by
  intro j u hj
  have hl := flat_len srE 4 srE_len l
  have hjl : j < l.length * 4 := by
    rw [← hl]
    exact (List.getElem?_eq_some_iff.1 hj).1
  have h7 := flat_at srE 4 srE_len l (j / 4) (j % 4) (by omega) (by omega)
  rw [show j / 4 * 4 + j % 4 = j by omega, hj] at h7
  obtain ⟨b', off', e, _, c0, c1, c2, c3, _⟩ := h.at (j / 4) (by omega)
  cases e
  have ea : (⟨b, off, none⟩ : Addr).add j = ⟨b, off + j / 4 * 4 + j % 4, none⟩ := by rw [Go.WideShapes.add_plain]; congr 1; omega
  rw [ea]
  rcases (show j % 4 = 0 ∨ j % 4 = 1 ∨ j % 4 = 2 ∨ j % 4 = 3 by omega) with e | e | e | e
  all_goals
    rw [e] at h7 ⊢
    cases h7
    assumption
/-- append([]Stage{}, x...). -/
theorem run_copyG {w : World} {ad : Option Addr} {c : Nat} {x : List SR} (h : StsAt w ad x) (ha : ad = none → c = 0) (hl : x.length * 56 ≤ 140737488351232) (ty : TypeId) :
    ∃ g cap w', (Builtin.append_ #[22, 22] ty #[.slice (some ⟨w.heap.size, 0, none⟩) 0 0, .slice ad x.length c]).run Tryz.prog (w.alloc (.cells #[] 54)) = .ok (.slice (some ⟨g, 0, none⟩) x.length cap) w' ∧ w'.ownsRow 0 54 4 (.slice (some ⟨g, 0, none⟩) x.length cap) x.length (x.flatMap srE) ∧ w.heap.size ≤ g ∧ Kp [] w w' := by
  obtain ⟨i0, hi, hz0, hz1, hz2⟩ := info_parts info_St
  have ho : (w.alloc (.cells #[] 54)).ownsRow 0 54 4 (.slice (some ⟨w.heap.size, 0, none⟩) 0 0) 0 [] := ⟨rfl, Or.inr ⟨w.heap.size, 0, #[], rfl, Nat.zero_le _, CBox.new w _ _, Nat.le_refl _, by unfold maxLen; omega, rfl, rfl⟩⟩
  have k0 := Kp.alloc w (.cells #[] 54)
  have hz : (w.alloc (.cells #[] 54)).heap.size = w.heap.size + 1 := by simp
  cases ad with
  | none =>
    obtain rfl := ha rfl
    obtain rfl : x = [] := by
      rcases x with _ | ⟨p, r⟩
      · rfl
      · obtain ⟨b, off, e, _⟩ := h (by simp)
        cases e
    exact ⟨w.heap.size, 0, _, by simpa using run_append_owned_none (P := Tryz.prog) (w := w.alloc (.cells #[] 54)) 0 _ ty 54 i0 4 Tryz.underlying22 hi _ _ _ ho, by simpa using ho, Nat.le_refl _, k0⟩
  | some a =>
    by_cases h0 : x = []
    · subst h0
      have := run_append_room_cells (P := Tryz.prog) (w := w.alloc (.cells #[] 54)) 22 ty 54 i0 Tryz.underlying22 hi w.heap.size 0 0 0 a 0 c [] (by simp) (fun j u hj => by simp at hj) (fun u hu => by cases hu) (by omega) (fun j hj => absurd hj (by simp)) (fun j hj => absurd hj (by simp))
      exact ⟨w.heap.size, 0, _, by simpa [World.setCells] using this, by simpa using ho, Nat.le_refl _, k0⟩
    · obtain ⟨b, off, e, _⟩ := id (h h0)
      cases e
      have h' := h.kp k0
      obtain ⟨g, cap, w', hr, r1, r2, r3⟩ := run_app_any (P := Tryz.prog) (w := w.alloc (.cells #[] 54)) 22 ty 54 i0 (.agg #[.string ⟨#[]⟩, .int .i64 0, .bool false, .slice none 0 0]) 4 56 Tryz.underlying22 hi hz0 hz1 hz2 rfl (by decide) ho (some ⟨b, off, none⟩) x.length c (x.flatMap srE) (flat_len srE 4 srE_len x) (fun h => by cases h) (fun a h => by cases h; rfl) (fun a h => by cases h; exact sts_cells h') (srE_one x) (by unfold maxLen; omega) (by omega)
      rw [Nat.zero_add] at hr r1
      have hg : w.heap.size ≤ g := by rcases r3 with e | e <;> omega
      exact ⟨g, cap, w', hr, by simpa using r1, hg, k0.trans (Kp.of r2) (fun y hy => Or.inr (by simp at hy; omega))⟩
theorem PtsAt.kpF {F : List Nat} {w w' : World} {ad : Option Addr} {l : List Pt} (h : PtsAt w ad l) (hk : Kp F w w') (hF : l ≠ [] → ∀ b off, ad = some ⟨b, off, none⟩ → b ∉ F) : PtsAt w' ad l := fun hl => by
  obtain ⟨b, off, e, hlt, hc⟩ := h hl
  have hb := hF hl b off e
  refine ⟨b, off, e, Nat.lt_of_lt_of_le hlt hk.size, fun i hi => ?_⟩
  obtain ⟨c0, c1, c2, c3, c4⟩ := hc i hi
  exact ⟨hk.cell c0 hb, hk.cell c1 hb, hk.cell c2 hb, hk.cell c3 hb, hk.cell c4 hb⟩
/-- The stages while they are copied: whatever their conditions' rows are, they say the same. -/
structure CpG (w : World) (sa : Option Addr) (n sc : Nat) (wi : Int) (l : List SR) (g cap : Nat) (rs : List SR) (wr : World) : Prop where
  kp : Kp [] w wr
  b0 : CBox w.heap.size #[.slice sa n sc, .int .i64 wi] 24 wr
  b1 : CBox (w.heap.size + 1) #[.slice none 0 0, .int .i64 0] 24 wr
  b2 : CBox (w.heap.size + 2) #[.slice (some ⟨g, 0, none⟩) n cap, .int .i64 wi] 24 wr
  ge : w.heap.size + 3 ≤ g
  len : rs.length = n
  cp : n ≤ cap
  sg : stgs rs = stgs l
  row : ∃ cs, CBox g cs 54 wr ∧ ∀ i (h : i < rs.length) (j : Nat) (u : Value), (srE rs[i])[j]? = some u → cs[i * 4 + j]? = some u
  cds : ∀ r ∈ rs, PtsAt wr r.ad r.s.cd ∧ (r.s.cd ≠ [] → ∀ b off, r.ad = some ⟨b, off, none⟩ → b ≠ g ∧ b ≠ w.heap.size + 1 ∧ (b < w.heap.size → ∃ r0 ∈ l, r0.s.cd ≠ [] ∧ r0.ad = some ⟨b, off, none⟩))
theorem CpG.next {w wr w' : World} {sa : Option Addr} {n sc g cap : Nat} {wi : Int} {l rs : List SR} (h : CpG w sa n sc wi l g cap rs wr) (hk : Kp [] wr w') : CpG w sa n sc wi l g cap rs w' :=
  ⟨h.kp.trans hk (by simp), h.b0.kp hk (by simp), h.b1.kp hk (by simp), h.b2.kp hk (by simp), h.ge, h.len, h.cp, h.sg, let ⟨cs, a, b⟩ := h.row; ⟨cs, a.kp hk (by simp), b⟩, fun r hr => ⟨(h.cds r hr).1.kp hk, (h.cds r hr).2⟩⟩
theorem CpG.put {w wr : World} {sa : Option Addr} {n sc g cap : Nat} {wi : Int} {l rs : List SR} (h : CpG w sa n sc wi l g cap rs wr) {B : Nat} (hB : g < B) {k : Nat} (hk : k < l.length) {g5 cap5 : Nat} (ho : OwnsP B wr (.slice (some ⟨g5, 0, none⟩) l[k].s.cd.length cap5) l[k].s.cd) :
    ∃ rs', CpG w sa n sc wi l g cap rs' (wr.setCell ⟨g, k * 4 + 3, none⟩ (.slice (some ⟨g5, 0, none⟩) l[k].s.cd.length cap5)) := by
  have hkr : k < rs.length := by have := congrArg List.length h.sg; rw [stgs_len, stgs_len] at this; omega
  have hs : rs[k].s = l[k].s := by
    have h1 := stgs_at hkr
    have h2 := stgs_at hk
    rw [← h1, ← h2]
    simp only [h.sg]
  have ks := Kp.set wr g (k * 4 + 3) (.slice (some ⟨g5, 0, none⟩) l[k].s.cd.length cap5)
  have hge := h.ge
  obtain ⟨ad5, c5, e5, hat5, _⟩ := ho.at
  injection e5 with e6 _ _
  subst e6
  have hg5 := (World.ownsRow.lt ho g5 rfl).1
  obtain ⟨cs, hb, hc⟩ := h.row
  refine ⟨rs.set k ⟨l[k].s, some ⟨g5, 0, none⟩, cap5⟩, h.kp.trans ks (fun x hx => Or.inr (by simp at hx; omega)), h.b0.kp ks (by simp; omega), h.b1.kp ks (by simp; omega), h.b2.kp ks (by simp; omega), hge, by rw [List.length_set]; exact h.len, h.cp, ?_, ⟨_, hb.set (k * 4 + 3) _, fun i hi j u hu => ?_⟩, fun r hr => ?_⟩
  · rw [← h.sg]
    unfold stgs
    rw [List.map_set]
    dsimp only
    rw [← hs]
    apply List.ext_getElem?
    intro i
    rw [List.getElem?_set]
    split
    · rename_i e
      subst e
      simp [hkr]
    · rfl
  · rw [List.length_set] at hi
    have hj : j < 4 := by
      have := (List.getElem?_eq_some_iff.1 hu).1
      rw [srE_len] at this
      exact this
    rw [List.getElem_set] at hu
    split at hu
    · rename_i e
      subst e
      have hcs : k * 4 + 3 < cs.size := (Array.getElem?_eq_some_iff.1 (hc k hkr 3 _ rfl)).1
      match j, hj, hu with
      | 3, _, hu =>
        cases hu
        simp [hcs]
      | 0, _, hu =>
        rw [Array.getElem?_setIfInBounds, if_neg (by omega)]
        exact hc k hkr 0 u (by unfold srE; rw [hs]; exact hu)
      | 1, _, hu =>
        rw [Array.getElem?_setIfInBounds, if_neg (by omega)]
        exact hc k hkr 1 u (by unfold srE; rw [hs]; exact hu)
      | 2, _, hu =>
        rw [Array.getElem?_setIfInBounds, if_neg (by omega)]
        exact hc k hkr 2 u (by unfold srE; rw [hs]; exact hu)
    · rename_i e
      rw [Array.getElem?_setIfInBounds, if_neg (by omega)]
      exact hc i hi j u hu
  · rcases List.mem_or_eq_of_mem_set hr with hr | rfl
    · have := h.cds r hr
      exact ⟨this.1.kpF ks (fun hne b off e => by simpa using (this.2 hne b off e).1), this.2⟩
    · exact ⟨hat5.kpF ks (fun _ b off e => by cases e; simp; omega), fun _ b off e => by cases e; exact ⟨by omega, by omega, fun hlt => by omega⟩⟩
set_option maxHeartbeats 4000000 in
set_option maxRecDepth 100000 in
theorem copyPattern_any (sa : Option Addr) (sc : Nat) (l : List SR) (wi : Int) (w : World) (h : StsAt w sa l) (ha : sa = none → sc = 0) (hl : l.length * 56 ≤ 140737488351232) (hc : ∀ r ∈ l, (r.ad = none → r.c = 0) ∧ r.s.cd.length * 56 ≤ 140737488351232) :
    Calls Tryz.prog 7 #[.agg #[.slice sa l.length sc, .int .i64 wi]] w fun e w' => ∃ g cap rs, e = .returned (.agg #[.slice (some ⟨g, 0, none⟩) l.length cap, .int .i64 wi]) ∧ StsAt w' (some ⟨g, 0, none⟩) (rs : List SR) ∧ stgs rs = stgs l ∧ l.length ≤ cap ∧ Kp [] w w' ∧ w.heap.size ≤ g ∧ (∀ r ∈ rs, r.s.cd ≠ [] → ∀ b off, r.ad = some ⟨b, off, none⟩ → b < w.heap.size → ∃ r0 ∈ l, r0.s.cd ≠ [] ∧ r0.ad = some ⟨b, off, none⟩) := by
  have k3 : Kp [] w (((w.alloc (.cells #[.slice sa l.length sc, .int .i64 wi] 24)).alloc (.cells #[.slice none 0 0, .int .i64 0] 24)).alloc (.cells #[.slice sa l.length sc, .int .i64 wi] 24)) := ((Kp.alloc _ _).trans (Kp.alloc _ _) (by simp)).trans (Kp.alloc _ _) (by simp)
  obtain ⟨g, cap, w1, hrun, hrow, hg, k1⟩ := run_copyG (c := sc) (h.kp k3) ha hl 22
  have z3 : (((w.alloc (.cells #[.slice sa l.length sc, .int .i64 wi] 24)).alloc (.cells #[.slice none 0 0, .int .i64 0] 24)).alloc (.cells #[.slice sa l.length sc, .int .i64 wi] 24)).heap.size = w.heap.size + 3 := by simp
  rw [z3] at hg hrun
  have x0 := ((rp_b0 w #[.slice sa l.length sc, .int .i64 wi] 24 (.cells #[.slice none 0 0, .int .i64 0] 24)).kp (Kp.alloc _ (.cells #[.slice sa l.length sc, .int .i64 wi] 24)) (by simp)).kp k1 (by simp)
  have x1 := ((rp_b1 w #[.slice none 0 0, .int .i64 0] 24 (.cells #[.slice sa l.length sc, .int .i64 wi] 24)).kp (Kp.alloc _ (.cells #[.slice sa l.length sc, .int .i64 wi] 24)) (by simp)).kp k1 (by simp)
  have x2 := CBox.new ((w.alloc (.cells #[.slice sa l.length sc, .int .i64 wi] 24)).alloc (.cells #[.slice none 0 0, .int .i64 0] 24)) #[.slice sa l.length sc, .int .i64 wi] 24
  rw [show ((w.alloc (.cells #[.slice sa l.length sc, .int .i64 wi] 24)).alloc (.cells #[.slice none 0 0, .int .i64 0] 24)).heap.size = w.heap.size + 2 by simp] at x2
  have x2' := x2.kp k1 (by simp)
  have k4 := Kp.set w1 (w.heap.size + 2) 0 (.slice (some ⟨g, 0, none⟩) l.length cap)
  have hS : CpG w sa l.length sc wi l g cap l (w1.setCell ⟨w.heap.size + 2, 0, none⟩ (.slice (some ⟨g, 0, none⟩) l.length cap)) := by
    obtain ⟨_, ⟨e, _⟩ | ⟨g', cp, cur, e, _, hb, hcap, _, _, hcur⟩⟩ := id hrow
    · cases e
    · injection e with e1 e2 e3
      cases e1
      subst e3
      refine ⟨(k3.trans k1 (by simp)).trans k4 (fun x hx => Or.inr (by simp at hx; omega)), x0.kp k4 (by simp), x1.kp k4 (by simp), x2'.set 0 _, hg, rfl, hcap, rfl, ⟨cur, CBox.kp (show CBox g cur 54 w1 from hb) k4 (by simp; omega), fun i hi j u hu => ?_⟩, fun r hr => ?_⟩
      · have hj : j < 4 := by
          have := (List.getElem?_eq_some_iff.1 hu).1
          rw [srE_len] at this
          exact this
        have := own_cell srE_len hrow i j hi hj
        rw [hu] at this
        simpa [World.cell?, show w1.heap[g]? = _ from hb] using this
      · obtain ⟨i, hi, rfl⟩ := List.mem_iff_getElem.1 hr
        obtain ⟨_, _, _, _, _, _, _, _, hp⟩ := h.at i hi
        have hp1 := (hp.kp k3).kp k1
        refine ⟨hp1.kpF k4 (fun hne b off e => ?_), fun hne b off e => ?_⟩
        · obtain ⟨b', off', e', hlt, _⟩ := hp hne
          rw [e] at e'
          cases e'
          simp
          omega
        · obtain ⟨b', off', e', hlt, _⟩ := hp hne
          rw [e] at e'
          cases e'
          exact ⟨by omega, by omega, fun _ => ⟨_, List.getElem_mem hi, hne, e⟩⟩
  have HS0 := hide hS
  have HRUN := hide hrun
  have d0 := x0.cell (i := 0) rfl
  have hz1 : w.heap.size + 3 ≤ w1.heap.size := by have := k1.size; omega
  have f2 := x2'.froz 0
  have e2 := x2'.cell (i := 0) (v := .slice sa l.length sc) rfl
  have HST := hide h
  have HC := hide hc
  have y0 := (rp_b0 w #[.slice sa l.length sc, .int .i64 wi] 24 (.cells #[.slice none 0 0, .int .i64 0] 24)).cell (i := 0) (v := .slice sa l.length sc) rfl
  have y1 := (rp_b0 w #[.slice sa l.length sc, .int .i64 wi] 24 (.cells #[.slice none 0 0, .int .i64 0] 24)).cell (i := 1) (v := .int .i64 wi) rfl
  clear hS hrun h hc x0 x1 x2 x2' k4 k1 k3 hrow z3
  obtain ⟨n, hn⟩ : ∃ n, l.length = n := ⟨_, rfl⟩
  have HN := hide hn
  rw [hn] at HS0 HRUN hl d0 e2 y0 y1 ⊢
  clear hn
  go_enter Tryz.func7, Tryz.ntmps7
  go_wp2_with (at_builtin; refine wpList_app_run rfl _ _ _ rfl rfl rfl (unhide HRUN) ?_)
  go_loopw [4] (fun i wr => ∃ (k : Nat) (rs : List SR), k ≤ n ∧ i = .int .i64 (k : Int) ∧ Hid (CpG w sa n sc wi l g cap rs wr)) (fun i _ => n - (intOf i).toNat)
  case atStart => exact ⟨0, l, Nat.zero_le _, rfl, HS0⟩
  case round =>
    obtain ⟨k, rs, hk, rfl, HS⟩ := hrel
    clear HS0 d0 f2 e2 y0 y1
    have c2 : wr.cell? ⟨w.heap.size + 2, 0, none⟩ = some (.slice (some ⟨g, 0, none⟩) n cap) := (unhide HS).b2.cell rfl
    by_cases hlt : k < n
    · have hli : (k : Int) < (n : Int) := by omega
      have hkx : k < l.length := by rw [unhide HN]; exact hlt
      go_upto_region 6 with fail
      obtain ⟨b, off, rfl, hbl, -, -, -, q3, hpts⟩ := (unhide HST).at k hkx
      have hcr := unhide HC _ (List.getElem_mem hkx)
      have q3' := (unhide HS).kp.cell q3 (by simp)
      have a0 : wr.drew.cell? ⟨w.heap.size + 2, 0, none⟩ = some (.slice (some ⟨g, 0, none⟩) n cap) ∧ wr.drew.cell? ⟨w.heap.size, 0, none⟩ = some (.slice (some ⟨b, off, none⟩) n sc) ∧ wr.drew.cell? ⟨b, off + k * 4 + 3, none⟩ = some (.slice l[k].ad l[k].s.cd.length l[k].c) := ⟨c2, (unhide HS).b0.cell rfl, q3'⟩
      have RW := hide (fun W (hk : Kp [] wr.drew W) => (show W.cell? ⟨w.heap.size + 2, 0, none⟩ = some (.slice (some ⟨g, 0, none⟩) n cap) ∧ W.cell? ⟨w.heap.size, 0, none⟩ = some (.slice (some ⟨b, off, none⟩) n sc) ∧ W.cell? ⟨b, off + k * 4 + 3, none⟩ = some (.slice l[k].ad l[k].s.cd.length l[k].c) from ⟨hk.cell a0.1 (by simp), hk.cell a0.2.1 (by simp), hk.cell a0.2.2 (by simp)⟩))
      have kE : Kp [] wr.drew (wr.drew.alloc (.cells #[] 86)) := Kp.alloc _ _
      have a1 := unhide RW _ kE
      have hpE := (hpts.kp (unhide HS).kp).kp (Kp.drew wr)
      have HPUT : Hid (∀ g5 cap5 w5, OwnsP wr.drew.heap.size w5 (.slice (some ⟨g5, 0, none⟩) l[k].s.cd.length cap5) l[k].s.cd → Kp [] wr.drew w5 → (∃ rs', CpG w (some ⟨b, off, none⟩) n sc wi l g cap rs' (w5.setCell ⟨g, k * 4 + 3, none⟩ (.slice (some ⟨g5, 0, none⟩) l[k].s.cd.length cap5))) ∧ w5.cell? ⟨g, k * 4 + 3, none⟩ ≠ none ∧ w5.frozen? ⟨g, k * 4 + 3, none⟩ = false) := hide (fun g5 cap5 w5 ho hk5 => by
        have S5 := ((unhide HS).next (Kp.drew wr)).next hk5
        obtain ⟨cs, hb, hcs⟩ := (unhide HS).row
        have hgl : g < wr.drew.heap.size := (Array.getElem?_eq_some_iff.1 hb).1
        refine ⟨S5.put hgl hkx ho, ?_, ?_⟩
        · obtain ⟨cs, hb, hcs⟩ := S5.row
          have hkr : k < rs.length := by rw [S5.len]; exact hlt
          rw [hb.cell (hcs k hkr 3 _ rfl)]
          simp
        · obtain ⟨cs, hb, hcs⟩ := S5.row
          exact hb.froz _)
      clear HST HC hpts q3 q3' hbl
      generalize l[k].s.cd = p at *
      generalize l[k].ad = ad at *
      generalize l[k].c = cc at *
      refine wp_region_late (fun W => W.cell? ⟨w.heap.size + 2, 0, none⟩ = some (.slice (some ⟨g, 0, none⟩) n cap) ∧ W.cell? ⟨w.heap.size, 0, none⟩ = some (.slice (some ⟨b, off, none⟩) n sc) ∧ W.cell? ⟨b, off + k * 4 + 3, none⟩ = some (.slice ad p.length cc)) 13 (by kernel_rfl) ?_
      show wpAnyL _ _ _ _ _ _ 14 (Array.replicate 14 false) _ _
      refine wpAnyL_take (i := 0) (oi := { dst := some 18, op := Op.fieldAddr 24 (Operand.tmp 3) 0, type := 0, pos := "book.go:179", after := #[], guard := none }) (v := ?_) rfl (by kernel_rfl) (by kernel_rfl) (by kernel_rfl) (by kernel_rfl) (fun _ _ _ h => h) (Or.inl ⟨by rfl, ?_⟩) a0 ?_
      rotate_left 1
      · intro w0 hSw
        (try dsimp only at hSw)
        go_simp
        (try with_reducible rfl)
      try simp only [Act.put, List.setIfInBounds_toArray, List.set_cons_zero, List.set_cons_succ]
      refine wpAnyL_take (i := 1) (oi := { dst := some 19, op := Op.load 22 (Operand.tmp 18), type := 22, pos := "book.go:179", after := #[{ on := 0, ground := Ground.data }], guard := none }) (v := ?_) rfl (by kernel_rfl) (by kernel_rfl) (by kernel_rfl) (by kernel_rfl) (fun _ _ _ h => h) (Or.inl ⟨by rfl, ?_⟩) a0 ?_
      rotate_left 1
      · intro w0 hSw
        (try dsimp only at hSw)
        go_simp
        (try with_reducible rfl)
      try simp only [Act.put, List.setIfInBounds_toArray, List.set_cons_zero, List.set_cons_succ]
      refine wpAnyL_take (i := 2) (oi := { dst := some 20, op := Op.move (Operand.tmp 4), type := 3, pos := "book.go:179", after := #[], guard := none }) (v := ?_) rfl (by kernel_rfl) (by kernel_rfl) (by kernel_rfl) (by kernel_rfl) (fun _ _ _ h => h) (Or.inl ⟨by rfl, ?_⟩) a0 ?_
      rotate_left 1
      · intro w0 hSw
        (try dsimp only at hSw)
        go_simp
        (try with_reducible rfl)
      try simp only [Act.put, List.setIfInBounds_toArray, List.set_cons_zero, List.set_cons_succ]
      refine wpAnyL_take (i := 4) (oi := { dst := some 22, op := Op.fieldAddr 24 (Operand.tmp 1) 0, type := 0, pos := "book.go:179", after := #[], guard := none }) (v := ?_) rfl (by kernel_rfl) (by kernel_rfl) (by kernel_rfl) (by kernel_rfl) (fun _ _ _ h => h) (Or.inl ⟨by rfl, ?_⟩) a0 ?_
      rotate_left 1
      · intro w0 hSw
        (try dsimp only at hSw)
        go_simp
        (try with_reducible rfl)
      try simp only [Act.put, List.setIfInBounds_toArray, List.set_cons_zero, List.set_cons_succ]
      refine wpAnyL_take (i := 5) (oi := { dst := some 23, op := Op.load 22 (Operand.tmp 22), type := 22, pos := "book.go:179", after := #[{ on := 4, ground := Ground.data }], guard := none }) (v := ?_) rfl (by kernel_rfl) (by kernel_rfl) (by kernel_rfl) (by kernel_rfl) (fun _ _ _ h => h) (Or.inl ⟨by rfl, ?_⟩) a0 ?_
      rotate_left 1
      · intro w0 hSw
        (try dsimp only at hSw)
        go_simp
        (try with_reducible rfl)
      try simp only [Act.put, List.setIfInBounds_toArray, List.set_cons_zero, List.set_cons_succ]
      refine wpAnyL_take (i := 6) (oi := { dst := some 24, op := Op.move (Operand.tmp 4), type := 3, pos := "book.go:179", after := #[], guard := none }) (v := ?_) rfl (by kernel_rfl) (by kernel_rfl) (by kernel_rfl) (by kernel_rfl) (fun _ _ _ h => h) (Or.inl ⟨by rfl, ?_⟩) a0 ?_
      rotate_left 1
      · intro w0 hSw
        (try dsimp only at hSw)
        go_simp
        (try with_reducible rfl)
      try simp only [Act.put, List.setIfInBounds_toArray, List.set_cons_zero, List.set_cons_succ]
      refine wpAnyL_take (i := 7) (oi := { dst := some 25, op := Op.indexAddr 22 (Operand.tmp 23) (Operand.tmp 24), type := 0, pos := "book.go:179", after := #[{ on := 5, ground := Ground.data }, { on := 6, ground := Ground.data }], guard := none }) (v := ?_) rfl (by kernel_rfl) (by kernel_rfl) (by kernel_rfl) (by kernel_rfl) (fun _ _ _ h => h) (Or.inl ⟨by rfl, ?_⟩) a0 ?_
      rotate_left 1
      · intro w0 hSw
        (try dsimp only at hSw)
        go_simp
        (try with_reducible rfl)
      try simp only [Act.put, List.setIfInBounds_toArray, List.set_cons_zero, List.set_cons_succ]
      refine wpAnyL_take (i := 8) (oi := { dst := some 26, op := Op.fieldAddr 54 (Operand.tmp 25) 3, type := 0, pos := "book.go:179", after := #[{ on := 7, ground := Ground.data }], guard := none }) (v := ?_) rfl (by kernel_rfl) (by kernel_rfl) (by kernel_rfl) (by kernel_rfl) (fun _ _ _ h => h) (Or.inl ⟨by rfl, ?_⟩) a0 ?_
      rotate_left 1
      · intro w0 hSw
        (try dsimp only at hSw)
        go_simp
        (try with_reducible rfl)
      try simp only [Act.put, List.setIfInBounds_toArray, List.set_cons_zero, List.set_cons_succ]
      refine wpAnyL_take (i := 9) (oi := { dst := some 27, op := Op.load 52 (Operand.tmp 26), type := 52, pos := "book.go:179", after := #[{ on := 8, ground := Ground.data }], guard := none }) (v := ?_) rfl (by kernel_rfl) (by kernel_rfl) (by kernel_rfl) (by kernel_rfl) (fun _ _ _ h => h) (Or.inl ⟨by rfl, ?_⟩) a0 ?_
      rotate_left 1
      · intro w0 hSw
        (try dsimp only at hSw)
        go_simp
        (try with_reducible rfl)
      try simp only [Act.put, List.setIfInBounds_toArray, List.set_cons_zero, List.set_cons_succ]
      refine wpAnyL_one (i := 3) (o := { dst := some 21, op := Op.buildSlice 52 0 #[], type := 52, pos := "book.go:179", after := #[], guard := none }) rfl (by kernel_rfl) (fun K hK => ?_)
      go_simp
      refine hK _ _ (Or.inr a1) ?_
      refine wpAnyL_one (i := 10) (o := { dst := some 28, op := Op.call { callee := Callee.builtin Builtin.append, args := #[Operand.tmp 21, Operand.tmp 27], argTypes := #[52, 52] }, type := 52, pos := "book.go:179", after := #[{ on := 3, ground := Ground.data }, { on := 9, ground := Ground.data }], guard := none }) rfl (by kernel_rfl) (fun K hK => ?_)
      refine step_copyP rfl (.tmp 21) (.tmp 27) rfl (w := wr.drew) rfl rfl rfl rfl hpE hcr.1 hcr.2 ?_
      intro g5 cap5 w5 own5 k5
      have a5 := unhide RW w5 k5
      obtain ⟨⟨rs', S6⟩, hne, hfz⟩ := unhide HPUT g5 cap5 w5 own5 k5
      obtain ⟨u5, hu5⟩ := Option.ne_none_iff_exists'.1 hne
      have HS6 := hide S6
      clear own5 k5 S6 hne HPUT RW
      refine hK _ _ (Or.inr a5) ?_
      try simp only [Act.put, List.setIfInBounds_toArray, List.set_cons_zero, List.set_cons_succ]
      refine wpAnyL_one (i := 11) (o := { dst := some 29, op := Op.indexAddr 22 (Operand.tmp 19) (Operand.tmp 20), type := 0, pos := "book.go:179", after := #[{ on := 1, ground := Ground.data }, { on := 2, ground := Ground.data }, { on := 0, ground := Ground.phase }, { on := 1, ground := Ground.phase }, { on := 2, ground := Ground.phase }, { on := 3, ground := Ground.phase }, { on := 4, ground := Ground.phase }, { on := 5, ground := Ground.phase }, { on := 6, ground := Ground.phase }, { on := 7, ground := Ground.phase }, { on := 8, ground := Ground.phase }, { on := 9, ground := Ground.phase }, { on := 10, ground := Ground.phase }], guard := none }) rfl (by kernel_rfl) (fun K hK => ?_)
      go_simp
      refine hK _ _ (Or.inr a5) ?_
      refine wpAnyL_one (i := 12) (o := { dst := some 30, op := Op.fieldAddr 54 (Operand.tmp 29) 3, type := 0, pos := "book.go:179", after := #[{ on := 11, ground := Ground.data }, { on := 0, ground := Ground.phase }, { on := 1, ground := Ground.phase }, { on := 2, ground := Ground.phase }, { on := 3, ground := Ground.phase }, { on := 4, ground := Ground.phase }, { on := 5, ground := Ground.phase }, { on := 6, ground := Ground.phase }, { on := 7, ground := Ground.phase }, { on := 8, ground := Ground.phase }, { on := 9, ground := Ground.phase }, { on := 10, ground := Ground.phase }], guard := none }) rfl (by kernel_rfl) (fun K hK => ?_)
      go_simp
      refine hK _ _ (Or.inr a5) ?_
      refine wpAnyL_one (i := 13) (o := { dst := none, op := Op.store 52 (Operand.tmp 30) (Operand.tmp 28), type := 0, pos := "book.go:179", after := #[{ on := 12, ground := Ground.data }, { on := 10, ground := Ground.data }, { on := 10, ground := Ground.chain }, { on := 0, ground := Ground.phase }, { on := 1, ground := Ground.phase }, { on := 2, ground := Ground.phase }, { on := 3, ground := Ground.phase }, { on := 4, ground := Ground.phase }, { on := 5, ground := Ground.phase }, { on := 6, ground := Ground.phase }, { on := 7, ground := Ground.phase }, { on := 8, ground := Ground.phase }, { on := 9, ground := Ground.phase }, { on := 10, ground := Ground.phase }], guard := none }) rfl (by kernel_rfl) (fun K hK => ?_)
      go_simp
      refine hK _ _ (Or.inl rfl) ?_
      refine wpAnyL_done (by kernel_rfl) ?_ _
      clear a0 a1 c2 kE hpE a5
      go_wp2
      go_roundw
      case rel => exact ⟨k + 1, rs', by omega, by go_num, HS6⟩
      case measure => simp [intOf]; omega
    · have hlt' : ¬ ((k : Int) < (n : Int)) := by omega
      obtain rfl : k = n := by omega
      have x1 : wr.cell? ⟨w.heap.size + 2, 1, none⟩ = some (.int .i64 wi) := (unhide HS).b2.cell rfl
      have fR : wr.cell? ⟨w.heap.size + 1, 0, none⟩ = some (.slice none 0 0) ∧ wr.cell? ⟨w.heap.size + 1, 1, none⟩ = some (.int .i64 0) := ⟨(unhide HS).b1.cell rfl, (unhide HS).b1.cell rfl⟩
      have rR : wr.frozen? ⟨w.heap.size + 1, 0, none⟩ = false ∧ wr.frozen? ⟨w.heap.size + 1, 1, none⟩ = false := ⟨(unhide HS).b1.froz 0, (unhide HS).b1.froz 1⟩
      have k2 := (Kp.set wr (w.heap.size + 1) 0 (.slice (some ⟨g, 0, none⟩) k cap)).trans (Kp.set _ (w.heap.size + 1) 1 (.int .i64 wi)) (fun x hx => Or.inl hx)
      have hst : StsAt ((wr.setCell ⟨w.heap.size + 1, 0, none⟩ (.slice (some ⟨g, 0, none⟩) k cap)).setCell ⟨w.heap.size + 1, 1, none⟩ (.int .i64 wi)) (some ⟨g, 0, none⟩) rs := fun _ => by
        obtain ⟨cs, hb, hc⟩ := (unhide HS).row
        have hge := (unhide HS).ge
        have hb' := hb.kp k2 (by simp; omega)
        refine ⟨g, 0, rfl, (Array.getElem?_eq_some_iff.1 hb').1, fun i hi => ?_⟩
        simp only [Nat.zero_add]
        have hcd := (unhide HS).cds _ (List.getElem_mem hi)
        exact ⟨hb'.cell (hc i hi 0 _ rfl), hb'.cell (hc i hi 1 _ rfl), hb'.cell (hc i hi 2 _ rfl), hb'.cell (hc i hi 3 _ rfl), hcd.1.kpF k2 (fun hne b off e => by simpa using (hcd.2 hne b off e).2.1)⟩
      have HF := hide (And.intro hst (And.intro (unhide HS).sg (And.intro (unhide HS).cp (And.intro ((unhide HS).kp.trans k2 (fun x hx => Or.inr (by simp at hx; omega))) (And.intro (show w.heap.size ≤ g by have := (unhide HS).ge; omega) (fun r hr hne b off e hlt => ((unhide HS).cds r hr).2 hne b off e |>.2.2 hlt))))))
      clear hst k2 HS HST HC
      go_wp2
      exact bodyPost_ret (v := .agg #[.slice (some ⟨g, 0, none⟩) k cap, .int .i64 wi]) (by simp [results, Tryz.results7, go_sem, fR]) rfl ⟨g, cap, rfl, rs, unhide HF⟩
end Go.Proofs.YtjijhefmbmdbeaaGreatDoor
