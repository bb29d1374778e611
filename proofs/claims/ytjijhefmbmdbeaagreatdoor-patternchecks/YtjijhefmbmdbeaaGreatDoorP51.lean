/-
  Two rows of parts held against one another, plainly and by weaverbook's SameParts.
  SamePattern: two patterns that say the same.
-/
import Derived.Test.YtjijhefmbmdbeaaGreatDoorP08
import Derived.Test.YtjijhefmbmdbeaaGreatDoorP15
import Derived.Deep.RegionHeld3
import Derived.Test.YtjijhefmbmdbeaaGreatDoorP44
import Derived.Test.YtjijhefmbmdbeaaGreatDoorP13
namespace Go.Proofs.YtjijhefmbmdbeaaGreatDoor
open Go.RowKit

/-- The same parts? -/
def ptsQ : List Pt → List Pt → Bool
  | [], [] => true
  | a :: x, b :: y => ptEq a b && ptsQ x y
  | _, _ => false
theorem ptsQ_iff (x y : List Pt) : ptsQ x y = true ↔ x = y := by
  induction x generalizing y with
  | nil => cases y <;> simp [ptsQ]
  | cons a x ih =>
    cases y with
    | nil => simp [ptsQ]
    | cons b y => rw [ptsQ, Bool.and_eq_true, ptEq_iff, ih]; simp
theorem ptsQ_self (x : List Pt) : ptsQ x x = true := (ptsQ_iff x x).2 rfl
theorem ptsQ_no {x y : List Pt} (h : x ≠ y) : ptsQ x y = false := by
  cases hb : ptsQ x y with
  | false => rfl
  | true => exact absurd ((ptsQ_iff x y).1 hb) h
theorem take_sameQ {x y : List Pt} {k : Nat} (hx : k < x.length) (hy : k < y.length) (h : x.take k = y.take k) (he : x[k] = y[k]) : x.take (k + 1) = y.take (k + 1) := by
  rw [List.take_succ_eq_append_getElem hx, List.take_succ_eq_append_getElem hy, h, he]
set_option maxHeartbeats 2000000 in
set_option maxRecDepth 100000 in
theorem sameParts_any (a1 a2 : Option Addr) (c1 c2 : Nat) (x y : List Pt) (w : World) (hlx : x.length ≤ 9223372036854775807) (h1 : PtsAt w a1 x) (h2 : PtsAt w a2 y) :
    Calls Tryz.prog 33 #[.slice a1 x.length c1, .slice a2 y.length c2] w fun e w' => e = .returned (.bool (ptsQ x y)) ∧ Kp [] w w' := by
  have HR : Hid (∀ b, ptsQ x y = b → ptsQ x y = b) := hide (fun b h => h)
  by_cases hl : x.length = y.length
  · have HN : Hid (∀ k (hx : k < x.length) (hy : k < y.length), x[k] ≠ y[k] → ptsQ x y = false) := hide (fun k hx hy hne => ptsQ_no (fun e => hne (by subst e; rfl)))
    have HY : Hid (x.take x.length = y.take x.length → ptsQ x y = true) := hide (fun h => by
      rw [List.take_length, hl, List.take_length] at h
      rw [h]
      exact ptsQ_self y)
    have HT : Hid (∀ k (hx : k < x.length) (hy : k < y.length), x.take k = y.take k → x[k] = y[k] → x.take (k + 1) = y.take (k + 1)) := hide (fun k hx hy h he => take_sameQ hx hy h he)
    have H1 := hide h1
    have H2 := hide h2
    clear h1 h2 HR
    obtain ⟨n, hn⟩ : ∃ n, x.length = n := ⟨_, rfl⟩
    have hn2 : y.length = n := by omega
    have HL1 := hide hn
    have HL2 := hide hn2
    rw [hn] at HY hlx
    rw [hn, hn2]
    clear hl hn hn2
    generalize ptsQ x y = R at *
    go_enter Tryz.func33, Tryz.ntmps33
    go_wp2
    go_loopw [5] (fun i wr => ∃ k : Nat, k ≤ n ∧ i = .int .i64 (k : Int) ∧ Kp [] w wr ∧ Hid (x.take k = y.take k)) (fun i _ => n - (intOf i).toNat)
    case atStart => exact ⟨0, Nat.zero_le _, rfl, Kp.refl _ _, hide rfl⟩
    case round =>
      obtain ⟨k, hk, rfl, kp, HK⟩ := hrel
      by_cases hlt : k < n
      · have hkx : k < x.length := by rw [unhide HL1]; exact hlt
        have hky : k < y.length := by rw [unhide HL2]; exact hlt
        have kp2 := kp.trans (Kp.drew wr) (by simp)
        obtain ⟨b1, o1, rfl, _, x0, x1, x2, x3, x4⟩ := ((unhide H1).kp kp2).at k hkx
        obtain ⟨b2, o2, rfl, _, y0, y1, y2, y3, y4⟩ := ((unhide H2).kp kp2).at k hky
        have hli : (k : Int) < (n : Int) := by omega
        have EQ := fun W => eqP 9998 x[k] y[k] W
        have NX : Hid (ptEq x[k] y[k] = true → x.take (k + 1) = y.take (k + 1)) := hide (fun h => unhide HT k hkx hky (unhide HK) ((ptEq_iff _ _).1 h))
        have NO : Hid (ptEq x[k] y[k] = false → R = false) := hide (fun h => unhide HN k hkx hky (fun e => by rw [(ptEq_iff _ _).2 e] at h; cases h))
        have KP := hide kp2
        clear H1 H2 kp kp2 HK HN HT HY
        unfold Pt.v at EQ
        generalize ptEq x[k] y[k] = B at *
        generalize x[k] = p at *
        generalize y[k] = q at *
        clear hkx hky
        obtain ⟨pk, pn, ps, pt, pf⟩ := p
        obtain ⟨qk, qn, qs, qt, qf⟩ := q
        dsimp only at x0 x1 x2 x3 x4 y0 y1 y2 y3 y4 EQ
        have cS := And.intro x0 (And.intro x1 (And.intro x2 (And.intro x3 (And.intro x4 (And.intro y0 (And.intro y1 (And.intro y2 (And.intro y3 y4))))))))
        clear x0 x1 x2 x3 x4 y0 y1 y2 y3 y4
        go_wp2_with fail
        go_region_held3 (fun W => W.cell? ⟨b1, o1 + k * 5, none⟩ = some (.int .i64 pk) ∧ W.cell? ⟨b1, o1 + k * 5 + 1, none⟩ = some (.int .i64 pn) ∧ W.cell? ⟨b1, o1 + k * 5 + 2, none⟩ = some (.string ps) ∧ W.cell? ⟨b1, o1 + k * 5 + 3, none⟩ = some (.string pt) ∧ W.cell? ⟨b1, o1 + k * 5 + 4, none⟩ = some (.int .i64 pf) ∧ W.cell? ⟨b2, o2 + k * 5, none⟩ = some (.int .i64 qk) ∧ W.cell? ⟨b2, o2 + k * 5 + 1, none⟩ = some (.int .i64 qn) ∧ W.cell? ⟨b2, o2 + k * 5 + 2, none⟩ = some (.string qs) ∧ W.cell? ⟨b2, o2 + k * 5 + 3, none⟩ = some (.string qt) ∧ W.cell? ⟨b2, o2 + k * 5 + 4, none⟩ = some (.int .i64 qf))
          (first | with_reducible exact cS)
          (first | fail)
        clear EQ cS
        cases B with
        | true =>
          have NX2 := hide (unhide NX rfl)
          clear NX NO
          go_wp2
          go_roundw
          case rel => exact ⟨k + 1, by omega, by go_num, unhide KP, NX2⟩
          case measure => simp [intOf]; omega
        | false =>
          obtain rfl := unhide NO rfl
          clear NX NO
          go_wp2
          go_ret
          exact ⟨rfl, unhide KP⟩
      · obtain rfl : k = n := by omega
        obtain rfl := unhide HY (unhide HK)
        clear HY HN
        go_wp2
        go_ret
        exact ⟨rfl, kp⟩
  · have hR : ptsQ x y = false := ptsQ_no (fun e => hl (by rw [e]))
    rw [hR]
    have g : ((x.length : Int) == (y.length : Int)) = false := beq_eq_false_iff_ne.2 (by omega)
    clear hR h1 h2 HR
    go_enter Tryz.func33, Tryz.ntmps33
    go_wp2
    go_ret
    exact ⟨rfl, Kp.refl _ _⟩
end Go.Proofs.YtjijhefmbmdbeaaGreatDoor
namespace Go.Proofs.YtjijhefmbmdbeaaGreatDoor
open Go.RowKit Go.Shelf

set_option maxHeartbeats 4000000 in
set_option maxRecDepth 100000 in
theorem samePattern_true (a1 a2 : Option Addr) (c1 c2 : Nat) (l1 l2 : List SR) (wi : Int) (w : World) (h1 : StsAt w a1 l1) (h2 : StsAt w a2 l2) (hs : stgs l1 = stgs l2) (hl : l1.length ≤ 9223372036854775807) (hcl : ∀ r ∈ l1, r.s.cd.length ≤ 9223372036854775807) :
    Calls Tryz.prog 16 #[.agg #[.slice a1 l1.length c1, .int .i64 wi], .agg #[.slice a2 l2.length c2, .int .i64 wi]] w fun e w' => e = .returned (.bool true) ∧ Kp [] w w' := by
  have hl2 : l2.length = l1.length := by have := congrArg List.length hs; rw [stgs_len, stgs_len] at this; exact this.symm
  have HSE : Hid (∀ k (h : k < l1.length) (h' : k < l2.length), l2[k].s = l1[k].s) := hide (fun k h h' => by
    have e1 := stgs_at h
    have e2 := stgs_at h'
    rw [← e1, ← e2]
    simp only [hs])
  rw [hl2]
  have H1 := hide h1
  have H2 := hide h2
  have HCL := hide hcl
  have x0 := rp_b0 w #[.slice a1 l1.length c1, .int .i64 wi] 24 (.cells #[.slice a2 l1.length c2, .int .i64 wi] 24)
  have x1 := rp_b1 w #[.slice a2 l1.length c2, .int .i64 wi] 24 (.cells #[.slice a1 l1.length c1, .int .i64 wi] 24)
  have k0 : Kp [] w ((w.alloc (.cells #[.slice a1 l1.length c1, .int .i64 wi] 24)).alloc (.cells #[.slice a2 l1.length c2, .int .i64 wi] 24)) := (Kp.alloc _ _).trans (Kp.alloc _ _) (by simp)
  have HV : Hid (∀ W, Kp [] ((w.alloc (.cells #[.slice a1 l1.length c1, .int .i64 wi] 24)).alloc (.cells #[.slice a2 l1.length c2, .int .i64 wi] 24)) W → (W.cell? ⟨w.heap.size, 0, none⟩ = some (.slice a1 l1.length c1) ∧ W.cell? ⟨w.heap.size, 1, none⟩ = some (.int .i64 wi) ∧ W.cell? ⟨w.heap.size + 1, 0, none⟩ = some (.slice a2 l1.length c2) ∧ W.cell? ⟨w.heap.size + 1, 1, none⟩ = some (.int .i64 wi)) ∧ Hid (Kp [] w W) ∧ w.heap.size + 1 < W.heap.size) := hide (fun W hk => ⟨⟨(x0.kp hk (by simp)).cell rfl, (x0.kp hk (by simp)).cell rfl, (x1.kp hk (by simp)).cell rfl, (x1.kp hk (by simp)).cell rfl⟩, hide (k0.trans hk (by simp)), by have := hk.size; simp at this; omega⟩)
  obtain ⟨n, hn⟩ : ∃ n, l1.length = n := ⟨_, rfl⟩
  have HN1 := hide hn
  have HN2 := hide (hl2.trans hn)
  clear h1 h2 hcl x0 x1 k0 hs hl2
  rw [hn] at HV hl ⊢
  clear hn
  obtain ⟨⟨y0, y1, y2, y3⟩, _, hlt⟩ := unhide HV _ (Kp.refl _ _)
  go_enter Tryz.func16, Tryz.ntmps16
  go_wp2_with fail
  go_loopw [5] (fun i wr => ∃ (k : Nat), k ≤ n ∧ i = .int .i64 (k : Int) ∧ Hid (Kp [] ((w.alloc (.cells #[.slice a1 n c1, .int .i64 wi] 24)).alloc (.cells #[.slice a2 n c2, .int .i64 wi] 24)) wr)) (fun i _ => n - (intOf i).toNat)
  case atStart => exact ⟨0, Nat.zero_le _, rfl, hide (Kp.refl _ _)⟩
  case round =>
    obtain ⟨k, hk, rfl, HK⟩ := hrel
    clear y0 y1 y2 y3 hlt
    obtain ⟨⟨y0, y1, y2, y3⟩, HW, hlt⟩ := unhide HV _ (unhide HK)
    by_cases hlk : k < n
    · have hli : (k : Int) < (n : Int) := by omega
      have hk1 : k < l1.length := by rw [unhide HN1]; exact hlk
      have hk2 : k < l2.length := by rw [unhide HN2]; exact hlk
      go_wp2_with fail
      obtain ⟨b1, o1, rfl, hb1, p0, p1, p2, p3, q1⟩ := ((unhide H1).kp (unhide HW)).at k hk1
      obtain ⟨b2, o2, rfl, hb2, r0, r1, r2, r3, q2⟩ := ((unhide H2).kp (unhide HW)).at k hk2
      have hsk := unhide HSE k hk1 hk2
      rw [hsk] at r0 r1 r2 r3 q2
      have HSP := hide (fun W (hk : Kp [] wr W) => sameParts_any l1[k].ad l2[k].ad l1[k].c l2[k].c l1[k].s.cd l1[k].s.cd W (unhide HCL _ (List.getElem_mem hk1)) (q1.kp hk) (q2.kp hk))
      rw [(ptsQ_iff _ _).2 rfl] at HSP
      clear hsk q1 q2 HSE HCL H1 H2
      generalize l1[k].s = s at *
      generalize l1[k].ad = d1 at *
      generalize l2[k].ad = d2 at *
      generalize l1[k].c = e1 at *
      generalize l2[k].c = e2 at *
      obtain ⟨nm, hw, mn, cd⟩ := s
      dsimp only at p0 p1 p2 p3 r0 r1 r2 r3 HSP
      generalize cd.length = CL at *
      have a00 : wr.cell? ⟨w.heap.size, 0, none⟩ = some (.slice (some ⟨b1, o1, none⟩) n c1) ∧ wr.cell? ⟨w.heap.size + 1, 0, none⟩ = some (.slice (some ⟨b2, o2, none⟩) n c2) ∧ wr.cell? ⟨b1, o1 + k * 4, none⟩ = some (.string nm) ∧ wr.cell? ⟨b1, o1 + k * 4 + 1, none⟩ = some (.int .i64 hw) ∧ wr.cell? ⟨b1, o1 + k * 4 + 2, none⟩ = some (.bool mn) ∧ wr.cell? ⟨b1, o1 + k * 4 + 3, none⟩ = some (.slice d1 CL e1) ∧ wr.cell? ⟨b2, o2 + k * 4, none⟩ = some (.string nm) ∧ wr.cell? ⟨b2, o2 + k * 4 + 1, none⟩ = some (.int .i64 hw) ∧ wr.cell? ⟨b2, o2 + k * 4 + 2, none⟩ = some (.bool mn) ∧ wr.cell? ⟨b2, o2 + k * 4 + 3, none⟩ = some (.slice d2 CL e2) := ⟨y0, y2, p0, p1, p2, p3, r0, r1, r2, r3⟩
      have RW : Hid (∀ W, Kp [] wr W → W.cell? ⟨w.heap.size, 0, none⟩ = some (.slice (some ⟨b1, o1, none⟩) n c1) ∧ W.cell? ⟨w.heap.size + 1, 0, none⟩ = some (.slice (some ⟨b2, o2, none⟩) n c2) ∧ W.cell? ⟨b1, o1 + k * 4, none⟩ = some (.string nm) ∧ W.cell? ⟨b1, o1 + k * 4 + 1, none⟩ = some (.int .i64 hw) ∧ W.cell? ⟨b1, o1 + k * 4 + 2, none⟩ = some (.bool mn) ∧ W.cell? ⟨b1, o1 + k * 4 + 3, none⟩ = some (.slice d1 CL e1) ∧ W.cell? ⟨b2, o2 + k * 4, none⟩ = some (.string nm) ∧ W.cell? ⟨b2, o2 + k * 4 + 1, none⟩ = some (.int .i64 hw) ∧ W.cell? ⟨b2, o2 + k * 4 + 2, none⟩ = some (.bool mn) ∧ W.cell? ⟨b2, o2 + k * 4 + 3, none⟩ = some (.slice d2 CL e2)) := hide (fun W hk => ⟨hk.cell y0 (by simp), hk.cell y2 (by simp), hk.cell p0 (by simp), hk.cell p1 (by simp), hk.cell p2 (by simp), hk.cell p3 (by simp), hk.cell r0 (by simp), hk.cell r1 (by simp), hk.cell r2 (by simp), hk.cell r3 (by simp)⟩)
      have a0 := unhide RW _ (Kp.drew wr)
      clear a00 p0 p1 p2 p3 r0 r1 r2 r3 y0 y1 y2 y3
      refine wp_region_late (fun W => W.cell? ⟨w.heap.size, 0, none⟩ = some (.slice (some ⟨b1, o1, none⟩) n c1) ∧ W.cell? ⟨w.heap.size + 1, 0, none⟩ = some (.slice (some ⟨b2, o2, none⟩) n c2) ∧ W.cell? ⟨b1, o1 + k * 4, none⟩ = some (.string nm) ∧ W.cell? ⟨b1, o1 + k * 4 + 1, none⟩ = some (.int .i64 hw) ∧ W.cell? ⟨b1, o1 + k * 4 + 2, none⟩ = some (.bool mn) ∧ W.cell? ⟨b1, o1 + k * 4 + 3, none⟩ = some (.slice d1 CL e1) ∧ W.cell? ⟨b2, o2 + k * 4, none⟩ = some (.string nm) ∧ W.cell? ⟨b2, o2 + k * 4 + 1, none⟩ = some (.int .i64 hw) ∧ W.cell? ⟨b2, o2 + k * 4 + 2, none⟩ = some (.bool mn) ∧ W.cell? ⟨b2, o2 + k * 4 + 3, none⟩ = some (.slice d2 CL e2)) 13 (by kernel_rfl) ?_
      show wpAnyL _ _ _ _ _ _ 14 (Array.replicate 14 false) _ _
      refine wpAnyL_take (i := 0) (oi := { dst := some 29, op := Op.fieldAddr 24 (Operand.tmp 2) 0, type := 0, pos := "book.go:166", after := #[], guard := none }) (v := ?_) rfl (by kernel_rfl) (by kernel_rfl) (by kernel_rfl) (by kernel_rfl) (fun _ _ _ h => h) (Or.inl ⟨by rfl, ?_⟩) a0 ?_
      rotate_left 1
      · intro w0 hSw
        (try dsimp only at hSw)
        obtain ⟨s0, s1, s2, s3, s4, s5, s6, s7, s8, s9⟩ := hSw
        go_simp
        (try with_reducible rfl)
      try simp only [Act.put, List.setIfInBounds_toArray, List.set_cons_zero, List.set_cons_succ]
      refine wpAnyL_take (i := 1) (oi := { dst := some 30, op := Op.load 22 (Operand.tmp 29), type := 22, pos := "book.go:166", after := #[{ on := 0, ground := Ground.data }], guard := none }) (v := ?_) rfl (by kernel_rfl) (by kernel_rfl) (by kernel_rfl) (by kernel_rfl) (fun _ _ _ h => h) (Or.inl ⟨by rfl, ?_⟩) a0 ?_
      rotate_left 1
      · intro w0 hSw
        (try dsimp only at hSw)
        obtain ⟨s0, s1, s2, s3, s4, s5, s6, s7, s8, s9⟩ := hSw
        go_simp
        (try with_reducible rfl)
      try simp only [Act.put, List.setIfInBounds_toArray, List.set_cons_zero, List.set_cons_succ]
      refine wpAnyL_take (i := 2) (oi := { dst := some 31, op := Op.move (Operand.tmp 5), type := 3, pos := "book.go:166", after := #[], guard := none }) (v := ?_) rfl (by kernel_rfl) (by kernel_rfl) (by kernel_rfl) (by kernel_rfl) (fun _ _ _ h => h) (Or.inl ⟨by rfl, ?_⟩) a0 ?_
      rotate_left 1
      · intro w0 hSw
        (try dsimp only at hSw)
        obtain ⟨s0, s1, s2, s3, s4, s5, s6, s7, s8, s9⟩ := hSw
        go_simp
        (try with_reducible rfl)
      try simp only [Act.put, List.setIfInBounds_toArray, List.set_cons_zero, List.set_cons_succ]
      refine wpAnyL_take (i := 3) (oi := { dst := some 32, op := Op.indexAddr 22 (Operand.tmp 30) (Operand.tmp 31), type := 0, pos := "book.go:166", after := #[{ on := 1, ground := Ground.data }, { on := 2, ground := Ground.data }], guard := none }) (v := ?_) rfl (by kernel_rfl) (by kernel_rfl) (by kernel_rfl) (by kernel_rfl) (fun _ _ _ h => h) (Or.inl ⟨by rfl, ?_⟩) a0 ?_
      rotate_left 1
      · intro w0 hSw
        (try dsimp only at hSw)
        obtain ⟨s0, s1, s2, s3, s4, s5, s6, s7, s8, s9⟩ := hSw
        go_simp
        (try with_reducible rfl)
      try simp only [Act.put, List.setIfInBounds_toArray, List.set_cons_zero, List.set_cons_succ]
      refine wpAnyL_take (i := 4) (oi := { dst := some 33, op := Op.load 54 (Operand.tmp 32), type := 54, pos := "book.go:166", after := #[{ on := 3, ground := Ground.data }], guard := none }) (v := ?_) rfl (by kernel_rfl) (by kernel_rfl) (by kernel_rfl) (by kernel_rfl) (fun _ _ _ h => h) (Or.inl ⟨by rfl, ?_⟩) a0 ?_
      rotate_left 1
      · intro w0 hSw
        (try dsimp only at hSw)
        obtain ⟨s0, s1, s2, s3, s4, s5, s6, s7, s8, s9⟩ := hSw
        go_simp
        (try with_reducible rfl)
      try simp only [Act.put, List.setIfInBounds_toArray, List.set_cons_zero, List.set_cons_succ]
      refine wpAnyL_take (i := 5) (oi := { dst := some 34, op := Op.fieldAddr 24 (Operand.tmp 3) 0, type := 0, pos := "book.go:166", after := #[{ on := 12, ground := Ground.gcOnly Departure.lateStores }], guard := none }) (v := ?_) rfl (by kernel_rfl) (by kernel_rfl) (by kernel_rfl) (by kernel_rfl) (fun _ _ _ h => h) (Or.inl ⟨by rfl, ?_⟩) a0 ?_
      rotate_left 1
      · intro w0 hSw
        (try dsimp only at hSw)
        obtain ⟨s0, s1, s2, s3, s4, s5, s6, s7, s8, s9⟩ := hSw
        go_simp
        (try with_reducible rfl)
      try simp only [Act.put, List.setIfInBounds_toArray, List.set_cons_zero, List.set_cons_succ]
      refine wpAnyL_take (i := 6) (oi := { dst := some 35, op := Op.load 22 (Operand.tmp 34), type := 22, pos := "book.go:166", after := #[{ on := 5, ground := Ground.data }, { on := 12, ground := Ground.gcOnly Departure.lateStores }], guard := none }) (v := ?_) rfl (by kernel_rfl) (by kernel_rfl) (by kernel_rfl) (by kernel_rfl) (fun _ _ _ h => h) (Or.inl ⟨by rfl, ?_⟩) a0 ?_
      rotate_left 1
      · intro w0 hSw
        (try dsimp only at hSw)
        obtain ⟨s0, s1, s2, s3, s4, s5, s6, s7, s8, s9⟩ := hSw
        go_simp
        (try with_reducible rfl)
      try simp only [Act.put, List.setIfInBounds_toArray, List.set_cons_zero, List.set_cons_succ]
      refine wpAnyL_take (i := 7) (oi := { dst := some 36, op := Op.move (Operand.tmp 5), type := 3, pos := "book.go:166", after := #[{ on := 12, ground := Ground.gcOnly Departure.lateStores }], guard := none }) (v := ?_) rfl (by kernel_rfl) (by kernel_rfl) (by kernel_rfl) (by kernel_rfl) (fun _ _ _ h => h) (Or.inl ⟨by rfl, ?_⟩) a0 ?_
      rotate_left 1
      · intro w0 hSw
        (try dsimp only at hSw)
        obtain ⟨s0, s1, s2, s3, s4, s5, s6, s7, s8, s9⟩ := hSw
        go_simp
        (try with_reducible rfl)
      try simp only [Act.put, List.setIfInBounds_toArray, List.set_cons_zero, List.set_cons_succ]
      refine wpAnyL_take (i := 8) (oi := { dst := some 37, op := Op.indexAddr 22 (Operand.tmp 35) (Operand.tmp 36), type := 0, pos := "book.go:166", after := #[{ on := 6, ground := Ground.data }, { on := 7, ground := Ground.data }, { on := 12, ground := Ground.gcOnly Departure.lateStores }], guard := none }) (v := ?_) rfl (by kernel_rfl) (by kernel_rfl) (by kernel_rfl) (by kernel_rfl) (fun _ _ _ h => h) (Or.inl ⟨by rfl, ?_⟩) a0 ?_
      rotate_left 1
      · intro w0 hSw
        (try dsimp only at hSw)
        obtain ⟨s0, s1, s2, s3, s4, s5, s6, s7, s8, s9⟩ := hSw
        go_simp
        (try with_reducible rfl)
      try simp only [Act.put, List.setIfInBounds_toArray, List.set_cons_zero, List.set_cons_succ]
      refine wpAnyL_take (i := 9) (oi := { dst := some 38, op := Op.load 54 (Operand.tmp 37), type := 54, pos := "book.go:166", after := #[{ on := 8, ground := Ground.data }, { on := 12, ground := Ground.gcOnly Departure.lateStores }], guard := none }) (v := ?_) rfl (by kernel_rfl) (by kernel_rfl) (by kernel_rfl) (by kernel_rfl) (fun _ _ _ h => h) (Or.inl ⟨by rfl, ?_⟩) a0 ?_
      rotate_left 1
      · intro w0 hSw
        (try dsimp only at hSw)
        obtain ⟨s0, s1, s2, s3, s4, s5, s6, s7, s8, s9⟩ := hSw
        go_simp
        (try with_reducible rfl)
      try simp only [Act.put, List.setIfInBounds_toArray, List.set_cons_zero, List.set_cons_succ]
      refine wpAnyL_two (i := 10) (j := 11) (o := { dst := some 6, op := Op.alloc 54, type := 0, pos := "book.go:166", after := #[], guard := none }) (o' := { dst := some 7, op := Op.alloc 54, type := 0, pos := "book.go:166", after := #[], guard := none }) rfl rfl (by kernel_rfl) (fun K hK => ?_) (fun K hK => ?_)
      · go_simp
        refine hK _ _ (Or.inr (unhide RW _ ((Kp.alloc _ _).trans (Kp.drew _) (by simp)))) ?_
        refine wpAnyL_one (i := 11) (o := { dst := some 7, op := Op.alloc 54, type := 0, pos := "book.go:166", after := #[], guard := none }) rfl (by kernel_rfl) (fun K hK => ?_)
        go_simp
        refine hK _ _ (Or.inr (unhide RW _ (((Kp.alloc _ _).trans (Kp.alloc _ _) (by simp)).trans (Kp.drew _) (by simp)))) ?_
        refine wpAnyL_one (i := 12) (o := { dst := none, op := Op.store 54 (Operand.tmp 6) (Operand.tmp 33), type := 0, pos := "book.go:166", after := #[{ on := 10, ground := Ground.data }, { on := 4, ground := Ground.data }, { on := 0, ground := Ground.phase }, { on := 1, ground := Ground.phase }, { on := 2, ground := Ground.phase }, { on := 3, ground := Ground.phase }, { on := 4, ground := Ground.phase }, { on := 5, ground := Ground.textOnly Departure.lateStores }, { on := 6, ground := Ground.textOnly Departure.lateStores }, { on := 7, ground := Ground.textOnly Departure.lateStores }, { on := 8, ground := Ground.textOnly Departure.lateStores }, { on := 9, ground := Ground.textOnly Departure.lateStores }, { on := 10, ground := Ground.phase }, { on := 11, ground := Ground.phase }], guard := none }) rfl (by kernel_rfl) (fun K hK => ?_)
        go_simp
        refine hK _ _ (Or.inr (unhide RW _ (((Kp.alloc _ _).trans (Kp.alloc _ _) (by simp)).trans (Kp.drew _) (by simp)))) ?_
        refine wpAnyL_one (i := 13) (o := { dst := none, op := Op.store 54 (Operand.tmp 7) (Operand.tmp 38), type := 0, pos := "book.go:166", after := #[{ on := 11, ground := Ground.data }, { on := 9, ground := Ground.data }, { on := 12, ground := Ground.chain }, { on := 0, ground := Ground.phase }, { on := 1, ground := Ground.phase }, { on := 2, ground := Ground.phase }, { on := 3, ground := Ground.phase }, { on := 4, ground := Ground.phase }, { on := 5, ground := Ground.phase }, { on := 6, ground := Ground.phase }, { on := 7, ground := Ground.phase }, { on := 8, ground := Ground.phase }, { on := 9, ground := Ground.phase }, { on := 10, ground := Ground.phase }, { on := 11, ground := Ground.phase }, { on := 12, ground := Ground.phase }], guard := none }) rfl (by kernel_rfl) (fun K hK => ?_)
        go_simp
        refine hK _ _ (Or.inl rfl) ?_
        refine wpAnyL_done (by kernel_rfl) ?_ _
        clear a0 RW
        go_wp2_with (go_at_call 33; refine (unhide HSP _ (((Kp.alloc _ _).trans (Kp.alloc _ _) (by simp)).trans (Kp.drew _) (by simp))).mono ?_; rintro e w8 ⟨rfl, hk8⟩; have HK8 := hide ((unhide HK).trans (Kp.trans (((Kp.alloc _ _).trans (Kp.alloc _ _) (by simp)).trans (Kp.drew _) (by simp)) hk8 (by simp)) (by simp)); clear hk8 HSP)
        go_roundw
        case rel => exact ⟨k + 1, by omega, by go_num, HK8⟩
        case measure => simp [intOf]; omega
      · go_simp
        refine hK _ _ (Or.inr (unhide RW _ ((Kp.alloc _ _).trans (Kp.drew _) (by simp)))) ?_
        refine wpAnyL_one (i := 10) (o := { dst := some 6, op := Op.alloc 54, type := 0, pos := "book.go:166", after := #[], guard := none }) rfl (by kernel_rfl) (fun K hK => ?_)
        go_simp
        refine hK _ _ (Or.inr (unhide RW _ (((Kp.alloc _ _).trans (Kp.alloc _ _) (by simp)).trans (Kp.drew _) (by simp)))) ?_
        refine wpAnyL_one (i := 12) (o := { dst := none, op := Op.store 54 (Operand.tmp 6) (Operand.tmp 33), type := 0, pos := "book.go:166", after := #[{ on := 10, ground := Ground.data }, { on := 4, ground := Ground.data }, { on := 0, ground := Ground.phase }, { on := 1, ground := Ground.phase }, { on := 2, ground := Ground.phase }, { on := 3, ground := Ground.phase }, { on := 4, ground := Ground.phase }, { on := 5, ground := Ground.textOnly Departure.lateStores }, { on := 6, ground := Ground.textOnly Departure.lateStores }, { on := 7, ground := Ground.textOnly Departure.lateStores }, { on := 8, ground := Ground.textOnly Departure.lateStores }, { on := 9, ground := Ground.textOnly Departure.lateStores }, { on := 10, ground := Ground.phase }, { on := 11, ground := Ground.phase }], guard := none }) rfl (by kernel_rfl) (fun K hK => ?_)
        go_simp
        refine hK _ _ (Or.inr (unhide RW _ (((Kp.alloc _ _).trans (Kp.alloc _ _) (by simp)).trans (Kp.drew _) (by simp)))) ?_
        refine wpAnyL_one (i := 13) (o := { dst := none, op := Op.store 54 (Operand.tmp 7) (Operand.tmp 38), type := 0, pos := "book.go:166", after := #[{ on := 11, ground := Ground.data }, { on := 9, ground := Ground.data }, { on := 12, ground := Ground.chain }, { on := 0, ground := Ground.phase }, { on := 1, ground := Ground.phase }, { on := 2, ground := Ground.phase }, { on := 3, ground := Ground.phase }, { on := 4, ground := Ground.phase }, { on := 5, ground := Ground.phase }, { on := 6, ground := Ground.phase }, { on := 7, ground := Ground.phase }, { on := 8, ground := Ground.phase }, { on := 9, ground := Ground.phase }, { on := 10, ground := Ground.phase }, { on := 11, ground := Ground.phase }, { on := 12, ground := Ground.phase }], guard := none }) rfl (by kernel_rfl) (fun K hK => ?_)
        go_simp
        refine hK _ _ (Or.inl rfl) ?_
        refine wpAnyL_done (by kernel_rfl) ?_ _
        clear a0 RW
        go_wp2_with (go_at_call 33; refine (unhide HSP _ (((Kp.alloc _ _).trans (Kp.alloc _ _) (by simp)).trans (Kp.drew _) (by simp))).mono ?_; rintro e w8 ⟨rfl, hk8⟩; have HK8 := hide ((unhide HK).trans (Kp.trans (((Kp.alloc _ _).trans (Kp.alloc _ _) (by simp)).trans (Kp.drew _) (by simp)) hk8 (by simp)) (by simp)); clear hk8 HSP)
        go_roundw
        case rel => exact ⟨k + 1, by omega, by go_num, HK8⟩
        case measure => simp [intOf]; omega
    · obtain rfl : k = n := by omega
      clear HK HV
      go_wp2
      go_ret
      exact ⟨rfl, unhide HW⟩
end Go.Proofs.YtjijhefmbmdbeaaGreatDoor
