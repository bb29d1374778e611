/-
  GatePlays: a gate beside the document's; an act.
-/
import Derived.Test.YtcgmoadahdkbbaaGp13
import Derived.Test.YtcgmoadahdkbbaaGp14
import Derived.Deep.RegionHeld3
import Derived.Deep.DeepCutAuto
namespace Go.Proofs.Ytcgmoadahdkbbaa
open Go.RowKit Gt Cr

/-- A gate, and the document's: all of the call's own. -/
structure Pw (w W : World) (b L b' L' : Nat) (G H : Gt) : Prop where
  gt : GtAt w.heap.size W b L G
  rg : RgAt w.heap.size W b' L' H
  kp : Kp [] w W
theorem gt_not_rg : ∀ o, gtO o = true → rgO o = false := by
  intro o h
  cases o with
  | cells c t f =>
    unfold gtO at h
    unfold rgO
    simp only [Bool.or_eq_true, beq_iff_eq] at h
    rcases h with ((rfl | rfl) | rfl) | rfl <;> rfl
  | _ => cases h
theorem rg_not_gt : ∀ o, rgA o = true → gtO o = false := by
  intro o h
  cases o with
  | cells c t f =>
    unfold rgA at h
    unfold gtO
    simp only [Bool.or_eq_true, beq_iff_eq] at h
    rcases h with (rfl | rfl) | rfl <;> rfl
  | _ => cases h
section
variable {w W W' : World} {b L b' L' : Nat} {G H G' : Gt}
theorem Pw.quiet (h : Pw w W b L b' L' G H) (k : Kp [] W W') : Pw w W' b L b' L' G H := ⟨h.gt.kp k, h.rg.kp k, h.kp.trans k (by simp)⟩
theorem Pw.g (h : Pw w W b L b' L' G H) (a : GtAt w.heap.size W' b L G') (k : Ko gtO w.heap.size W W') : Pw w W' b L b' L' G' H := ⟨a, h.rg.ko k (Or.inr rg_not_gt), kp_ko h.kp k⟩
theorem Pw.r (h : Pw w W b L b' L' G H) (a : RgAt w.heap.size W' b' L' G') (k : Ko rgO w.heap.size W W') : Pw w W' b L b' L' G G' := ⟨h.gt.ko k (Or.inr gt_not_rg), a, kp_ko h.kp k⟩
end
/-- Both, and an act's box. -/
structure Pa (w W : World) (b L b' L' g : Nat) (G H : Gt) (a : A21) : Prop where
  pw : Pw w W b L b' L' G H
  box : CBox g #[.int .i64 a.k, .int .i64 a.c, .int .i64 a.n, .string a.t, .bool a.o] 34 W
section
variable {w W W' : World} {b L b' L' q : Nat} {G H G' : Gt} {a : A21}
theorem Pa.quiet (h : Pa w W b L b' L' q G H a) (k : Kp [] W W') : Pa w W' b L b' L' q G H a := ⟨h.pw.quiet k, h.box.kp k (by simp)⟩
theorem Pa.g (h : Pa w W b L b' L' q G H a) (x : GtAt w.heap.size W' b L G') (k : Ko gtO w.heap.size W W') : Pa w W' b L b' L' q G' H a := ⟨h.pw.g x k, h.box.ko k (Or.inr rfl)⟩
theorem Pa.r (h : Pa w W b L b' L' q G H a) (x : RgAt w.heap.size W' b' L' G') (k : Ko rgO w.heap.size W W') : Pa w W' b L b' L' q G G' a := ⟨h.pw.r x k, h.box.ko k (Or.inr rfl)⟩
theorem Pa.cells (h : Pa w W b L b' L' q G H a) : W.cell? ⟨q, 0, none⟩ = some (.int .i64 a.k) ∧ W.cell? ⟨q, 1, none⟩ = some (.int .i64 a.c) ∧ W.cell? ⟨q, 2, none⟩ = some (.int .i64 a.n) ∧ W.cell? ⟨q, 3, none⟩ = some (.string a.t) ∧ W.cell? ⟨q, 4, none⟩ = some (.bool a.o) := ⟨h.box.cell rfl, h.box.cell rfl, h.box.cell rfl, h.box.cell rfl, h.box.cell rfl⟩
end
/-- How far the numbers of barriers have come. -/
def Nx (g : Gt) (N : Nat) : Prop := ∀ k, k < g.n → (g.ch k).next ≤ N
theorem nx_upd {g : Gt} {N k : Nat} {c : Ch} (h : Nx g N) (hc : k < g.n → c.next ≤ N + 1) : Nx (g.upd k c) (N + 1) := fun j hj => by
  by_cases e : j = k
  · subst e; rw [Gt.upd_same]; exact hc hj
  · rw [Gt.upd_ne g c e]; have := h j hj; omega
theorem nx_up {g : Gt} {N : Nat} (h : Nx g N) : Nx g (N + 1) := fun k hk => by have := h k hk; omega
theorem nx_gv {g : Gt} {N : Nat} (h : Nx g N) (c m : Int) : Nx (g.gvS c m) (N + 1) := by
  unfold Gt.gvS
  split
  · exact nx_upd h (fun hk => by have := h _ hk; show (g.ch c.toNat).next ≤ _; omega)
  · exact nx_up h
theorem nx_ps {g : Gt} {N k : Nat} (h : Nx g N) (x : It) (hk : k < g.n) : ((g.ch k).ps x).next ≤ N + 1 := by
  have := h k hk
  unfold Ch.ps
  split
  · omega
  · show (g.ch k).next ≤ _; omega
theorem nx_tx {g : Gt} {N : Nat} (h : Nx g N) (c : Int) (t : ByteArray) : Nx (g.txS c t) (N + 1) := by
  unfold Gt.txS
  split
  · split
    · exact nx_up h
    · exact nx_upd h (fun hk => nx_ps h _ hk)
  · exact nx_up h
theorem nx_ba {g : Gt} {N : Nat} (h : Nx g N) (c n : Int) : Nx (g.baS c n) (N + 1) := by
  unfold Gt.baS
  split
  · refine nx_upd h (fun hk => ?_)
    have := h _ hk
    unfold Ch.pb
    split
    · split
      · omega
      · show (g.ch c.toNat).next + 1 ≤ _; omega
    · omega
  · exact nx_up h
theorem nx_pl {g : Gt} {N : Nat} (h : Nx g N) : Nx g.plS (N + 1) := by
  unfold Gt.plS
  split
  · intro k hk
    have hk : k < g.n := hk
    have := h k hk
    show (if k < g.n then (g.ch k).tl else g.ch k).next ≤ _
    rw [if_pos hk]
    show (g.ch k).next ≤ _
    omega
  · split
    · rename_i k _
      exact nx_upd (g := g.tn _) h (fun hk => by have := h _ hk; show (g.ch k).next ≤ _; omega)
    · exact nx_up h
/-- What an act leaves. -/
def Stp (w W : World) (b L b' L' N : Nat) : Prop := ∃ G, Pw w W b L b' L' G G ∧ Nx G N
/-- The number that a barrier is given. -/
def ownN (g : Gt) (a : A21) : Int := if a.o = true ∧ 0 ≤ a.c ∧ a.c < (g.n : Int) then ((g.ch a.c.toNat).next : Int) else a.n
set_option maxHeartbeats 16000000 in
set_option maxRecDepth 100000 in
theorem gstep_any (b L b' L' N : Nat) (G : Gt) (a : A21) (w0 w : World) (h : Pw w0 w b L b' L' G G) (ha : a.ok) (hN : Nx G N) (hN2 : N ≤ 2305843009213693952) :
    Calls Try.prog 9 #[.pointer (some ⟨b, 0, none⟩), .pointer (some ⟨b', 0, none⟩), .agg #[.int .i64 a.k, .int .i64 a.c, .int .i64 a.n, .string a.t, .bool a.o]] w fun e w' => e = .returned (.bool true) ∧ Stp w0 w' b L b' L' (N + 1) := by
  have AM := hide (fun W => gAmong_any a.k 5 W (by decide) (by decide))
  have HB : Hid (Pa w0 (w.alloc (.cells #[.int .i64 a.k, .int .i64 a.c, .int .i64 a.n, .string a.t, .bool a.o] 34)) b L b' L' w.heap.size G G a) := hide ⟨h.quiet (Kp.alloc _ _), CBox.new w _ _⟩
  have hts := hide ha.2.2.2.1
  have HNX := hide hN
  have HN2 := hide hN2
  clear h ha hN hN2
  have hx0 : 0 ≤ a.k % 5 := Int.emod_nonneg _ (by decide)
  have hx1 : a.k % 5 < 5 := Int.emod_lt_of_pos _ (by decide)
  generalize a.k % 5 = x at *
  go_enter Try.func9, Try.ntmps9
  go_upto_region 1 with fail
  generalize w.heap.size = g at *
  generalize w.alloc (.cells #[.int .i64 a.k, .int .i64 a.c, .int .i64 a.n, .string a.t, .bool a.o] 34) = W1 at *
  obtain ⟨x0, x1, x2, x3, x4⟩ := (unhide HB).cells
  go_wp2_with fail
  refine (unhide AM _).mono ?_
  rintro _ w1 ⟨rfl, rfl⟩
  clear AM
  rcases (by omega : x = 0 ∨ x = 1 ∨ x = 2 ∨ x = 3 ∨ x = 4) with rfl | rfl | rfl | rfl | rfl
  · clear hx0 hx1
    have A1 := hide (gGive_any w0.heap.size b L G a.c a.n w1 (unhide HB).pw.gt)
    have A2 := hide (fun W h => rGive_any w0.heap.size b' L' G a.c a.n W h)
    have HNN := hide (nx_gv (unhide HNX) a.c a.n)
    generalize G.gvS a.c a.n = G2 at *
    generalize G.gvN a.c a.n = V at *
    generalize G.gvE a.c a.n = E at *
    go_wp2_with fail
    refine (unhide A1).mono ?_
    rintro _ w2 ⟨rfl, m1, k1⟩
    have HB2 := hide ((unhide HB).g m1 k1)
    clear A1 HB x0 x1 x2 x3 x4 m1 k1
    obtain ⟨x0, x1, x2, x3, x4⟩ := (unhide HB2).cells
    go_wp2_with fail
    refine (unhide A2 w2 (unhide HB2).pw.rg).mono ?_
    rintro _ w3 ⟨rfl, m2, k2⟩
    have HB3 := hide ((unhide HB2).r m2 k2)
    clear A2 HB2 x0 x1 x2 x3 x4 m2 k2
    go_wp2
    go_ret
    exact ⟨rfl, _, (unhide HB3).pw, unhide HNN⟩
  · clear hx0 hx1
    have A1 := hide (fun W h => gText_any w0.heap.size b L G a.c a.t W h (unhide hts))
    have A2 := hide (fun W h => rText_any w0.heap.size b' L' G a.c a.t W h (unhide hts))
    have HNN := hide (nx_tx (unhide HNX) a.c a.t)
    have HD := hide ((unhide HB).quiet (Kp.drew _))
    have y0 := And.intro (unhide HD).cells.2.1 (unhide HD).cells.2.2.2.1
    generalize G.txS a.c a.t = G2 at *
    generalize G.txE a.c a.t = E at *
    clear HB x0 x2 x4
    go_upto_region 7 with fail
    go_region_held3 (fun W => W.cell? ⟨g, 1, none⟩ = some (.int .i64 a.c) ∧ W.cell? ⟨g, 3, none⟩ = some (.string a.t)) (first | with_reducible exact y0 | with_reducible exact y1 | with_reducible exact y2 | exact ⟨x1, x3⟩)
      (first
        | (go_at_call 22; refine (unhide A2 _ (unhide HB2).pw.rg).mono ?_; rintro _ w3 ⟨rfl, m2, k2⟩; have HB3 := hide ((unhide HB2).r m2 k2); have y2 := And.intro (unhide HB3).cells.2.1 (unhide HB3).cells.2.2.2.1; clear m2 k2)
        | (go_at_call 17; refine (unhide A1 _ (unhide HD).pw.gt).mono ?_; rintro _ w2 ⟨rfl, m1, k1⟩; have HB2 := hide ((unhide HD).g m1 k1); have y1 := And.intro (unhide HB2).cells.2.1 (unhide HB2).cells.2.2.2.1; clear m1 k1))
    go_wp2
    go_ret
    exact ⟨rfl, _, (unhide HB3).pw, unhide HNN⟩
  · clear hx0 hx1
    have d0 := (unhide HB).pw.rg.1.lines.1
    by_cases ho : a.o = true ∧ 0 ≤ a.c ∧ a.c < (G.n : Int)
    · obtain ⟨ho1, hc0, hcn⟩ := ho
      have hk : a.c.toNat < G.n := by omega
      have d3 : w1.cell? ⟨L', a.c.toNat * 4 + 3, none⟩ = some (.int .i64 ((G.ch a.c.toNat).next : Int)) := ((unhide HB).pw.rg.1.at hk).2.2.1
      rw [ho1] at x4
      obtain ⟨nn, hnn⟩ : ∃ nn : Int, nn = ((G.ch a.c.toNat).next : Int) := ⟨_, rfl⟩
      rw [← hnn] at d3
      clear hnn ho1
      obtain ⟨n, hgn⟩ : ∃ n, n = G.n := ⟨_, rfl⟩
      rw [← hgn] at d0 hcn hk
      clear hgn
      go_wp2
      go_quiet (fail)
      go_wp2
      go_quiet (fail)
      go_upto_region 12 with fail
      generalize hW2 : (w1.drewN _).drewN _ = W2
      have kq : Kp [] w1 W2 := hW2 ▸ ((Kp.drewQ _ _).trans (Kp.drewQ _ _) (by simp))
      have HB1 := hide ((unhide HB).quiet kq)
      clear hW2 kq HB x0 x1 x2 x3 x4 d0 d3
      have HB := HB1
      clear HB1
      obtain ⟨x0, x1, x2, x3, x4⟩ := (unhide HB).cells
      have HNB : Hid (∀ k, k < G.n → (G.ch k).next ≤ 4611686018427387904) := hide (fun k hk => by have := unhide HNX k hk; have := unhide HN2; omega)
      have A1 := hide (fun W h => gBarrier_any w0.heap.size b L G a.c nn W h (unhide HNB))
      have A2 := hide (fun W h => rBarrier_any w0.heap.size b' L' G a.c nn W h (unhide HNB))
      have HNN := hide (nx_ba (unhide HNX) a.c nn)
      have HD := hide ((unhide HB).quiet (Kp.drew _))
      have y0 := (unhide HD).cells.2.1
      generalize G.baS a.c nn = G2 at *
      generalize G.baE a.c nn = E at *
      clear HB x0 x2 x3 x4
      go_region_held3 (fun W => W.cell? ⟨g, 1, none⟩ = some (.int .i64 a.c)) (first | with_reducible exact y0 | with_reducible exact y1 | with_reducible exact y2 | exact x1)
        (first
          | (go_at_call 23; refine (unhide A2 _ (unhide HB2).pw.rg).mono ?_; rintro _ w3 ⟨rfl, m2, k2⟩; have HB3 := hide ((unhide HB2).r m2 k2); have y2 := (unhide HB3).cells.2.1; clear m2 k2)
          | (go_at_call 18; refine (unhide A1 _ (unhide HD).pw.gt).mono ?_; rintro _ w2 ⟨rfl, m1, k1⟩; have HB2 := hide ((unhide HD).g m1 k1); have y1 := (unhide HB2).cells.2.1; clear m1 k1))
      go_wp2
      go_ret
      exact ⟨rfl, _, (unhide HB3).pw, unhide HNN⟩
    · have hcase : a.o = false ∨ (0 ≤ a.c → (G.n : Int) ≤ a.c) := by
        by_cases h1 : a.o = true
        · refine Or.inr (fun h2 => ?_)
          rcases Int.lt_or_le a.c G.n with h3 | h3
          · exact absurd ⟨h1, h2, h3⟩ ho
          · exact h3
        · exact Or.inl (by simpa using h1)
      clear ho
      obtain ⟨nn, hnn⟩ : ∃ nn : Int, nn = a.n := ⟨_, rfl⟩
      rw [← hnn] at x2
      obtain ⟨n, hgn⟩ : ∃ n, n = G.n := ⟨_, rfl⟩
      rw [← hgn] at d0 hcase
      clear hgn
      have HNE := hide hnn
      clear hnn
      rcases hcase with h1 | h1
      · rw [h1] at x4
        go_wp2
        go_quiet (fail)
        go_upto_region 12 with fail
        generalize hW2 : w1.drewN _ = W2
        have kq : Kp [] w1 W2 := hW2 ▸ (Kp.drewQ _ _)
        have HB1 := hide ((unhide HB).quiet kq)
        clear hW2 kq HB x0 x1 x2 x3 x4 d0 
        have HB := HB1
        clear HB1
        obtain ⟨x0, x1, x2, x3, x4⟩ := (unhide HB).cells
        have HNB : Hid (∀ k, k < G.n → (G.ch k).next ≤ 4611686018427387904) := hide (fun k hk => by have := unhide HNX k hk; have := unhide HN2; omega)
        have A1 := hide (fun W h => gBarrier_any w0.heap.size b L G a.c nn W h (unhide HNB))
        have A2 := hide (fun W h => rBarrier_any w0.heap.size b' L' G a.c nn W h (unhide HNB))
        have HNN := hide (nx_ba (unhide HNX) a.c nn)
        have HD := hide ((unhide HB).quiet (Kp.drew _))
        have y0 := (unhide HD).cells.2.1
        generalize G.baS a.c nn = G2 at *
        generalize G.baE a.c nn = E at *
        clear HB x0 x2 x3 x4
        go_region_held3 (fun W => W.cell? ⟨g, 1, none⟩ = some (.int .i64 a.c)) (first | with_reducible exact y0 | with_reducible exact y1 | with_reducible exact y2 | exact x1)
          (first
            | (go_at_call 23; refine (unhide A2 _ (unhide HB2).pw.rg).mono ?_; rintro _ w3 ⟨rfl, m2, k2⟩; have HB3 := hide ((unhide HB2).r m2 k2); have y2 := (unhide HB3).cells.2.1; clear m2 k2)
            | (go_at_call 18; refine (unhide A1 _ (unhide HD).pw.gt).mono ?_; rintro _ w2 ⟨rfl, m1, k1⟩; have HB2 := hide ((unhide HD).g m1 k1); have y1 := (unhide HB2).cells.2.1; clear m1 k1))
        go_wp2
        go_ret
        exact ⟨rfl, _, (unhide HB3).pw, unhide HNN⟩
      · by_cases h2 : 0 ≤ a.c
        · have h3 := h1 h2
          clear h1
          cases h4 : a.o with
          | false =>
            rw [h4] at x4
            go_wp2
            go_quiet (fail)
            go_upto_region 12 with fail
            generalize hW2 : w1.drewN _ = W2
            have kq : Kp [] w1 W2 := hW2 ▸ (Kp.drewQ _ _)
            have HB1 := hide ((unhide HB).quiet kq)
            clear hW2 kq HB x0 x1 x2 x3 x4 d0 
            have HB := HB1
            clear HB1
            obtain ⟨x0, x1, x2, x3, x4⟩ := (unhide HB).cells
            have HNB : Hid (∀ k, k < G.n → (G.ch k).next ≤ 4611686018427387904) := hide (fun k hk => by have := unhide HNX k hk; have := unhide HN2; omega)
            have A1 := hide (fun W h => gBarrier_any w0.heap.size b L G a.c nn W h (unhide HNB))
            have A2 := hide (fun W h => rBarrier_any w0.heap.size b' L' G a.c nn W h (unhide HNB))
            have HNN := hide (nx_ba (unhide HNX) a.c nn)
            have HD := hide ((unhide HB).quiet (Kp.drew _))
            have y0 := (unhide HD).cells.2.1
            generalize G.baS a.c nn = G2 at *
            generalize G.baE a.c nn = E at *
            clear HB x0 x2 x3 x4
            go_region_held3 (fun W => W.cell? ⟨g, 1, none⟩ = some (.int .i64 a.c)) (first | with_reducible exact y0 | with_reducible exact y1 | with_reducible exact y2 | exact x1)
              (first
                | (go_at_call 23; refine (unhide A2 _ (unhide HB2).pw.rg).mono ?_; rintro _ w3 ⟨rfl, m2, k2⟩; have HB3 := hide ((unhide HB2).r m2 k2); have y2 := (unhide HB3).cells.2.1; clear m2 k2)
                | (go_at_call 18; refine (unhide A1 _ (unhide HD).pw.gt).mono ?_; rintro _ w2 ⟨rfl, m1, k1⟩; have HB2 := hide ((unhide HD).g m1 k1); have y1 := (unhide HB2).cells.2.1; clear m1 k1))
            go_wp2
            go_ret
            exact ⟨rfl, _, (unhide HB3).pw, unhide HNN⟩
          | true =>
            rw [h4] at x4
            go_wp2
            go_quiet (fail)
            go_upto_region 12 with fail
            generalize hW2 : w1.drewN _ = W2
            have kq : Kp [] w1 W2 := hW2 ▸ (Kp.drewQ _ _)
            have HB1 := hide ((unhide HB).quiet kq)
            clear hW2 kq HB x0 x1 x2 x3 x4 d0 
            have HB := HB1
            clear HB1
            obtain ⟨x0, x1, x2, x3, x4⟩ := (unhide HB).cells
            have HNB : Hid (∀ k, k < G.n → (G.ch k).next ≤ 4611686018427387904) := hide (fun k hk => by have := unhide HNX k hk; have := unhide HN2; omega)
            have A1 := hide (fun W h => gBarrier_any w0.heap.size b L G a.c nn W h (unhide HNB))
            have A2 := hide (fun W h => rBarrier_any w0.heap.size b' L' G a.c nn W h (unhide HNB))
            have HNN := hide (nx_ba (unhide HNX) a.c nn)
            have HD := hide ((unhide HB).quiet (Kp.drew _))
            have y0 := (unhide HD).cells.2.1
            generalize G.baS a.c nn = G2 at *
            generalize G.baE a.c nn = E at *
            clear HB x0 x2 x3 x4
            go_region_held3 (fun W => W.cell? ⟨g, 1, none⟩ = some (.int .i64 a.c)) (first | with_reducible exact y0 | with_reducible exact y1 | with_reducible exact y2 | exact x1)
              (first
                | (go_at_call 23; refine (unhide A2 _ (unhide HB2).pw.rg).mono ?_; rintro _ w3 ⟨rfl, m2, k2⟩; have HB3 := hide ((unhide HB2).r m2 k2); have y2 := (unhide HB3).cells.2.1; clear m2 k2)
                | (go_at_call 18; refine (unhide A1 _ (unhide HD).pw.gt).mono ?_; rintro _ w2 ⟨rfl, m1, k1⟩; have HB2 := hide ((unhide HD).g m1 k1); have y1 := (unhide HB2).cells.2.1; clear m1 k1))
            go_wp2
            go_ret
            exact ⟨rfl, _, (unhide HB3).pw, unhide HNN⟩
        · clear h1
          have h2i : a.c < 0 := by omega
          have h2b : decide (0 ≤ a.c) = false := decide_eq_false h2
          clear h2
          cases h4 : a.o with
          | false =>
            rw [h4] at x4
            go_wp2
            go_quiet (fail)
            go_upto_region 12 with fail
            generalize hW2 : w1.drewN _ = W2
            have kq : Kp [] w1 W2 := hW2 ▸ (Kp.drewQ _ _)
            have HB1 := hide ((unhide HB).quiet kq)
            clear hW2 kq HB x0 x1 x2 x3 x4 d0 
            have HB := HB1
            clear HB1
            obtain ⟨x0, x1, x2, x3, x4⟩ := (unhide HB).cells
            have HNB : Hid (∀ k, k < G.n → (G.ch k).next ≤ 4611686018427387904) := hide (fun k hk => by have := unhide HNX k hk; have := unhide HN2; omega)
            have A1 := hide (fun W h => gBarrier_any w0.heap.size b L G a.c nn W h (unhide HNB))
            have A2 := hide (fun W h => rBarrier_any w0.heap.size b' L' G a.c nn W h (unhide HNB))
            have HNN := hide (nx_ba (unhide HNX) a.c nn)
            have HD := hide ((unhide HB).quiet (Kp.drew _))
            have y0 := (unhide HD).cells.2.1
            generalize G.baS a.c nn = G2 at *
            generalize G.baE a.c nn = E at *
            clear HB x0 x2 x3 x4
            go_region_held3 (fun W => W.cell? ⟨g, 1, none⟩ = some (.int .i64 a.c)) (first | with_reducible exact y0 | with_reducible exact y1 | with_reducible exact y2 | exact x1)
              (first
                | (go_at_call 23; refine (unhide A2 _ (unhide HB2).pw.rg).mono ?_; rintro _ w3 ⟨rfl, m2, k2⟩; have HB3 := hide ((unhide HB2).r m2 k2); have y2 := (unhide HB3).cells.2.1; clear m2 k2)
                | (go_at_call 18; refine (unhide A1 _ (unhide HD).pw.gt).mono ?_; rintro _ w2 ⟨rfl, m1, k1⟩; have HB2 := hide ((unhide HD).g m1 k1); have y1 := (unhide HB2).cells.2.1; clear m1 k1))
            go_wp2
            go_ret
            exact ⟨rfl, _, (unhide HB3).pw, unhide HNN⟩
          | true =>
            rw [h4] at x4
            go_wp2
            go_quiet (fail)
            go_upto_region 12 with fail
            generalize hW2 : w1.drewN _ = W2
            have kq : Kp [] w1 W2 := hW2 ▸ (Kp.drewQ _ _)
            have HB1 := hide ((unhide HB).quiet kq)
            clear hW2 kq HB x0 x1 x2 x3 x4 d0 
            have HB := HB1
            clear HB1
            obtain ⟨x0, x1, x2, x3, x4⟩ := (unhide HB).cells
            have HNB : Hid (∀ k, k < G.n → (G.ch k).next ≤ 4611686018427387904) := hide (fun k hk => by have := unhide HNX k hk; have := unhide HN2; omega)
            have A1 := hide (fun W h => gBarrier_any w0.heap.size b L G a.c nn W h (unhide HNB))
            have A2 := hide (fun W h => rBarrier_any w0.heap.size b' L' G a.c nn W h (unhide HNB))
            have HNN := hide (nx_ba (unhide HNX) a.c nn)
            have HD := hide ((unhide HB).quiet (Kp.drew _))
            have y0 := (unhide HD).cells.2.1
            generalize G.baS a.c nn = G2 at *
            generalize G.baE a.c nn = E at *
            clear HB x0 x2 x3 x4
            go_region_held3 (fun W => W.cell? ⟨g, 1, none⟩ = some (.int .i64 a.c)) (first | with_reducible exact y0 | with_reducible exact y1 | with_reducible exact y2 | exact x1)
              (first
                | (go_at_call 23; refine (unhide A2 _ (unhide HB2).pw.rg).mono ?_; rintro _ w3 ⟨rfl, m2, k2⟩; have HB3 := hide ((unhide HB2).r m2 k2); have y2 := (unhide HB3).cells.2.1; clear m2 k2)
                | (go_at_call 18; refine (unhide A1 _ (unhide HD).pw.gt).mono ?_; rintro _ w2 ⟨rfl, m1, k1⟩; have HB2 := hide ((unhide HD).g m1 k1); have y1 := (unhide HB2).cells.2.1; clear m1 k1))
            go_wp2
            go_ret
            exact ⟨rfl, _, (unhide HB3).pw, unhide HNN⟩
  · clear hx0 hx1
    have A1 := hide (gPull_any w0.heap.size b L G w1 (unhide HB).pw.gt)
    have A2 := hide (fun W h => rPull_any w0.heap.size b' L' G W h)
    have HNN := hide (nx_pl (unhide HNX))
    generalize G.plS = G2 at *
    generalize G.plC = pc at *
    generalize G.plT = pt at *
    generalize G.plB = pb at *
    generalize G.plE = pe at *
    go_wp2_with fail
    refine (unhide A1).mono ?_
    rintro _ w2 ⟨rfl, m1, k1⟩
    have HB2 := hide ((unhide HB).g m1 k1)
    clear A1 HB x0 x1 x2 x3 x4 m1 k1
    obtain ⟨x0, x1, x2, x3, x4⟩ := (unhide HB2).cells
    go_wp2_with fail
    refine (unhide A2 w2 (unhide HB2).pw.rg).mono ?_
    rintro _ w3 ⟨rfl, m2, k2⟩
    have HB3 := hide ((unhide HB2).r m2 k2)
    clear A2 HB2 x0 x1 x2 x3 x4 m2 k2
    go_wp2
    go_ret
    exact ⟨rfl, _, (unhide HB3).pw, unhide HNN⟩
  · clear hx0 hx1
    have A1 := hide (gLen_any w0.heap.size b L G a.c w1 (unhide HB).pw.gt)
    have HE := hide (fun W (kq : Kp [] w1 W) => (show Stp w0 W b L b' L' (N + 1) from ⟨G, (unhide HB).pw.quiet kq, nx_up (unhide HNX)⟩))
    have d0 := (unhide HB).pw.rg.1.lines.1
    by_cases hc : 0 ≤ a.c ∧ a.c < (G.n : Int)
    · have e1 : G.leN a.c = (G.ch a.c.toNat).q.length := if_pos hc
      have e2 : G.leE a.c = 0 := if_pos hc
      rw [e1, e2] at A1
      have hk : a.c.toNat < G.n := by omega
      obtain ⟨ad, cap, b2⟩ : ∃ ad cap, w1.cell? ⟨L', a.c.toNat * 4 + 2, none⟩ = some (.slice ad (G.ch a.c.toNat).q.length cap) := by
        obtain ⟨_, _, _, v, b2, hrq0⟩ := (unhide HB).pw.rg.1.at hk
        have hrq : RqQ w1 v (G.ch a.c.toNat).q := hrq0
        obtain ⟨ad, cap, rfl⟩ := hrq.slice
        exact ⟨ad, cap, b2⟩
      obtain ⟨hc0, hcn⟩ := hc
      have h0 : ¬ a.c < 0 := by omega
      have h1 : ¬ a.c ≥ (G.n : Int) := by omega
      clear e1 e2 HB x0 x2 x3 x4
      generalize (G.ch a.c.toNat).q.length = ql at *
      obtain ⟨n, hgn⟩ : ∃ n, n = G.n := ⟨_, rfl⟩
      rw [← hgn] at d0 hcn h1 hk
      clear hgn
      go_wp2_with fail
      refine (unhide A1).mono ?_
      rintro _ w2 ⟨rfl, rfl⟩
      go_wp2
      go_quiet (fail)
      go_wp2
      go_quiet (fail)
      go_wp2
      go_ret
      exact ⟨rfl, unhide HE _ ((Kp.drewQ _ _).trans (Kp.drewQ _ _) (by simp))⟩
    · have e1 : G.leN a.c = 0 := if_neg hc
      have e2 : G.leE a.c = 210 := if_neg hc
      rw [e1, e2] at A1
      obtain ⟨n, hgn⟩ : ∃ n, n = G.n := ⟨_, rfl⟩
      rw [← hgn] at d0 hc
      clear hgn e1 e2 HB x0 x2 x3 x4
      by_cases h0 : a.c < 0
      · clear hc
        go_wp2_with fail
        refine (unhide A1).mono ?_
        rintro _ w2 ⟨rfl, rfl⟩
        go_wp2
        go_quiet (fail)
        go_wp2
        go_ret
        exact ⟨rfl, unhide HE _ (Kp.drewQ _ _)⟩
      · have h1 : a.c ≥ (n : Int) := by omega
        clear hc
        go_wp2_with fail
        refine (unhide A1).mono ?_
        rintro _ w2 ⟨rfl, rfl⟩
        go_wp2
        go_quiet (fail)
        go_wp2
        go_ret
        exact ⟨rfl, unhide HE _ (Kp.drewQ _ _)⟩
end Go.Proofs.Ytcgmoadahdkbbaa
