/-
  The document's link: a packet is taken.
-/
import Derived.Test.YtiomngpfolkgpaaL19
import Derived.Test.YtiomngpfolkgpaaL21
import Derived.Test.YtiomngpfolkgpaaL18
import Derived.Test.YtiomngpfolkgpaaL10
import Derived.Test.YtiomngpfolkgpaaL22
import Derived.Deep.RegionHeld3
import Derived.Deep.DeepCutAuto
namespace Go.Proofs.Ytiomngpfolkgpaa
open Go.RowKit Lk

theorem par_item4 {B : Nat} {W : World} {v : Value} {x y z d : It} (h : OwnsI B W v [x, y, z, d]) : ∃ bb cp, v = .slice (some ⟨bb, 0, none⟩) 4 cp ∧ 4 ≤ cp ∧ W.cell? ⟨bb, 9, none⟩ = some (.bool d.t) ∧ W.cell? ⟨bb, 11, none⟩ = some (.string d.s) := by
  obtain ⟨_, ⟨_, h0⟩ | ⟨g, cp, cur, rfl, _, _, hn, _⟩⟩ := id h
  · simp at h0
  · have k := World.ownsRow.cells h (g := g) rfl
    have e : itemC [x, y, z, d] = [.bool x.t, .int .i64 x.n, .string x.s, .bool y.t, .int .i64 y.n, .string y.s, .bool z.t, .int .i64 z.n, .string z.s, .bool d.t, .int .i64 d.n, .string d.s] := rfl
    rw [e] at k
    have f : ∀ j u, ([.bool x.t, .int .i64 x.n, .string x.s, .bool y.t, .int .i64 y.n, .string y.s, .bool z.t, .int .i64 z.n, .string z.s, .bool d.t, .int .i64 d.n, .string d.s] : List Value)[j]? = some u → W.cell? ⟨g, j, none⟩ = some u := fun j u hj => by
      have := k j u hj
      rwa [Go.WideShapes.add_plain, Nat.zero_add] at this
    exact ⟨g, cp, rfl, by simpa using hn, f 9 _ rfl, f 11 _ rfl⟩
theorem kpT {a b c : World} (h : Kp [] a b) (k : Kp [] b c) : Kp [] a c := h.trans k (by simp)
/-- The length of a slice. -/
def slN : Value → Nat
  | .slice _ n _ => n
  | _ => 0
set_option maxHeartbeats 8000000 in
set_option maxRecDepth 100000 in
theorem rTake_any (B b : Nat) (r : Rcv) (p : ByteArray) (w : World) (h : RrAt B w b r) (hok : ROk r) (hp : p.size ≤ 262144) (_hBw : B ≤ w.heap.size) :
    Calls Try.prog 18 #[.pointer (some ⟨b, 0, none⟩), .string p] w fun e w' => ∃ v, e = .returned (.tuple #[v, .string (ltA r p), .int .i64 (ltE r p)]) ∧ TxO w.heap.size w' v (ltO r p) ∧ RrAt B w' b (ltR r p) ∧ Ko rrO B w w' := by
  have HSAME := hide (fun w' hk => rr_same (w' := w') h hk)
  by_cases hprs : prs p 4 0 1073741824
  · obtain ⟨hc, hl, x, y, z, r', he, hh⟩ := hprs
    obtain ⟨d, rfl⟩ : ∃ d, r' = [d] := by
      rw [he] at hl
      match r', hl with
      | [d], _ => exact ⟨d, rfl⟩
    have hD := lrD_is hc he hh
    have PA := hide (rparse_ok p 4 0 1073741824 w hp (by decide) x y z [d] hc hl he hh)
    obtain ⟨_, _, _, y0, y1, _, z0, z1⟩ := hh
    clear hc hl he
    cases hdt : d.t with
    | false =>
      rw [hdt, if_neg (by simp)] at hD
      obtain ⟨e1, e2, e3, e4⟩ := ltE_none (r := r) hD
      rw [e1, e2, e3, e4]
      clear e1 e2 e3 e4 h hok hD y0 y1 z0 z1
      go_enter Try.func18, Try.ntmps18
      go_wp2_with fail
      refine (unhide PA).mono ?_
      rintro e w1 ⟨⟨v1, rfl, hv1⟩, k1⟩
      obtain ⟨bb, cp1, rfl, hcp1, x9, x11⟩ := par_item4 hv1
      have K1 := hide (Kp.ofBelow k1)
      clear PA k1 hv1
      rw [hdt] at x9
      clear hdt
      go_wp2
      go_ret3
      exact ⟨_, rfl, TxO.nil _ _, unhide HSAME _ (unhide K1)⟩
    | true =>
      by_cases hds : d.s.size ≤ 60000
      · rw [if_pos ⟨hdt, hds⟩] at hD
        have hdsi : ¬ (60000 : Int) < (d.s.size : Int) := by omega
        obtain ⟨N, hN⟩ : ∃ N : Nat, z.n = (N : Int) := ⟨z.n.toNat, by omega⟩
        have hNl : N ≤ 1073741824 := by omega
        rw [hN] at hD PA
        clear z0 z1 hN
        by_cases hep : y.n = r.ep
        · rw [hep] at hD PA
          obtain ⟨e1, e2, e3, e4⟩ := ltE_ok hD
          rw [Int.toNat_natCast] at e2 e3 e4
          rw [e1, e2, e3, e4]
          clear e1 e2 e3 e4 hD hep y0 y1
          obtain ⟨v0, hv0, hB, hbv⟩ := h
          have CE : Hid (∀ W, Kp [] w W → W.cell? ⟨b, 0, none⟩ = some (.int .i64 r.ep) ∧ W.cell? ⟨b, 1, none⟩ = some (.int .i64 (r.wd : Int)) ∧ W.cell? ⟨b, 2, none⟩ = some (.int .i64 (r.next : Int))) := hide (fun W hk => ⟨(hv0.kp hk).box.cell rfl, (hv0.kp hk).box.cell rfl, (hv0.kp hk).box.cell rfl⟩)
          have hw1 := hok.w1
          have hn1 := hok.n1
          have hfew := hok.few
          obtain ⟨J, hJ⟩ : ∃ J : Int, J = (r.next : Int) + (r.wd : Int) := ⟨_, rfl⟩
          have HV0 := hide hv0
          have HOK := hide hok
          obtain ⟨r1, hr1d⟩ : ∃ r1, r1 = lkR r N d.s := ⟨_, rfl⟩
          have HOK1 := hide (hok.lkR N d.s hNl hds)
          rw [← hr1d] at HOK1 ⊢
          have HEP1 := hide (show r1.ep = r.ep by rw [hr1d]; exact lkR_ep r N d.s)
          have HR1 := hide hr1d.symm
          clear hr1d
          obtain ⟨LR, hLR⟩ : ∃ LR, LR = lgR r1 := ⟨_, rfl⟩
          obtain ⟨LO, hLO⟩ : ∃ LO, LO = lgO r1 := ⟨_, rfl⟩
          rw [← hLR, ← hLO]
          obtain ⟨AK, hAK⟩ : ∃ AK, AK = ackB r.ep (LR.next : Int) := ⟨_, rfl⟩
          rw [← hAK]
          have HLR := hide hLR
          have HLO := hide hLO
          have HAK := hide hAK
          clear hLR hLO hAK
          have HBV := hide hbv
          clear hok hbv HSAME
          go_enter Try.func18, Try.ntmps18
          go_wp2_with fail
          refine (unhide PA).mono ?_
          rintro e w1 ⟨⟨v1, rfl, hv1⟩, k1⟩
          obtain ⟨bb, cp1, rfl, hcp1, x9, x11⟩ := par_item4 hv1
          have K1 := hide (Kp.ofBelow k1)
          clear PA k1 hv1
          rw [hdt] at x9
          clear hdt
          obtain ⟨c0, c1, c2⟩ := unhide CE w1 (unhide K1)
          have HD1 := hide ((unhide HV0).kp (unhide K1))
          have X11 : Hid (∀ W, Kp [] w1 W → W.cell? ⟨bb, 11, none⟩ = some (.string d.s)) := hide (fun W hk => hk.cell x11 (by simp))
          go_upto_region 6 with fail
          clear x9 c0 x11
          by_cases g1 : (r.next : Int) ≤ (N : Int)
          · have q1 : decide ((r.next : Int) ≤ (N : Int)) = true := decide_eq_true g1
            have q1n : decide (r.next ≤ N) = true := decide_eq_true (by omega)
            by_cases g2 : (N : Int) < J
            · have q2 : decide ((N : Int) < (r.next : Int) + (r.wd : Int)) = true := decide_eq_true (by omega)
              cases g3 : erl r.early N with
              | none =>
                have FD := hide (fun n => rfind_none b v0 r N (w1.drewN n) ((unhide HD1).kp (Kp.drewQ _ _)) g3 (by omega))
                have hr1 : lkR r N d.s = ⟨r.ep, r.wd, r.next, r.early ++ [(N, d.s)]⟩ := by unfold lkR; rw [if_pos ⟨by omega, by omega, g3⟩]
                go_quiet (first | (go_at_call 34; exact Calls.quiet_of_same (unhide FD _)))
                clear FD g3 q1 q1n q2 c1 c2
                have W0D := hide (Kp.drewQ w1 nq)
                obtain ⟨W0, hW0⟩ : ∃ W0, W0 = w1.drewN nq := ⟨_, rfl⟩
                rw [← hW0] at W0D ⊢
                clear hW0
                obtain ⟨V, hV⟩ : ∃ V, V = W0.drew := ⟨_, rfl⟩
                have kV : Kp [] w1 V := by rw [hV]; exact (unhide W0D).trans (Kp.drew _) (by simp)
                obtain ⟨ad, cap, rfl⟩ := (unhide HD1).row.slice
                obtain ⟨i0, hi0, hz0, hz1, hz2⟩ := info_parts info_er
                have HS : Hid (∀ W, Kp [] V W → W.cell? ⟨b, 3, none⟩ = some (.slice ad r.early.length cap) ∧ W.cell? ⟨bb, 11, none⟩ = some (.string d.s)) := hide (fun W hk => ⟨((unhide HD1).kp (kV.trans hk (by simp))).box.cell rfl, unhide X11 W (kV.trans hk (by simp))⟩)
                have FZ : Hid (∀ W, Kp [] V W → W.frozen? ⟨b, 3, none⟩ = false) := hide (fun W hk => ((unhide HD1).kp (kV.trans hk (by simp))).box.froz 3)
                have LEN : Hid ((erC r.early).length = r.early.length * 2) := hide (erC_len _)
                have ONE : Hid (∀ u ∈ erC r.early, u.oneCell' = true) := hide (erC_cell _)
                have SRN : Hid (ad = none → r.early.length = 0 ∧ cap = 0) := hide (fun e => by
                  rcases (unhide HD1).row.form with ⟨e1, e2⟩ | ⟨g', c', e1, _⟩
                  · injection e1 with _ _ e3; exact ⟨by rw [e2]; rfl, e3⟩
                  · injection e1 with e2; rw [e] at e2; cases e2)
                have SRS : Hid (∀ a, ad = some a → a.spot = none) := hide (fun a e => by
                  rcases (unhide HD1).row.form with ⟨e1, _⟩ | ⟨g', c', e1, _⟩
                  · injection e1 with e2; rw [e] at e2; cases e2
                  · injection e1 with e2; rw [e] at e2; injection e2 with e2; rw [e2])
                have SRC : Hid (∀ W, Kp [] V W → ∀ a, ad = some a → ∀ j u, (erC r.early)[j]? = some u → W.cell? (a.add j) = some u) := hide (fun W hk a e j u hj => by
                  have hrW := ((unhide HD1).kp (kV.trans hk (by simp))).row
                  subst e
                  rcases hrW.form with ⟨e1, _⟩ | ⟨g', c', e1, _⟩
                  · injection e1 with e2; cases e2
                  · injection e1 with e2
                    injection e2 with e2
                    subst e2
                    exact World.ownsRow.cells hrW (g := g') rfl j u hj)
                have FIN : Hid (∀ W, Kp [] V W → ∀ g6 cap6, W.ownsRow 0 87 2 (.slice (some ⟨g6, 0, none⟩) (r.early.length + 1) cap6) (r.early.length + 1) ([] ++ erC r.early ++ [.int .i64 (N : Int), .string d.s]) → V.heap.size ≤ g6 → TkG w B b r1 r1 [] (.slice none 0 0) (W.setCell ⟨b, 3, none⟩ (.slice (some ⟨g6, 0, none⟩) (r.early.length + 1) cap6))) := hide (fun W hk g6 cap6 ho hg6 => by
                  have hvW := (unhide HD1).kp (kV.trans hk (by simp))
                  have kS := Kp.set W b 3 (.slice (some ⟨g6, 0, none⟩) (r.early.length + 1) cap6)
                  have hbl : b < V.heap.size := (Array.getElem?_eq_some_iff.1 ((unhide HD1).kp kV).box).1
                  have hw1s := (unhide K1).size
                  have hVs := kV.size
                  refine ⟨⟨.slice (some ⟨g6, 0, none⟩) (r.early.length + 1) cap6, ⟨?_, ?_⟩, fun k hk1 => ?_⟩, TxO.nil _ _, (((unhide K1).trans kV (by simp)).trans hk (by simp)).mono (G := [b]) (by simp) |>.trans kS (by simp), unhide HOK1, rfl, rfl, rfl, by simp⟩
                  · have := hvW.box.set 3 (.slice (some ⟨g6, 0, none⟩) (r.early.length + 1) cap6)
                    rw [← unhide HR1, hr1]
                    exact this
                  · rw [← unhide HR1, hr1]
                    have hrow : ErRow W (.slice (some ⟨g6, 0, none⟩) (r.early.length + 1) cap6) (r.early ++ [(N, d.s)]) := by
                      unfold ErRow
                      rw [List.length_append, erC_append, erC_one]
                      exact ho
                    refine hrow.kp kS (fun k hk1 => ?_)
                    simp [Value.ownBlock] at hk1
                    subst hk1
                    simp
                    omega
                  · simp [Value.ownBlock] at hk1
                    subst hk1
                    omega)
                have kE : Kp [] V (V.alloc (.cells #[] 87)) := Kp.alloc _ _
                have kM : Kp [] V (V.alloc (.cells #[.int .i64 (N : Int), .string d.s] 87)) := Kp.alloc _ _
                have kE2 : Kp [] V ((V.alloc (.cells #[] 87)).alloc (.cells #[.int .i64 (N : Int), .string d.s] 87)) := kpT (Kp.alloc _ _) (Kp.alloc _ _)
                have kE3 : Kp [] V ((V.alloc (.cells #[.int .i64 (N : Int), .string d.s] 87)).alloc (.cells #[] 87)) := kpT (Kp.alloc _ _) (Kp.alloc _ _)
                have OE1 : Hid ((V.alloc (.cells #[] 87)).ownsRow 0 87 2 (.slice (some ⟨V.heap.size, 0, none⟩) 0 0) 0 []) := hide (ErRow.emp V)
                have OE2 : Hid (((V.alloc (.cells #[] 87)).alloc (.cells #[.int .i64 (N : Int), .string d.s] 87)).ownsRow 0 87 2 (.slice (some ⟨V.heap.size, 0, none⟩) 0 0) 0 []) := hide (World.ownsRow.alloc (ErRow.emp V) _)
                have OE3 : Hid (((V.alloc (.cells #[.int .i64 (N : Int), .string d.s] 87)).alloc (.cells #[] 87)).ownsRow 0 87 2 (.slice (some ⟨V.heap.size + 1, 0, none⟩) 0 0) 0 []) := hide (by
                  have h := ErRow.emp (V.alloc (.cells #[.int .i64 (N : Int), .string d.s] 87))
                  rw [World.size_alloc] at h
                  exact h)
                have ME2 : Hid (CBox (V.heap.size + 1) #[.int .i64 (N : Int), .string d.s] 87 ((V.alloc (.cells #[] 87)).alloc (.cells #[.int .i64 (N : Int), .string d.s] 87))) := hide (by
                  have h := CBox.new (V.alloc (.cells #[] 87)) #[.int .i64 (N : Int), .string d.s] 87
                  rw [World.size_alloc] at h
                  exact h)
                have ME3 : Hid (CBox V.heap.size #[.int .i64 (N : Int), .string d.s] 87 ((V.alloc (.cells #[.int .i64 (N : Int), .string d.s] 87)).alloc (.cells #[] 87))) := hide ((CBox.new V _ _).kp (Kp.alloc _ _) (by simp))
                have HV := hide hV
                clear hV kV W0D HD1 X11 HOK CE hr1
                generalize hXS : erC r.early = xs at *
                generalize hLL : r.early.length = L at *
                clear hXS hLL
                generalize hDS : d.s = pb at *
                go_upto_region 7 with fail
                go_cut [] (fun wc => Hid (TkG w B b r1 r1 [] (.slice none 0 0) wc))
                case first =>
                  refine wp_region_late (fun W => W.cell? ⟨b, 3, none⟩ = some (.slice ad L cap) ∧ W.cell? ⟨bb, 11, none⟩ = some (.string pb)) 17 (by kernel_rfl) ?_
                  rw [← unhide HV]
                  clear HV
                  show wpAnyL _ _ _ _ _ _ 18 (Array.replicate 18 false) _ _
                  refine wpAnyL_take3 (i := 0) (oi := { dst := some 68, op := Op.move (Operand.tmp 0), type := 35, pos := "ref.go:147", after := #[], guard := none }) (v := ?_) rfl (by kernel_rfl) (by kernel_rfl) (by kernel_rfl) (by kernel_rfl) (fun _ _ _ h => h) (Or.inl ⟨by rfl, ?_⟩) (unhide HS V (Kp.refl _ _)) ?_
                  rotate_left 1
                  · intro w0 hSw
                    (try dsimp only at hSw)
                    go_simp
                    (try with_reducible rfl)
                  try simp only [Act.put, List.setIfInBounds_toArray, List.set_cons_zero, List.set_cons_succ]
                  refine wpAnyL_take3 (i := 2) (oi := { dst := some 70, op := Op.move (Operand.tmp 0), type := 35, pos := "ref.go:147", after := #[], guard := none }) (v := ?_) rfl (by kernel_rfl) (by kernel_rfl) (by kernel_rfl) (by kernel_rfl) (fun _ _ _ h => h) (Or.inl ⟨by rfl, ?_⟩) (unhide HS V (Kp.refl _ _)) ?_
                  rotate_left 1
                  · intro w0 hSw
                    (try dsimp only at hSw)
                    go_simp
                    (try with_reducible rfl)
                  try simp only [Act.put, List.setIfInBounds_toArray, List.set_cons_zero, List.set_cons_succ]
                  refine wpAnyL_take3 (i := 3) (oi := { dst := some 71, op := Op.nilCheck (Operand.tmp 70), type := 0, pos := "ref.go:147", after := #[{ on := 2, ground := Ground.data }], guard := none }) (v := ?_) rfl (by kernel_rfl) (by kernel_rfl) (by kernel_rfl) (by kernel_rfl) (fun _ _ _ h => h) (Or.inl ⟨by rfl, ?_⟩) (unhide HS V (Kp.refl _ _)) ?_
                  rotate_left 1
                  · intro w0 hSw
                    (try dsimp only at hSw)
                    go_simp
                    (try with_reducible rfl)
                  try simp only [Act.put, List.setIfInBounds_toArray, List.set_cons_zero, List.set_cons_succ]
                  refine wpAnyL_take3 (i := 4) (oi := { dst := some 72, op := Op.fieldAddr 55 (Operand.tmp 71) 3, type := 0, pos := "ref.go:147", after := #[{ on := 3, ground := Ground.data }], guard := none }) (v := ?_) rfl (by kernel_rfl) (by kernel_rfl) (by kernel_rfl) (by kernel_rfl) (fun _ _ _ h => h) (Or.inl ⟨by rfl, ?_⟩) (unhide HS V (Kp.refl _ _)) ?_
                  rotate_left 1
                  · intro w0 hSw
                    (try dsimp only at hSw)
                    go_simp
                    (try with_reducible rfl)
                  try simp only [Act.put, List.setIfInBounds_toArray, List.set_cons_zero, List.set_cons_succ]
                  refine wpAnyL_take3 (i := 5) (oi := { dst := some 73, op := Op.load 53 (Operand.tmp 72), type := 53, pos := "ref.go:147", after := #[{ on := 4, ground := Ground.data }], guard := none }) (v := ?_) rfl (by kernel_rfl) (by kernel_rfl) (by kernel_rfl) (by kernel_rfl) (fun _ _ _ h => h) (Or.inl ⟨by rfl, ?_⟩) (unhide HS V (Kp.refl _ _)) ?_
                  rotate_left 1
                  · intro w0 hSw
                    (try dsimp only at hSw)
                    go_simp
                    (try with_reducible rfl)
                  try simp only [Act.put, List.setIfInBounds_toArray, List.set_cons_zero, List.set_cons_succ]
                  refine wpAnyL_take3 (i := 7) (oi := { dst := some 75, op := Op.move (Operand.tmp 8), type := 3, pos := "ref.go:147", after := #[], guard := none }) (v := ?_) rfl (by kernel_rfl) (by kernel_rfl) (by kernel_rfl) (by kernel_rfl) (fun _ _ _ h => h) (Or.inl ⟨by rfl, ?_⟩) (unhide HS V (Kp.refl _ _)) ?_
                  rotate_left 1
                  · intro w0 hSw
                    (try dsimp only at hSw)
                    go_simp
                    (try with_reducible rfl)
                  try simp only [Act.put, List.setIfInBounds_toArray, List.set_cons_zero, List.set_cons_succ]
                  refine wpAnyL_take3 (i := 8) (oi := { dst := some 76, op := Op.move (Operand.tmp 9), type := 77, pos := "ref.go:147", after := #[], guard := none }) (v := ?_) rfl (by kernel_rfl) (by kernel_rfl) (by kernel_rfl) (by kernel_rfl) (fun _ _ _ h => h) (Or.inl ⟨by rfl, ?_⟩) (unhide HS V (Kp.refl _ _)) ?_
                  rotate_left 1
                  · intro w0 hSw
                    (try dsimp only at hSw)
                    go_simp
                    (try with_reducible rfl)
                  try simp only [Act.put, List.setIfInBounds_toArray, List.set_cons_zero, List.set_cons_succ]
                  refine wpAnyL_take3 (i := 9) (oi := { dst := some 77, op := Op.indexAddr 77 (Operand.tmp 76) (Operand.const (Value.int IntKind.i64 3)), type := 0, pos := "ref.go:147", after := #[{ on := 8, ground := Ground.data }], guard := none }) (v := ?_) rfl (by kernel_rfl) (by kernel_rfl) (by kernel_rfl) (by kernel_rfl) (fun _ _ _ h => h) (Or.inl ⟨by rfl, ?_⟩) (unhide HS V (Kp.refl _ _)) ?_
                  rotate_left 1
                  · intro w0 hSw
                    (try dsimp only at hSw)
                    go_simp
                    (try with_reducible rfl)
                  try simp only [Act.put, List.setIfInBounds_toArray, List.set_cons_zero, List.set_cons_succ]
                  refine wpAnyL_take3 (i := 10) (oi := { dst := some 78, op := Op.fieldAddr 84 (Operand.tmp 77) 2, type := 0, pos := "ref.go:147", after := #[{ on := 9, ground := Ground.data }], guard := none }) (v := ?_) rfl (by kernel_rfl) (by kernel_rfl) (by kernel_rfl) (by kernel_rfl) (fun _ _ _ h => h) (Or.inl ⟨by rfl, ?_⟩) (unhide HS V (Kp.refl _ _)) ?_
                  rotate_left 1
                  · intro w0 hSw
                    (try dsimp only at hSw)
                    go_simp
                    (try with_reducible rfl)
                  try simp only [Act.put, List.setIfInBounds_toArray, List.set_cons_zero, List.set_cons_succ]
                  refine wpAnyL_take3 (i := 11) (oi := { dst := some 79, op := Op.load 9 (Operand.tmp 78), type := 9, pos := "ref.go:147", after := #[{ on := 10, ground := Ground.data }], guard := none }) (v := ?_) rfl (by kernel_rfl) (by kernel_rfl) (by kernel_rfl) (by kernel_rfl) (fun _ _ _ h => h) (Or.inl ⟨by rfl, ?_⟩) (unhide HS V (Kp.refl _ _)) ?_
                  rotate_left 1
                  · intro w0 hSw
                    (try dsimp only at hSw)
                    go_simp
                    (try with_reducible rfl)
                  try simp only [Act.put, List.setIfInBounds_toArray, List.set_cons_zero, List.set_cons_succ]
                  refine wpAnyL_take3 (i := 12) (oi := { dst := some 80, op := Op.build 87 #[(0, Operand.tmp 75), (1, Operand.tmp 79)], type := 87, pos := "ref.go:147", after := #[{ on := 7, ground := Ground.data }, { on := 11, ground := Ground.data }], guard := none }) (v := ?_) rfl (by kernel_rfl) (by kernel_rfl) (by kernel_rfl) (by kernel_rfl) (fun _ _ _ h => h) (Or.inl ⟨by rfl, ?_⟩) (unhide HS V (Kp.refl _ _)) ?_
                  rotate_left 1
                  · intro w0 hSw
                    (try dsimp only at hSw)
                    go_simp
                    (try with_reducible rfl)
                  try simp only [Act.put, List.setIfInBounds_toArray, List.set_cons_zero, List.set_cons_succ]
                  refine wpAnyL_two (i := 1) (j := 13) (o := { dst := some 69, op := Op.buildSlice 53 0 #[], type := 53, pos := "ref.go:147", after := #[], guard := none }) (o' := { dst := some 81, op := Op.buildSlice 53 1 #[(0, Operand.tmp 80)], type := 53, pos := "ref.go:147", after := #[{ on := 12, ground := Ground.data }], guard := none }) rfl rfl (by kernel_rfl) (fun K hK => ?_) (fun K hK => ?_)
                  · go_simp
                    refine hK _ _ (Or.inr (unhide HS _ kE)) ?_
                    clear hK K
                    try simp only [Act.put, List.setIfInBounds_toArray, List.set_cons_zero, List.set_cons_succ]
                    refine wpAnyL_two (i := 6) (j := 13) (o := { dst := some 74, op := Op.call { callee := Callee.builtin Builtin.append, args := #[Operand.tmp 69, Operand.tmp 73], argTypes := #[53, 53] }, type := 53, pos := "ref.go:147", after := #[{ on := 1, ground := Ground.data }, { on := 5, ground := Ground.data }], guard := none }) (o' := { dst := some 81, op := Op.buildSlice 53 1 #[(0, Operand.tmp 80)], type := 53, pos := "ref.go:147", after := #[{ on := 12, ground := Ground.data }], guard := none }) rfl rfl (by kernel_rfl) (fun K hK => ?_) (fun K hK => ?_)
                    · refine step_app_any rfl (.tmp 69) (.tmp 73) 53 rfl 87 i0 (.agg #[.int .i64 0, .string ⟨#[]⟩]) 2 24 Try.underlying53 hi0 hz0 hz1 hz2 rfl (by decide) rfl (unhide OE1) ad L cap xs rfl (unhide LEN) (unhide SRN) (unhide SRS) (unhide SRC _ kE) (unhide ONE) (by unfold maxLen; omega) (by omega) L (Nat.zero_add _) ?_
                      intro g5 cap5 w5 own5 gr5 at5
                      have hg5 : V.heap.size ≤ g5 := by rcases at5 with rfl | rfl <;> (try simp) <;> omega
                      have k5 : Kp [] V w5 := kp_gr kE gr5 (by omega)
                      refine hK _ _ (Or.inr (unhide HS _ k5)) ?_
                      clear hK K
                      try simp only [Act.put, List.setIfInBounds_toArray, List.set_cons_zero, List.set_cons_succ]
                      refine wpAnyL_one (i := 13) (o := { dst := some 81, op := Op.buildSlice 53 1 #[(0, Operand.tmp 80)], type := 53, pos := "ref.go:147", after := #[{ on := 12, ground := Ground.data }], guard := none }) rfl (by kernel_rfl) (fun K hK => ?_)
                      go_simp
                      refine hK _ _ (Or.inr (unhide HS _ (kpT k5 (Kp.alloc _ _)))) ?_
                      clear hK K
                      try simp only [Act.put, List.setIfInBounds_toArray, List.set_cons_zero, List.set_cons_succ]
                      refine wpAnyL_one (i := 14) (o := { dst := some 82, op := Op.call { callee := Callee.builtin Builtin.append, args := #[Operand.tmp 74, Operand.tmp 81], argTypes := #[53, 53] }, type := 53, pos := "ref.go:147", after := #[{ on := 6, ground := Ground.data }, { on := 13, ground := Ground.data }, { on := 6, ground := Ground.chain }], guard := none }) rfl (by kernel_rfl) (fun K hK => ?_)
                      refine step_app_any rfl (.tmp 74) (.tmp 81) 53 rfl 87 i0 (.agg #[.int .i64 0, .string ⟨#[]⟩]) 2 24 Try.underlying53 hi0 hz0 hz1 hz2 rfl (by decide) rfl (World.ownsRow.alloc own5 _) (some ⟨w5.heap.size, 0, none⟩) 1 1 [.int .i64 (N : Int), .string pb] rfl rfl (fun h => by cases h) (fun a ha => by injection ha with ha; subst ha; rfl) (fun a ha j u hj => by injection ha with ha; subst ha; rw [Go.WideShapes.add_plain, Nat.zero_add]; exact (CBox.new w5 #[.int .i64 (N : Int), .string pb] _).cell (by simpa using hj)) (fun u hu => by simp at hu; rcases hu with rfl | rfl <;> rfl) (by unfold maxLen; omega) (by omega) (L + 1) rfl ?_
                      intro g6 cap6 w6 own6 gr6 at6
                      have k6 : Kp [] V w6 := kp_gr (kpT k5 (Kp.alloc w5 (.cells #[.int .i64 (N : Int), .string pb] 87))) gr6 hg5
                      have hks := ((kpT k5 (Kp.alloc w5 (.cells #[.int .i64 (N : Int), .string pb] 87)))).size
                      have hg6 : V.heap.size ≤ g6 := by rcases at6 with h6 | h6 <;> (first | omega | (rw [h6]; exact hks))
                      have FN := hide (unhide FIN w6 k6 g6 cap6 own6 hg6)
                      have s6 := unhide HS w6 k6
                      have f6 := unhide FZ w6 k6
                      refine hK _ _ (Or.inr s6) ?_
                      clear hK K
                      try simp only [Act.put, List.setIfInBounds_toArray, List.set_cons_zero, List.set_cons_succ]
                      refine wpAnyL_one (i := 15) (o := { dst := some 83, op := Op.nilCheck (Operand.tmp 68), type := 0, pos := "ref.go:147", after := #[{ on := 0, ground := Ground.data }, { on := 0, ground := Ground.phase }, { on := 1, ground := Ground.phase }, { on := 2, ground := Ground.phase }, { on := 3, ground := Ground.phase }, { on := 4, ground := Ground.phase }, { on := 5, ground := Ground.phase }, { on := 6, ground := Ground.phase }, { on := 7, ground := Ground.phase }, { on := 8, ground := Ground.phase }, { on := 9, ground := Ground.phase }, { on := 10, ground := Ground.phase }, { on := 11, ground := Ground.phase }, { on := 12, ground := Ground.phase }, { on := 13, ground := Ground.phase }, { on := 14, ground := Ground.phase }], guard := none }) rfl (by kernel_rfl) (fun K hK => ?_)
                      go_simp
                      refine hK _ _ (Or.inr s6) ?_
                      clear hK K
                      try simp only [Act.put, List.setIfInBounds_toArray, List.set_cons_zero, List.set_cons_succ]
                      refine wpAnyL_one (i := 16) (o := { dst := some 84, op := Op.fieldAddr 55 (Operand.tmp 83) 3, type := 0, pos := "ref.go:147", after := #[{ on := 15, ground := Ground.data }, { on := 0, ground := Ground.phase }, { on := 1, ground := Ground.phase }, { on := 2, ground := Ground.phase }, { on := 3, ground := Ground.phase }, { on := 4, ground := Ground.phase }, { on := 5, ground := Ground.phase }, { on := 6, ground := Ground.phase }, { on := 7, ground := Ground.phase }, { on := 8, ground := Ground.phase }, { on := 9, ground := Ground.phase }, { on := 10, ground := Ground.phase }, { on := 11, ground := Ground.phase }, { on := 12, ground := Ground.phase }, { on := 13, ground := Ground.phase }, { on := 14, ground := Ground.phase }], guard := none }) rfl (by kernel_rfl) (fun K hK => ?_)
                      go_simp
                      refine hK _ _ (Or.inr s6) ?_
                      clear hK K
                      try simp only [Act.put, List.setIfInBounds_toArray, List.set_cons_zero, List.set_cons_succ]
                      refine wpAnyL_one (i := 17) (o := { dst := none, op := Op.store 53 (Operand.tmp 84) (Operand.tmp 82), type := 0, pos := "ref.go:147", after := #[{ on := 16, ground := Ground.data }, { on := 14, ground := Ground.data }, { on := 14, ground := Ground.chain }, { on := 0, ground := Ground.phase }, { on := 1, ground := Ground.phase }, { on := 2, ground := Ground.phase }, { on := 3, ground := Ground.phase }, { on := 4, ground := Ground.phase }, { on := 5, ground := Ground.phase }, { on := 6, ground := Ground.phase }, { on := 7, ground := Ground.phase }, { on := 8, ground := Ground.phase }, { on := 9, ground := Ground.phase }, { on := 10, ground := Ground.phase }, { on := 11, ground := Ground.phase }, { on := 12, ground := Ground.phase }, { on := 13, ground := Ground.phase }, { on := 14, ground := Ground.phase }], guard := none }) rfl (by kernel_rfl) (fun K hK => ?_)
                      go_simp
                      refine hK _ _ (Or.inl rfl) ?_
                      clear hK K
                      try simp only [Act.put, List.setIfInBounds_toArray, List.set_cons_zero, List.set_cons_succ]
                      refine wpAnyL_done (by kernel_rfl) ?_ _
                      go_wp2
                      go_meet
                      exact FN
                    · go_simp
                      refine hK _ _ (Or.inr (unhide HS _ kE2)) ?_
                      clear hK K
                      try simp only [Act.put, List.setIfInBounds_toArray, List.set_cons_zero, List.set_cons_succ]
                      refine wpAnyL_one (i := 6) (o := { dst := some 74, op := Op.call { callee := Callee.builtin Builtin.append, args := #[Operand.tmp 69, Operand.tmp 73], argTypes := #[53, 53] }, type := 53, pos := "ref.go:147", after := #[{ on := 1, ground := Ground.data }, { on := 5, ground := Ground.data }], guard := none }) rfl (by kernel_rfl) (fun K hK => ?_)
                      refine step_app_any rfl (.tmp 69) (.tmp 73) 53 rfl 87 i0 (.agg #[.int .i64 0, .string ⟨#[]⟩]) 2 24 Try.underlying53 hi0 hz0 hz1 hz2 rfl (by decide) rfl (unhide OE2) ad L cap xs rfl (unhide LEN) (unhide SRN) (unhide SRS) (unhide SRC _ kE2) (unhide ONE) (by unfold maxLen; omega) (by omega) L (Nat.zero_add _) ?_
                      intro g5 cap5 w5 own5 gr5 at5
                      have hg5 : V.heap.size ≤ g5 := by rcases at5 with rfl | rfl <;> (try simp) <;> omega
                      have k5 : Kp [] V w5 := kp_gr kE2 gr5 (by omega)
                      have m5 := (unhide ME2).kp (Kp.of gr5) (by simp <;> omega)
                      refine hK _ _ (Or.inr (unhide HS _ k5)) ?_
                      clear hK K
                      try simp only [Act.put, List.setIfInBounds_toArray, List.set_cons_zero, List.set_cons_succ]
                      refine wpAnyL_one (i := 14) (o := { dst := some 82, op := Op.call { callee := Callee.builtin Builtin.append, args := #[Operand.tmp 74, Operand.tmp 81], argTypes := #[53, 53] }, type := 53, pos := "ref.go:147", after := #[{ on := 6, ground := Ground.data }, { on := 13, ground := Ground.data }, { on := 6, ground := Ground.chain }], guard := none }) rfl (by kernel_rfl) (fun K hK => ?_)
                      refine step_app_any rfl (.tmp 74) (.tmp 81) 53 rfl 87 i0 (.agg #[.int .i64 0, .string ⟨#[]⟩]) 2 24 Try.underlying53 hi0 hz0 hz1 hz2 rfl (by decide) rfl own5 (some ⟨V.heap.size + 1, 0, none⟩) 1 1 [.int .i64 (N : Int), .string pb] rfl rfl (fun h => by cases h) (fun a ha => by injection ha with ha; subst ha; rfl) (fun a ha j u hj => by injection ha with ha; subst ha; rw [Go.WideShapes.add_plain, Nat.zero_add]; exact m5.cell (by simpa using hj)) (fun u hu => by simp at hu; rcases hu with rfl | rfl <;> rfl) (by unfold maxLen; omega) (by omega) (L + 1) rfl ?_
                      intro g6 cap6 w6 own6 gr6 at6
                      have k6 : Kp [] V w6 := kp_gr k5 gr6 hg5
                      have hks := (k5).size
                      have hg6 : V.heap.size ≤ g6 := by rcases at6 with h6 | h6 <;> (first | omega | (rw [h6]; exact hks))
                      have FN := hide (unhide FIN w6 k6 g6 cap6 own6 hg6)
                      have s6 := unhide HS w6 k6
                      have f6 := unhide FZ w6 k6
                      refine hK _ _ (Or.inr s6) ?_
                      clear hK K
                      try simp only [Act.put, List.setIfInBounds_toArray, List.set_cons_zero, List.set_cons_succ]
                      refine wpAnyL_one (i := 15) (o := { dst := some 83, op := Op.nilCheck (Operand.tmp 68), type := 0, pos := "ref.go:147", after := #[{ on := 0, ground := Ground.data }, { on := 0, ground := Ground.phase }, { on := 1, ground := Ground.phase }, { on := 2, ground := Ground.phase }, { on := 3, ground := Ground.phase }, { on := 4, ground := Ground.phase }, { on := 5, ground := Ground.phase }, { on := 6, ground := Ground.phase }, { on := 7, ground := Ground.phase }, { on := 8, ground := Ground.phase }, { on := 9, ground := Ground.phase }, { on := 10, ground := Ground.phase }, { on := 11, ground := Ground.phase }, { on := 12, ground := Ground.phase }, { on := 13, ground := Ground.phase }, { on := 14, ground := Ground.phase }], guard := none }) rfl (by kernel_rfl) (fun K hK => ?_)
                      go_simp
                      refine hK _ _ (Or.inr s6) ?_
                      clear hK K
                      try simp only [Act.put, List.setIfInBounds_toArray, List.set_cons_zero, List.set_cons_succ]
                      refine wpAnyL_one (i := 16) (o := { dst := some 84, op := Op.fieldAddr 55 (Operand.tmp 83) 3, type := 0, pos := "ref.go:147", after := #[{ on := 15, ground := Ground.data }, { on := 0, ground := Ground.phase }, { on := 1, ground := Ground.phase }, { on := 2, ground := Ground.phase }, { on := 3, ground := Ground.phase }, { on := 4, ground := Ground.phase }, { on := 5, ground := Ground.phase }, { on := 6, ground := Ground.phase }, { on := 7, ground := Ground.phase }, { on := 8, ground := Ground.phase }, { on := 9, ground := Ground.phase }, { on := 10, ground := Ground.phase }, { on := 11, ground := Ground.phase }, { on := 12, ground := Ground.phase }, { on := 13, ground := Ground.phase }, { on := 14, ground := Ground.phase }], guard := none }) rfl (by kernel_rfl) (fun K hK => ?_)
                      go_simp
                      refine hK _ _ (Or.inr s6) ?_
                      clear hK K
                      try simp only [Act.put, List.setIfInBounds_toArray, List.set_cons_zero, List.set_cons_succ]
                      refine wpAnyL_one (i := 17) (o := { dst := none, op := Op.store 53 (Operand.tmp 84) (Operand.tmp 82), type := 0, pos := "ref.go:147", after := #[{ on := 16, ground := Ground.data }, { on := 14, ground := Ground.data }, { on := 14, ground := Ground.chain }, { on := 0, ground := Ground.phase }, { on := 1, ground := Ground.phase }, { on := 2, ground := Ground.phase }, { on := 3, ground := Ground.phase }, { on := 4, ground := Ground.phase }, { on := 5, ground := Ground.phase }, { on := 6, ground := Ground.phase }, { on := 7, ground := Ground.phase }, { on := 8, ground := Ground.phase }, { on := 9, ground := Ground.phase }, { on := 10, ground := Ground.phase }, { on := 11, ground := Ground.phase }, { on := 12, ground := Ground.phase }, { on := 13, ground := Ground.phase }, { on := 14, ground := Ground.phase }], guard := none }) rfl (by kernel_rfl) (fun K hK => ?_)
                      go_simp
                      refine hK _ _ (Or.inl rfl) ?_
                      clear hK K
                      try simp only [Act.put, List.setIfInBounds_toArray, List.set_cons_zero, List.set_cons_succ]
                      refine wpAnyL_done (by kernel_rfl) ?_ _
                      go_wp2
                      go_meet
                      exact FN
                  · go_simp
                    refine hK _ _ (Or.inr (unhide HS _ kM)) ?_
                    clear hK K
                    try simp only [Act.put, List.setIfInBounds_toArray, List.set_cons_zero, List.set_cons_succ]
                    refine wpAnyL_one (i := 1) (o := { dst := some 69, op := Op.buildSlice 53 0 #[], type := 53, pos := "ref.go:147", after := #[], guard := none }) rfl (by kernel_rfl) (fun K hK => ?_)
                    go_simp
                    refine hK _ _ (Or.inr (unhide HS _ kE3)) ?_
                    clear hK K
                    try simp only [Act.put, List.setIfInBounds_toArray, List.set_cons_zero, List.set_cons_succ]
                    refine wpAnyL_one (i := 6) (o := { dst := some 74, op := Op.call { callee := Callee.builtin Builtin.append, args := #[Operand.tmp 69, Operand.tmp 73], argTypes := #[53, 53] }, type := 53, pos := "ref.go:147", after := #[{ on := 1, ground := Ground.data }, { on := 5, ground := Ground.data }], guard := none }) rfl (by kernel_rfl) (fun K hK => ?_)
                    refine step_app_any rfl (.tmp 69) (.tmp 73) 53 rfl 87 i0 (.agg #[.int .i64 0, .string ⟨#[]⟩]) 2 24 Try.underlying53 hi0 hz0 hz1 hz2 rfl (by decide) rfl (unhide OE3) ad L cap xs rfl (unhide LEN) (unhide SRN) (unhide SRS) (unhide SRC _ kE3) (unhide ONE) (by unfold maxLen; omega) (by omega) L (Nat.zero_add _) ?_
                    intro g5 cap5 w5 own5 gr5 at5
                    have hg5 : V.heap.size ≤ g5 := by rcases at5 with rfl | rfl <;> (try simp) <;> omega
                    have k5 : Kp [] V w5 := kp_gr kE3 gr5 (by omega)
                    have m5 := (unhide ME3).kp (Kp.of gr5) (by simp <;> omega)
                    refine hK _ _ (Or.inr (unhide HS _ k5)) ?_
                    clear hK K
                    try simp only [Act.put, List.setIfInBounds_toArray, List.set_cons_zero, List.set_cons_succ]
                    refine wpAnyL_one (i := 14) (o := { dst := some 82, op := Op.call { callee := Callee.builtin Builtin.append, args := #[Operand.tmp 74, Operand.tmp 81], argTypes := #[53, 53] }, type := 53, pos := "ref.go:147", after := #[{ on := 6, ground := Ground.data }, { on := 13, ground := Ground.data }, { on := 6, ground := Ground.chain }], guard := none }) rfl (by kernel_rfl) (fun K hK => ?_)
                    refine step_app_any rfl (.tmp 74) (.tmp 81) 53 rfl 87 i0 (.agg #[.int .i64 0, .string ⟨#[]⟩]) 2 24 Try.underlying53 hi0 hz0 hz1 hz2 rfl (by decide) rfl own5 (some ⟨V.heap.size, 0, none⟩) 1 1 [.int .i64 (N : Int), .string pb] rfl rfl (fun h => by cases h) (fun a ha => by injection ha with ha; subst ha; rfl) (fun a ha j u hj => by injection ha with ha; subst ha; rw [Go.WideShapes.add_plain, Nat.zero_add]; exact m5.cell (by simpa using hj)) (fun u hu => by simp at hu; rcases hu with rfl | rfl <;> rfl) (by unfold maxLen; omega) (by omega) (L + 1) rfl ?_
                    intro g6 cap6 w6 own6 gr6 at6
                    have k6 : Kp [] V w6 := kp_gr k5 gr6 hg5
                    have hks := (k5).size
                    have hg6 : V.heap.size ≤ g6 := by rcases at6 with h6 | h6 <;> (first | omega | (rw [h6]; exact hks))
                    have FN := hide (unhide FIN w6 k6 g6 cap6 own6 hg6)
                    have s6 := unhide HS w6 k6
                    have f6 := unhide FZ w6 k6
                    refine hK _ _ (Or.inr s6) ?_
                    clear hK K
                    try simp only [Act.put, List.setIfInBounds_toArray, List.set_cons_zero, List.set_cons_succ]
                    refine wpAnyL_one (i := 15) (o := { dst := some 83, op := Op.nilCheck (Operand.tmp 68), type := 0, pos := "ref.go:147", after := #[{ on := 0, ground := Ground.data }, { on := 0, ground := Ground.phase }, { on := 1, ground := Ground.phase }, { on := 2, ground := Ground.phase }, { on := 3, ground := Ground.phase }, { on := 4, ground := Ground.phase }, { on := 5, ground := Ground.phase }, { on := 6, ground := Ground.phase }, { on := 7, ground := Ground.phase }, { on := 8, ground := Ground.phase }, { on := 9, ground := Ground.phase }, { on := 10, ground := Ground.phase }, { on := 11, ground := Ground.phase }, { on := 12, ground := Ground.phase }, { on := 13, ground := Ground.phase }, { on := 14, ground := Ground.phase }], guard := none }) rfl (by kernel_rfl) (fun K hK => ?_)
                    go_simp
                    refine hK _ _ (Or.inr s6) ?_
                    clear hK K
                    try simp only [Act.put, List.setIfInBounds_toArray, List.set_cons_zero, List.set_cons_succ]
                    refine wpAnyL_one (i := 16) (o := { dst := some 84, op := Op.fieldAddr 55 (Operand.tmp 83) 3, type := 0, pos := "ref.go:147", after := #[{ on := 15, ground := Ground.data }, { on := 0, ground := Ground.phase }, { on := 1, ground := Ground.phase }, { on := 2, ground := Ground.phase }, { on := 3, ground := Ground.phase }, { on := 4, ground := Ground.phase }, { on := 5, ground := Ground.phase }, { on := 6, ground := Ground.phase }, { on := 7, ground := Ground.phase }, { on := 8, ground := Ground.phase }, { on := 9, ground := Ground.phase }, { on := 10, ground := Ground.phase }, { on := 11, ground := Ground.phase }, { on := 12, ground := Ground.phase }, { on := 13, ground := Ground.phase }, { on := 14, ground := Ground.phase }], guard := none }) rfl (by kernel_rfl) (fun K hK => ?_)
                    go_simp
                    refine hK _ _ (Or.inr s6) ?_
                    clear hK K
                    try simp only [Act.put, List.setIfInBounds_toArray, List.set_cons_zero, List.set_cons_succ]
                    refine wpAnyL_one (i := 17) (o := { dst := none, op := Op.store 53 (Operand.tmp 84) (Operand.tmp 82), type := 0, pos := "ref.go:147", after := #[{ on := 16, ground := Ground.data }, { on := 14, ground := Ground.data }, { on := 14, ground := Ground.chain }, { on := 0, ground := Ground.phase }, { on := 1, ground := Ground.phase }, { on := 2, ground := Ground.phase }, { on := 3, ground := Ground.phase }, { on := 4, ground := Ground.phase }, { on := 5, ground := Ground.phase }, { on := 6, ground := Ground.phase }, { on := 7, ground := Ground.phase }, { on := 8, ground := Ground.phase }, { on := 9, ground := Ground.phase }, { on := 10, ground := Ground.phase }, { on := 11, ground := Ground.phase }, { on := 12, ground := Ground.phase }, { on := 13, ground := Ground.phase }, { on := 14, ground := Ground.phase }], guard := none }) rfl (by kernel_rfl) (fun K hK => ?_)
                    go_simp
                    refine hK _ _ (Or.inl rfl) ?_
                    clear hK K
                    try simp only [Act.put, List.setIfInBounds_toArray, List.set_cons_zero, List.set_cons_succ]
                    refine wpAnyL_done (by kernel_rfl) ?_ _
                    go_wp2
                    go_meet
                    exact FN
                case rest =>
                  have HT0 := hcut
                  clear hcut HS FZ LEN ONE SRN SRS SRC FIN kE kM kE2 kE3 OE1 OE2 OE3 ME2 ME3 HV
                  clear hDS
                  generalize wc = W1 at *
                  have HEND : Hid (∀ rc O ov W, TkG w B b r1 rc O ov W → erl rc.early rc.next = none → TxO w.heap.size W ov LO ∧ RrAt B W b LR ∧ Ko rrO B w W ∧ AK = ackB rc.ep (rc.next : Int) ∧ rc.ep = r.ep) := hide (fun rc O ov W ht hno => by
                    obtain ⟨e1, e2⟩ := lgR_stop hno
                    obtain ⟨v, h1, h2⟩ := ht.rr
                    have e3 := ht.lr
                    rw [e1, ← unhide HLR] at e3
                    have e4 := ht.lo
                    rw [e2, List.append_nil, ← unhide HLO] at e4
                    have e5 : rc.ep = r.ep := by rw [ht.ep]; exact unhide HEP1
                    rw [unhide HAK, e3, e4, ← e5]
                    exact ⟨ht.tx, (rr_step (unhide HV0) hB ht.kp h1 h2).1, (rr_step (unhide HV0) hB ht.kp h1 h2).2, rfl, rfl⟩)
                  have hepb : 0 ≤ r.ep ∧ r.ep ≤ 1073741824 := ⟨by have := (unhide HOK1).e0; rw [unhide HEP1] at this; exact this, by have := (unhide HOK1).e1; rw [unhide HEP1] at this; exact this⟩
                  have hfew1 := (unhide HOK1).few
                  clear HLR HLO HAK HEP1 HR1
                  obtain ⟨iv, hiv⟩ := fdV_any r1
                  have FD0 := hide (fun W (ht : TkG w B b r1 r1 [] (.slice none 0 0) W) v (hv : RrV W b v r1) => rfind_any b v r1 iv W hv hiv ht.ok)
                  have C20 : Hid (∀ W, TkG w B b r1 r1 [] (.slice none 0 0) W → W.cell? ⟨b, 2, none⟩ = some (.int .i64 (r1.next : Int))) := hide (fun W ht => by obtain ⟨v, h1, _⟩ := ht.rr; exact h1.box.cell rfl)
                  have c2 := unhide C20 _ (unhide HT0)
                  have FD1 : Hid (Calls Try.prog 34 #[.pointer (some ⟨b, 0, none⟩), .int .i64 (r1.next : Int)] W1 fun e w' => e = .returned (.int .i64 iv) ∧ w' = W1) := hide (by
                    obtain ⟨v, hv, _⟩ := (unhide HT0).rr
                    exact unhide FD0 _ (unhide HT0) v hv)
                  clear FD0 C20 HV0 HOK1 hn1 hw1 hfew hNl
                  go_wp2_with fail
                  refine (unhide FD1).mono ?_
                  rintro e w3 ⟨rfl, hw3⟩
                  obtain rfl := hw3.symm
                  clear FD1 c2
                  go_wp2_with fail
                  go_loopw [11, 12] (fun ov jv wr => ∃ (rc : Rcv) (O : List ByteArray) (i : Int), jv = .int .i64 i ∧ (∃ oa oc, ov = .slice oa O.length oc) ∧ O.length + rc.early.length ≤ r1.early.length ∧ Hid (FdV rc i) ∧ Hid (TkG w B b r1 rc O ov wr)) (fun ov _ _ => r1.early.length - slN ov)
                  case atStart => exact ⟨r1, [], iv, rfl, ⟨none, 0, rfl⟩, by simp, hide hiv, HT0⟩
                  case round =>
                    clear HT0 hiv
                    obtain ⟨rc, O, i, rfl, ⟨oa, oc, rfl⟩, hln, HF, HT⟩ := hrel
                    rcases unhide HF with ⟨hno, rfl⟩ | ⟨i, hi, x, hsome, hix, rfl, hbef⟩
                    · obtain ⟨f1, f2, f3, f4, f5⟩ := unhide HEND rc O _ _ (unhide HT) hno
                      have HFIN := hide (And.intro f1 (And.intro f2 f3))
                      obtain ⟨a0, a2⟩ : wr.cell? ⟨b, 0, none⟩ = some (.int .i64 r.ep) ∧ wr.cell? ⟨b, 2, none⟩ = some (.int .i64 (rc.next : Int)) := by
                        obtain ⟨v, h1, _⟩ := (unhide HT).rr
                        rw [← f5]
                        exact ⟨h1.box.cell rfl, h1.box.cell rfl⟩
                      have hnx := (unhide HT).ok.n1
                      have AC : Hid (∀ W, Calls Try.prog 35 #[.int .i64 r.ep, .int .i64 (rc.next : Int)] W fun e w' => e = .returned (.string AK) ∧ Below W.heap.size W w') := hide (fun W => by
                        rw [f4, f5]
                        exact rAck_any r.ep (rc.next : Int) W hepb.1 hepb.2 (by omega) (by omega))
                      have OUT : Hid (∀ W, Kp [] wr W → TxO w.heap.size W (.slice oa O.length oc) LO ∧ RrAt B W b LR ∧ Ko rrO B w W) := hide (fun W hk => ⟨(unhide HFIN).1.kp hk (by simp), (unhide HFIN).2.1.kp hk, (unhide HFIN).2.2.trans (Ko.nil hk)⟩)
                      have KEEP : Hid (∀ W, Kp [] wr W → W.cell? ⟨b, 0, none⟩ = some (.int .i64 r.ep) ∧ W.cell? ⟨b, 2, none⟩ = some (.int .i64 (rc.next : Int))) := hide (fun W hk => ⟨hk.cell a0 (by simp), hk.cell a2 (by simp)⟩)
                      clear f1 f2 f3 f4 f5 HFIN HF HT HEND hno hln hepb
                      generalize r.ep = E0 at *
                      generalize rc.next = NX at *
                      generalize O.length = ol at *
                      have y0 := unhide KEEP _ (Kp.drew wr)
                      go_wp2_with fail
                      go_region_held3 (fun W => W.cell? ⟨b, 0, none⟩ = some (.int .i64 E0) ∧ W.cell? ⟨b, 2, none⟩ = some (.int .i64 (NX : Int))) (first | with_reducible exact y0 | with_reducible exact y1 | exact ⟨a0, a2⟩)
                        (first
                          | (go_at_call 35; refine (unhide AC _).mono ?_; rintro _ w7 ⟨rfl, k7⟩; have K7 := hide ((Kp.drew wr).trans (Kp.ofBelow k7) (by simp)); have y1 := unhide KEEP _ (unhide K7); clear k7))
                      go_wp2
                      go_ret3
                      exact ⟨_, rfl, unhide OUT _ (unhide K7)⟩
                    · have hio : (0 : Int) ≤ (i : Int) := by omega
                      obtain ⟨v5, hv5, hb5⟩ := (unhide HT).rr
                      have hok5 := (unhide HT).ok
                      have hfew := hok5.few
                      obtain ⟨g, cap, rfl, hcap, hcapm⟩ : ∃ g cap, v5 = .slice (some ⟨g, 0, none⟩) rc.early.length cap ∧ rc.early.length ≤ cap ∧ cap ≤ 9223372036854775807 := by
                        rcases hv5.row.form with ⟨_, e⟩ | h5
                        · rw [e] at hi; cases hi
                        · exact h5
                      have c3 : wr.cell? ⟨b, 3, none⟩ = some (.slice (some ⟨g, 0, none⟩) rc.early.length cap) := hv5.box.cell (i := 3) rfl
                      have xi : wr.cell? ⟨g, i * 2 + 1, none⟩ = some (.string x) := by
                        have := (hv5.row.cell i hi).2
                        rwa [hix] at this
                      obtain ⟨hstep, hxs⟩ := hok5.step hsome
                      obtain ⟨hgo1, hgo2⟩ := lgR_go hsome
                      have hcut := erd_at hok5.nd hi (by rw [hix])
                      have herl := erd_len hsome
                      -- the text is put behind
                      have kA := Kp.alloc wr (.cells #[.string x] 9)
                      have txA := (unhide HT).tx.kp kA (by simp)
                      obtain ⟨vO, W2, run12, tx2, k2, hob⟩ := txA.push (by have := (unhide HT).kp.size; rw [World.size_alloc]; omega) (CBox.new wr #[.string x] 9) (by omega) 39
                      obtain ⟨oa2, oc2, rfl, _⟩ := tx2.form
                      have kO : ∀ (gg : Nat) (cs : Array Value) (tt : TypeId), CBox gg cs tt wr → tt ≠ 9 → CBox gg cs tt W2 := fun gg cs tt hbx ht => by
                        have hbA := hbx.kp kA (by simp)
                        refine hbA.kp k2 (fun hm => ?_)
                        have hm' : (Value.slice oa O.length oc).ownBlock = some gg := by simpa using hm
                        obtain ⟨_, cur, hc⟩ := txA.block hm'
                        exact box_ne (show CBox gg cur 9 _ from hc) hbA (fun e => ht e.symm) rfl
                      have k02 : Kp [b] w W2 := ((unhide HT).kp.trans kA (by simp)).trans k2 (fun q hq => Or.inr (by have := ((unhide HT).tx.block (k := q) (by simpa using hq)).1; exact this))
                      have hv2 : RrV W2 b (.slice (some ⟨g, 0, none⟩) rc.early.length cap) rc := by
                        refine ⟨kO _ _ _ hv5.box (by decide), ?_⟩
                        obtain ⟨g1, g2 | ⟨g', cp', cur, e, hb', hh', q⟩⟩ := hv5.row
                        · exact ⟨g1, Or.inl g2⟩
                        · exact ⟨g1, Or.inr ⟨g', cp', cur, e, hb', kO _ _ _ (show CBox g' cur 87 wr from hh') (by decide), q⟩⟩
                      -- the one is taken out
                      obtain ⟨V, hV⟩ : ∃ V, V = W2.drew := ⟨_, rfl⟩
                      have kV : Kp [] W2 V := by rw [hV]; exact Kp.drew _
                      have hvV := hv2.kp kV
                      obtain ⟨J, hJ⟩ : ∃ J : Nat, J = i + 1 := ⟨_, rfl⟩
                      obtain ⟨nad, hnad⟩ : ∃ nad : Option Addr, nad = if cap = J then some ⟨g, 0, none⟩ else some ⟨g, J * 2, none⟩ := ⟨_, rfl⟩
                      obtain ⟨g1, c1, X1, run1, kX1, g2, c2, X2, run2, row2, kX2, hg2⟩ := er_cut hvV.row rfl i hi hcap (by omega) 53 53
                      rw [← hcut] at run2 row2
                      rw [← hJ, ← hnad] at run2
                      have kE := Kp.alloc V (.cells #[] 87)
                      have sV : V.cell? ⟨b, 3, none⟩ = some (.slice (some ⟨g, 0, none⟩) rc.early.length cap) := hvV.box.cell (i := 3) rfl
                      have sE : (V.alloc (.cells #[] 87)).cell? ⟨b, 3, none⟩ = some (.slice (some ⟨g, 0, none⟩) rc.early.length cap) := kE.cell sV (by simp)
                      have sX1 : X1.cell? ⟨b, 3, none⟩ = some (.slice (some ⟨g, 0, none⟩) rc.early.length cap) := kX1.cell sV (by simp)
                      have bX2 := hvV.box.kp kX2 (by simp)
                      have sX2 : X2.cell? ⟨b, 3, none⟩ = some (.slice (some ⟨g, 0, none⟩) rc.early.length cap) := bX2.cell (i := 3) rfl
                      have fX2 := bX2.froz 3
                      have b3 := bX2.set 3 (.slice (some ⟨g2, 0, none⟩) (erd rc.early rc.next).length c2)
                      have c2' : (X2.setCell ⟨b, 3, none⟩ (.slice (some ⟨g2, 0, none⟩) (erd rc.early rc.next).length c2)).cell? ⟨b, 2, none⟩ = some (.int .i64 (rc.next : Int)) := b3.cell (i := 2) rfl
                      have f2' := b3.froz 2
                      have b4 := b3.set 2 (.int .i64 ((rc.next : Int) + 1))
                      have hbg : b < g2 := by
                        have h1 := (Array.getElem?_eq_some_iff.1 hvV.box).1
                        omega
                      have HT4 : Hid (TkG w B b r1 ⟨rc.ep, rc.wd, rc.next + 1, erd rc.early rc.next⟩ (O ++ [x]) (.slice oa2 (O ++ [x]).length oc2) ((X2.setCell ⟨b, 3, none⟩ (.slice (some ⟨g2, 0, none⟩) (erd rc.early rc.next).length c2)).setCell ⟨b, 2, none⟩ (.int .i64 ((rc.next : Int) + 1)))) := hide (by
                        have kS : Kp [b] X2 ((X2.setCell ⟨b, 3, none⟩ (.slice (some ⟨g2, 0, none⟩) (erd rc.early rc.next).length c2)).setCell ⟨b, 2, none⟩ (.int .i64 ((rc.next : Int) + 1))) := (Kp.set X2 b 3 _).trans (Kp.set _ b 2 _) (by simp)
                        have k2X : Kp [] W2 X2 := kV.trans kX2 (by simp)
                        refine ⟨⟨.slice (some ⟨g2, 0, none⟩) (erd rc.early rc.next).length c2, ⟨?_, ?_⟩, fun k hk => ?_⟩, (tx2.kp k2X (by simp)).kp kS (fun k hk => ?_), (k02.trans k2X (by simp)).trans kS (by simp), hstep, (unhide HT).ep, (unhide HT).lr.trans hgo1, ?_, ?_⟩
                        · unfold rrC
                          dsimp only
                          rw [show ((rc.next + 1 : Nat) : Int) = (rc.next : Int) + 1 by omega]
                          exact b4
                        · refine ErRow.kp row2 kS (fun k hk => ?_)
                          simp [Value.ownBlock] at hk
                          subst hk
                          simp
                          omega
                        · simp [Value.ownBlock] at hk
                          subst hk
                          have h1 := k02.size
                          have h2 := kV.size
                          omega
                        · obtain ⟨_, cur, hc⟩ := (tx2.kp k2X (by simp)).block hk
                          simp only [List.mem_singleton]
                          exact box_ne (show CBox k cur 9 _ from hc) bX2 (by decide)
                        · rw [(unhide HT).lo, hgo2, List.append_assoc]
                          rfl
                        · have := (unhide HT).ln
                          dsimp only
                          rw [List.length_append, List.length_singleton]
                          omega)
                      obtain ⟨iv2, hiv2⟩ := fdV_any ⟨rc.ep, rc.wd, rc.next + 1, erd rc.early rc.next⟩
                      have FD4 : Hid (Calls Try.prog 34 #[.pointer (some ⟨b, 0, none⟩), .int .i64 ((rc.next : Int) + 1)] ((X2.setCell ⟨b, 3, none⟩ (.slice (some ⟨g2, 0, none⟩) (erd rc.early rc.next).length c2)).setCell ⟨b, 2, none⟩ (.int .i64 ((rc.next : Int) + 1))) fun e w' => e = .returned (.int .i64 iv2) ∧ w' = ((X2.setCell ⟨b, 3, none⟩ (.slice (some ⟨g2, 0, none⟩) (erd rc.early rc.next).length c2)).setCell ⟨b, 2, none⟩ (.int .i64 ((rc.next : Int) + 1)))) := hide (by
                        obtain ⟨v6, hv6, _⟩ := (unhide HT4).rr
                        have := rfind_any b v6 _ iv2 _ hv6 hiv2 hstep
                        dsimp only at this
                        rwa [show ((rc.next + 1 : Nat) : Int) = (rc.next : Int) + 1 by omega] at this)
                      have c24 : ((X2.setCell ⟨b, 3, none⟩ (.slice (some ⟨g2, 0, none⟩) (erd rc.early rc.next).length c2)).setCell ⟨b, 2, none⟩ (.int .i64 ((rc.next : Int) + 1))).cell? ⟨b, 2, none⟩ = some (.int .i64 ((rc.next : Int) + 1)) := b4.cell (i := 2) rfl
                      have HIV2 := hide hiv2
                      have hnx := hok5.n1
                      have hlen2 : (O ++ [x]).length + (erd rc.early rc.next).length ≤ r1.early.length := by rw [List.length_append, List.length_singleton]; omega
                      have hol : (O ++ [x]).length = O.length + 1 := by rw [List.length_append, List.length_singleton]
                      have HOL := hide hol
                      clear hol
                      have hil : (i : Int) < (rc.early.length : Int) := by omega
                      have hJw : IntKind.i64.wrap ((i : Int) + 1) = (J : Int) := by rw [hJ]; unfold IntKind.wrap; simp [IntKind.signed, go_sem]; omega
                      have hJb : (0 ≤ (J : Int) ∧ (J : Int) ≤ (rc.early.length : Int)) = True := eq_true (by omega)
                      have hJn : J ≤ rc.early.length := by omega
                      have hic : (i : Int) ≤ (cap : Int) := by omega
                      have hin : i ≤ cap := by omega
                      have hnad2 : (if cap = J then some (⟨g, 0, none⟩ : Addr) else some ⟨g, J * 2, none⟩) = nad := hnad.symm
                      have RUN12 := hide run12
                      have RUN1 := hide run1
                      have RUN2 := hide run2
                      have HV := hide hV
                      clear run12 run1 run2 hV hnad hiv2 hok5 hstep hxs hgo1 hgo2 hcut herl kA txA tx2 k2 hob kO k02 hv2 kV hvV row2 kX1 kX2 hg2 kE bX2 b3 b4 hbg hJ hv5 hb5 hix hbef hsome HT HF hi HEND hepb hfew
                      generalize hO2 : (O ++ [x]).length = ol2 at *
                      have HOL2 := hide hO2
                      clear hO2
                      generalize hE2 : (erd rc.early rc.next).length = el2 at *
                      have HEL2 := hide hE2
                      clear hE2
                      generalize rc.early.length = n at *
                      go_upto_region 12 with fail
                      go_wp2_with (at_builtin; refine wpList_app_run rfl _ _ 39 rfl rfl rfl (unhide RUN12) ?_)
                      refine wp_region_late (fun W => W.cell? ⟨b, 3, none⟩ = some (.slice (some ⟨g, 0, none⟩) n cap)) 19 (by kernel_rfl) ?_
                      rw [← unhide HV]
                      clear HV
                      show wpAnyL _ _ _ _ _ _ 20 (Array.replicate 20 false) _ _
                      refine wpAnyL_take3 (i := 0) (oi := { dst := some 110, op := Op.move (Operand.tmp 0), type := 35, pos := "ref.go:152", after := #[], guard := none }) (v := ?_) rfl (by kernel_rfl) (by kernel_rfl) (by kernel_rfl) (by kernel_rfl) (fun _ _ _ h => h) (Or.inl ⟨by rfl, ?_⟩) sV ?_
                      rotate_left 1
                      · intro w0 hSw
                        (try dsimp only at hSw)
                        go_simp
                        (try with_reducible rfl)
                      try simp only [Act.put, List.setIfInBounds_toArray, List.set_cons_zero, List.set_cons_succ]
                      refine wpAnyL_take3 (i := 2) (oi := { dst := some 112, op := Op.move (Operand.tmp 0), type := 35, pos := "ref.go:152", after := #[], guard := none }) (v := ?_) rfl (by kernel_rfl) (by kernel_rfl) (by kernel_rfl) (by kernel_rfl) (fun _ _ _ h => h) (Or.inl ⟨by rfl, ?_⟩) sV ?_
                      rotate_left 1
                      · intro w0 hSw
                        (try dsimp only at hSw)
                        go_simp
                        (try with_reducible rfl)
                      try simp only [Act.put, List.setIfInBounds_toArray, List.set_cons_zero, List.set_cons_succ]
                      refine wpAnyL_take3 (i := 3) (oi := { dst := some 113, op := Op.nilCheck (Operand.tmp 112), type := 0, pos := "ref.go:152", after := #[{ on := 2, ground := Ground.data }], guard := none }) (v := ?_) rfl (by kernel_rfl) (by kernel_rfl) (by kernel_rfl) (by kernel_rfl) (fun _ _ _ h => h) (Or.inl ⟨by rfl, ?_⟩) sV ?_
                      rotate_left 1
                      · intro w0 hSw
                        (try dsimp only at hSw)
                        go_simp
                        (try with_reducible rfl)
                      try simp only [Act.put, List.setIfInBounds_toArray, List.set_cons_zero, List.set_cons_succ]
                      refine wpAnyL_take3 (i := 4) (oi := { dst := some 114, op := Op.fieldAddr 55 (Operand.tmp 113) 3, type := 0, pos := "ref.go:152", after := #[{ on := 3, ground := Ground.data }], guard := none }) (v := ?_) rfl (by kernel_rfl) (by kernel_rfl) (by kernel_rfl) (by kernel_rfl) (fun _ _ _ h => h) (Or.inl ⟨by rfl, ?_⟩) sV ?_
                      rotate_left 1
                      · intro w0 hSw
                        (try dsimp only at hSw)
                        go_simp
                        (try with_reducible rfl)
                      try simp only [Act.put, List.setIfInBounds_toArray, List.set_cons_zero, List.set_cons_succ]
                      refine wpAnyL_take3 (i := 5) (oi := { dst := some 115, op := Op.load 53 (Operand.tmp 114), type := 53, pos := "ref.go:152", after := #[{ on := 4, ground := Ground.data }], guard := none }) (v := ?_) rfl (by kernel_rfl) (by kernel_rfl) (by kernel_rfl) (by kernel_rfl) (fun _ _ _ h => h) (Or.inl ⟨by rfl, ?_⟩) sV ?_
                      rotate_left 1
                      · intro w0 hSw
                        (try dsimp only at hSw)
                        go_simp
                        (try with_reducible rfl)
                      try simp only [Act.put, List.setIfInBounds_toArray, List.set_cons_zero, List.set_cons_succ]
                      refine wpAnyL_take3 (i := 6) (oi := { dst := some 116, op := Op.move (Operand.tmp 12), type := 3, pos := "ref.go:152", after := #[], guard := none }) (v := ?_) rfl (by kernel_rfl) (by kernel_rfl) (by kernel_rfl) (by kernel_rfl) (fun _ _ _ h => h) (Or.inl ⟨by rfl, ?_⟩) sV ?_
                      rotate_left 1
                      · intro w0 hSw
                        (try dsimp only at hSw)
                        go_simp
                        (try with_reducible rfl)
                      try simp only [Act.put, List.setIfInBounds_toArray, List.set_cons_zero, List.set_cons_succ]
                      refine wpAnyL_take3 (i := 7) (oi := { dst := some 117, op := Op.slice 53 (Operand.tmp 115) none (some (Operand.tmp 116)) none, type := 53, pos := "ref.go:152", after := #[{ on := 5, ground := Ground.data }, { on := 6, ground := Ground.data }], guard := none }) (v := ?_) rfl (by kernel_rfl) (by kernel_rfl) (by kernel_rfl) (by kernel_rfl) (fun _ _ _ h => h) (Or.inl ⟨by rfl, ?_⟩) sV ?_
                      rotate_left 1
                      · intro w0 hSw
                        (try dsimp only at hSw)
                        go_simp
                        (try with_reducible rfl)
                      try simp only [Act.put, List.setIfInBounds_toArray, List.set_cons_zero, List.set_cons_succ]
                      refine wpAnyL_take3 (i := 9) (oi := { dst := some 119, op := Op.move (Operand.tmp 0), type := 35, pos := "ref.go:152", after := #[], guard := none }) (v := ?_) rfl (by kernel_rfl) (by kernel_rfl) (by kernel_rfl) (by kernel_rfl) (fun _ _ _ h => h) (Or.inl ⟨by rfl, ?_⟩) sV ?_
                      rotate_left 1
                      · intro w0 hSw
                        (try dsimp only at hSw)
                        go_simp
                        (try with_reducible rfl)
                      try simp only [Act.put, List.setIfInBounds_toArray, List.set_cons_zero, List.set_cons_succ]
                      refine wpAnyL_take3 (i := 10) (oi := { dst := some 120, op := Op.nilCheck (Operand.tmp 119), type := 0, pos := "ref.go:152", after := #[{ on := 9, ground := Ground.data }], guard := none }) (v := ?_) rfl (by kernel_rfl) (by kernel_rfl) (by kernel_rfl) (by kernel_rfl) (fun _ _ _ h => h) (Or.inl ⟨by rfl, ?_⟩) sV ?_
                      rotate_left 1
                      · intro w0 hSw
                        (try dsimp only at hSw)
                        go_simp
                        (try with_reducible rfl)
                      try simp only [Act.put, List.setIfInBounds_toArray, List.set_cons_zero, List.set_cons_succ]
                      refine wpAnyL_take3 (i := 11) (oi := { dst := some 121, op := Op.fieldAddr 55 (Operand.tmp 120) 3, type := 0, pos := "ref.go:152", after := #[{ on := 10, ground := Ground.data }], guard := none }) (v := ?_) rfl (by kernel_rfl) (by kernel_rfl) (by kernel_rfl) (by kernel_rfl) (fun _ _ _ h => h) (Or.inl ⟨by rfl, ?_⟩) sV ?_
                      rotate_left 1
                      · intro w0 hSw
                        (try dsimp only at hSw)
                        go_simp
                        (try with_reducible rfl)
                      try simp only [Act.put, List.setIfInBounds_toArray, List.set_cons_zero, List.set_cons_succ]
                      refine wpAnyL_take3 (i := 12) (oi := { dst := some 122, op := Op.load 53 (Operand.tmp 121), type := 53, pos := "ref.go:152", after := #[{ on := 11, ground := Ground.data }], guard := none }) (v := ?_) rfl (by kernel_rfl) (by kernel_rfl) (by kernel_rfl) (by kernel_rfl) (fun _ _ _ h => h) (Or.inl ⟨by rfl, ?_⟩) sV ?_
                      rotate_left 1
                      · intro w0 hSw
                        (try dsimp only at hSw)
                        go_simp
                        (try with_reducible rfl)
                      try simp only [Act.put, List.setIfInBounds_toArray, List.set_cons_zero, List.set_cons_succ]
                      refine wpAnyL_take3 (i := 13) (oi := { dst := some 123, op := Op.move (Operand.tmp 12), type := 3, pos := "ref.go:152", after := #[], guard := none }) (v := ?_) rfl (by kernel_rfl) (by kernel_rfl) (by kernel_rfl) (by kernel_rfl) (fun _ _ _ h => h) (Or.inl ⟨by rfl, ?_⟩) sV ?_
                      rotate_left 1
                      · intro w0 hSw
                        (try dsimp only at hSw)
                        go_simp
                        (try with_reducible rfl)
                      try simp only [Act.put, List.setIfInBounds_toArray, List.set_cons_zero, List.set_cons_succ]
                      refine wpAnyL_take3 (i := 14) (oi := { dst := some 124, op := Op.binOp BinOp.add 3 (Operand.tmp 123) (Operand.const (Value.int IntKind.i64 1)) 3, type := 3, pos := "ref.go:152", after := #[{ on := 13, ground := Ground.data }], guard := none }) (v := ?_) rfl (by kernel_rfl) (by kernel_rfl) (by kernel_rfl) (by kernel_rfl) (fun _ _ _ h => h) (Or.inl ⟨by rfl, ?_⟩) sV ?_
                      rotate_left 1
                      · intro w0 hSw
                        (try dsimp only at hSw)
                        go_simp
                        (try with_reducible rfl)
                      try simp only [Act.put, List.setIfInBounds_toArray, List.set_cons_zero, List.set_cons_succ]
                      refine wpAnyL_take3 (i := 15) (oi := { dst := some 125, op := Op.slice 53 (Operand.tmp 122) (some (Operand.tmp 124)) none none, type := 53, pos := "ref.go:152", after := #[{ on := 12, ground := Ground.data }, { on := 14, ground := Ground.data }], guard := none }) (v := ?_) rfl (by kernel_rfl) (by kernel_rfl) (by kernel_rfl) (by kernel_rfl) (fun _ _ _ h => h) (Or.inl ⟨by rfl, ?_⟩) sV ?_
                      rotate_left 1
                      · intro w0 hSw
                        (try dsimp only at hSw)
                        go_simp
                        (try with_reducible rfl)
                      try simp only [Act.put, List.setIfInBounds_toArray, List.set_cons_zero, List.set_cons_succ]
                      refine wpAnyL_one (i := 1) (o := { dst := some 111, op := Op.buildSlice 53 0 #[], type := 53, pos := "ref.go:152", after := #[], guard := none }) rfl (by kernel_rfl) (fun K hK => ?_)
                      go_simp
                      refine hK _ _ (Or.inr sE) ?_
                      clear hK K
                      try simp only [Act.put, List.setIfInBounds_toArray, List.set_cons_zero, List.set_cons_succ]
                      refine wpAnyL_one (i := 8) (o := { dst := some 118, op := Op.call { callee := Callee.builtin Builtin.append, args := #[Operand.tmp 111, Operand.tmp 117], argTypes := #[53, 53] }, type := 53, pos := "ref.go:152", after := #[{ on := 1, ground := Ground.data }, { on := 7, ground := Ground.data }], guard := none }) rfl (by kernel_rfl) (fun K hK => ?_)
                      refine step_app_run rfl (.tmp 111) (.tmp 117) 53 rfl rfl rfl (unhide RUN1) ?_
                      refine hK _ _ (Or.inr sX1) ?_
                      clear hK K
                      try simp only [Act.put, List.setIfInBounds_toArray, List.set_cons_zero, List.set_cons_succ]
                      refine wpAnyL_one (i := 16) (o := { dst := some 126, op := Op.call { callee := Callee.builtin Builtin.append, args := #[Operand.tmp 118, Operand.tmp 125], argTypes := #[53, 53] }, type := 53, pos := "ref.go:152", after := #[{ on := 8, ground := Ground.data }, { on := 15, ground := Ground.data }, { on := 8, ground := Ground.chain }], guard := none }) rfl (by kernel_rfl) (fun K hK => ?_)
                      refine step_app_run rfl (.tmp 118) (.tmp 125) 53 rfl rfl rfl (unhide RUN2) ?_
                      refine hK _ _ (Or.inr sX2) ?_
                      clear hK K
                      try simp only [Act.put, List.setIfInBounds_toArray, List.set_cons_zero, List.set_cons_succ]
                      refine wpAnyL_one (i := 17) (o := { dst := some 127, op := Op.nilCheck (Operand.tmp 110), type := 0, pos := "ref.go:152", after := #[{ on := 0, ground := Ground.data }, { on := 0, ground := Ground.phase }, { on := 1, ground := Ground.phase }, { on := 2, ground := Ground.phase }, { on := 3, ground := Ground.phase }, { on := 4, ground := Ground.phase }, { on := 5, ground := Ground.phase }, { on := 6, ground := Ground.phase }, { on := 7, ground := Ground.phase }, { on := 8, ground := Ground.phase }, { on := 9, ground := Ground.phase }, { on := 10, ground := Ground.phase }, { on := 11, ground := Ground.phase }, { on := 12, ground := Ground.phase }, { on := 13, ground := Ground.phase }, { on := 14, ground := Ground.phase }, { on := 15, ground := Ground.phase }, { on := 16, ground := Ground.phase }], guard := none }) rfl (by kernel_rfl) (fun K hK => ?_)
                      go_simp
                      refine hK _ _ (Or.inr sX2) ?_
                      clear hK K
                      try simp only [Act.put, List.setIfInBounds_toArray, List.set_cons_zero, List.set_cons_succ]
                      refine wpAnyL_one (i := 18) (o := { dst := some 128, op := Op.fieldAddr 55 (Operand.tmp 127) 3, type := 0, pos := "ref.go:152", after := #[{ on := 17, ground := Ground.data }, { on := 0, ground := Ground.phase }, { on := 1, ground := Ground.phase }, { on := 2, ground := Ground.phase }, { on := 3, ground := Ground.phase }, { on := 4, ground := Ground.phase }, { on := 5, ground := Ground.phase }, { on := 6, ground := Ground.phase }, { on := 7, ground := Ground.phase }, { on := 8, ground := Ground.phase }, { on := 9, ground := Ground.phase }, { on := 10, ground := Ground.phase }, { on := 11, ground := Ground.phase }, { on := 12, ground := Ground.phase }, { on := 13, ground := Ground.phase }, { on := 14, ground := Ground.phase }, { on := 15, ground := Ground.phase }, { on := 16, ground := Ground.phase }], guard := none }) rfl (by kernel_rfl) (fun K hK => ?_)
                      go_simp
                      refine hK _ _ (Or.inr sX2) ?_
                      clear hK K
                      try simp only [Act.put, List.setIfInBounds_toArray, List.set_cons_zero, List.set_cons_succ]
                      refine wpAnyL_one (i := 19) (o := { dst := none, op := Op.store 53 (Operand.tmp 128) (Operand.tmp 126), type := 0, pos := "ref.go:152", after := #[{ on := 18, ground := Ground.data }, { on := 16, ground := Ground.data }, { on := 16, ground := Ground.chain }, { on := 0, ground := Ground.phase }, { on := 1, ground := Ground.phase }, { on := 2, ground := Ground.phase }, { on := 3, ground := Ground.phase }, { on := 4, ground := Ground.phase }, { on := 5, ground := Ground.phase }, { on := 6, ground := Ground.phase }, { on := 7, ground := Ground.phase }, { on := 8, ground := Ground.phase }, { on := 9, ground := Ground.phase }, { on := 10, ground := Ground.phase }, { on := 11, ground := Ground.phase }, { on := 12, ground := Ground.phase }, { on := 13, ground := Ground.phase }, { on := 14, ground := Ground.phase }, { on := 15, ground := Ground.phase }, { on := 16, ground := Ground.phase }], guard := none }) rfl (by kernel_rfl) (fun K hK => ?_)
                      go_simp
                      refine hK _ _ (Or.inl rfl) ?_
                      clear hK K
                      try simp only [Act.put, List.setIfInBounds_toArray, List.set_cons_zero, List.set_cons_succ]
                      refine wpAnyL_done (by kernel_rfl) ?_ _
                      clear RUN12 RUN1 RUN2 sV sE sX1 sX2 fX2
                      go_wp2_with fail
                      refine (unhide FD4).mono ?_
                      rintro e w6 ⟨rfl, hw6⟩
                      obtain rfl := hw6.symm
                      clear FD4 c24 c2' f2'
                      go_wp2
                      go_roundw
                      case rel => exact ⟨_, O ++ [x], iv2, by go_num, ⟨oa2, oc2, by rw [unhide HOL2]⟩, by rw [unhide HOL2]; dsimp only; rw [unhide HEL2]; exact hlen2, HIV2, HT4⟩
                      case measure => have := unhide HOL; have := unhide HOL2; simp [slN]; omega
              | some x0 =>
                obtain ⟨i, hi, hix, hbef⟩ := erl_at g3
                have FD := hide (fun n => rfind_some b v0 r N (w1.drewN n) ((unhide HD1).kp (Kp.drewQ _ _)) i hi (by rw [hix]) hbef (by omega))
                have hr1 : lkR r N d.s = r := by unfold lkR; rw [if_neg (fun hx => by rw [g3] at hx; cases hx.2.2)]
                have qi : decide ((i : Int) < 0) = false := decide_eq_false (by omega)
                go_quiet (first | (go_at_call 34; exact Calls.quiet_of_same (unhide FD _)))
                clear FD g3 q1 q1n q2 c1 c2 hix hbef qi
                have HT0 : Hid (TkG w B b r1 r1 [] (.slice none 0 0) (w1.drewN nq)) := hide (by
                  obtain rfl : r1 = r := (unhide HR1).symm.trans hr1
                  exact ⟨⟨v0, (unhide HD1).kp (Kp.drewQ _ _), unhide HBV⟩, TxO.nil _ _, ((unhide K1).trans (Kp.drewQ _ _) (by simp)).mono (by simp), unhide HOK, rfl, rfl, rfl, by simp⟩)
                clear hr1 X11 HD1 HOK CE
                generalize w1.drewN nq = W1 at *
                have HEND : Hid (∀ rc O ov W, TkG w B b r1 rc O ov W → erl rc.early rc.next = none → TxO w.heap.size W ov LO ∧ RrAt B W b LR ∧ Ko rrO B w W ∧ AK = ackB rc.ep (rc.next : Int) ∧ rc.ep = r.ep) := hide (fun rc O ov W ht hno => by
                  obtain ⟨e1, e2⟩ := lgR_stop hno
                  obtain ⟨v, h1, h2⟩ := ht.rr
                  have e3 := ht.lr
                  rw [e1, ← unhide HLR] at e3
                  have e4 := ht.lo
                  rw [e2, List.append_nil, ← unhide HLO] at e4
                  have e5 : rc.ep = r.ep := by rw [ht.ep]; exact unhide HEP1
                  rw [unhide HAK, e3, e4, ← e5]
                  exact ⟨ht.tx, (rr_step (unhide HV0) hB ht.kp h1 h2).1, (rr_step (unhide HV0) hB ht.kp h1 h2).2, rfl, rfl⟩)
                have hepb : 0 ≤ r.ep ∧ r.ep ≤ 1073741824 := ⟨by have := (unhide HOK1).e0; rw [unhide HEP1] at this; exact this, by have := (unhide HOK1).e1; rw [unhide HEP1] at this; exact this⟩
                have hfew1 := (unhide HOK1).few
                clear HLR HLO HAK HEP1 HR1
                obtain ⟨iv, hiv⟩ := fdV_any r1
                have FD0 := hide (fun W (ht : TkG w B b r1 r1 [] (.slice none 0 0) W) v (hv : RrV W b v r1) => rfind_any b v r1 iv W hv hiv ht.ok)
                have C20 : Hid (∀ W, TkG w B b r1 r1 [] (.slice none 0 0) W → W.cell? ⟨b, 2, none⟩ = some (.int .i64 (r1.next : Int))) := hide (fun W ht => by obtain ⟨v, h1, _⟩ := ht.rr; exact h1.box.cell rfl)
                have c2 := unhide C20 _ (unhide HT0)
                have FD1 : Hid (Calls Try.prog 34 #[.pointer (some ⟨b, 0, none⟩), .int .i64 (r1.next : Int)] W1 fun e w' => e = .returned (.int .i64 iv) ∧ w' = W1) := hide (by
                  obtain ⟨v, hv, _⟩ := (unhide HT0).rr
                  exact unhide FD0 _ (unhide HT0) v hv)
                clear FD0 C20 HV0 HOK1 hn1 hw1 hfew hNl
                go_wp2_with fail
                refine (unhide FD1).mono ?_
                rintro e w3 ⟨rfl, hw3⟩
                obtain rfl := hw3.symm
                clear FD1 c2
                go_wp2_with fail
                go_loopw [11, 12] (fun ov jv wr => ∃ (rc : Rcv) (O : List ByteArray) (i : Int), jv = .int .i64 i ∧ (∃ oa oc, ov = .slice oa O.length oc) ∧ O.length + rc.early.length ≤ r1.early.length ∧ Hid (FdV rc i) ∧ Hid (TkG w B b r1 rc O ov wr)) (fun ov _ _ => r1.early.length - slN ov)
                case atStart => exact ⟨r1, [], iv, rfl, ⟨none, 0, rfl⟩, by simp, hide hiv, HT0⟩
                case round =>
                  clear HT0 hiv
                  obtain ⟨rc, O, i, rfl, ⟨oa, oc, rfl⟩, hln, HF, HT⟩ := hrel
                  rcases unhide HF with ⟨hno, rfl⟩ | ⟨i, hi, x, hsome, hix, rfl, hbef⟩
                  · obtain ⟨f1, f2, f3, f4, f5⟩ := unhide HEND rc O _ _ (unhide HT) hno
                    have HFIN := hide (And.intro f1 (And.intro f2 f3))
                    obtain ⟨a0, a2⟩ : wr.cell? ⟨b, 0, none⟩ = some (.int .i64 r.ep) ∧ wr.cell? ⟨b, 2, none⟩ = some (.int .i64 (rc.next : Int)) := by
                      obtain ⟨v, h1, _⟩ := (unhide HT).rr
                      rw [← f5]
                      exact ⟨h1.box.cell rfl, h1.box.cell rfl⟩
                    have hnx := (unhide HT).ok.n1
                    have AC : Hid (∀ W, Calls Try.prog 35 #[.int .i64 r.ep, .int .i64 (rc.next : Int)] W fun e w' => e = .returned (.string AK) ∧ Below W.heap.size W w') := hide (fun W => by
                      rw [f4, f5]
                      exact rAck_any r.ep (rc.next : Int) W hepb.1 hepb.2 (by omega) (by omega))
                    have OUT : Hid (∀ W, Kp [] wr W → TxO w.heap.size W (.slice oa O.length oc) LO ∧ RrAt B W b LR ∧ Ko rrO B w W) := hide (fun W hk => ⟨(unhide HFIN).1.kp hk (by simp), (unhide HFIN).2.1.kp hk, (unhide HFIN).2.2.trans (Ko.nil hk)⟩)
                    have KEEP : Hid (∀ W, Kp [] wr W → W.cell? ⟨b, 0, none⟩ = some (.int .i64 r.ep) ∧ W.cell? ⟨b, 2, none⟩ = some (.int .i64 (rc.next : Int))) := hide (fun W hk => ⟨hk.cell a0 (by simp), hk.cell a2 (by simp)⟩)
                    clear f1 f2 f3 f4 f5 HFIN HF HT HEND hno hln hepb
                    generalize r.ep = E0 at *
                    generalize rc.next = NX at *
                    generalize O.length = ol at *
                    have y0 := unhide KEEP _ (Kp.drew wr)
                    go_wp2_with fail
                    go_region_held3 (fun W => W.cell? ⟨b, 0, none⟩ = some (.int .i64 E0) ∧ W.cell? ⟨b, 2, none⟩ = some (.int .i64 (NX : Int))) (first | with_reducible exact y0 | with_reducible exact y1 | exact ⟨a0, a2⟩)
                      (first
                        | (go_at_call 35; refine (unhide AC _).mono ?_; rintro _ w7 ⟨rfl, k7⟩; have K7 := hide ((Kp.drew wr).trans (Kp.ofBelow k7) (by simp)); have y1 := unhide KEEP _ (unhide K7); clear k7))
                    go_wp2
                    go_ret3
                    exact ⟨_, rfl, unhide OUT _ (unhide K7)⟩
                  · have hio : (0 : Int) ≤ (i : Int) := by omega
                    obtain ⟨v5, hv5, hb5⟩ := (unhide HT).rr
                    have hok5 := (unhide HT).ok
                    have hfew := hok5.few
                    obtain ⟨g, cap, rfl, hcap, hcapm⟩ : ∃ g cap, v5 = .slice (some ⟨g, 0, none⟩) rc.early.length cap ∧ rc.early.length ≤ cap ∧ cap ≤ 9223372036854775807 := by
                      rcases hv5.row.form with ⟨_, e⟩ | h5
                      · rw [e] at hi; cases hi
                      · exact h5
                    have c3 : wr.cell? ⟨b, 3, none⟩ = some (.slice (some ⟨g, 0, none⟩) rc.early.length cap) := hv5.box.cell (i := 3) rfl
                    have xi : wr.cell? ⟨g, i * 2 + 1, none⟩ = some (.string x) := by
                      have := (hv5.row.cell i hi).2
                      rwa [hix] at this
                    obtain ⟨hstep, hxs⟩ := hok5.step hsome
                    obtain ⟨hgo1, hgo2⟩ := lgR_go hsome
                    have hcut := erd_at hok5.nd hi (by rw [hix])
                    have herl := erd_len hsome
                    -- the text is put behind
                    have kA := Kp.alloc wr (.cells #[.string x] 9)
                    have txA := (unhide HT).tx.kp kA (by simp)
                    obtain ⟨vO, W2, run12, tx2, k2, hob⟩ := txA.push (by have := (unhide HT).kp.size; rw [World.size_alloc]; omega) (CBox.new wr #[.string x] 9) (by omega) 39
                    obtain ⟨oa2, oc2, rfl, _⟩ := tx2.form
                    have kO : ∀ (gg : Nat) (cs : Array Value) (tt : TypeId), CBox gg cs tt wr → tt ≠ 9 → CBox gg cs tt W2 := fun gg cs tt hbx ht => by
                      have hbA := hbx.kp kA (by simp)
                      refine hbA.kp k2 (fun hm => ?_)
                      have hm' : (Value.slice oa O.length oc).ownBlock = some gg := by simpa using hm
                      obtain ⟨_, cur, hc⟩ := txA.block hm'
                      exact box_ne (show CBox gg cur 9 _ from hc) hbA (fun e => ht e.symm) rfl
                    have k02 : Kp [b] w W2 := ((unhide HT).kp.trans kA (by simp)).trans k2 (fun q hq => Or.inr (by have := ((unhide HT).tx.block (k := q) (by simpa using hq)).1; exact this))
                    have hv2 : RrV W2 b (.slice (some ⟨g, 0, none⟩) rc.early.length cap) rc := by
                      refine ⟨kO _ _ _ hv5.box (by decide), ?_⟩
                      obtain ⟨g1, g2 | ⟨g', cp', cur, e, hb', hh', q⟩⟩ := hv5.row
                      · exact ⟨g1, Or.inl g2⟩
                      · exact ⟨g1, Or.inr ⟨g', cp', cur, e, hb', kO _ _ _ (show CBox g' cur 87 wr from hh') (by decide), q⟩⟩
                    -- the one is taken out
                    obtain ⟨V, hV⟩ : ∃ V, V = W2.drew := ⟨_, rfl⟩
                    have kV : Kp [] W2 V := by rw [hV]; exact Kp.drew _
                    have hvV := hv2.kp kV
                    obtain ⟨J, hJ⟩ : ∃ J : Nat, J = i + 1 := ⟨_, rfl⟩
                    obtain ⟨nad, hnad⟩ : ∃ nad : Option Addr, nad = if cap = J then some ⟨g, 0, none⟩ else some ⟨g, J * 2, none⟩ := ⟨_, rfl⟩
                    obtain ⟨g1, c1, X1, run1, kX1, g2, c2, X2, run2, row2, kX2, hg2⟩ := er_cut hvV.row rfl i hi hcap (by omega) 53 53
                    rw [← hcut] at run2 row2
                    rw [← hJ, ← hnad] at run2
                    have kE := Kp.alloc V (.cells #[] 87)
                    have sV : V.cell? ⟨b, 3, none⟩ = some (.slice (some ⟨g, 0, none⟩) rc.early.length cap) := hvV.box.cell (i := 3) rfl
                    have sE : (V.alloc (.cells #[] 87)).cell? ⟨b, 3, none⟩ = some (.slice (some ⟨g, 0, none⟩) rc.early.length cap) := kE.cell sV (by simp)
                    have sX1 : X1.cell? ⟨b, 3, none⟩ = some (.slice (some ⟨g, 0, none⟩) rc.early.length cap) := kX1.cell sV (by simp)
                    have bX2 := hvV.box.kp kX2 (by simp)
                    have sX2 : X2.cell? ⟨b, 3, none⟩ = some (.slice (some ⟨g, 0, none⟩) rc.early.length cap) := bX2.cell (i := 3) rfl
                    have fX2 := bX2.froz 3
                    have b3 := bX2.set 3 (.slice (some ⟨g2, 0, none⟩) (erd rc.early rc.next).length c2)
                    have c2' : (X2.setCell ⟨b, 3, none⟩ (.slice (some ⟨g2, 0, none⟩) (erd rc.early rc.next).length c2)).cell? ⟨b, 2, none⟩ = some (.int .i64 (rc.next : Int)) := b3.cell (i := 2) rfl
                    have f2' := b3.froz 2
                    have b4 := b3.set 2 (.int .i64 ((rc.next : Int) + 1))
                    have hbg : b < g2 := by
                      have h1 := (Array.getElem?_eq_some_iff.1 hvV.box).1
                      omega
                    have HT4 : Hid (TkG w B b r1 ⟨rc.ep, rc.wd, rc.next + 1, erd rc.early rc.next⟩ (O ++ [x]) (.slice oa2 (O ++ [x]).length oc2) ((X2.setCell ⟨b, 3, none⟩ (.slice (some ⟨g2, 0, none⟩) (erd rc.early rc.next).length c2)).setCell ⟨b, 2, none⟩ (.int .i64 ((rc.next : Int) + 1)))) := hide (by
                      have kS : Kp [b] X2 ((X2.setCell ⟨b, 3, none⟩ (.slice (some ⟨g2, 0, none⟩) (erd rc.early rc.next).length c2)).setCell ⟨b, 2, none⟩ (.int .i64 ((rc.next : Int) + 1))) := (Kp.set X2 b 3 _).trans (Kp.set _ b 2 _) (by simp)
                      have k2X : Kp [] W2 X2 := kV.trans kX2 (by simp)
                      refine ⟨⟨.slice (some ⟨g2, 0, none⟩) (erd rc.early rc.next).length c2, ⟨?_, ?_⟩, fun k hk => ?_⟩, (tx2.kp k2X (by simp)).kp kS (fun k hk => ?_), (k02.trans k2X (by simp)).trans kS (by simp), hstep, (unhide HT).ep, (unhide HT).lr.trans hgo1, ?_, ?_⟩
                      · unfold rrC
                        dsimp only
                        rw [show ((rc.next + 1 : Nat) : Int) = (rc.next : Int) + 1 by omega]
                        exact b4
                      · refine ErRow.kp row2 kS (fun k hk => ?_)
                        simp [Value.ownBlock] at hk
                        subst hk
                        simp
                        omega
                      · simp [Value.ownBlock] at hk
                        subst hk
                        have h1 := k02.size
                        have h2 := kV.size
                        omega
                      · obtain ⟨_, cur, hc⟩ := (tx2.kp k2X (by simp)).block hk
                        simp only [List.mem_singleton]
                        exact box_ne (show CBox k cur 9 _ from hc) bX2 (by decide)
                      · rw [(unhide HT).lo, hgo2, List.append_assoc]
                        rfl
                      · have := (unhide HT).ln
                        dsimp only
                        rw [List.length_append, List.length_singleton]
                        omega)
                    obtain ⟨iv2, hiv2⟩ := fdV_any ⟨rc.ep, rc.wd, rc.next + 1, erd rc.early rc.next⟩
                    have FD4 : Hid (Calls Try.prog 34 #[.pointer (some ⟨b, 0, none⟩), .int .i64 ((rc.next : Int) + 1)] ((X2.setCell ⟨b, 3, none⟩ (.slice (some ⟨g2, 0, none⟩) (erd rc.early rc.next).length c2)).setCell ⟨b, 2, none⟩ (.int .i64 ((rc.next : Int) + 1))) fun e w' => e = .returned (.int .i64 iv2) ∧ w' = ((X2.setCell ⟨b, 3, none⟩ (.slice (some ⟨g2, 0, none⟩) (erd rc.early rc.next).length c2)).setCell ⟨b, 2, none⟩ (.int .i64 ((rc.next : Int) + 1)))) := hide (by
                      obtain ⟨v6, hv6, _⟩ := (unhide HT4).rr
                      have := rfind_any b v6 _ iv2 _ hv6 hiv2 hstep
                      dsimp only at this
                      rwa [show ((rc.next + 1 : Nat) : Int) = (rc.next : Int) + 1 by omega] at this)
                    have c24 : ((X2.setCell ⟨b, 3, none⟩ (.slice (some ⟨g2, 0, none⟩) (erd rc.early rc.next).length c2)).setCell ⟨b, 2, none⟩ (.int .i64 ((rc.next : Int) + 1))).cell? ⟨b, 2, none⟩ = some (.int .i64 ((rc.next : Int) + 1)) := b4.cell (i := 2) rfl
                    have HIV2 := hide hiv2
                    have hnx := hok5.n1
                    have hlen2 : (O ++ [x]).length + (erd rc.early rc.next).length ≤ r1.early.length := by rw [List.length_append, List.length_singleton]; omega
                    have hol : (O ++ [x]).length = O.length + 1 := by rw [List.length_append, List.length_singleton]
                    have HOL := hide hol
                    clear hol
                    have hil : (i : Int) < (rc.early.length : Int) := by omega
                    have hJw : IntKind.i64.wrap ((i : Int) + 1) = (J : Int) := by rw [hJ]; unfold IntKind.wrap; simp [IntKind.signed, go_sem]; omega
                    have hJb : (0 ≤ (J : Int) ∧ (J : Int) ≤ (rc.early.length : Int)) = True := eq_true (by omega)
                    have hJn : J ≤ rc.early.length := by omega
                    have hic : (i : Int) ≤ (cap : Int) := by omega
                    have hin : i ≤ cap := by omega
                    have hnad2 : (if cap = J then some (⟨g, 0, none⟩ : Addr) else some ⟨g, J * 2, none⟩) = nad := hnad.symm
                    have RUN12 := hide run12
                    have RUN1 := hide run1
                    have RUN2 := hide run2
                    have HV := hide hV
                    clear run12 run1 run2 hV hnad hiv2 hok5 hstep hxs hgo1 hgo2 hcut herl kA txA tx2 k2 hob kO k02 hv2 kV hvV row2 kX1 kX2 hg2 kE bX2 b3 b4 hbg hJ hv5 hb5 hix hbef hsome HT HF hi HEND hepb hfew
                    generalize hO2 : (O ++ [x]).length = ol2 at *
                    have HOL2 := hide hO2
                    clear hO2
                    generalize hE2 : (erd rc.early rc.next).length = el2 at *
                    have HEL2 := hide hE2
                    clear hE2
                    generalize rc.early.length = n at *
                    go_upto_region 12 with fail
                    go_wp2_with (at_builtin; refine wpList_app_run rfl _ _ 39 rfl rfl rfl (unhide RUN12) ?_)
                    refine wp_region_late (fun W => W.cell? ⟨b, 3, none⟩ = some (.slice (some ⟨g, 0, none⟩) n cap)) 19 (by kernel_rfl) ?_
                    rw [← unhide HV]
                    clear HV
                    show wpAnyL _ _ _ _ _ _ 20 (Array.replicate 20 false) _ _
                    refine wpAnyL_take3 (i := 0) (oi := { dst := some 110, op := Op.move (Operand.tmp 0), type := 35, pos := "ref.go:152", after := #[], guard := none }) (v := ?_) rfl (by kernel_rfl) (by kernel_rfl) (by kernel_rfl) (by kernel_rfl) (fun _ _ _ h => h) (Or.inl ⟨by rfl, ?_⟩) sV ?_
                    rotate_left 1
                    · intro w0 hSw
                      (try dsimp only at hSw)
                      go_simp
                      (try with_reducible rfl)
                    try simp only [Act.put, List.setIfInBounds_toArray, List.set_cons_zero, List.set_cons_succ]
                    refine wpAnyL_take3 (i := 2) (oi := { dst := some 112, op := Op.move (Operand.tmp 0), type := 35, pos := "ref.go:152", after := #[], guard := none }) (v := ?_) rfl (by kernel_rfl) (by kernel_rfl) (by kernel_rfl) (by kernel_rfl) (fun _ _ _ h => h) (Or.inl ⟨by rfl, ?_⟩) sV ?_
                    rotate_left 1
                    · intro w0 hSw
                      (try dsimp only at hSw)
                      go_simp
                      (try with_reducible rfl)
                    try simp only [Act.put, List.setIfInBounds_toArray, List.set_cons_zero, List.set_cons_succ]
                    refine wpAnyL_take3 (i := 3) (oi := { dst := some 113, op := Op.nilCheck (Operand.tmp 112), type := 0, pos := "ref.go:152", after := #[{ on := 2, ground := Ground.data }], guard := none }) (v := ?_) rfl (by kernel_rfl) (by kernel_rfl) (by kernel_rfl) (by kernel_rfl) (fun _ _ _ h => h) (Or.inl ⟨by rfl, ?_⟩) sV ?_
                    rotate_left 1
                    · intro w0 hSw
                      (try dsimp only at hSw)
                      go_simp
                      (try with_reducible rfl)
                    try simp only [Act.put, List.setIfInBounds_toArray, List.set_cons_zero, List.set_cons_succ]
                    refine wpAnyL_take3 (i := 4) (oi := { dst := some 114, op := Op.fieldAddr 55 (Operand.tmp 113) 3, type := 0, pos := "ref.go:152", after := #[{ on := 3, ground := Ground.data }], guard := none }) (v := ?_) rfl (by kernel_rfl) (by kernel_rfl) (by kernel_rfl) (by kernel_rfl) (fun _ _ _ h => h) (Or.inl ⟨by rfl, ?_⟩) sV ?_
                    rotate_left 1
                    · intro w0 hSw
                      (try dsimp only at hSw)
                      go_simp
                      (try with_reducible rfl)
                    try simp only [Act.put, List.setIfInBounds_toArray, List.set_cons_zero, List.set_cons_succ]
                    refine wpAnyL_take3 (i := 5) (oi := { dst := some 115, op := Op.load 53 (Operand.tmp 114), type := 53, pos := "ref.go:152", after := #[{ on := 4, ground := Ground.data }], guard := none }) (v := ?_) rfl (by kernel_rfl) (by kernel_rfl) (by kernel_rfl) (by kernel_rfl) (fun _ _ _ h => h) (Or.inl ⟨by rfl, ?_⟩) sV ?_
                    rotate_left 1
                    · intro w0 hSw
                      (try dsimp only at hSw)
                      go_simp
                      (try with_reducible rfl)
                    try simp only [Act.put, List.setIfInBounds_toArray, List.set_cons_zero, List.set_cons_succ]
                    refine wpAnyL_take3 (i := 6) (oi := { dst := some 116, op := Op.move (Operand.tmp 12), type := 3, pos := "ref.go:152", after := #[], guard := none }) (v := ?_) rfl (by kernel_rfl) (by kernel_rfl) (by kernel_rfl) (by kernel_rfl) (fun _ _ _ h => h) (Or.inl ⟨by rfl, ?_⟩) sV ?_
                    rotate_left 1
                    · intro w0 hSw
                      (try dsimp only at hSw)
                      go_simp
                      (try with_reducible rfl)
                    try simp only [Act.put, List.setIfInBounds_toArray, List.set_cons_zero, List.set_cons_succ]
                    refine wpAnyL_take3 (i := 7) (oi := { dst := some 117, op := Op.slice 53 (Operand.tmp 115) none (some (Operand.tmp 116)) none, type := 53, pos := "ref.go:152", after := #[{ on := 5, ground := Ground.data }, { on := 6, ground := Ground.data }], guard := none }) (v := ?_) rfl (by kernel_rfl) (by kernel_rfl) (by kernel_rfl) (by kernel_rfl) (fun _ _ _ h => h) (Or.inl ⟨by rfl, ?_⟩) sV ?_
                    rotate_left 1
                    · intro w0 hSw
                      (try dsimp only at hSw)
                      go_simp
                      (try with_reducible rfl)
                    try simp only [Act.put, List.setIfInBounds_toArray, List.set_cons_zero, List.set_cons_succ]
                    refine wpAnyL_take3 (i := 9) (oi := { dst := some 119, op := Op.move (Operand.tmp 0), type := 35, pos := "ref.go:152", after := #[], guard := none }) (v := ?_) rfl (by kernel_rfl) (by kernel_rfl) (by kernel_rfl) (by kernel_rfl) (fun _ _ _ h => h) (Or.inl ⟨by rfl, ?_⟩) sV ?_
                    rotate_left 1
                    · intro w0 hSw
                      (try dsimp only at hSw)
                      go_simp
                      (try with_reducible rfl)
                    try simp only [Act.put, List.setIfInBounds_toArray, List.set_cons_zero, List.set_cons_succ]
                    refine wpAnyL_take3 (i := 10) (oi := { dst := some 120, op := Op.nilCheck (Operand.tmp 119), type := 0, pos := "ref.go:152", after := #[{ on := 9, ground := Ground.data }], guard := none }) (v := ?_) rfl (by kernel_rfl) (by kernel_rfl) (by kernel_rfl) (by kernel_rfl) (fun _ _ _ h => h) (Or.inl ⟨by rfl, ?_⟩) sV ?_
                    rotate_left 1
                    · intro w0 hSw
                      (try dsimp only at hSw)
                      go_simp
                      (try with_reducible rfl)
                    try simp only [Act.put, List.setIfInBounds_toArray, List.set_cons_zero, List.set_cons_succ]
                    refine wpAnyL_take3 (i := 11) (oi := { dst := some 121, op := Op.fieldAddr 55 (Operand.tmp 120) 3, type := 0, pos := "ref.go:152", after := #[{ on := 10, ground := Ground.data }], guard := none }) (v := ?_) rfl (by kernel_rfl) (by kernel_rfl) (by kernel_rfl) (by kernel_rfl) (fun _ _ _ h => h) (Or.inl ⟨by rfl, ?_⟩) sV ?_
                    rotate_left 1
                    · intro w0 hSw
                      (try dsimp only at hSw)
                      go_simp
                      (try with_reducible rfl)
                    try simp only [Act.put, List.setIfInBounds_toArray, List.set_cons_zero, List.set_cons_succ]
                    refine wpAnyL_take3 (i := 12) (oi := { dst := some 122, op := Op.load 53 (Operand.tmp 121), type := 53, pos := "ref.go:152", after := #[{ on := 11, ground := Ground.data }], guard := none }) (v := ?_) rfl (by kernel_rfl) (by kernel_rfl) (by kernel_rfl) (by kernel_rfl) (fun _ _ _ h => h) (Or.inl ⟨by rfl, ?_⟩) sV ?_
                    rotate_left 1
                    · intro w0 hSw
                      (try dsimp only at hSw)
                      go_simp
                      (try with_reducible rfl)
                    try simp only [Act.put, List.setIfInBounds_toArray, List.set_cons_zero, List.set_cons_succ]
                    refine wpAnyL_take3 (i := 13) (oi := { dst := some 123, op := Op.move (Operand.tmp 12), type := 3, pos := "ref.go:152", after := #[], guard := none }) (v := ?_) rfl (by kernel_rfl) (by kernel_rfl) (by kernel_rfl) (by kernel_rfl) (fun _ _ _ h => h) (Or.inl ⟨by rfl, ?_⟩) sV ?_
                    rotate_left 1
                    · intro w0 hSw
                      (try dsimp only at hSw)
                      go_simp
                      (try with_reducible rfl)
                    try simp only [Act.put, List.setIfInBounds_toArray, List.set_cons_zero, List.set_cons_succ]
                    refine wpAnyL_take3 (i := 14) (oi := { dst := some 124, op := Op.binOp BinOp.add 3 (Operand.tmp 123) (Operand.const (Value.int IntKind.i64 1)) 3, type := 3, pos := "ref.go:152", after := #[{ on := 13, ground := Ground.data }], guard := none }) (v := ?_) rfl (by kernel_rfl) (by kernel_rfl) (by kernel_rfl) (by kernel_rfl) (fun _ _ _ h => h) (Or.inl ⟨by rfl, ?_⟩) sV ?_
                    rotate_left 1
                    · intro w0 hSw
                      (try dsimp only at hSw)
                      go_simp
                      (try with_reducible rfl)
                    try simp only [Act.put, List.setIfInBounds_toArray, List.set_cons_zero, List.set_cons_succ]
                    refine wpAnyL_take3 (i := 15) (oi := { dst := some 125, op := Op.slice 53 (Operand.tmp 122) (some (Operand.tmp 124)) none none, type := 53, pos := "ref.go:152", after := #[{ on := 12, ground := Ground.data }, { on := 14, ground := Ground.data }], guard := none }) (v := ?_) rfl (by kernel_rfl) (by kernel_rfl) (by kernel_rfl) (by kernel_rfl) (fun _ _ _ h => h) (Or.inl ⟨by rfl, ?_⟩) sV ?_
                    rotate_left 1
                    · intro w0 hSw
                      (try dsimp only at hSw)
                      go_simp
                      (try with_reducible rfl)
                    try simp only [Act.put, List.setIfInBounds_toArray, List.set_cons_zero, List.set_cons_succ]
                    refine wpAnyL_one (i := 1) (o := { dst := some 111, op := Op.buildSlice 53 0 #[], type := 53, pos := "ref.go:152", after := #[], guard := none }) rfl (by kernel_rfl) (fun K hK => ?_)
                    go_simp
                    refine hK _ _ (Or.inr sE) ?_
                    clear hK K
                    try simp only [Act.put, List.setIfInBounds_toArray, List.set_cons_zero, List.set_cons_succ]
                    refine wpAnyL_one (i := 8) (o := { dst := some 118, op := Op.call { callee := Callee.builtin Builtin.append, args := #[Operand.tmp 111, Operand.tmp 117], argTypes := #[53, 53] }, type := 53, pos := "ref.go:152", after := #[{ on := 1, ground := Ground.data }, { on := 7, ground := Ground.data }], guard := none }) rfl (by kernel_rfl) (fun K hK => ?_)
                    refine step_app_run rfl (.tmp 111) (.tmp 117) 53 rfl rfl rfl (unhide RUN1) ?_
                    refine hK _ _ (Or.inr sX1) ?_
                    clear hK K
                    try simp only [Act.put, List.setIfInBounds_toArray, List.set_cons_zero, List.set_cons_succ]
                    refine wpAnyL_one (i := 16) (o := { dst := some 126, op := Op.call { callee := Callee.builtin Builtin.append, args := #[Operand.tmp 118, Operand.tmp 125], argTypes := #[53, 53] }, type := 53, pos := "ref.go:152", after := #[{ on := 8, ground := Ground.data }, { on := 15, ground := Ground.data }, { on := 8, ground := Ground.chain }], guard := none }) rfl (by kernel_rfl) (fun K hK => ?_)
                    refine step_app_run rfl (.tmp 118) (.tmp 125) 53 rfl rfl rfl (unhide RUN2) ?_
                    refine hK _ _ (Or.inr sX2) ?_
                    clear hK K
                    try simp only [Act.put, List.setIfInBounds_toArray, List.set_cons_zero, List.set_cons_succ]
                    refine wpAnyL_one (i := 17) (o := { dst := some 127, op := Op.nilCheck (Operand.tmp 110), type := 0, pos := "ref.go:152", after := #[{ on := 0, ground := Ground.data }, { on := 0, ground := Ground.phase }, { on := 1, ground := Ground.phase }, { on := 2, ground := Ground.phase }, { on := 3, ground := Ground.phase }, { on := 4, ground := Ground.phase }, { on := 5, ground := Ground.phase }, { on := 6, ground := Ground.phase }, { on := 7, ground := Ground.phase }, { on := 8, ground := Ground.phase }, { on := 9, ground := Ground.phase }, { on := 10, ground := Ground.phase }, { on := 11, ground := Ground.phase }, { on := 12, ground := Ground.phase }, { on := 13, ground := Ground.phase }, { on := 14, ground := Ground.phase }, { on := 15, ground := Ground.phase }, { on := 16, ground := Ground.phase }], guard := none }) rfl (by kernel_rfl) (fun K hK => ?_)
                    go_simp
                    refine hK _ _ (Or.inr sX2) ?_
                    clear hK K
                    try simp only [Act.put, List.setIfInBounds_toArray, List.set_cons_zero, List.set_cons_succ]
                    refine wpAnyL_one (i := 18) (o := { dst := some 128, op := Op.fieldAddr 55 (Operand.tmp 127) 3, type := 0, pos := "ref.go:152", after := #[{ on := 17, ground := Ground.data }, { on := 0, ground := Ground.phase }, { on := 1, ground := Ground.phase }, { on := 2, ground := Ground.phase }, { on := 3, ground := Ground.phase }, { on := 4, ground := Ground.phase }, { on := 5, ground := Ground.phase }, { on := 6, ground := Ground.phase }, { on := 7, ground := Ground.phase }, { on := 8, ground := Ground.phase }, { on := 9, ground := Ground.phase }, { on := 10, ground := Ground.phase }, { on := 11, ground := Ground.phase }, { on := 12, ground := Ground.phase }, { on := 13, ground := Ground.phase }, { on := 14, ground := Ground.phase }, { on := 15, ground := Ground.phase }, { on := 16, ground := Ground.phase }], guard := none }) rfl (by kernel_rfl) (fun K hK => ?_)
                    go_simp
                    refine hK _ _ (Or.inr sX2) ?_
                    clear hK K
                    try simp only [Act.put, List.setIfInBounds_toArray, List.set_cons_zero, List.set_cons_succ]
                    refine wpAnyL_one (i := 19) (o := { dst := none, op := Op.store 53 (Operand.tmp 128) (Operand.tmp 126), type := 0, pos := "ref.go:152", after := #[{ on := 18, ground := Ground.data }, { on := 16, ground := Ground.data }, { on := 16, ground := Ground.chain }, { on := 0, ground := Ground.phase }, { on := 1, ground := Ground.phase }, { on := 2, ground := Ground.phase }, { on := 3, ground := Ground.phase }, { on := 4, ground := Ground.phase }, { on := 5, ground := Ground.phase }, { on := 6, ground := Ground.phase }, { on := 7, ground := Ground.phase }, { on := 8, ground := Ground.phase }, { on := 9, ground := Ground.phase }, { on := 10, ground := Ground.phase }, { on := 11, ground := Ground.phase }, { on := 12, ground := Ground.phase }, { on := 13, ground := Ground.phase }, { on := 14, ground := Ground.phase }, { on := 15, ground := Ground.phase }, { on := 16, ground := Ground.phase }], guard := none }) rfl (by kernel_rfl) (fun K hK => ?_)
                    go_simp
                    refine hK _ _ (Or.inl rfl) ?_
                    clear hK K
                    try simp only [Act.put, List.setIfInBounds_toArray, List.set_cons_zero, List.set_cons_succ]
                    refine wpAnyL_done (by kernel_rfl) ?_ _
                    clear RUN12 RUN1 RUN2 sV sE sX1 sX2 fX2
                    go_wp2_with fail
                    refine (unhide FD4).mono ?_
                    rintro e w6 ⟨rfl, hw6⟩
                    obtain rfl := hw6.symm
                    clear FD4 c24 c2' f2'
                    go_wp2
                    go_roundw
                    case rel => exact ⟨_, O ++ [x], iv2, by go_num, ⟨oa2, oc2, by rw [unhide HOL2]⟩, by rw [unhide HOL2]; dsimp only; rw [unhide HEL2]; exact hlen2, HIV2, HT4⟩
                    case measure => have := unhide HOL; have := unhide HOL2; simp [slN]; omega
            · have q2 : decide ((N : Int) < (r.next : Int) + (r.wd : Int)) = false := decide_eq_false (by omega)
              have hr1 : lkR r N d.s = r := by unfold lkR; rw [if_neg (fun hx => by omega)]
              go_quiet (fail)
              clear q1 q1n q2 c1 c2
              have HT0 : Hid (TkG w B b r1 r1 [] (.slice none 0 0) (w1.drewN nq)) := hide (by
                obtain rfl : r1 = r := (unhide HR1).symm.trans hr1
                exact ⟨⟨v0, (unhide HD1).kp (Kp.drewQ _ _), unhide HBV⟩, TxO.nil _ _, ((unhide K1).trans (Kp.drewQ _ _) (by simp)).mono (by simp), unhide HOK, rfl, rfl, rfl, by simp⟩)
              clear hr1 X11 HD1 HOK CE
              generalize w1.drewN nq = W1 at *
              have HEND : Hid (∀ rc O ov W, TkG w B b r1 rc O ov W → erl rc.early rc.next = none → TxO w.heap.size W ov LO ∧ RrAt B W b LR ∧ Ko rrO B w W ∧ AK = ackB rc.ep (rc.next : Int) ∧ rc.ep = r.ep) := hide (fun rc O ov W ht hno => by
                obtain ⟨e1, e2⟩ := lgR_stop hno
                obtain ⟨v, h1, h2⟩ := ht.rr
                have e3 := ht.lr
                rw [e1, ← unhide HLR] at e3
                have e4 := ht.lo
                rw [e2, List.append_nil, ← unhide HLO] at e4
                have e5 : rc.ep = r.ep := by rw [ht.ep]; exact unhide HEP1
                rw [unhide HAK, e3, e4, ← e5]
                exact ⟨ht.tx, (rr_step (unhide HV0) hB ht.kp h1 h2).1, (rr_step (unhide HV0) hB ht.kp h1 h2).2, rfl, rfl⟩)
              have hepb : 0 ≤ r.ep ∧ r.ep ≤ 1073741824 := ⟨by have := (unhide HOK1).e0; rw [unhide HEP1] at this; exact this, by have := (unhide HOK1).e1; rw [unhide HEP1] at this; exact this⟩
              have hfew1 := (unhide HOK1).few
              clear HLR HLO HAK HEP1 HR1
              obtain ⟨iv, hiv⟩ := fdV_any r1
              have FD0 := hide (fun W (ht : TkG w B b r1 r1 [] (.slice none 0 0) W) v (hv : RrV W b v r1) => rfind_any b v r1 iv W hv hiv ht.ok)
              have C20 : Hid (∀ W, TkG w B b r1 r1 [] (.slice none 0 0) W → W.cell? ⟨b, 2, none⟩ = some (.int .i64 (r1.next : Int))) := hide (fun W ht => by obtain ⟨v, h1, _⟩ := ht.rr; exact h1.box.cell rfl)
              have c2 := unhide C20 _ (unhide HT0)
              have FD1 : Hid (Calls Try.prog 34 #[.pointer (some ⟨b, 0, none⟩), .int .i64 (r1.next : Int)] W1 fun e w' => e = .returned (.int .i64 iv) ∧ w' = W1) := hide (by
                obtain ⟨v, hv, _⟩ := (unhide HT0).rr
                exact unhide FD0 _ (unhide HT0) v hv)
              clear FD0 C20 HV0 HOK1 hn1 hw1 hfew hNl
              go_wp2_with fail
              refine (unhide FD1).mono ?_
              rintro e w3 ⟨rfl, hw3⟩
              obtain rfl := hw3.symm
              clear FD1 c2
              go_wp2_with fail
              go_loopw [11, 12] (fun ov jv wr => ∃ (rc : Rcv) (O : List ByteArray) (i : Int), jv = .int .i64 i ∧ (∃ oa oc, ov = .slice oa O.length oc) ∧ O.length + rc.early.length ≤ r1.early.length ∧ Hid (FdV rc i) ∧ Hid (TkG w B b r1 rc O ov wr)) (fun ov _ _ => r1.early.length - slN ov)
              case atStart => exact ⟨r1, [], iv, rfl, ⟨none, 0, rfl⟩, by simp, hide hiv, HT0⟩
              case round =>
                clear HT0 hiv
                obtain ⟨rc, O, i, rfl, ⟨oa, oc, rfl⟩, hln, HF, HT⟩ := hrel
                rcases unhide HF with ⟨hno, rfl⟩ | ⟨i, hi, x, hsome, hix, rfl, hbef⟩
                · obtain ⟨f1, f2, f3, f4, f5⟩ := unhide HEND rc O _ _ (unhide HT) hno
                  have HFIN := hide (And.intro f1 (And.intro f2 f3))
                  obtain ⟨a0, a2⟩ : wr.cell? ⟨b, 0, none⟩ = some (.int .i64 r.ep) ∧ wr.cell? ⟨b, 2, none⟩ = some (.int .i64 (rc.next : Int)) := by
                    obtain ⟨v, h1, _⟩ := (unhide HT).rr
                    rw [← f5]
                    exact ⟨h1.box.cell rfl, h1.box.cell rfl⟩
                  have hnx := (unhide HT).ok.n1
                  have AC : Hid (∀ W, Calls Try.prog 35 #[.int .i64 r.ep, .int .i64 (rc.next : Int)] W fun e w' => e = .returned (.string AK) ∧ Below W.heap.size W w') := hide (fun W => by
                    rw [f4, f5]
                    exact rAck_any r.ep (rc.next : Int) W hepb.1 hepb.2 (by omega) (by omega))
                  have OUT : Hid (∀ W, Kp [] wr W → TxO w.heap.size W (.slice oa O.length oc) LO ∧ RrAt B W b LR ∧ Ko rrO B w W) := hide (fun W hk => ⟨(unhide HFIN).1.kp hk (by simp), (unhide HFIN).2.1.kp hk, (unhide HFIN).2.2.trans (Ko.nil hk)⟩)
                  have KEEP : Hid (∀ W, Kp [] wr W → W.cell? ⟨b, 0, none⟩ = some (.int .i64 r.ep) ∧ W.cell? ⟨b, 2, none⟩ = some (.int .i64 (rc.next : Int))) := hide (fun W hk => ⟨hk.cell a0 (by simp), hk.cell a2 (by simp)⟩)
                  clear f1 f2 f3 f4 f5 HFIN HF HT HEND hno hln hepb
                  generalize r.ep = E0 at *
                  generalize rc.next = NX at *
                  generalize O.length = ol at *
                  have y0 := unhide KEEP _ (Kp.drew wr)
                  go_wp2_with fail
                  go_region_held3 (fun W => W.cell? ⟨b, 0, none⟩ = some (.int .i64 E0) ∧ W.cell? ⟨b, 2, none⟩ = some (.int .i64 (NX : Int))) (first | with_reducible exact y0 | with_reducible exact y1 | exact ⟨a0, a2⟩)
                    (first
                      | (go_at_call 35; refine (unhide AC _).mono ?_; rintro _ w7 ⟨rfl, k7⟩; have K7 := hide ((Kp.drew wr).trans (Kp.ofBelow k7) (by simp)); have y1 := unhide KEEP _ (unhide K7); clear k7))
                  go_wp2
                  go_ret3
                  exact ⟨_, rfl, unhide OUT _ (unhide K7)⟩
                · have hio : (0 : Int) ≤ (i : Int) := by omega
                  obtain ⟨v5, hv5, hb5⟩ := (unhide HT).rr
                  have hok5 := (unhide HT).ok
                  have hfew := hok5.few
                  obtain ⟨g, cap, rfl, hcap, hcapm⟩ : ∃ g cap, v5 = .slice (some ⟨g, 0, none⟩) rc.early.length cap ∧ rc.early.length ≤ cap ∧ cap ≤ 9223372036854775807 := by
                    rcases hv5.row.form with ⟨_, e⟩ | h5
                    · rw [e] at hi; cases hi
                    · exact h5
                  have c3 : wr.cell? ⟨b, 3, none⟩ = some (.slice (some ⟨g, 0, none⟩) rc.early.length cap) := hv5.box.cell (i := 3) rfl
                  have xi : wr.cell? ⟨g, i * 2 + 1, none⟩ = some (.string x) := by
                    have := (hv5.row.cell i hi).2
                    rwa [hix] at this
                  obtain ⟨hstep, hxs⟩ := hok5.step hsome
                  obtain ⟨hgo1, hgo2⟩ := lgR_go hsome
                  have hcut := erd_at hok5.nd hi (by rw [hix])
                  have herl := erd_len hsome
                  -- the text is put behind
                  have kA := Kp.alloc wr (.cells #[.string x] 9)
                  have txA := (unhide HT).tx.kp kA (by simp)
                  obtain ⟨vO, W2, run12, tx2, k2, hob⟩ := txA.push (by have := (unhide HT).kp.size; rw [World.size_alloc]; omega) (CBox.new wr #[.string x] 9) (by omega) 39
                  obtain ⟨oa2, oc2, rfl, _⟩ := tx2.form
                  have kO : ∀ (gg : Nat) (cs : Array Value) (tt : TypeId), CBox gg cs tt wr → tt ≠ 9 → CBox gg cs tt W2 := fun gg cs tt hbx ht => by
                    have hbA := hbx.kp kA (by simp)
                    refine hbA.kp k2 (fun hm => ?_)
                    have hm' : (Value.slice oa O.length oc).ownBlock = some gg := by simpa using hm
                    obtain ⟨_, cur, hc⟩ := txA.block hm'
                    exact box_ne (show CBox gg cur 9 _ from hc) hbA (fun e => ht e.symm) rfl
                  have k02 : Kp [b] w W2 := ((unhide HT).kp.trans kA (by simp)).trans k2 (fun q hq => Or.inr (by have := ((unhide HT).tx.block (k := q) (by simpa using hq)).1; exact this))
                  have hv2 : RrV W2 b (.slice (some ⟨g, 0, none⟩) rc.early.length cap) rc := by
                    refine ⟨kO _ _ _ hv5.box (by decide), ?_⟩
                    obtain ⟨g1, g2 | ⟨g', cp', cur, e, hb', hh', q⟩⟩ := hv5.row
                    · exact ⟨g1, Or.inl g2⟩
                    · exact ⟨g1, Or.inr ⟨g', cp', cur, e, hb', kO _ _ _ (show CBox g' cur 87 wr from hh') (by decide), q⟩⟩
                  -- the one is taken out
                  obtain ⟨V, hV⟩ : ∃ V, V = W2.drew := ⟨_, rfl⟩
                  have kV : Kp [] W2 V := by rw [hV]; exact Kp.drew _
                  have hvV := hv2.kp kV
                  obtain ⟨J, hJ⟩ : ∃ J : Nat, J = i + 1 := ⟨_, rfl⟩
                  obtain ⟨nad, hnad⟩ : ∃ nad : Option Addr, nad = if cap = J then some ⟨g, 0, none⟩ else some ⟨g, J * 2, none⟩ := ⟨_, rfl⟩
                  obtain ⟨g1, c1, X1, run1, kX1, g2, c2, X2, run2, row2, kX2, hg2⟩ := er_cut hvV.row rfl i hi hcap (by omega) 53 53
                  rw [← hcut] at run2 row2
                  rw [← hJ, ← hnad] at run2
                  have kE := Kp.alloc V (.cells #[] 87)
                  have sV : V.cell? ⟨b, 3, none⟩ = some (.slice (some ⟨g, 0, none⟩) rc.early.length cap) := hvV.box.cell (i := 3) rfl
                  have sE : (V.alloc (.cells #[] 87)).cell? ⟨b, 3, none⟩ = some (.slice (some ⟨g, 0, none⟩) rc.early.length cap) := kE.cell sV (by simp)
                  have sX1 : X1.cell? ⟨b, 3, none⟩ = some (.slice (some ⟨g, 0, none⟩) rc.early.length cap) := kX1.cell sV (by simp)
                  have bX2 := hvV.box.kp kX2 (by simp)
                  have sX2 : X2.cell? ⟨b, 3, none⟩ = some (.slice (some ⟨g, 0, none⟩) rc.early.length cap) := bX2.cell (i := 3) rfl
                  have fX2 := bX2.froz 3
                  have b3 := bX2.set 3 (.slice (some ⟨g2, 0, none⟩) (erd rc.early rc.next).length c2)
                  have c2' : (X2.setCell ⟨b, 3, none⟩ (.slice (some ⟨g2, 0, none⟩) (erd rc.early rc.next).length c2)).cell? ⟨b, 2, none⟩ = some (.int .i64 (rc.next : Int)) := b3.cell (i := 2) rfl
                  have f2' := b3.froz 2
                  have b4 := b3.set 2 (.int .i64 ((rc.next : Int) + 1))
                  have hbg : b < g2 := by
                    have h1 := (Array.getElem?_eq_some_iff.1 hvV.box).1
                    omega
                  have HT4 : Hid (TkG w B b r1 ⟨rc.ep, rc.wd, rc.next + 1, erd rc.early rc.next⟩ (O ++ [x]) (.slice oa2 (O ++ [x]).length oc2) ((X2.setCell ⟨b, 3, none⟩ (.slice (some ⟨g2, 0, none⟩) (erd rc.early rc.next).length c2)).setCell ⟨b, 2, none⟩ (.int .i64 ((rc.next : Int) + 1)))) := hide (by
                    have kS : Kp [b] X2 ((X2.setCell ⟨b, 3, none⟩ (.slice (some ⟨g2, 0, none⟩) (erd rc.early rc.next).length c2)).setCell ⟨b, 2, none⟩ (.int .i64 ((rc.next : Int) + 1))) := (Kp.set X2 b 3 _).trans (Kp.set _ b 2 _) (by simp)
                    have k2X : Kp [] W2 X2 := kV.trans kX2 (by simp)
                    refine ⟨⟨.slice (some ⟨g2, 0, none⟩) (erd rc.early rc.next).length c2, ⟨?_, ?_⟩, fun k hk => ?_⟩, (tx2.kp k2X (by simp)).kp kS (fun k hk => ?_), (k02.trans k2X (by simp)).trans kS (by simp), hstep, (unhide HT).ep, (unhide HT).lr.trans hgo1, ?_, ?_⟩
                    · unfold rrC
                      dsimp only
                      rw [show ((rc.next + 1 : Nat) : Int) = (rc.next : Int) + 1 by omega]
                      exact b4
                    · refine ErRow.kp row2 kS (fun k hk => ?_)
                      simp [Value.ownBlock] at hk
                      subst hk
                      simp
                      omega
                    · simp [Value.ownBlock] at hk
                      subst hk
                      have h1 := k02.size
                      have h2 := kV.size
                      omega
                    · obtain ⟨_, cur, hc⟩ := (tx2.kp k2X (by simp)).block hk
                      simp only [List.mem_singleton]
                      exact box_ne (show CBox k cur 9 _ from hc) bX2 (by decide)
                    · rw [(unhide HT).lo, hgo2, List.append_assoc]
                      rfl
                    · have := (unhide HT).ln
                      dsimp only
                      rw [List.length_append, List.length_singleton]
                      omega)
                  obtain ⟨iv2, hiv2⟩ := fdV_any ⟨rc.ep, rc.wd, rc.next + 1, erd rc.early rc.next⟩
                  have FD4 : Hid (Calls Try.prog 34 #[.pointer (some ⟨b, 0, none⟩), .int .i64 ((rc.next : Int) + 1)] ((X2.setCell ⟨b, 3, none⟩ (.slice (some ⟨g2, 0, none⟩) (erd rc.early rc.next).length c2)).setCell ⟨b, 2, none⟩ (.int .i64 ((rc.next : Int) + 1))) fun e w' => e = .returned (.int .i64 iv2) ∧ w' = ((X2.setCell ⟨b, 3, none⟩ (.slice (some ⟨g2, 0, none⟩) (erd rc.early rc.next).length c2)).setCell ⟨b, 2, none⟩ (.int .i64 ((rc.next : Int) + 1)))) := hide (by
                    obtain ⟨v6, hv6, _⟩ := (unhide HT4).rr
                    have := rfind_any b v6 _ iv2 _ hv6 hiv2 hstep
                    dsimp only at this
                    rwa [show ((rc.next + 1 : Nat) : Int) = (rc.next : Int) + 1 by omega] at this)
                  have c24 : ((X2.setCell ⟨b, 3, none⟩ (.slice (some ⟨g2, 0, none⟩) (erd rc.early rc.next).length c2)).setCell ⟨b, 2, none⟩ (.int .i64 ((rc.next : Int) + 1))).cell? ⟨b, 2, none⟩ = some (.int .i64 ((rc.next : Int) + 1)) := b4.cell (i := 2) rfl
                  have HIV2 := hide hiv2
                  have hnx := hok5.n1
                  have hlen2 : (O ++ [x]).length + (erd rc.early rc.next).length ≤ r1.early.length := by rw [List.length_append, List.length_singleton]; omega
                  have hol : (O ++ [x]).length = O.length + 1 := by rw [List.length_append, List.length_singleton]
                  have HOL := hide hol
                  clear hol
                  have hil : (i : Int) < (rc.early.length : Int) := by omega
                  have hJw : IntKind.i64.wrap ((i : Int) + 1) = (J : Int) := by rw [hJ]; unfold IntKind.wrap; simp [IntKind.signed, go_sem]; omega
                  have hJb : (0 ≤ (J : Int) ∧ (J : Int) ≤ (rc.early.length : Int)) = True := eq_true (by omega)
                  have hJn : J ≤ rc.early.length := by omega
                  have hic : (i : Int) ≤ (cap : Int) := by omega
                  have hin : i ≤ cap := by omega
                  have hnad2 : (if cap = J then some (⟨g, 0, none⟩ : Addr) else some ⟨g, J * 2, none⟩) = nad := hnad.symm
                  have RUN12 := hide run12
                  have RUN1 := hide run1
                  have RUN2 := hide run2
                  have HV := hide hV
                  clear run12 run1 run2 hV hnad hiv2 hok5 hstep hxs hgo1 hgo2 hcut herl kA txA tx2 k2 hob kO k02 hv2 kV hvV row2 kX1 kX2 hg2 kE bX2 b3 b4 hbg hJ hv5 hb5 hix hbef hsome HT HF hi HEND hepb hfew
                  generalize hO2 : (O ++ [x]).length = ol2 at *
                  have HOL2 := hide hO2
                  clear hO2
                  generalize hE2 : (erd rc.early rc.next).length = el2 at *
                  have HEL2 := hide hE2
                  clear hE2
                  generalize rc.early.length = n at *
                  go_upto_region 12 with fail
                  go_wp2_with (at_builtin; refine wpList_app_run rfl _ _ 39 rfl rfl rfl (unhide RUN12) ?_)
                  refine wp_region_late (fun W => W.cell? ⟨b, 3, none⟩ = some (.slice (some ⟨g, 0, none⟩) n cap)) 19 (by kernel_rfl) ?_
                  rw [← unhide HV]
                  clear HV
                  show wpAnyL _ _ _ _ _ _ 20 (Array.replicate 20 false) _ _
                  refine wpAnyL_take3 (i := 0) (oi := { dst := some 110, op := Op.move (Operand.tmp 0), type := 35, pos := "ref.go:152", after := #[], guard := none }) (v := ?_) rfl (by kernel_rfl) (by kernel_rfl) (by kernel_rfl) (by kernel_rfl) (fun _ _ _ h => h) (Or.inl ⟨by rfl, ?_⟩) sV ?_
                  rotate_left 1
                  · intro w0 hSw
                    (try dsimp only at hSw)
                    go_simp
                    (try with_reducible rfl)
                  try simp only [Act.put, List.setIfInBounds_toArray, List.set_cons_zero, List.set_cons_succ]
                  refine wpAnyL_take3 (i := 2) (oi := { dst := some 112, op := Op.move (Operand.tmp 0), type := 35, pos := "ref.go:152", after := #[], guard := none }) (v := ?_) rfl (by kernel_rfl) (by kernel_rfl) (by kernel_rfl) (by kernel_rfl) (fun _ _ _ h => h) (Or.inl ⟨by rfl, ?_⟩) sV ?_
                  rotate_left 1
                  · intro w0 hSw
                    (try dsimp only at hSw)
                    go_simp
                    (try with_reducible rfl)
                  try simp only [Act.put, List.setIfInBounds_toArray, List.set_cons_zero, List.set_cons_succ]
                  refine wpAnyL_take3 (i := 3) (oi := { dst := some 113, op := Op.nilCheck (Operand.tmp 112), type := 0, pos := "ref.go:152", after := #[{ on := 2, ground := Ground.data }], guard := none }) (v := ?_) rfl (by kernel_rfl) (by kernel_rfl) (by kernel_rfl) (by kernel_rfl) (fun _ _ _ h => h) (Or.inl ⟨by rfl, ?_⟩) sV ?_
                  rotate_left 1
                  · intro w0 hSw
                    (try dsimp only at hSw)
                    go_simp
                    (try with_reducible rfl)
                  try simp only [Act.put, List.setIfInBounds_toArray, List.set_cons_zero, List.set_cons_succ]
                  refine wpAnyL_take3 (i := 4) (oi := { dst := some 114, op := Op.fieldAddr 55 (Operand.tmp 113) 3, type := 0, pos := "ref.go:152", after := #[{ on := 3, ground := Ground.data }], guard := none }) (v := ?_) rfl (by kernel_rfl) (by kernel_rfl) (by kernel_rfl) (by kernel_rfl) (fun _ _ _ h => h) (Or.inl ⟨by rfl, ?_⟩) sV ?_
                  rotate_left 1
                  · intro w0 hSw
                    (try dsimp only at hSw)
                    go_simp
                    (try with_reducible rfl)
                  try simp only [Act.put, List.setIfInBounds_toArray, List.set_cons_zero, List.set_cons_succ]
                  refine wpAnyL_take3 (i := 5) (oi := { dst := some 115, op := Op.load 53 (Operand.tmp 114), type := 53, pos := "ref.go:152", after := #[{ on := 4, ground := Ground.data }], guard := none }) (v := ?_) rfl (by kernel_rfl) (by kernel_rfl) (by kernel_rfl) (by kernel_rfl) (fun _ _ _ h => h) (Or.inl ⟨by rfl, ?_⟩) sV ?_
                  rotate_left 1
                  · intro w0 hSw
                    (try dsimp only at hSw)
                    go_simp
                    (try with_reducible rfl)
                  try simp only [Act.put, List.setIfInBounds_toArray, List.set_cons_zero, List.set_cons_succ]
                  refine wpAnyL_take3 (i := 6) (oi := { dst := some 116, op := Op.move (Operand.tmp 12), type := 3, pos := "ref.go:152", after := #[], guard := none }) (v := ?_) rfl (by kernel_rfl) (by kernel_rfl) (by kernel_rfl) (by kernel_rfl) (fun _ _ _ h => h) (Or.inl ⟨by rfl, ?_⟩) sV ?_
                  rotate_left 1
                  · intro w0 hSw
                    (try dsimp only at hSw)
                    go_simp
                    (try with_reducible rfl)
                  try simp only [Act.put, List.setIfInBounds_toArray, List.set_cons_zero, List.set_cons_succ]
                  refine wpAnyL_take3 (i := 7) (oi := { dst := some 117, op := Op.slice 53 (Operand.tmp 115) none (some (Operand.tmp 116)) none, type := 53, pos := "ref.go:152", after := #[{ on := 5, ground := Ground.data }, { on := 6, ground := Ground.data }], guard := none }) (v := ?_) rfl (by kernel_rfl) (by kernel_rfl) (by kernel_rfl) (by kernel_rfl) (fun _ _ _ h => h) (Or.inl ⟨by rfl, ?_⟩) sV ?_
                  rotate_left 1
                  · intro w0 hSw
                    (try dsimp only at hSw)
                    go_simp
                    (try with_reducible rfl)
                  try simp only [Act.put, List.setIfInBounds_toArray, List.set_cons_zero, List.set_cons_succ]
                  refine wpAnyL_take3 (i := 9) (oi := { dst := some 119, op := Op.move (Operand.tmp 0), type := 35, pos := "ref.go:152", after := #[], guard := none }) (v := ?_) rfl (by kernel_rfl) (by kernel_rfl) (by kernel_rfl) (by kernel_rfl) (fun _ _ _ h => h) (Or.inl ⟨by rfl, ?_⟩) sV ?_
                  rotate_left 1
                  · intro w0 hSw
                    (try dsimp only at hSw)
                    go_simp
                    (try with_reducible rfl)
                  try simp only [Act.put, List.setIfInBounds_toArray, List.set_cons_zero, List.set_cons_succ]
                  refine wpAnyL_take3 (i := 10) (oi := { dst := some 120, op := Op.nilCheck (Operand.tmp 119), type := 0, pos := "ref.go:152", after := #[{ on := 9, ground := Ground.data }], guard := none }) (v := ?_) rfl (by kernel_rfl) (by kernel_rfl) (by kernel_rfl) (by kernel_rfl) (fun _ _ _ h => h) (Or.inl ⟨by rfl, ?_⟩) sV ?_
                  rotate_left 1
                  · intro w0 hSw
                    (try dsimp only at hSw)
                    go_simp
                    (try with_reducible rfl)
                  try simp only [Act.put, List.setIfInBounds_toArray, List.set_cons_zero, List.set_cons_succ]
                  refine wpAnyL_take3 (i := 11) (oi := { dst := some 121, op := Op.fieldAddr 55 (Operand.tmp 120) 3, type := 0, pos := "ref.go:152", after := #[{ on := 10, ground := Ground.data }], guard := none }) (v := ?_) rfl (by kernel_rfl) (by kernel_rfl) (by kernel_rfl) (by kernel_rfl) (fun _ _ _ h => h) (Or.inl ⟨by rfl, ?_⟩) sV ?_
                  rotate_left 1
                  · intro w0 hSw
                    (try dsimp only at hSw)
                    go_simp
                    (try with_reducible rfl)
                  try simp only [Act.put, List.setIfInBounds_toArray, List.set_cons_zero, List.set_cons_succ]
                  refine wpAnyL_take3 (i := 12) (oi := { dst := some 122, op := Op.load 53 (Operand.tmp 121), type := 53, pos := "ref.go:152", after := #[{ on := 11, ground := Ground.data }], guard := none }) (v := ?_) rfl (by kernel_rfl) (by kernel_rfl) (by kernel_rfl) (by kernel_rfl) (fun _ _ _ h => h) (Or.inl ⟨by rfl, ?_⟩) sV ?_
                  rotate_left 1
                  · intro w0 hSw
                    (try dsimp only at hSw)
                    go_simp
                    (try with_reducible rfl)
                  try simp only [Act.put, List.setIfInBounds_toArray, List.set_cons_zero, List.set_cons_succ]
                  refine wpAnyL_take3 (i := 13) (oi := { dst := some 123, op := Op.move (Operand.tmp 12), type := 3, pos := "ref.go:152", after := #[], guard := none }) (v := ?_) rfl (by kernel_rfl) (by kernel_rfl) (by kernel_rfl) (by kernel_rfl) (fun _ _ _ h => h) (Or.inl ⟨by rfl, ?_⟩) sV ?_
                  rotate_left 1
                  · intro w0 hSw
                    (try dsimp only at hSw)
                    go_simp
                    (try with_reducible rfl)
                  try simp only [Act.put, List.setIfInBounds_toArray, List.set_cons_zero, List.set_cons_succ]
                  refine wpAnyL_take3 (i := 14) (oi := { dst := some 124, op := Op.binOp BinOp.add 3 (Operand.tmp 123) (Operand.const (Value.int IntKind.i64 1)) 3, type := 3, pos := "ref.go:152", after := #[{ on := 13, ground := Ground.data }], guard := none }) (v := ?_) rfl (by kernel_rfl) (by kernel_rfl) (by kernel_rfl) (by kernel_rfl) (fun _ _ _ h => h) (Or.inl ⟨by rfl, ?_⟩) sV ?_
                  rotate_left 1
                  · intro w0 hSw
                    (try dsimp only at hSw)
                    go_simp
                    (try with_reducible rfl)
                  try simp only [Act.put, List.setIfInBounds_toArray, List.set_cons_zero, List.set_cons_succ]
                  refine wpAnyL_take3 (i := 15) (oi := { dst := some 125, op := Op.slice 53 (Operand.tmp 122) (some (Operand.tmp 124)) none none, type := 53, pos := "ref.go:152", after := #[{ on := 12, ground := Ground.data }, { on := 14, ground := Ground.data }], guard := none }) (v := ?_) rfl (by kernel_rfl) (by kernel_rfl) (by kernel_rfl) (by kernel_rfl) (fun _ _ _ h => h) (Or.inl ⟨by rfl, ?_⟩) sV ?_
                  rotate_left 1
                  · intro w0 hSw
                    (try dsimp only at hSw)
                    go_simp
                    (try with_reducible rfl)
                  try simp only [Act.put, List.setIfInBounds_toArray, List.set_cons_zero, List.set_cons_succ]
                  refine wpAnyL_one (i := 1) (o := { dst := some 111, op := Op.buildSlice 53 0 #[], type := 53, pos := "ref.go:152", after := #[], guard := none }) rfl (by kernel_rfl) (fun K hK => ?_)
                  go_simp
                  refine hK _ _ (Or.inr sE) ?_
                  clear hK K
                  try simp only [Act.put, List.setIfInBounds_toArray, List.set_cons_zero, List.set_cons_succ]
                  refine wpAnyL_one (i := 8) (o := { dst := some 118, op := Op.call { callee := Callee.builtin Builtin.append, args := #[Operand.tmp 111, Operand.tmp 117], argTypes := #[53, 53] }, type := 53, pos := "ref.go:152", after := #[{ on := 1, ground := Ground.data }, { on := 7, ground := Ground.data }], guard := none }) rfl (by kernel_rfl) (fun K hK => ?_)
                  refine step_app_run rfl (.tmp 111) (.tmp 117) 53 rfl rfl rfl (unhide RUN1) ?_
                  refine hK _ _ (Or.inr sX1) ?_
                  clear hK K
                  try simp only [Act.put, List.setIfInBounds_toArray, List.set_cons_zero, List.set_cons_succ]
                  refine wpAnyL_one (i := 16) (o := { dst := some 126, op := Op.call { callee := Callee.builtin Builtin.append, args := #[Operand.tmp 118, Operand.tmp 125], argTypes := #[53, 53] }, type := 53, pos := "ref.go:152", after := #[{ on := 8, ground := Ground.data }, { on := 15, ground := Ground.data }, { on := 8, ground := Ground.chain }], guard := none }) rfl (by kernel_rfl) (fun K hK => ?_)
                  refine step_app_run rfl (.tmp 118) (.tmp 125) 53 rfl rfl rfl (unhide RUN2) ?_
                  refine hK _ _ (Or.inr sX2) ?_
                  clear hK K
                  try simp only [Act.put, List.setIfInBounds_toArray, List.set_cons_zero, List.set_cons_succ]
                  refine wpAnyL_one (i := 17) (o := { dst := some 127, op := Op.nilCheck (Operand.tmp 110), type := 0, pos := "ref.go:152", after := #[{ on := 0, ground := Ground.data }, { on := 0, ground := Ground.phase }, { on := 1, ground := Ground.phase }, { on := 2, ground := Ground.phase }, { on := 3, ground := Ground.phase }, { on := 4, ground := Ground.phase }, { on := 5, ground := Ground.phase }, { on := 6, ground := Ground.phase }, { on := 7, ground := Ground.phase }, { on := 8, ground := Ground.phase }, { on := 9, ground := Ground.phase }, { on := 10, ground := Ground.phase }, { on := 11, ground := Ground.phase }, { on := 12, ground := Ground.phase }, { on := 13, ground := Ground.phase }, { on := 14, ground := Ground.phase }, { on := 15, ground := Ground.phase }, { on := 16, ground := Ground.phase }], guard := none }) rfl (by kernel_rfl) (fun K hK => ?_)
                  go_simp
                  refine hK _ _ (Or.inr sX2) ?_
                  clear hK K
                  try simp only [Act.put, List.setIfInBounds_toArray, List.set_cons_zero, List.set_cons_succ]
                  refine wpAnyL_one (i := 18) (o := { dst := some 128, op := Op.fieldAddr 55 (Operand.tmp 127) 3, type := 0, pos := "ref.go:152", after := #[{ on := 17, ground := Ground.data }, { on := 0, ground := Ground.phase }, { on := 1, ground := Ground.phase }, { on := 2, ground := Ground.phase }, { on := 3, ground := Ground.phase }, { on := 4, ground := Ground.phase }, { on := 5, ground := Ground.phase }, { on := 6, ground := Ground.phase }, { on := 7, ground := Ground.phase }, { on := 8, ground := Ground.phase }, { on := 9, ground := Ground.phase }, { on := 10, ground := Ground.phase }, { on := 11, ground := Ground.phase }, { on := 12, ground := Ground.phase }, { on := 13, ground := Ground.phase }, { on := 14, ground := Ground.phase }, { on := 15, ground := Ground.phase }, { on := 16, ground := Ground.phase }], guard := none }) rfl (by kernel_rfl) (fun K hK => ?_)
                  go_simp
                  refine hK _ _ (Or.inr sX2) ?_
                  clear hK K
                  try simp only [Act.put, List.setIfInBounds_toArray, List.set_cons_zero, List.set_cons_succ]
                  refine wpAnyL_one (i := 19) (o := { dst := none, op := Op.store 53 (Operand.tmp 128) (Operand.tmp 126), type := 0, pos := "ref.go:152", after := #[{ on := 18, ground := Ground.data }, { on := 16, ground := Ground.data }, { on := 16, ground := Ground.chain }, { on := 0, ground := Ground.phase }, { on := 1, ground := Ground.phase }, { on := 2, ground := Ground.phase }, { on := 3, ground := Ground.phase }, { on := 4, ground := Ground.phase }, { on := 5, ground := Ground.phase }, { on := 6, ground := Ground.phase }, { on := 7, ground := Ground.phase }, { on := 8, ground := Ground.phase }, { on := 9, ground := Ground.phase }, { on := 10, ground := Ground.phase }, { on := 11, ground := Ground.phase }, { on := 12, ground := Ground.phase }, { on := 13, ground := Ground.phase }, { on := 14, ground := Ground.phase }, { on := 15, ground := Ground.phase }, { on := 16, ground := Ground.phase }], guard := none }) rfl (by kernel_rfl) (fun K hK => ?_)
                  go_simp
                  refine hK _ _ (Or.inl rfl) ?_
                  clear hK K
                  try simp only [Act.put, List.setIfInBounds_toArray, List.set_cons_zero, List.set_cons_succ]
                  refine wpAnyL_done (by kernel_rfl) ?_ _
                  clear RUN12 RUN1 RUN2 sV sE sX1 sX2 fX2
                  go_wp2_with fail
                  refine (unhide FD4).mono ?_
                  rintro e w6 ⟨rfl, hw6⟩
                  obtain rfl := hw6.symm
                  clear FD4 c24 c2' f2'
                  go_wp2
                  go_roundw
                  case rel => exact ⟨_, O ++ [x], iv2, by go_num, ⟨oa2, oc2, by rw [unhide HOL2]⟩, by rw [unhide HOL2]; dsimp only; rw [unhide HEL2]; exact hlen2, HIV2, HT4⟩
                  case measure => have := unhide HOL; have := unhide HOL2; simp [slN]; omega
          · have q1 : decide ((r.next : Int) ≤ (N : Int)) = false := decide_eq_false g1
            have q1n : decide (r.next ≤ N) = false := decide_eq_false (by omega)
            have hr1 : lkR r N d.s = r := by unfold lkR; rw [if_neg (fun hx => by omega)]
            go_quiet (fail)
            clear q1 q1n c1 c2
            have HT0 : Hid (TkG w B b r1 r1 [] (.slice none 0 0) (w1.drewN nq)) := hide (by
              obtain rfl : r1 = r := (unhide HR1).symm.trans hr1
              exact ⟨⟨v0, (unhide HD1).kp (Kp.drewQ _ _), unhide HBV⟩, TxO.nil _ _, ((unhide K1).trans (Kp.drewQ _ _) (by simp)).mono (by simp), unhide HOK, rfl, rfl, rfl, by simp⟩)
            clear hr1 X11 HD1 HOK CE
            generalize w1.drewN nq = W1 at *
            have HEND : Hid (∀ rc O ov W, TkG w B b r1 rc O ov W → erl rc.early rc.next = none → TxO w.heap.size W ov LO ∧ RrAt B W b LR ∧ Ko rrO B w W ∧ AK = ackB rc.ep (rc.next : Int) ∧ rc.ep = r.ep) := hide (fun rc O ov W ht hno => by
              obtain ⟨e1, e2⟩ := lgR_stop hno
              obtain ⟨v, h1, h2⟩ := ht.rr
              have e3 := ht.lr
              rw [e1, ← unhide HLR] at e3
              have e4 := ht.lo
              rw [e2, List.append_nil, ← unhide HLO] at e4
              have e5 : rc.ep = r.ep := by rw [ht.ep]; exact unhide HEP1
              rw [unhide HAK, e3, e4, ← e5]
              exact ⟨ht.tx, (rr_step (unhide HV0) hB ht.kp h1 h2).1, (rr_step (unhide HV0) hB ht.kp h1 h2).2, rfl, rfl⟩)
            have hepb : 0 ≤ r.ep ∧ r.ep ≤ 1073741824 := ⟨by have := (unhide HOK1).e0; rw [unhide HEP1] at this; exact this, by have := (unhide HOK1).e1; rw [unhide HEP1] at this; exact this⟩
            have hfew1 := (unhide HOK1).few
            clear HLR HLO HAK HEP1 HR1
            obtain ⟨iv, hiv⟩ := fdV_any r1
            have FD0 := hide (fun W (ht : TkG w B b r1 r1 [] (.slice none 0 0) W) v (hv : RrV W b v r1) => rfind_any b v r1 iv W hv hiv ht.ok)
            have C20 : Hid (∀ W, TkG w B b r1 r1 [] (.slice none 0 0) W → W.cell? ⟨b, 2, none⟩ = some (.int .i64 (r1.next : Int))) := hide (fun W ht => by obtain ⟨v, h1, _⟩ := ht.rr; exact h1.box.cell rfl)
            have c2 := unhide C20 _ (unhide HT0)
            have FD1 : Hid (Calls Try.prog 34 #[.pointer (some ⟨b, 0, none⟩), .int .i64 (r1.next : Int)] W1 fun e w' => e = .returned (.int .i64 iv) ∧ w' = W1) := hide (by
              obtain ⟨v, hv, _⟩ := (unhide HT0).rr
              exact unhide FD0 _ (unhide HT0) v hv)
            clear FD0 C20 HV0 HOK1 hn1 hw1 hfew hNl
            go_wp2_with fail
            refine (unhide FD1).mono ?_
            rintro e w3 ⟨rfl, hw3⟩
            obtain rfl := hw3.symm
            clear FD1 c2
            go_wp2_with fail
            go_loopw [11, 12] (fun ov jv wr => ∃ (rc : Rcv) (O : List ByteArray) (i : Int), jv = .int .i64 i ∧ (∃ oa oc, ov = .slice oa O.length oc) ∧ O.length + rc.early.length ≤ r1.early.length ∧ Hid (FdV rc i) ∧ Hid (TkG w B b r1 rc O ov wr)) (fun ov _ _ => r1.early.length - slN ov)
            case atStart => exact ⟨r1, [], iv, rfl, ⟨none, 0, rfl⟩, by simp, hide hiv, HT0⟩
            case round =>
              clear HT0 hiv
              obtain ⟨rc, O, i, rfl, ⟨oa, oc, rfl⟩, hln, HF, HT⟩ := hrel
              rcases unhide HF with ⟨hno, rfl⟩ | ⟨i, hi, x, hsome, hix, rfl, hbef⟩
              · obtain ⟨f1, f2, f3, f4, f5⟩ := unhide HEND rc O _ _ (unhide HT) hno
                have HFIN := hide (And.intro f1 (And.intro f2 f3))
                obtain ⟨a0, a2⟩ : wr.cell? ⟨b, 0, none⟩ = some (.int .i64 r.ep) ∧ wr.cell? ⟨b, 2, none⟩ = some (.int .i64 (rc.next : Int)) := by
                  obtain ⟨v, h1, _⟩ := (unhide HT).rr
                  rw [← f5]
                  exact ⟨h1.box.cell rfl, h1.box.cell rfl⟩
                have hnx := (unhide HT).ok.n1
                have AC : Hid (∀ W, Calls Try.prog 35 #[.int .i64 r.ep, .int .i64 (rc.next : Int)] W fun e w' => e = .returned (.string AK) ∧ Below W.heap.size W w') := hide (fun W => by
                  rw [f4, f5]
                  exact rAck_any r.ep (rc.next : Int) W hepb.1 hepb.2 (by omega) (by omega))
                have OUT : Hid (∀ W, Kp [] wr W → TxO w.heap.size W (.slice oa O.length oc) LO ∧ RrAt B W b LR ∧ Ko rrO B w W) := hide (fun W hk => ⟨(unhide HFIN).1.kp hk (by simp), (unhide HFIN).2.1.kp hk, (unhide HFIN).2.2.trans (Ko.nil hk)⟩)
                have KEEP : Hid (∀ W, Kp [] wr W → W.cell? ⟨b, 0, none⟩ = some (.int .i64 r.ep) ∧ W.cell? ⟨b, 2, none⟩ = some (.int .i64 (rc.next : Int))) := hide (fun W hk => ⟨hk.cell a0 (by simp), hk.cell a2 (by simp)⟩)
                clear f1 f2 f3 f4 f5 HFIN HF HT HEND hno hln hepb
                generalize r.ep = E0 at *
                generalize rc.next = NX at *
                generalize O.length = ol at *
                have y0 := unhide KEEP _ (Kp.drew wr)
                go_wp2_with fail
                go_region_held3 (fun W => W.cell? ⟨b, 0, none⟩ = some (.int .i64 E0) ∧ W.cell? ⟨b, 2, none⟩ = some (.int .i64 (NX : Int))) (first | with_reducible exact y0 | with_reducible exact y1 | exact ⟨a0, a2⟩)
                  (first
                    | (go_at_call 35; refine (unhide AC _).mono ?_; rintro _ w7 ⟨rfl, k7⟩; have K7 := hide ((Kp.drew wr).trans (Kp.ofBelow k7) (by simp)); have y1 := unhide KEEP _ (unhide K7); clear k7))
                go_wp2
                go_ret3
                exact ⟨_, rfl, unhide OUT _ (unhide K7)⟩
              · have hio : (0 : Int) ≤ (i : Int) := by omega
                obtain ⟨v5, hv5, hb5⟩ := (unhide HT).rr
                have hok5 := (unhide HT).ok
                have hfew := hok5.few
                obtain ⟨g, cap, rfl, hcap, hcapm⟩ : ∃ g cap, v5 = .slice (some ⟨g, 0, none⟩) rc.early.length cap ∧ rc.early.length ≤ cap ∧ cap ≤ 9223372036854775807 := by
                  rcases hv5.row.form with ⟨_, e⟩ | h5
                  · rw [e] at hi; cases hi
                  · exact h5
                have c3 : wr.cell? ⟨b, 3, none⟩ = some (.slice (some ⟨g, 0, none⟩) rc.early.length cap) := hv5.box.cell (i := 3) rfl
                have xi : wr.cell? ⟨g, i * 2 + 1, none⟩ = some (.string x) := by
                  have := (hv5.row.cell i hi).2
                  rwa [hix] at this
                obtain ⟨hstep, hxs⟩ := hok5.step hsome
                obtain ⟨hgo1, hgo2⟩ := lgR_go hsome
                have hcut := erd_at hok5.nd hi (by rw [hix])
                have herl := erd_len hsome
                -- the text is put behind
                have kA := Kp.alloc wr (.cells #[.string x] 9)
                have txA := (unhide HT).tx.kp kA (by simp)
                obtain ⟨vO, W2, run12, tx2, k2, hob⟩ := txA.push (by have := (unhide HT).kp.size; rw [World.size_alloc]; omega) (CBox.new wr #[.string x] 9) (by omega) 39
                obtain ⟨oa2, oc2, rfl, _⟩ := tx2.form
                have kO : ∀ (gg : Nat) (cs : Array Value) (tt : TypeId), CBox gg cs tt wr → tt ≠ 9 → CBox gg cs tt W2 := fun gg cs tt hbx ht => by
                  have hbA := hbx.kp kA (by simp)
                  refine hbA.kp k2 (fun hm => ?_)
                  have hm' : (Value.slice oa O.length oc).ownBlock = some gg := by simpa using hm
                  obtain ⟨_, cur, hc⟩ := txA.block hm'
                  exact box_ne (show CBox gg cur 9 _ from hc) hbA (fun e => ht e.symm) rfl
                have k02 : Kp [b] w W2 := ((unhide HT).kp.trans kA (by simp)).trans k2 (fun q hq => Or.inr (by have := ((unhide HT).tx.block (k := q) (by simpa using hq)).1; exact this))
                have hv2 : RrV W2 b (.slice (some ⟨g, 0, none⟩) rc.early.length cap) rc := by
                  refine ⟨kO _ _ _ hv5.box (by decide), ?_⟩
                  obtain ⟨g1, g2 | ⟨g', cp', cur, e, hb', hh', q⟩⟩ := hv5.row
                  · exact ⟨g1, Or.inl g2⟩
                  · exact ⟨g1, Or.inr ⟨g', cp', cur, e, hb', kO _ _ _ (show CBox g' cur 87 wr from hh') (by decide), q⟩⟩
                -- the one is taken out
                obtain ⟨V, hV⟩ : ∃ V, V = W2.drew := ⟨_, rfl⟩
                have kV : Kp [] W2 V := by rw [hV]; exact Kp.drew _
                have hvV := hv2.kp kV
                obtain ⟨J, hJ⟩ : ∃ J : Nat, J = i + 1 := ⟨_, rfl⟩
                obtain ⟨nad, hnad⟩ : ∃ nad : Option Addr, nad = if cap = J then some ⟨g, 0, none⟩ else some ⟨g, J * 2, none⟩ := ⟨_, rfl⟩
                obtain ⟨g1, c1, X1, run1, kX1, g2, c2, X2, run2, row2, kX2, hg2⟩ := er_cut hvV.row rfl i hi hcap (by omega) 53 53
                rw [← hcut] at run2 row2
                rw [← hJ, ← hnad] at run2
                have kE := Kp.alloc V (.cells #[] 87)
                have sV : V.cell? ⟨b, 3, none⟩ = some (.slice (some ⟨g, 0, none⟩) rc.early.length cap) := hvV.box.cell (i := 3) rfl
                have sE : (V.alloc (.cells #[] 87)).cell? ⟨b, 3, none⟩ = some (.slice (some ⟨g, 0, none⟩) rc.early.length cap) := kE.cell sV (by simp)
                have sX1 : X1.cell? ⟨b, 3, none⟩ = some (.slice (some ⟨g, 0, none⟩) rc.early.length cap) := kX1.cell sV (by simp)
                have bX2 := hvV.box.kp kX2 (by simp)
                have sX2 : X2.cell? ⟨b, 3, none⟩ = some (.slice (some ⟨g, 0, none⟩) rc.early.length cap) := bX2.cell (i := 3) rfl
                have fX2 := bX2.froz 3
                have b3 := bX2.set 3 (.slice (some ⟨g2, 0, none⟩) (erd rc.early rc.next).length c2)
                have c2' : (X2.setCell ⟨b, 3, none⟩ (.slice (some ⟨g2, 0, none⟩) (erd rc.early rc.next).length c2)).cell? ⟨b, 2, none⟩ = some (.int .i64 (rc.next : Int)) := b3.cell (i := 2) rfl
                have f2' := b3.froz 2
                have b4 := b3.set 2 (.int .i64 ((rc.next : Int) + 1))
                have hbg : b < g2 := by
                  have h1 := (Array.getElem?_eq_some_iff.1 hvV.box).1
                  omega
                have HT4 : Hid (TkG w B b r1 ⟨rc.ep, rc.wd, rc.next + 1, erd rc.early rc.next⟩ (O ++ [x]) (.slice oa2 (O ++ [x]).length oc2) ((X2.setCell ⟨b, 3, none⟩ (.slice (some ⟨g2, 0, none⟩) (erd rc.early rc.next).length c2)).setCell ⟨b, 2, none⟩ (.int .i64 ((rc.next : Int) + 1)))) := hide (by
                  have kS : Kp [b] X2 ((X2.setCell ⟨b, 3, none⟩ (.slice (some ⟨g2, 0, none⟩) (erd rc.early rc.next).length c2)).setCell ⟨b, 2, none⟩ (.int .i64 ((rc.next : Int) + 1))) := (Kp.set X2 b 3 _).trans (Kp.set _ b 2 _) (by simp)
                  have k2X : Kp [] W2 X2 := kV.trans kX2 (by simp)
                  refine ⟨⟨.slice (some ⟨g2, 0, none⟩) (erd rc.early rc.next).length c2, ⟨?_, ?_⟩, fun k hk => ?_⟩, (tx2.kp k2X (by simp)).kp kS (fun k hk => ?_), (k02.trans k2X (by simp)).trans kS (by simp), hstep, (unhide HT).ep, (unhide HT).lr.trans hgo1, ?_, ?_⟩
                  · unfold rrC
                    dsimp only
                    rw [show ((rc.next + 1 : Nat) : Int) = (rc.next : Int) + 1 by omega]
                    exact b4
                  · refine ErRow.kp row2 kS (fun k hk => ?_)
                    simp [Value.ownBlock] at hk
                    subst hk
                    simp
                    omega
                  · simp [Value.ownBlock] at hk
                    subst hk
                    have h1 := k02.size
                    have h2 := kV.size
                    omega
                  · obtain ⟨_, cur, hc⟩ := (tx2.kp k2X (by simp)).block hk
                    simp only [List.mem_singleton]
                    exact box_ne (show CBox k cur 9 _ from hc) bX2 (by decide)
                  · rw [(unhide HT).lo, hgo2, List.append_assoc]
                    rfl
                  · have := (unhide HT).ln
                    dsimp only
                    rw [List.length_append, List.length_singleton]
                    omega)
                obtain ⟨iv2, hiv2⟩ := fdV_any ⟨rc.ep, rc.wd, rc.next + 1, erd rc.early rc.next⟩
                have FD4 : Hid (Calls Try.prog 34 #[.pointer (some ⟨b, 0, none⟩), .int .i64 ((rc.next : Int) + 1)] ((X2.setCell ⟨b, 3, none⟩ (.slice (some ⟨g2, 0, none⟩) (erd rc.early rc.next).length c2)).setCell ⟨b, 2, none⟩ (.int .i64 ((rc.next : Int) + 1))) fun e w' => e = .returned (.int .i64 iv2) ∧ w' = ((X2.setCell ⟨b, 3, none⟩ (.slice (some ⟨g2, 0, none⟩) (erd rc.early rc.next).length c2)).setCell ⟨b, 2, none⟩ (.int .i64 ((rc.next : Int) + 1)))) := hide (by
                  obtain ⟨v6, hv6, _⟩ := (unhide HT4).rr
                  have := rfind_any b v6 _ iv2 _ hv6 hiv2 hstep
                  dsimp only at this
                  rwa [show ((rc.next + 1 : Nat) : Int) = (rc.next : Int) + 1 by omega] at this)
                have c24 : ((X2.setCell ⟨b, 3, none⟩ (.slice (some ⟨g2, 0, none⟩) (erd rc.early rc.next).length c2)).setCell ⟨b, 2, none⟩ (.int .i64 ((rc.next : Int) + 1))).cell? ⟨b, 2, none⟩ = some (.int .i64 ((rc.next : Int) + 1)) := b4.cell (i := 2) rfl
                have HIV2 := hide hiv2
                have hnx := hok5.n1
                have hlen2 : (O ++ [x]).length + (erd rc.early rc.next).length ≤ r1.early.length := by rw [List.length_append, List.length_singleton]; omega
                have hol : (O ++ [x]).length = O.length + 1 := by rw [List.length_append, List.length_singleton]
                have HOL := hide hol
                clear hol
                have hil : (i : Int) < (rc.early.length : Int) := by omega
                have hJw : IntKind.i64.wrap ((i : Int) + 1) = (J : Int) := by rw [hJ]; unfold IntKind.wrap; simp [IntKind.signed, go_sem]; omega
                have hJb : (0 ≤ (J : Int) ∧ (J : Int) ≤ (rc.early.length : Int)) = True := eq_true (by omega)
                have hJn : J ≤ rc.early.length := by omega
                have hic : (i : Int) ≤ (cap : Int) := by omega
                have hin : i ≤ cap := by omega
                have hnad2 : (if cap = J then some (⟨g, 0, none⟩ : Addr) else some ⟨g, J * 2, none⟩) = nad := hnad.symm
                have RUN12 := hide run12
                have RUN1 := hide run1
                have RUN2 := hide run2
                have HV := hide hV
                clear run12 run1 run2 hV hnad hiv2 hok5 hstep hxs hgo1 hgo2 hcut herl kA txA tx2 k2 hob kO k02 hv2 kV hvV row2 kX1 kX2 hg2 kE bX2 b3 b4 hbg hJ hv5 hb5 hix hbef hsome HT HF hi HEND hepb hfew
                generalize hO2 : (O ++ [x]).length = ol2 at *
                have HOL2 := hide hO2
                clear hO2
                generalize hE2 : (erd rc.early rc.next).length = el2 at *
                have HEL2 := hide hE2
                clear hE2
                generalize rc.early.length = n at *
                go_upto_region 12 with fail
                go_wp2_with (at_builtin; refine wpList_app_run rfl _ _ 39 rfl rfl rfl (unhide RUN12) ?_)
                refine wp_region_late (fun W => W.cell? ⟨b, 3, none⟩ = some (.slice (some ⟨g, 0, none⟩) n cap)) 19 (by kernel_rfl) ?_
                rw [← unhide HV]
                clear HV
                show wpAnyL _ _ _ _ _ _ 20 (Array.replicate 20 false) _ _
                refine wpAnyL_take3 (i := 0) (oi := { dst := some 110, op := Op.move (Operand.tmp 0), type := 35, pos := "ref.go:152", after := #[], guard := none }) (v := ?_) rfl (by kernel_rfl) (by kernel_rfl) (by kernel_rfl) (by kernel_rfl) (fun _ _ _ h => h) (Or.inl ⟨by rfl, ?_⟩) sV ?_
                rotate_left 1
                · intro w0 hSw
                  (try dsimp only at hSw)
                  go_simp
                  (try with_reducible rfl)
                try simp only [Act.put, List.setIfInBounds_toArray, List.set_cons_zero, List.set_cons_succ]
                refine wpAnyL_take3 (i := 2) (oi := { dst := some 112, op := Op.move (Operand.tmp 0), type := 35, pos := "ref.go:152", after := #[], guard := none }) (v := ?_) rfl (by kernel_rfl) (by kernel_rfl) (by kernel_rfl) (by kernel_rfl) (fun _ _ _ h => h) (Or.inl ⟨by rfl, ?_⟩) sV ?_
                rotate_left 1
                · intro w0 hSw
                  (try dsimp only at hSw)
                  go_simp
                  (try with_reducible rfl)
                try simp only [Act.put, List.setIfInBounds_toArray, List.set_cons_zero, List.set_cons_succ]
                refine wpAnyL_take3 (i := 3) (oi := { dst := some 113, op := Op.nilCheck (Operand.tmp 112), type := 0, pos := "ref.go:152", after := #[{ on := 2, ground := Ground.data }], guard := none }) (v := ?_) rfl (by kernel_rfl) (by kernel_rfl) (by kernel_rfl) (by kernel_rfl) (fun _ _ _ h => h) (Or.inl ⟨by rfl, ?_⟩) sV ?_
                rotate_left 1
                · intro w0 hSw
                  (try dsimp only at hSw)
                  go_simp
                  (try with_reducible rfl)
                try simp only [Act.put, List.setIfInBounds_toArray, List.set_cons_zero, List.set_cons_succ]
                refine wpAnyL_take3 (i := 4) (oi := { dst := some 114, op := Op.fieldAddr 55 (Operand.tmp 113) 3, type := 0, pos := "ref.go:152", after := #[{ on := 3, ground := Ground.data }], guard := none }) (v := ?_) rfl (by kernel_rfl) (by kernel_rfl) (by kernel_rfl) (by kernel_rfl) (fun _ _ _ h => h) (Or.inl ⟨by rfl, ?_⟩) sV ?_
                rotate_left 1
                · intro w0 hSw
                  (try dsimp only at hSw)
                  go_simp
                  (try with_reducible rfl)
                try simp only [Act.put, List.setIfInBounds_toArray, List.set_cons_zero, List.set_cons_succ]
                refine wpAnyL_take3 (i := 5) (oi := { dst := some 115, op := Op.load 53 (Operand.tmp 114), type := 53, pos := "ref.go:152", after := #[{ on := 4, ground := Ground.data }], guard := none }) (v := ?_) rfl (by kernel_rfl) (by kernel_rfl) (by kernel_rfl) (by kernel_rfl) (fun _ _ _ h => h) (Or.inl ⟨by rfl, ?_⟩) sV ?_
                rotate_left 1
                · intro w0 hSw
                  (try dsimp only at hSw)
                  go_simp
                  (try with_reducible rfl)
                try simp only [Act.put, List.setIfInBounds_toArray, List.set_cons_zero, List.set_cons_succ]
                refine wpAnyL_take3 (i := 6) (oi := { dst := some 116, op := Op.move (Operand.tmp 12), type := 3, pos := "ref.go:152", after := #[], guard := none }) (v := ?_) rfl (by kernel_rfl) (by kernel_rfl) (by kernel_rfl) (by kernel_rfl) (fun _ _ _ h => h) (Or.inl ⟨by rfl, ?_⟩) sV ?_
                rotate_left 1
                · intro w0 hSw
                  (try dsimp only at hSw)
                  go_simp
                  (try with_reducible rfl)
                try simp only [Act.put, List.setIfInBounds_toArray, List.set_cons_zero, List.set_cons_succ]
                refine wpAnyL_take3 (i := 7) (oi := { dst := some 117, op := Op.slice 53 (Operand.tmp 115) none (some (Operand.tmp 116)) none, type := 53, pos := "ref.go:152", after := #[{ on := 5, ground := Ground.data }, { on := 6, ground := Ground.data }], guard := none }) (v := ?_) rfl (by kernel_rfl) (by kernel_rfl) (by kernel_rfl) (by kernel_rfl) (fun _ _ _ h => h) (Or.inl ⟨by rfl, ?_⟩) sV ?_
                rotate_left 1
                · intro w0 hSw
                  (try dsimp only at hSw)
                  go_simp
                  (try with_reducible rfl)
                try simp only [Act.put, List.setIfInBounds_toArray, List.set_cons_zero, List.set_cons_succ]
                refine wpAnyL_take3 (i := 9) (oi := { dst := some 119, op := Op.move (Operand.tmp 0), type := 35, pos := "ref.go:152", after := #[], guard := none }) (v := ?_) rfl (by kernel_rfl) (by kernel_rfl) (by kernel_rfl) (by kernel_rfl) (fun _ _ _ h => h) (Or.inl ⟨by rfl, ?_⟩) sV ?_
                rotate_left 1
                · intro w0 hSw
                  (try dsimp only at hSw)
                  go_simp
                  (try with_reducible rfl)
                try simp only [Act.put, List.setIfInBounds_toArray, List.set_cons_zero, List.set_cons_succ]
                refine wpAnyL_take3 (i := 10) (oi := { dst := some 120, op := Op.nilCheck (Operand.tmp 119), type := 0, pos := "ref.go:152", after := #[{ on := 9, ground := Ground.data }], guard := none }) (v := ?_) rfl (by kernel_rfl) (by kernel_rfl) (by kernel_rfl) (by kernel_rfl) (fun _ _ _ h => h) (Or.inl ⟨by rfl, ?_⟩) sV ?_
                rotate_left 1
                · intro w0 hSw
                  (try dsimp only at hSw)
                  go_simp
                  (try with_reducible rfl)
                try simp only [Act.put, List.setIfInBounds_toArray, List.set_cons_zero, List.set_cons_succ]
                refine wpAnyL_take3 (i := 11) (oi := { dst := some 121, op := Op.fieldAddr 55 (Operand.tmp 120) 3, type := 0, pos := "ref.go:152", after := #[{ on := 10, ground := Ground.data }], guard := none }) (v := ?_) rfl (by kernel_rfl) (by kernel_rfl) (by kernel_rfl) (by kernel_rfl) (fun _ _ _ h => h) (Or.inl ⟨by rfl, ?_⟩) sV ?_
                rotate_left 1
                · intro w0 hSw
                  (try dsimp only at hSw)
                  go_simp
                  (try with_reducible rfl)
                try simp only [Act.put, List.setIfInBounds_toArray, List.set_cons_zero, List.set_cons_succ]
                refine wpAnyL_take3 (i := 12) (oi := { dst := some 122, op := Op.load 53 (Operand.tmp 121), type := 53, pos := "ref.go:152", after := #[{ on := 11, ground := Ground.data }], guard := none }) (v := ?_) rfl (by kernel_rfl) (by kernel_rfl) (by kernel_rfl) (by kernel_rfl) (fun _ _ _ h => h) (Or.inl ⟨by rfl, ?_⟩) sV ?_
                rotate_left 1
                · intro w0 hSw
                  (try dsimp only at hSw)
                  go_simp
                  (try with_reducible rfl)
                try simp only [Act.put, List.setIfInBounds_toArray, List.set_cons_zero, List.set_cons_succ]
                refine wpAnyL_take3 (i := 13) (oi := { dst := some 123, op := Op.move (Operand.tmp 12), type := 3, pos := "ref.go:152", after := #[], guard := none }) (v := ?_) rfl (by kernel_rfl) (by kernel_rfl) (by kernel_rfl) (by kernel_rfl) (fun _ _ _ h => h) (Or.inl ⟨by rfl, ?_⟩) sV ?_
                rotate_left 1
                · intro w0 hSw
                  (try dsimp only at hSw)
                  go_simp
                  (try with_reducible rfl)
                try simp only [Act.put, List.setIfInBounds_toArray, List.set_cons_zero, List.set_cons_succ]
                refine wpAnyL_take3 (i := 14) (oi := { dst := some 124, op := Op.binOp BinOp.add 3 (Operand.tmp 123) (Operand.const (Value.int IntKind.i64 1)) 3, type := 3, pos := "ref.go:152", after := #[{ on := 13, ground := Ground.data }], guard := none }) (v := ?_) rfl (by kernel_rfl) (by kernel_rfl) (by kernel_rfl) (by kernel_rfl) (fun _ _ _ h => h) (Or.inl ⟨by rfl, ?_⟩) sV ?_
                rotate_left 1
                · intro w0 hSw
                  (try dsimp only at hSw)
                  go_simp
                  (try with_reducible rfl)
                try simp only [Act.put, List.setIfInBounds_toArray, List.set_cons_zero, List.set_cons_succ]
                refine wpAnyL_take3 (i := 15) (oi := { dst := some 125, op := Op.slice 53 (Operand.tmp 122) (some (Operand.tmp 124)) none none, type := 53, pos := "ref.go:152", after := #[{ on := 12, ground := Ground.data }, { on := 14, ground := Ground.data }], guard := none }) (v := ?_) rfl (by kernel_rfl) (by kernel_rfl) (by kernel_rfl) (by kernel_rfl) (fun _ _ _ h => h) (Or.inl ⟨by rfl, ?_⟩) sV ?_
                rotate_left 1
                · intro w0 hSw
                  (try dsimp only at hSw)
                  go_simp
                  (try with_reducible rfl)
                try simp only [Act.put, List.setIfInBounds_toArray, List.set_cons_zero, List.set_cons_succ]
                refine wpAnyL_one (i := 1) (o := { dst := some 111, op := Op.buildSlice 53 0 #[], type := 53, pos := "ref.go:152", after := #[], guard := none }) rfl (by kernel_rfl) (fun K hK => ?_)
                go_simp
                refine hK _ _ (Or.inr sE) ?_
                clear hK K
                try simp only [Act.put, List.setIfInBounds_toArray, List.set_cons_zero, List.set_cons_succ]
                refine wpAnyL_one (i := 8) (o := { dst := some 118, op := Op.call { callee := Callee.builtin Builtin.append, args := #[Operand.tmp 111, Operand.tmp 117], argTypes := #[53, 53] }, type := 53, pos := "ref.go:152", after := #[{ on := 1, ground := Ground.data }, { on := 7, ground := Ground.data }], guard := none }) rfl (by kernel_rfl) (fun K hK => ?_)
                refine step_app_run rfl (.tmp 111) (.tmp 117) 53 rfl rfl rfl (unhide RUN1) ?_
                refine hK _ _ (Or.inr sX1) ?_
                clear hK K
                try simp only [Act.put, List.setIfInBounds_toArray, List.set_cons_zero, List.set_cons_succ]
                refine wpAnyL_one (i := 16) (o := { dst := some 126, op := Op.call { callee := Callee.builtin Builtin.append, args := #[Operand.tmp 118, Operand.tmp 125], argTypes := #[53, 53] }, type := 53, pos := "ref.go:152", after := #[{ on := 8, ground := Ground.data }, { on := 15, ground := Ground.data }, { on := 8, ground := Ground.chain }], guard := none }) rfl (by kernel_rfl) (fun K hK => ?_)
                refine step_app_run rfl (.tmp 118) (.tmp 125) 53 rfl rfl rfl (unhide RUN2) ?_
                refine hK _ _ (Or.inr sX2) ?_
                clear hK K
                try simp only [Act.put, List.setIfInBounds_toArray, List.set_cons_zero, List.set_cons_succ]
                refine wpAnyL_one (i := 17) (o := { dst := some 127, op := Op.nilCheck (Operand.tmp 110), type := 0, pos := "ref.go:152", after := #[{ on := 0, ground := Ground.data }, { on := 0, ground := Ground.phase }, { on := 1, ground := Ground.phase }, { on := 2, ground := Ground.phase }, { on := 3, ground := Ground.phase }, { on := 4, ground := Ground.phase }, { on := 5, ground := Ground.phase }, { on := 6, ground := Ground.phase }, { on := 7, ground := Ground.phase }, { on := 8, ground := Ground.phase }, { on := 9, ground := Ground.phase }, { on := 10, ground := Ground.phase }, { on := 11, ground := Ground.phase }, { on := 12, ground := Ground.phase }, { on := 13, ground := Ground.phase }, { on := 14, ground := Ground.phase }, { on := 15, ground := Ground.phase }, { on := 16, ground := Ground.phase }], guard := none }) rfl (by kernel_rfl) (fun K hK => ?_)
                go_simp
                refine hK _ _ (Or.inr sX2) ?_
                clear hK K
                try simp only [Act.put, List.setIfInBounds_toArray, List.set_cons_zero, List.set_cons_succ]
                refine wpAnyL_one (i := 18) (o := { dst := some 128, op := Op.fieldAddr 55 (Operand.tmp 127) 3, type := 0, pos := "ref.go:152", after := #[{ on := 17, ground := Ground.data }, { on := 0, ground := Ground.phase }, { on := 1, ground := Ground.phase }, { on := 2, ground := Ground.phase }, { on := 3, ground := Ground.phase }, { on := 4, ground := Ground.phase }, { on := 5, ground := Ground.phase }, { on := 6, ground := Ground.phase }, { on := 7, ground := Ground.phase }, { on := 8, ground := Ground.phase }, { on := 9, ground := Ground.phase }, { on := 10, ground := Ground.phase }, { on := 11, ground := Ground.phase }, { on := 12, ground := Ground.phase }, { on := 13, ground := Ground.phase }, { on := 14, ground := Ground.phase }, { on := 15, ground := Ground.phase }, { on := 16, ground := Ground.phase }], guard := none }) rfl (by kernel_rfl) (fun K hK => ?_)
                go_simp
                refine hK _ _ (Or.inr sX2) ?_
                clear hK K
                try simp only [Act.put, List.setIfInBounds_toArray, List.set_cons_zero, List.set_cons_succ]
                refine wpAnyL_one (i := 19) (o := { dst := none, op := Op.store 53 (Operand.tmp 128) (Operand.tmp 126), type := 0, pos := "ref.go:152", after := #[{ on := 18, ground := Ground.data }, { on := 16, ground := Ground.data }, { on := 16, ground := Ground.chain }, { on := 0, ground := Ground.phase }, { on := 1, ground := Ground.phase }, { on := 2, ground := Ground.phase }, { on := 3, ground := Ground.phase }, { on := 4, ground := Ground.phase }, { on := 5, ground := Ground.phase }, { on := 6, ground := Ground.phase }, { on := 7, ground := Ground.phase }, { on := 8, ground := Ground.phase }, { on := 9, ground := Ground.phase }, { on := 10, ground := Ground.phase }, { on := 11, ground := Ground.phase }, { on := 12, ground := Ground.phase }, { on := 13, ground := Ground.phase }, { on := 14, ground := Ground.phase }, { on := 15, ground := Ground.phase }, { on := 16, ground := Ground.phase }], guard := none }) rfl (by kernel_rfl) (fun K hK => ?_)
                go_simp
                refine hK _ _ (Or.inl rfl) ?_
                clear hK K
                try simp only [Act.put, List.setIfInBounds_toArray, List.set_cons_zero, List.set_cons_succ]
                refine wpAnyL_done (by kernel_rfl) ?_ _
                clear RUN12 RUN1 RUN2 sV sE sX1 sX2 fX2
                go_wp2_with fail
                refine (unhide FD4).mono ?_
                rintro e w6 ⟨rfl, hw6⟩
                obtain rfl := hw6.symm
                clear FD4 c24 c2' f2'
                go_wp2
                go_roundw
                case rel => exact ⟨_, O ++ [x], iv2, by go_num, ⟨oa2, oc2, by rw [unhide HOL2]⟩, by rw [unhide HOL2]; dsimp only; rw [unhide HEL2]; exact hlen2, HIV2, HT4⟩
                case measure => have := unhide HOL; have := unhide HOL2; simp [slN]; omega
        · obtain ⟨e1, e2, e3, e4⟩ := ltE_stale hD hep
          rw [e1, e2, e3, e4]
          obtain ⟨v0, hv0, _, _⟩ := h
          have CE : Hid (∀ W, Kp [] w W → W.cell? ⟨b, 0, none⟩ = some (.int .i64 r.ep)) := hide (fun W hk => (hv0.kp hk).box.cell rfl)
          clear e1 e2 e3 e4 hok hD y0 y1 hv0
          generalize y.n = E at *
          generalize r.ep = E0 at *
          go_enter Try.func18, Try.ntmps18
          go_wp2_with fail
          refine (unhide PA).mono ?_
          rintro e w1 ⟨⟨v1, rfl, hv1⟩, k1⟩
          obtain ⟨bb, cp1, rfl, hcp1, x9, x11⟩ := par_item4 hv1
          have K1 := hide (Kp.ofBelow k1)
          clear PA k1 hv1
          rw [hdt] at x9
          clear hdt
          have c0 := unhide CE w1 (unhide K1)
          go_wp2
          go_ret3
          exact ⟨_, rfl, TxO.nil _ _, unhide HSAME _ (unhide K1)⟩
      · rw [if_neg (fun hx => hds hx.2)] at hD
        have hdsi : (60000 : Int) < (d.s.size : Int) := by omega
        obtain ⟨e1, e2, e3, e4⟩ := ltE_none (r := r) hD
        rw [e1, e2, e3, e4]
        clear e1 e2 e3 e4 h hok hD y0 y1 z0 z1 hds
        go_enter Try.func18, Try.ntmps18
        go_wp2_with fail
        refine (unhide PA).mono ?_
        rintro e w1 ⟨⟨v1, rfl, hv1⟩, k1⟩
        obtain ⟨bb, cp1, rfl, hcp1, x9, x11⟩ := par_item4 hv1
        have K1 := hide (Kp.ofBelow k1)
        clear PA k1 hv1
        rw [hdt] at x9
        clear hdt
        go_wp2
        go_ret3
        exact ⟨_, rfl, TxO.nil _ _, unhide HSAME _ (unhide K1)⟩
  · obtain ⟨e1, e2, e3, e4⟩ := ltE_none (r := r) (lrD_prs hprs)
    have PA := hide (rparse_not p 4 0 1073741824 w hp (by decide) hprs)
    rw [e1, e2, e3, e4]
    clear e1 e2 e3 e4 h hok hprs
    go_enter Try.func18, Try.ntmps18
    go_wp2_with fail
    refine (unhide PA).mono ?_
    rintro e w1 ⟨rfl, k1⟩
    have K1 := hide (Kp.ofBelow k1)
    clear PA k1
    go_wp2
    go_ret3
    exact ⟨_, rfl, TxO.nil _ _, unhide HSAME _ (unhide K1)⟩
end Go.Proofs.Ytiomngpfolkgpaa
