/-
  Links: an acknowledgement is heard.
-/
import Derived.Test.YtiomngpfolkgpaaL14
import Derived.Test.YtiomngpfolkgpaaL15
namespace Go.Proofs.Ytiomngpfolkgpaa
open Go.RowKit Lk

theorem lhE_none {s : Snd} {p : ByteArray} (h : lrA p = none) : lhE s p = 3 ∧ lhS s p = s := by
  unfold lhE lhS
  rw [h]
  exact ⟨rfl, rfl⟩
theorem lhE_some {s : Snd} {p : ByteArray} {e n : Int} (h : lrA p = some (e, n)) : lhE s p = (if e ≠ s.ep then 190 else if ((s.first + s.left.length : Nat) : Int) < n then 1 else 0) ∧ lhS s p = (if lhE s p = 0 ∧ (s.first : Int) < n then ⟨s.ep, s.wd, s.pt, n.toNat, s.left.drop (n.toNat - s.first), s.now⟩ else s) := by
  unfold lhS
  have : lhE s p = (if e ≠ s.ep then 190 else if ((s.first + s.left.length : Nat) : Int) < n then 1 else 0) := by
    unfold lhE
    rw [h]
  rw [h]
  exact ⟨this, rfl⟩
set_option maxHeartbeats 8000000 in
set_option maxRecDepth 100000 in
theorem lHeard_any (B b : Nat) (s : Snd) (p : ByteArray) (w : World) (h : SdAt B w b s) (hok : SOk s) (hp : p.size ≤ 9223372036854775807) :
    Calls Try.prog 15 #[.pointer (some ⟨b, 0, none⟩), .string p] w fun e w' => e = .returned (.int .i64 (lhE s p)) ∧ SdAt B w' b (lhS s p) ∧ Ko sdO B w w' := by
  have RA := hide (lrA_any p w hp)
  obtain ⟨v, hv, hB, hbv⟩ := id h
  have HH := hide (fun w' hk => sd_same (w' := w') h hk)
  cases hr : lrA p with
  | none =>
    rw [hr] at RA
    obtain ⟨e1, e2⟩ := lhE_none (s := s) hr
    rw [e1, e2]
    clear h hv hbv hok e1 e2 hr
    go_enter Try.func15, Try.ntmps15
    go_wp2_with fail
    refine (unhide RA).mono ?_
    rintro r w1 ⟨rfl, k1⟩
    have K1 := hide (unhide HH _ ((Kp.ofBelow k1).trans (Kp.alloc w1 (.cells #[.int .i64 0, .int .i64 0, .string ⟨#[]⟩] 72)) (by simp)))
    clear k1 HH RA
    simp only [aEp, aNo]
    go_wp2
    go_ret
    exact ⟨rfl, unhide K1⟩
  | some q =>
    obtain ⟨e, n⟩ := q
    rw [hr] at RA
    obtain ⟨e1, e2⟩ := lhE_some (s := s) hr
    obtain ⟨b1, b2, b3, b4⟩ := lrA_bd hr
    obtain ⟨N, rfl⟩ : ∃ N : Nat, n = (N : Int) := ⟨n.toNat, by omega⟩
    have htop := hok.top
    have RA2 : Hid (Calls Try.prog 27 #[.string p] w fun r w' => r = .returned (.tuple #[.agg #[.int .i64 e, .int .i64 (N : Int), .string ⟨#[]⟩], .bool true]) ∧ Below w.heap.size w w') := RA
    have KK : Hid (∀ w1, Below w.heap.size w w1 → Kp [] w (w1.alloc (.cells #[.int .i64 e, .int .i64 (N : Int), .string ⟨#[]⟩] 72))) := hide (fun w1 k1 => (Kp.ofBelow k1).trans (Kp.alloc w1 _) (by simp))
    clear RA hr
    obtain ⟨ad, cap, hvs⟩ := hv.row.slice
    have CE : Hid (∀ W, Kp [] w W → W.cell? ⟨b, 0, none⟩ = some (.int .i64 s.ep) ∧ W.cell? ⟨b, 3, none⟩ = some (.int .i64 (s.first : Int)) ∧ W.cell? ⟨b, 4, none⟩ = some (.slice ad s.left.length cap)) := hide (fun W hk => by
      have := hv.box.kp hk (by simp)
      exact ⟨this.cell rfl, this.cell rfl, by rw [← hvs]; exact this.cell rfl⟩)
    by_cases h1 : e = s.ep
    · subst h1
      rw [if_neg (by simp)] at e1
      have NX := hide (fun W (hk : Kp [] w W) => lNextQ_any b v s W ⟨hv.box.kp hk (by simp), hv.row.kp hk (by simp)⟩ (by omega))
      by_cases h2 : s.first + s.left.length < N
      · rw [if_pos (by omega)] at e1
        rw [if_neg (by rw [e1]; simp)] at e2
        rw [e1, e2]
        have h2i : ((s.first + s.left.length : Nat) : Int) < (N : Int) := by omega
        clear h hv hbv hok e1 e2
        generalize s.first + s.left.length = T at *
        go_enter Try.func15, Try.ntmps15
        go_wp2_with fail
        refine (unhide RA2).mono ?_
        rintro r w1 ⟨rfl, k1⟩
        go_upto_region 2 with fail
        have k1s := k1.size
        obtain ⟨W, hW⟩ : ∃ W, W = w1.alloc (.cells #[.int .i64 s.ep, .int .i64 (N : Int), .string ⟨#[]⟩] 72) := ⟨_, rfl⟩
        have KW := hide (unhide KK w1 k1)
        have pb : CBox w1.heap.size #[.int .i64 s.ep, .int .i64 (N : Int), .string ⟨#[]⟩] 72 W := by rw [hW]; exact CBox.new _ _ _
        rw [← hW] at KW ⊢
        have p0 := pb.cell (i := 0) (v := .int .i64 s.ep) rfl
        have p1 := pb.cell (i := 1) (v := .int .i64 (N : Int)) rfl
        obtain ⟨a0, a3, a4⟩ := unhide CE W (unhide KW)
        have PB := hide pb
        clear hW pb k1 KK RA2
        have HPT0 := hide k1s
        clear k1s
        generalize w1.heap.size = gp at *
        have HQ := hide (fun W' hk => unhide HH W' hk)
        clear HH
        go_wp2
        go_quiet (fail)
        go_upto_region 6 with fail
        obtain ⟨W4, hW4⟩ : ∃ W4, W4 = W.drewN nq := ⟨_, rfl⟩
        have k4 : Kp [] W W4 := by rw [hW4]; exact Kp.drewQ _ _
        rw [← hW4]
        have KW4 := hide ((unhide KW).trans k4 (by simp))
        have p1 := k4.cell p1 (by simp)
        obtain ⟨_, a3, a4⟩ := unhide CE W4 (unhide KW4)
        have PB4 := hide ((unhide PB).kp k4 (by simp))
        clear hW4 k4 PB p0
        go_quiet (first | (go_at_call 23; exact Calls.quiet_of (unhide NX _ ((unhide KW4).trans (Kp.drewQ _ _) (by simp)))))
        go_wp2
        go_ret
        exact ⟨rfl, unhide HQ _ ((unhide KW4).trans (Kp.drewQ _ _) (by simp))⟩
      · rw [if_neg (by omega)] at e1
        have h2i : ¬ ((s.first + s.left.length : Nat) : Int) < (N : Int) := by omega
        by_cases h3 : s.first < N
        · rw [if_pos ⟨e1, by omega⟩, Int.toNat_natCast] at e2
          rw [e1, e2]
          have h3i : (s.first : Int) < (N : Int) := by omega
          have hkl : N - s.first ≤ s.left.length := by omega
          obtain ⟨g, hg⟩ : ∃ g, ad = some ⟨g, 0, none⟩ := by
            rcases hv.row.form with ⟨_, e⟩ | ⟨g, c, e, _⟩
            · rw [e] at hkl; simp at hkl; omega
            · rw [hvs] at e; injection e with e; exact ⟨g, e⟩
          subst hg
          have hdl : (s.left.drop (N - s.first)).length = s.left.length - (N - s.first) := List.length_drop
          have PC := hide (fun W (hk : Kp [] w W) => pucut_any g cap s.left (N - s.first) W (by have := hv.row.kp hk (by simp); rwa [hvs] at this) hkl (by omega))
          have FI : Hid (∀ W W3, Kp [] w W → PuRow W3 (.slice (some ⟨g, 0, none⟩) (s.left.length - (N - s.first)) cap) (s.left.drop (N - s.first)) → Kp [g] W W3 → W3.cell? ⟨b, 4, none⟩ = some (.slice (some ⟨g, 0, none⟩) s.left.length cap) ∧ W3.frozen? ⟨b, 4, none⟩ = false ∧ (W3.setCell ⟨b, 4, none⟩ (.slice (some ⟨g, 0, none⟩) (s.left.length - (N - s.first)) cap)).cell? ⟨b, 3, none⟩ = some (.int .i64 (s.first : Int)) ∧ (W3.setCell ⟨b, 4, none⟩ (.slice (some ⟨g, 0, none⟩) (s.left.length - (N - s.first)) cap)).frozen? ⟨b, 3, none⟩ = false ∧ SdAt B ((W3.setCell ⟨b, 4, none⟩ (.slice (some ⟨g, 0, none⟩) (s.left.length - (N - s.first)) cap)).setCell ⟨b, 3, none⟩ (.int .i64 (N : Int))) b ⟨s.ep, s.wd, s.pt, N, s.left.drop (N - s.first), s.now⟩ ∧ Ko sdO B w ((W3.setCell ⟨b, 4, none⟩ (.slice (some ⟨g, 0, none⟩) (s.left.length - (N - s.first)) cap)).setCell ⟨b, 3, none⟩ (.int .i64 (N : Int)))) := hide (fun W W3 hk hr3 hk3 => by
            have hgb : g ≠ b := hv.ne (k := g) (by rw [hvs]; rfl)
            have b3 := (hv.box.kp hk (by simp)).kp hk3 (by simpa using fun e => hgb e.symm)
            have b4 := b3.set 4 (.slice (some ⟨g, 0, none⟩) (s.left.length - (N - s.first)) cap)
            have b5 := b4.set 3 (.int .i64 (N : Int))
            refine ⟨?_, b3.froz 4, b4.cell rfl, b4.froz 3, ?_⟩
            · rw [← hvs]; exact b3.cell rfl
            have k4 := Kp.set W3 b 4 (.slice (some ⟨g, 0, none⟩) (s.left.length - (N - s.first)) cap)
            have k5 := Kp.set (W3.setCell ⟨b, 4, none⟩ (.slice (some ⟨g, 0, none⟩) (s.left.length - (N - s.first)) cap)) b 3 (.int .i64 (N : Int))
            have hob : v.ownBlock.toList = [g] := by rw [hvs]; rfl
            have ka : Kp (b :: v.ownBlock.toList) w ((W3.setCell ⟨b, 4, none⟩ (.slice (some ⟨g, 0, none⟩) (s.left.length - (N - s.first)) cap)).setCell ⟨b, 3, none⟩ (.int .i64 (N : Int))) := by
              rw [hob]
              exact (((hk.mono (G := [b, g]) (by simp)).trans (hk3.mono (G := [b, g]) (by simp)) (fun _ hx => Or.inl hx)).trans (k4.mono (G := [b, g]) (by simp)) (fun _ hx => Or.inl hx)).trans (k5.mono (G := [b, g]) (by simp)) (fun _ hx => Or.inl hx)
            refine sd_step hv hB hbv (v' := .slice (some ⟨g, 0, none⟩) (s.left.length - (N - s.first)) cap) ka b5 ?_ (fun k hk1 => Or.inl (by rw [hvs]; exact hk1))
            have hr4 := (hr3.kp k4 (fun j hj => by simp [Value.ownBlock] at hj; subst hj; simpa using hgb)).kp k5 (fun j hj => by simp [Value.ownBlock] at hj; subst hj; simpa using hgb)
            exact hr4)
          have HGB : Hid (g ≠ b) := hide (hv.ne (k := g) (by rw [hvs]; rfl))
          have HBG : Hid (b < w.heap.size ∧ g < w.heap.size) := hide ⟨(Array.getElem?_eq_some_iff.1 hv.box).1, hv.row.lt (by rw [hvs]; rfl)⟩
          clear h hv hbv hok e1 e2 hvs
          generalize (⟨s.ep, s.wd, s.pt, N, s.left.drop (N - s.first), s.now⟩ : Snd) = s2 at *
          generalize s.left.drop (N - s.first) = L2 at *
          have hwr : IntKind.i64.wrap ((N : Int) - (s.first : Int)) = ((N - s.first : Nat) : Int) := by unfold IntKind.wrap; simp [IntKind.signed, go_sem]; omega
          generalize s.left.length - (N - s.first) = m2 at *
          generalize N - s.first = kk at *
          generalize s.first + s.left.length = T at *
          generalize s.left.length = nn at *
          go_enter Try.func15, Try.ntmps15
          go_wp2_with fail
          refine (unhide RA2).mono ?_
          rintro r w1 ⟨rfl, k1⟩
          go_upto_region 2 with fail
          have k1s := k1.size
          obtain ⟨W, hW⟩ : ∃ W, W = w1.alloc (.cells #[.int .i64 s.ep, .int .i64 (N : Int), .string ⟨#[]⟩] 72) := ⟨_, rfl⟩
          have KW := hide (unhide KK w1 k1)
          have pb : CBox w1.heap.size #[.int .i64 s.ep, .int .i64 (N : Int), .string ⟨#[]⟩] 72 W := by rw [hW]; exact CBox.new _ _ _
          rw [← hW] at KW ⊢
          have p0 := pb.cell (i := 0) (v := .int .i64 s.ep) rfl
          have p1 := pb.cell (i := 1) (v := .int .i64 (N : Int)) rfl
          obtain ⟨a0, a3, a4⟩ := unhide CE W (unhide KW)
          have PB := hide pb
          clear hW pb k1 KK RA2
          have HPT0 := hide k1s
          clear k1s
          generalize w1.heap.size = gp at *
          clear HH
          go_wp2
          go_quiet (fail)
          go_upto_region 6 with fail
          obtain ⟨W4, hW4⟩ : ∃ W4, W4 = W.drewN nq := ⟨_, rfl⟩
          have k4 : Kp [] W W4 := by rw [hW4]; exact Kp.drewQ _ _
          rw [← hW4]
          have KW4 := hide ((unhide KW).trans k4 (by simp))
          have p1 := k4.cell p1 (by simp)
          obtain ⟨_, a3, a4⟩ := unhide CE W4 (unhide KW4)
          have PB4 := hide ((unhide PB).kp k4 (by simp))
          clear hW4 k4 PB p0
          go_quiet (first | (go_at_call 23; exact Calls.quiet_of (unhide NX _ ((unhide KW4).trans (Kp.drewQ _ _) (by simp)))))
          go_upto_region 8 with fail
          obtain ⟨W5, hN⟩ : ∃ X, X = W4.drewN nq := ⟨_, rfl⟩
          have k : Kp [] W4 W5 := by rw [hN]; exact Kp.drewQ _ _
          rw [← hN]
          have KW5 := hide ((unhide KW4).trans k (by simp))
          have PB5 := hide ((unhide PB4).kp k (by simp))
          have p1 := (unhide PB5).cell (i := 1) (v := .int .i64 (N : Int)) rfl
          obtain ⟨_, a3, a4⟩ := unhide CE W5 (unhide KW5)
          clear hN k PB4
          go_quiet (fail)
          go_upto_region 9 with fail
          obtain ⟨W6, hN⟩ : ∃ X, X = W5.drewN nq := ⟨_, rfl⟩
          have k : Kp [] W5 W6 := by rw [hN]; exact Kp.drewQ _ _
          rw [← hN]
          have KW6 := hide ((unhide KW5).trans k (by simp))
          have PB6 := hide ((unhide PB5).kp k (by simp))
          have p1 := (unhide PB6).cell (i := 1) (v := .int .i64 (N : Int)) rfl
          obtain ⟨_, a3, a4⟩ := unhide CE W6 (unhide KW6)
          clear hN k PB5
          obtain ⟨V, hV⟩ : ∃ V, V = W6.drew := ⟨_, rfl⟩
          have kV : Kp [] W6 V := by rw [hV]; exact Kp.drew _
          have KV := hide ((unhide KW6).trans kV (by simp))
          have PBV := hide ((unhide PB6).kp kV (by simp))
          obtain ⟨_, s3, s4⟩ := unhide CE V (unhide KV)
          have hS : V.cell? ⟨b, 4, none⟩ = some (.slice (some ⟨g, 0, none⟩) nn cap) ∧ V.cell? ⟨b, 3, none⟩ = some (.int .i64 (s.first : Int)) ∧ V.cell? ⟨gp, 1, none⟩ = some (.int .i64 (N : Int)) := ⟨s4, s3, (unhide PBV).cell rfl⟩
          have HPT : Hid (b < gp ∧ g < gp) := hide (by
            have := unhide HBG
            have := unhide HPT0
            omega)
          have hgpb : gp ≠ b ∧ gp ≠ g := ⟨fun e => by
            have := unhide HPT
            omega, fun e => by
            have := unhide HPT
            omega⟩
          have PCV := hide (unhide PC V (unhide KV))
          have hgb : g ≠ b := unhide HGB
          have HC3 : Hid (∀ W3, Kp [g] V W3 → Hid (W3.cell? ⟨b, 3, none⟩ = some (.int .i64 (s.first : Int)))) := hide (fun W3 hk3 => hide (hk3.cell s3 (by simpa using fun e => hgb e.symm)))
          have FIV := hide (fun W3 h1 h2 => unhide FI V W3 (unhide KV) h1 h2)
          clear kV KW6 KW5 KW4 KW PB6 p1 a3 a4 s3 s4 PC FI CE NX
          refine wp_region_late (fun W => W.cell? ⟨b, 4, none⟩ = some (.slice (some ⟨g, 0, none⟩) nn cap) ∧ W.cell? ⟨b, 3, none⟩ = some (.int .i64 (s.first : Int)) ∧ W.cell? ⟨gp, 1, none⟩ = some (.int .i64 (N : Int))) 15 (by kernel_rfl) ?_
          rw [← hV]
          clear hV
          show wpAnyL _ _ _ _ _ _ 16 (Array.replicate 16 false) _ _
          refine wpAnyL_take (i := 0) (oi := { dst := some 33, op := Op.move (Operand.tmp 0), type := 25, pos := "sender.go:75", after := #[], guard := none }) (v := ?_) rfl (by kernel_rfl) (by kernel_rfl) (by kernel_rfl) (by kernel_rfl) (fun _ _ _ h => h) (Or.inl ⟨by rfl, ?_⟩) hS ?_
          rotate_left 1
          · intro w0 hSw
            (try dsimp only at hSw)
            go_simp
            (try with_reducible rfl)
          try simp only [Act.put, List.setIfInBounds_toArray, List.set_cons_zero, List.set_cons_succ]
          refine wpAnyL_take (i := 1) (oi := { dst := some 34, op := Op.move (Operand.tmp 0), type := 25, pos := "sender.go:75", after := #[], guard := none }) (v := ?_) rfl (by kernel_rfl) (by kernel_rfl) (by kernel_rfl) (by kernel_rfl) (fun _ _ _ h => h) (Or.inl ⟨by rfl, ?_⟩) hS ?_
          rotate_left 1
          · intro w0 hSw
            (try dsimp only at hSw)
            go_simp
            (try with_reducible rfl)
          try simp only [Act.put, List.setIfInBounds_toArray, List.set_cons_zero, List.set_cons_succ]
          refine wpAnyL_take (i := 2) (oi := { dst := some 35, op := Op.nilCheck (Operand.tmp 34), type := 0, pos := "sender.go:75", after := #[{ on := 1, ground := Ground.data }], guard := none }) (v := ?_) rfl (by kernel_rfl) (by kernel_rfl) (by kernel_rfl) (by kernel_rfl) (fun _ _ _ h => h) (Or.inl ⟨by rfl, ?_⟩) hS ?_
          rotate_left 1
          · intro w0 hSw
            (try dsimp only at hSw)
            go_simp
            (try with_reducible rfl)
          try simp only [Act.put, List.setIfInBounds_toArray, List.set_cons_zero, List.set_cons_succ]
          refine wpAnyL_take (i := 3) (oi := { dst := some 36, op := Op.fieldAddr 60 (Operand.tmp 35) 4, type := 0, pos := "sender.go:75", after := #[{ on := 2, ground := Ground.data }], guard := none }) (v := ?_) rfl (by kernel_rfl) (by kernel_rfl) (by kernel_rfl) (by kernel_rfl) (fun _ _ _ h => h) (Or.inl ⟨by rfl, ?_⟩) hS ?_
          rotate_left 1
          · intro w0 hSw
            (try dsimp only at hSw)
            go_simp
            (try with_reducible rfl)
          try simp only [Act.put, List.setIfInBounds_toArray, List.set_cons_zero, List.set_cons_succ]
          refine wpAnyL_take (i := 4) (oi := { dst := some 37, op := Op.load 58 (Operand.tmp 36), type := 58, pos := "sender.go:75", after := #[{ on := 3, ground := Ground.data }], guard := none }) (v := ?_) rfl (by kernel_rfl) (by kernel_rfl) (by kernel_rfl) (by kernel_rfl) (fun _ _ _ h => h) (Or.inl ⟨by rfl, ?_⟩) hS ?_
          rotate_left 1
          · intro w0 hSw
            (try dsimp only at hSw)
            go_simp
            (try with_reducible rfl)
          try simp only [Act.put, List.setIfInBounds_toArray, List.set_cons_zero, List.set_cons_succ]
          refine wpAnyL_take (i := 5) (oi := { dst := some 38, op := Op.fieldAddr 72 (Operand.tmp 5) 1, type := 0, pos := "sender.go:75", after := #[], guard := none }) (v := ?_) rfl (by kernel_rfl) (by kernel_rfl) (by kernel_rfl) (by kernel_rfl) (fun _ _ _ h => h) (Or.inl ⟨by rfl, ?_⟩) hS ?_
          rotate_left 1
          · intro w0 hSw
            (try dsimp only at hSw)
            go_simp
            (try with_reducible rfl)
          try simp only [Act.put, List.setIfInBounds_toArray, List.set_cons_zero, List.set_cons_succ]
          refine wpAnyL_take (i := 6) (oi := { dst := some 39, op := Op.load 3 (Operand.tmp 38), type := 3, pos := "sender.go:75", after := #[{ on := 5, ground := Ground.data }], guard := none }) (v := ?_) rfl (by kernel_rfl) (by kernel_rfl) (by kernel_rfl) (by kernel_rfl) (fun _ _ _ h => h) (Or.inl ⟨by rfl, ?_⟩) hS ?_
          rotate_left 1
          · intro w0 hSw
            (try dsimp only at hSw)
            go_simp
            (try with_reducible rfl)
          try simp only [Act.put, List.setIfInBounds_toArray, List.set_cons_zero, List.set_cons_succ]
          refine wpAnyL_take (i := 7) (oi := { dst := some 40, op := Op.move (Operand.tmp 0), type := 25, pos := "sender.go:75", after := #[], guard := none }) (v := ?_) rfl (by kernel_rfl) (by kernel_rfl) (by kernel_rfl) (by kernel_rfl) (fun _ _ _ h => h) (Or.inl ⟨by rfl, ?_⟩) hS ?_
          rotate_left 1
          · intro w0 hSw
            (try dsimp only at hSw)
            go_simp
            (try with_reducible rfl)
          try simp only [Act.put, List.setIfInBounds_toArray, List.set_cons_zero, List.set_cons_succ]
          refine wpAnyL_take (i := 8) (oi := { dst := some 41, op := Op.nilCheck (Operand.tmp 40), type := 0, pos := "sender.go:75", after := #[{ on := 7, ground := Ground.data }], guard := none }) (v := ?_) rfl (by kernel_rfl) (by kernel_rfl) (by kernel_rfl) (by kernel_rfl) (fun _ _ _ h => h) (Or.inl ⟨by rfl, ?_⟩) hS ?_
          rotate_left 1
          · intro w0 hSw
            (try dsimp only at hSw)
            go_simp
            (try with_reducible rfl)
          try simp only [Act.put, List.setIfInBounds_toArray, List.set_cons_zero, List.set_cons_succ]
          refine wpAnyL_take (i := 9) (oi := { dst := some 42, op := Op.fieldAddr 60 (Operand.tmp 41) 3, type := 0, pos := "sender.go:75", after := #[{ on := 8, ground := Ground.data }], guard := none }) (v := ?_) rfl (by kernel_rfl) (by kernel_rfl) (by kernel_rfl) (by kernel_rfl) (fun _ _ _ h => h) (Or.inl ⟨by rfl, ?_⟩) hS ?_
          rotate_left 1
          · intro w0 hSw
            (try dsimp only at hSw)
            go_simp
            (try with_reducible rfl)
          try simp only [Act.put, List.setIfInBounds_toArray, List.set_cons_zero, List.set_cons_succ]
          refine wpAnyL_take (i := 10) (oi := { dst := some 43, op := Op.load 3 (Operand.tmp 42), type := 3, pos := "sender.go:75", after := #[{ on := 9, ground := Ground.data }], guard := none }) (v := ?_) rfl (by kernel_rfl) (by kernel_rfl) (by kernel_rfl) (by kernel_rfl) (fun _ _ _ h => h) (Or.inl ⟨by rfl, ?_⟩) hS ?_
          rotate_left 1
          · intro w0 hSw
            (try dsimp only at hSw)
            go_simp
            (try with_reducible rfl)
          try simp only [Act.put, List.setIfInBounds_toArray, List.set_cons_zero, List.set_cons_succ]
          refine wpAnyL_take (i := 11) (oi := { dst := some 44, op := Op.binOp BinOp.sub 3 (Operand.tmp 39) (Operand.tmp 43) 3, type := 3, pos := "sender.go:75", after := #[{ on := 6, ground := Ground.data }, { on := 10, ground := Ground.data }], guard := none }) (v := ?_) rfl (by kernel_rfl) (by kernel_rfl) (by kernel_rfl) (by kernel_rfl) (fun _ _ _ h => h) (Or.inl ⟨by rfl, ?_⟩) hS ?_
          rotate_left 1
          · intro w0 hSw
            (try dsimp only at hSw)
            go_simp
            (try with_reducible rfl)
          try simp only [Act.put, List.setIfInBounds_toArray, List.set_cons_zero, List.set_cons_succ]
          refine wpAnyL_one (i := 12) (o := { dst := some 45, op := Op.call { callee := Callee.value (Operand.func 28), args := #[Operand.tmp 37, Operand.const (Value.int IntKind.i64 0), Operand.tmp 44], argTypes := #[58, 3, 3] }, type := 58, pos := "sender.go:75", after := #[{ on := 4, ground := Ground.data }, { on := 11, ground := Ground.data }], guard := none }) rfl (by kernel_rfl) (fun K hK => ?_)
          go_simp
          refine (unhide PCV).mono ?_
          rintro e W3 ⟨rfl, hr3, hk3⟩
          obtain ⟨q1, q2, q3, q4, q5⟩ := unhide FIV W3 hr3 hk3
          have HQ5 := hide q5
          have PB3 := hide ((unhide PBV).kp hk3 (by simpa using fun e => hgpb.2 e))
          have hS3 : W3.cell? ⟨b, 4, none⟩ = some (.slice (some ⟨g, 0, none⟩) nn cap) ∧ W3.cell? ⟨b, 3, none⟩ = some (.int .i64 (s.first : Int)) ∧ W3.cell? ⟨gp, 1, none⟩ = some (.int .i64 (N : Int)) := ⟨q1, unhide (unhide HC3 W3 hk3), (unhide PB3).cell rfl⟩
          clear q5 hr3 hk3 FIV PCV PBV
          refine hK _ _ (Or.inr hS3) ?_
          clear hK K
          try simp only [Act.put, List.setIfInBounds_toArray, List.set_cons_zero, List.set_cons_succ]
          refine wpAnyL_one (i := 13) (o := { dst := some 46, op := Op.nilCheck (Operand.tmp 33), type := 0, pos := "sender.go:75", after := #[{ on := 0, ground := Ground.data }, { on := 0, ground := Ground.phase }, { on := 1, ground := Ground.phase }, { on := 2, ground := Ground.phase }, { on := 3, ground := Ground.phase }, { on := 4, ground := Ground.phase }, { on := 5, ground := Ground.phase }, { on := 6, ground := Ground.phase }, { on := 7, ground := Ground.phase }, { on := 8, ground := Ground.phase }, { on := 9, ground := Ground.phase }, { on := 10, ground := Ground.phase }, { on := 11, ground := Ground.phase }, { on := 12, ground := Ground.phase }], guard := none }) rfl (by kernel_rfl) (fun K hK => ?_)
          go_simp
          refine hK _ _ (Or.inr hS3) ?_
          clear hK K
          try simp only [Act.put, List.setIfInBounds_toArray, List.set_cons_zero, List.set_cons_succ]
          refine wpAnyL_one (i := 14) (o := { dst := some 47, op := Op.fieldAddr 60 (Operand.tmp 46) 4, type := 0, pos := "sender.go:75", after := #[{ on := 13, ground := Ground.data }, { on := 0, ground := Ground.phase }, { on := 1, ground := Ground.phase }, { on := 2, ground := Ground.phase }, { on := 3, ground := Ground.phase }, { on := 4, ground := Ground.phase }, { on := 5, ground := Ground.phase }, { on := 6, ground := Ground.phase }, { on := 7, ground := Ground.phase }, { on := 8, ground := Ground.phase }, { on := 9, ground := Ground.phase }, { on := 10, ground := Ground.phase }, { on := 11, ground := Ground.phase }, { on := 12, ground := Ground.phase }], guard := none }) rfl (by kernel_rfl) (fun K hK => ?_)
          go_simp
          refine hK _ _ (Or.inr hS3) ?_
          clear hK K
          try simp only [Act.put, List.setIfInBounds_toArray, List.set_cons_zero, List.set_cons_succ]
          refine wpAnyL_one (i := 15) (o := { dst := none, op := Op.store 58 (Operand.tmp 47) (Operand.tmp 45), type := 0, pos := "sender.go:75", after := #[{ on := 14, ground := Ground.data }, { on := 12, ground := Ground.data }, { on := 12, ground := Ground.chain }, { on := 0, ground := Ground.phase }, { on := 1, ground := Ground.phase }, { on := 2, ground := Ground.phase }, { on := 3, ground := Ground.phase }, { on := 4, ground := Ground.phase }, { on := 5, ground := Ground.phase }, { on := 6, ground := Ground.phase }, { on := 7, ground := Ground.phase }, { on := 8, ground := Ground.phase }, { on := 9, ground := Ground.phase }, { on := 10, ground := Ground.phase }, { on := 11, ground := Ground.phase }, { on := 12, ground := Ground.phase }], guard := none }) rfl (by kernel_rfl) (fun K hK => ?_)
          go_simp
          refine hK _ _ (Or.inl rfl) ?_
          clear hK K
          try simp only [Act.put, List.setIfInBounds_toArray, List.set_cons_zero, List.set_cons_succ]
          refine wpAnyL_done (by kernel_rfl) ?_ _
          have p3 : (W3.setCell ⟨b, 4, none⟩ (.slice (some ⟨g, 0, none⟩) m2 cap)).cell? ⟨gp, 1, none⟩ = some (.int .i64 (N : Int)) := ((unhide PB3).kp (Kp.set W3 b 4 _) (by simpa using hgpb.1)).cell rfl
          obtain ⟨W9, hW9⟩ : ∃ W9, W9 = W3.setCell ⟨b, 4, none⟩ (.slice (some ⟨g, 0, none⟩) m2 cap) := ⟨_, rfl⟩
          rw [← hW9] at q3 q4 p3 HQ5 ⊢
          clear hW9 hS3 hS q1 q2
          go_wp2
          go_ret
          exact ⟨rfl, unhide HQ5⟩
        · rw [if_neg (by omega)] at e2
          rw [e1, e2]
          have h3i : ¬ (s.first : Int) < (N : Int) := by omega
          clear h hv hbv hok e1 e2
          generalize s.first + s.left.length = T at *
          go_enter Try.func15, Try.ntmps15
          go_wp2_with fail
          refine (unhide RA2).mono ?_
          rintro r w1 ⟨rfl, k1⟩
          go_upto_region 2 with fail
          have k1s := k1.size
          obtain ⟨W, hW⟩ : ∃ W, W = w1.alloc (.cells #[.int .i64 s.ep, .int .i64 (N : Int), .string ⟨#[]⟩] 72) := ⟨_, rfl⟩
          have KW := hide (unhide KK w1 k1)
          have pb : CBox w1.heap.size #[.int .i64 s.ep, .int .i64 (N : Int), .string ⟨#[]⟩] 72 W := by rw [hW]; exact CBox.new _ _ _
          rw [← hW] at KW ⊢
          have p0 := pb.cell (i := 0) (v := .int .i64 s.ep) rfl
          have p1 := pb.cell (i := 1) (v := .int .i64 (N : Int)) rfl
          obtain ⟨a0, a3, a4⟩ := unhide CE W (unhide KW)
          have PB := hide pb
          clear hW pb k1 KK RA2
          have HPT0 := hide k1s
          clear k1s
          generalize w1.heap.size = gp at *
          have HQ := hide (fun W' hk => unhide HH W' hk)
          clear HH
          go_wp2
          go_quiet (fail)
          go_upto_region 6 with fail
          obtain ⟨W4, hW4⟩ : ∃ W4, W4 = W.drewN nq := ⟨_, rfl⟩
          have k4 : Kp [] W W4 := by rw [hW4]; exact Kp.drewQ _ _
          rw [← hW4]
          have KW4 := hide ((unhide KW).trans k4 (by simp))
          have p1 := k4.cell p1 (by simp)
          obtain ⟨_, a3, a4⟩ := unhide CE W4 (unhide KW4)
          have PB4 := hide ((unhide PB).kp k4 (by simp))
          clear hW4 k4 PB p0
          go_quiet (first | (go_at_call 23; exact Calls.quiet_of (unhide NX _ ((unhide KW4).trans (Kp.drewQ _ _) (by simp)))))
          go_wp2
          go_quiet (fail)
          go_wp2
          go_ret
          exact ⟨rfl, unhide HQ _ (((unhide KW4).trans (Kp.drewQ _ _) (by simp)).trans (Kp.drewQ _ _) (by simp))⟩
    · rw [if_pos h1] at e1
      rw [if_neg (by rw [e1]; simp)] at e2
      rw [e1, e2]
      have h1b : (e != s.ep) = true := bne_iff_ne.2 h1
      clear h hv hbv hok e1 e2
      go_enter Try.func15, Try.ntmps15
      go_wp2_with fail
      refine (unhide RA2).mono ?_
      rintro r w1 ⟨rfl, k1⟩
      go_upto_region 2 with fail
      have k1s := k1.size
      obtain ⟨W, hW⟩ : ∃ W, W = w1.alloc (.cells #[.int .i64 e, .int .i64 (N : Int), .string ⟨#[]⟩] 72) := ⟨_, rfl⟩
      have KW := hide (unhide KK w1 k1)
      have pb : CBox w1.heap.size #[.int .i64 e, .int .i64 (N : Int), .string ⟨#[]⟩] 72 W := by rw [hW]; exact CBox.new _ _ _
      rw [← hW] at KW ⊢
      have p0 := pb.cell (i := 0) (v := .int .i64 e) rfl
      have p1 := pb.cell (i := 1) (v := .int .i64 (N : Int)) rfl
      obtain ⟨a0, a3, a4⟩ := unhide CE W (unhide KW)
      have PB := hide pb
      clear hW pb k1 KK RA2
      have HPT0 := hide k1s
      clear k1s
      generalize w1.heap.size = gp at *
      have HQ := hide (fun n => unhide HH (W.drewN n) ((unhide KW).trans (Kp.drewQ _ _) (by simp)))
      clear HH
      go_wp2
      go_quiet (fail)
      go_wp2
      go_ret
      exact ⟨rfl, unhide HQ _⟩
end Go.Proofs.Ytiomngpfolkgpaa
