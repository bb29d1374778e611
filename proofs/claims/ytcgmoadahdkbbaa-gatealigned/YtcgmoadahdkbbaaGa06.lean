/-
  Gates: an item is put on a line; the first one is taken off.
  Gates: the first item of a line is taken off.
-/
import Derived.Test.YtcgmoadahdkbbaaGa05
import Derived.Test.YtcgmoadahdkbbaaGa02
namespace Go.Proofs.Ytcgmoadahdkbbaa
open Go.RowKit Gt Cr

theorem gt_push {B b L : Nat} {w V3 w9 : World} {cs : Array Value} {rs : Nat → Nat} {vs : Nat → Value} {G : Gt} (h : GtV w b L cs rs vs G) (hl : GtL B b L rs vs G.n) {k : Nat} (hk : k < G.n) {x : It} {g9 cap9 : Nat} (ho0 : (G.ch k).owed ≠ 0) (k3 : Kp [rs k] w V3) (hr : CrAt V3 (rs k) ((G.ch k).ps x).sto)
    (ho : w9.ownsRow 0 81 2 (.slice (some ⟨g9, 0, none⟩) ((G.ch k).q.length + 1) cap9) ((G.ch k).q.length + 1) (itC (G.ch k).q ++ [.string x.t, .int .i64 (x.n : Int)])) (hg : V3.grownBy w9 (vs k).ownBlock) (hat : (vs k).ownBlock = some g9 ∨ g9 = V3.heap.size) :
    GtAt B (w9.setCell ⟨L, k * 3 + 1, none⟩ (.slice (some ⟨g9, 0, none⟩) ((G.ch k).q.length + 1) cap9)) b L (G.upd k ((G.ch k).ps x)) ∧ Ko gtO B w (w9.setCell ⟨L, k * 3 + 1, none⟩ (.slice (some ⟨g9, 0, none⟩) ((G.ch k).q.length + 1) cap9)) := by
  have e : (G.ch k).ps x = ⟨(G.ch k).cap, (G.ch k).owed - 1, (G.ch k).q ++ [x], (G.ch k).next⟩ := if_neg ho0
  have kk : Kp (rs k :: (vs k).ownBlock.toList) w w9 := (k3.mono (G := rs k :: (vs k).ownBlock.toList) (by simp)).trans ((Kp.of hg).mono (fun x hx => List.mem_cons_of_mem _ hx)) (fun _ hx => Or.inl hx)
  have hrn : rs k ∉ (vs k).ownBlock.toList := fun hm => h.rv hk hk (by simpa using hm) rfl
  refine gt_step h hl hk kk (hr.kp (Kp.of hg) hrn) ?_ (fun g hg => ?_) (by rw [e]) ?_
  · rw [e]
    dsimp only
    unfold ItRow
    rw [List.length_append, itC_append, itC_one]
    exact ho
  · simp [Value.ownBlock] at hg
    subst hg
    rcases hat with e | e
    · exact Or.inl e
    · exact Or.inr (by rw [e]; exact k3.size)
  · rw [Ch.ps_sto]
    exact (h.ok.ch k hk).pt _
set_option maxHeartbeats 8000000 in
set_option maxRecDepth 100000 in
theorem gPush_any (B b L : Nat) (G : Gt) (k : Nat) (x : It) (w : World) (h : GtAt B w b L G) (hk : k < G.n) :
    Calls Try.prog 32 #[.pointer (some ⟨L, k * 3, none⟩), .agg #[.string x.t, .int .i64 (x.n : Int)]] w fun e w' => e = .returned (.int .i64 (G.ch k).psE) ∧ GtAt B w' b L (G.upd k ((G.ch k).ps x)) ∧ Ko gtO B w w' := by
  obtain ⟨cs, rs, vs, hv, hl⟩ := h
  have c0 := hv.cell0 hk
  have KA := Kp.alloc w (.cells #[.string x.t, .int .i64 (x.n : Int)] 81)
  have NB := CBox.new w #[.string x.t, .int .i64 (x.n : Int)] 81
  have hrl : rs k < w.heap.size := (hv.rm k hk).lt
  have PU := hide (cPut_any (rs k) (G.ch k).sto ⟨#[]⟩ (w.alloc (.cells #[.string x.t, .int .i64 (x.n : Int)] 81)) ((hv.rm k hk).kp KA (by simp)) (by decide))
  rw [Ch.psE_sto, ← Ch.ps_sto _ x] at PU
  have c0A := KA.cell c0 (by simp)
  by_cases hq : (G.ch k).owed = 0
  · have eE : (G.ch k).psE = 200 := if_pos hq
    have eS : (G.ch k).ps x = G.ch k := if_pos hq
    have FI : Hid (∀ w1, CrAt w1 (rs k) (G.ch k).sto → Kp [rs k] (w.alloc (.cells #[.string x.t, .int .i64 (x.n : Int)] 81)) w1 → GtAt B w1 b L G ∧ Ko gtO B w w1) := hide (fun w1 h1 k1 => by
      have := gt_stay hv hl hk (c := G.ch k) ((KA.mono (G := [rs k]) (by simp)).trans k1 (fun _ hx => Or.inl hx)) h1 rfl rfl (hv.ok.ch k hk)
      rwa [Gt.upd_self] at this)
    rw [eE, eS] at PU ⊢
    rw [Gt.upd_self]
    clear eE eS hv hl hq KA NB hrl c0
    generalize k * 3 = o at *
    generalize rs k = R at *
    generalize (G.ch k).sto = SS at *
    go_enter Try.func32, Try.ntmps32
    go_wp2_with fail
    refine (unhide PU).mono ?_
    rintro r w1 ⟨rfl, h1, h2⟩
    have F2 := hide (unhide FI _ h1 h2)
    clear h1 h2 FI PU
    go_wp2
    go_ret
    exact ⟨rfl, unhide F2⟩
  · have eE : (G.ch k).psE = 0 := if_neg hq
    obtain ⟨i0, hi0, hz0, hz1, hz2⟩ := info_parts info_it
    obtain ⟨ad, cap, hvs⟩ := (hv.it k hk).slice
    have hrL : L ≠ rs k := hv.Lr hk
    have hrn : ∀ g, (vs k).ownBlock = some g → g ∉ [rs k] := fun g hg => by simpa using fun e : g = rs k => hv.rv hk hk hg e.symm
    have HS : Hid (∀ W, Kp [rs k] w W → W.cell? ⟨L, k * 3 + 1, none⟩ = some (.slice ad (G.ch k).q.length cap)) := hide (fun W hk1 => by
      rw [← hvs]
      exact hk1.cell (hv.cell1 hk) (by simpa using hrL))
    have HOW : Hid (∀ W, Kp [rs k] w W → W.ownsRow 0 81 2 (.slice ad (G.ch k).q.length cap) (G.ch k).q.length (itC (G.ch k).q)) := hide (fun W hk1 => by
      have := (hv.it k hk).kp hk1 hrn
      rw [hvs] at this
      exact this)
    have HG : Hid (∀ V3 w9, Kp [rs k] w V3 → V3.grownBy w9 (Value.slice ad (G.ch k).q.length cap).ownBlock → w9.cell? ⟨L, k * 3 + 1, none⟩ = some (.slice ad (G.ch k).q.length cap) ∧ w9.frozen? ⟨L, k * 3 + 1, none⟩ = false) := hide (fun V3 w9 k3 hg => by
      rw [← hvs] at hg ⊢
      have b9 := (hv.lb.kp k3 (by simpa using hrL)).kp (Kp.of hg) (fun hm => hv.Lv hk (by simpa using hm) rfl)
      exact ⟨b9.cell (hv.c1 k hk), b9.froz _⟩)
    have HFI : Hid (∀ V3 w9 g9 cap9, Kp [rs k] w V3 → CrAt V3 (rs k) ((G.ch k).ps x).sto → w9.ownsRow 0 81 2 (.slice (some ⟨g9, 0, none⟩) ((G.ch k).q.length + 1) cap9) ((G.ch k).q.length + 1) (itC (G.ch k).q ++ [.string x.t, .int .i64 (x.n : Int)]) → V3.grownBy w9 (Value.slice ad (G.ch k).q.length cap).ownBlock → ((Value.slice ad (G.ch k).q.length cap).ownBlock = some g9 ∨ g9 = V3.heap.size) → GtAt B (w9.setCell ⟨L, k * 3 + 1, none⟩ (.slice (some ⟨g9, 0, none⟩) ((G.ch k).q.length + 1) cap9)) b L (G.upd k ((G.ch k).ps x)) ∧ Ko gtO B w (w9.setCell ⟨L, k * 3 + 1, none⟩ (.slice (some ⟨g9, 0, none⟩) ((G.ch k).q.length + 1) cap9))) := hide (fun V3 w9 g9 cap9 k3 hr ho hg hat => by
      rw [← hvs] at hg hat
      exact gt_push hv hl hk hq k3 hr ho hg hat)
    have K1 : Hid (∀ w1, Kp [rs k] (w.alloc (.cells #[.string x.t, .int .i64 (x.n : Int)] 81)) w1 → Kp [rs k] w w1 ∧ CBox w.heap.size #[.string x.t, .int .i64 (x.n : Int)] 81 w1) := hide (fun w1 k1 => ⟨(KA.mono (G := [rs k]) (by simp)).trans k1 (fun _ hx => Or.inl hx), NB.kp k1 (by simp; omega)⟩)
    have HXN : Hid (∀ W w9, CBox w.heap.size #[.string x.t, .int .i64 (x.n : Int)] 81 W → W.grownBy w9 (Value.slice ad (G.ch k).q.length cap).ownBlock → w9.cell? ⟨w.heap.size, 0, none⟩ = some (.string x.t) ∧ w9.cell? ⟨w.heap.size, 1, none⟩ = some (.int .i64 (x.n : Int))) := hide (fun W w9 hb hg => by
      have b9 := hb.kp (Kp.of hg) (fun hm => by
        have := (hv.it k hk).lt (k := w.heap.size) (by rw [hvs]; simpa using hm)
        omega)
      exact ⟨b9.cell rfl, b9.cell rfl⟩)
    have hn : (G.ch k).q.length < 256 := by have := Ch.lq (hv.ok.ch k hk); omega
    rw [eE] at PU ⊢
    clear eE hv hl hq KA NB hrl c0 hvs hrL hrn
    generalize G.upd k ((G.ch k).ps x) = G2 at *
    generalize ((G.ch k).ps x).sto = SS at *
    generalize itC (G.ch k).q = xs at *
    generalize (G.ch k).q.length = n at *
    generalize k * 3 = o at *
    generalize rs k = R at *
    generalize (x.n : Int) = xn at *
    generalize x.t = xt at *
    go_enter Try.func32, Try.ntmps32
    go_wp2_with fail
    refine (unhide PU).mono ?_
    rintro r w1 ⟨rfl, h1, h2⟩
    obtain ⟨k1, nb1⟩ := unhide K1 _ h2
    have CR1 := hide h1
    have KV0 := hide k1
    have NB1 := hide nb1
    clear h1 h2 k1 nb1 K1 PU c0A
    go_upto_region 4 with fail
    generalize w.heap.size = gx at *
    obtain ⟨V, hV⟩ : ∃ V, V = w1.drew := ⟨_, rfl⟩
    have KV : Hid (Kp [R] w V) := hide (by rw [hV]; exact (unhide KV0).trans (Kp.drew _) (by simp))
    have CR : Hid (CrAt V R SS) := hide (by rw [hV]; exact (unhide CR1).kp (Kp.drew _) (by simp))
    have NB : Hid (CBox gx #[.string xt, .int .i64 xn] 81 V) := hide (by rw [hV]; exact (unhide NB1).kp (Kp.drew _) (by simp))
    have a0 : V.cell? ⟨L, o + 1, none⟩ = some (.slice ad n cap) ∧ V.cell? ⟨gx, 0, none⟩ = some (.string xt) ∧ V.cell? ⟨gx, 1, none⟩ = some (.int .i64 xn) := ⟨unhide HS V (unhide KV), (unhide NB).cell rfl, (unhide NB).cell rfl⟩
    refine wp_region_late (fun W => W.cell? ⟨L, o + 1, none⟩ = some (.slice ad n cap) ∧ W.cell? ⟨gx, 0, none⟩ = some (.string xt) ∧ W.cell? ⟨gx, 1, none⟩ = some (.int .i64 xn)) 10 (by kernel_rfl) ?_
    rw [← hV]
    clear hV KV0 CR1 NB1
    show wpAnyL _ _ _ _ _ _ 11 (Array.replicate 11 false) _ _
    refine wpAnyL_take3 (i := 0) (oi := { dst := some 14, op := Op.move (Operand.tmp 0), type := 83, pos := "line.go:41", after := #[], guard := none }) (v := ?_) rfl (by kernel_rfl) (by kernel_rfl) (by kernel_rfl) (by kernel_rfl) (fun _ _ _ h => h) (Or.inl ⟨by rfl, ?_⟩) a0 ?_
    rotate_left 1
    · intro w0 hSw
      (try dsimp only at hSw)
      go_simp
      (try with_reducible rfl)
    try simp only [Act.put, List.setIfInBounds_toArray, List.set_cons_zero, List.set_cons_succ]
    refine wpAnyL_take3 (i := 1) (oi := { dst := some 15, op := Op.move (Operand.tmp 0), type := 83, pos := "line.go:41", after := #[], guard := none }) (v := ?_) rfl (by kernel_rfl) (by kernel_rfl) (by kernel_rfl) (by kernel_rfl) (fun _ _ _ h => h) (Or.inl ⟨by rfl, ?_⟩) a0 ?_
    rotate_left 1
    · intro w0 hSw
      (try dsimp only at hSw)
      go_simp
      (try with_reducible rfl)
    try simp only [Act.put, List.setIfInBounds_toArray, List.set_cons_zero, List.set_cons_succ]
    refine wpAnyL_take3 (i := 2) (oi := { dst := some 16, op := Op.nilCheck (Operand.tmp 15), type := 0, pos := "line.go:41", after := #[{ on := 1, ground := Ground.data }], guard := none }) (v := ?_) rfl (by kernel_rfl) (by kernel_rfl) (by kernel_rfl) (by kernel_rfl) (fun _ _ _ h => h) (Or.inl ⟨by rfl, ?_⟩) a0 ?_
    rotate_left 1
    · intro w0 hSw
      (try dsimp only at hSw)
      go_simp
      (try with_reducible rfl)
    try simp only [Act.put, List.setIfInBounds_toArray, List.set_cons_zero, List.set_cons_succ]
    refine wpAnyL_take3 (i := 3) (oi := { dst := some 17, op := Op.fieldAddr 71 (Operand.tmp 16) 1, type := 0, pos := "line.go:41", after := #[{ on := 2, ground := Ground.data }], guard := none }) (v := ?_) rfl (by kernel_rfl) (by kernel_rfl) (by kernel_rfl) (by kernel_rfl) (fun _ _ _ h => h) (Or.inl ⟨by rfl, ?_⟩) a0 ?_
    rotate_left 1
    · intro w0 hSw
      (try dsimp only at hSw)
      go_simp
      (try with_reducible rfl)
    try simp only [Act.put, List.setIfInBounds_toArray, List.set_cons_zero, List.set_cons_succ]
    refine wpAnyL_take3 (i := 4) (oi := { dst := some 18, op := Op.load 69 (Operand.tmp 17), type := 69, pos := "line.go:41", after := #[{ on := 3, ground := Ground.data }], guard := none }) (v := ?_) rfl (by kernel_rfl) (by kernel_rfl) (by kernel_rfl) (by kernel_rfl) (fun _ _ _ h => h) (Or.inl ⟨by rfl, ?_⟩) a0 ?_
    rotate_left 1
    · intro w0 hSw
      (try dsimp only at hSw)
      go_simp
      (try with_reducible rfl)
    try simp only [Act.put, List.setIfInBounds_toArray, List.set_cons_zero, List.set_cons_succ]
    refine wpAnyL_take3 (i := 5) (oi := { dst := some 19, op := Op.load 81 (Operand.tmp 3), type := 81, pos := "line.go:41", after := #[], guard := none }) (v := ?_) rfl (by kernel_rfl) (by kernel_rfl) (by kernel_rfl) (by kernel_rfl) (fun _ _ _ h => h) (Or.inl ⟨by rfl, ?_⟩) a0 ?_
    rotate_left 1
    · intro w0 hSw
      (try dsimp only at hSw)
      go_simp
      (try with_reducible rfl)
    try simp only [Act.put, List.setIfInBounds_toArray, List.set_cons_zero, List.set_cons_succ]
    have KV3 : Hid (Kp [R] w (V.alloc (.cells #[.string xt, .int .i64 xn] 81))) := hide ((unhide KV).trans (Kp.alloc _ _) (by simp))
    have NB3 := hide (CBox.new V #[.string xt, .int .i64 xn] 81)
    have CR3 : Hid (CrAt (V.alloc (.cells #[.string xt, .int .i64 xn] 81)) R SS) := hide ((unhide CR).kp (Kp.alloc _ _) (by simp))
    have NBX : Hid (CBox gx #[.string xt, .int .i64 xn] 81 (V.alloc (.cells #[.string xt, .int .i64 xn] 81))) := hide ((unhide NB).kp (Kp.alloc _ _) (by simp))
    have a1 : (V.alloc (.cells #[.string xt, .int .i64 xn] 81)).cell? ⟨L, o + 1, none⟩ = some (.slice ad n cap) ∧ (V.alloc (.cells #[.string xt, .int .i64 xn] 81)).cell? ⟨gx, 0, none⟩ = some (.string xt) ∧ (V.alloc (.cells #[.string xt, .int .i64 xn] 81)).cell? ⟨gx, 1, none⟩ = some (.int .i64 xn) := ⟨unhide HS _ (unhide KV3), (unhide NBX).cell rfl, (unhide NBX).cell rfl⟩
    refine wpAnyL_one (i := 6) (o := { dst := some 20, op := Op.buildSlice 69 1 #[(0, Operand.tmp 19)], type := 69, pos := "line.go:41", after := #[{ on := 5, ground := Ground.data }], guard := none }) rfl (by kernel_rfl) (fun K hK => ?_)
    go_simp
    refine hK _ _ (Or.inr a1) ?_
    clear hK K
    try simp only [Act.put, List.setIfInBounds_toArray, List.set_cons_zero, List.set_cons_succ]
    have a1 := a1.1
    generalize V.alloc (.cells #[.string xt, .int .i64 xn] 81) = V3 at *
    generalize V.heap.size = g3 at *
    refine wpAnyL_one (i := 7) (o := { dst := some 21, op := Op.call { callee := Callee.builtin Builtin.append, args := #[Operand.tmp 18, Operand.tmp 20], argTypes := #[69, 69] }, type := 69, pos := "line.go:41", after := #[{ on := 4, ground := Ground.data }, { on := 6, ground := Ground.data }], guard := none }) rfl (by kernel_rfl) (fun K hK => ?_)
    refine step_append_lies rfl (.tmp 18) (.tmp 20) 69 rfl 0 81 i0 _ 2 24 Try.underlying69 hi0 hz0 hz1 hz2 rfl (by decide) _ n xs rfl (unhide HOW _ (unhide KV3)) ⟨g3, 0, none⟩ 1 1 [.string xt, .int .i64 xn] rfl rfl (fun j u hj => by
      rw [Go.WideShapes.add_plain, Nat.zero_add]
      exact (unhide NB3).cell (by simpa using hj)) (fun u hu => by simp at hu; rcases hu with rfl | rfl <;> rfl) (by decide) (by unfold maxLen; omega) (by omega) (Nat.zero_le _) ?_
    intro g9 cap9 w9 own9 gr9 at9
    obtain ⟨a9, f9⟩ := unhide HG _ w9 (unhide KV3) gr9
    have FN := hide (unhide HFI _ w9 g9 cap9 (unhide KV3) (unhide CR3) own9 gr9 at9)
    have x9 := unhide HXN _ w9 (unhide NBX) gr9
    refine hK _ _ (Or.inr ⟨a9, x9⟩) ?_
    clear hK K
    try simp only [Act.put, List.setIfInBounds_toArray, List.set_cons_zero, List.set_cons_succ]
    refine wpAnyL_one (i := 8) (o := { dst := some 22, op := Op.nilCheck (Operand.tmp 14), type := 0, pos := "line.go:41", after := #[{ on := 0, ground := Ground.data }, { on := 0, ground := Ground.phase }, { on := 1, ground := Ground.phase }, { on := 2, ground := Ground.phase }, { on := 3, ground := Ground.phase }, { on := 4, ground := Ground.phase }, { on := 5, ground := Ground.phase }, { on := 6, ground := Ground.phase }, { on := 7, ground := Ground.phase }], guard := none }) rfl (by kernel_rfl) (fun K hK => ?_)
    go_simp
    refine hK _ _ (Or.inr ⟨a9, x9⟩) ?_
    clear hK K
    try simp only [Act.put, List.setIfInBounds_toArray, List.set_cons_zero, List.set_cons_succ]
    refine wpAnyL_one (i := 9) (o := { dst := some 23, op := Op.fieldAddr 71 (Operand.tmp 22) 1, type := 0, pos := "line.go:41", after := #[{ on := 8, ground := Ground.data }, { on := 0, ground := Ground.phase }, { on := 1, ground := Ground.phase }, { on := 2, ground := Ground.phase }, { on := 3, ground := Ground.phase }, { on := 4, ground := Ground.phase }, { on := 5, ground := Ground.phase }, { on := 6, ground := Ground.phase }, { on := 7, ground := Ground.phase }], guard := none }) rfl (by kernel_rfl) (fun K hK => ?_)
    go_simp
    refine hK _ _ (Or.inr ⟨a9, x9⟩) ?_
    clear hK K
    try simp only [Act.put, List.setIfInBounds_toArray, List.set_cons_zero, List.set_cons_succ]
    refine wpAnyL_one (i := 10) (o := { dst := none, op := Op.store 69 (Operand.tmp 23) (Operand.tmp 21), type := 0, pos := "line.go:41", after := #[{ on := 9, ground := Ground.data }, { on := 7, ground := Ground.data }, { on := 7, ground := Ground.chain }, { on := 0, ground := Ground.phase }, { on := 1, ground := Ground.phase }, { on := 2, ground := Ground.phase }, { on := 3, ground := Ground.phase }, { on := 4, ground := Ground.phase }, { on := 5, ground := Ground.phase }, { on := 6, ground := Ground.phase }, { on := 7, ground := Ground.phase }], guard := none }) rfl (by kernel_rfl) (fun K hK => ?_)
    go_simp
    refine hK _ _ (Or.inl rfl) ?_
    clear hK K
    try simp only [Act.put, List.setIfInBounds_toArray, List.set_cons_zero, List.set_cons_succ]
    refine wpAnyL_done (by kernel_rfl) ?_ _
    go_wp2
    go_ret
    exact ⟨rfl, unhide FN⟩

/-- The world in which an item was taken off, and its copy stands in a block of the call's own. -/
theorem gt_shift {B b L : Nat} {w W w3 w5 : World} {cs : Array Value} {rs : Nat → Nat} {vs : Nat → Value} {G : Gt} (h : GtV w b L cs rs vs G) (hl : GtL B b L rs vs G.n) {k : Nat} (hk : k < G.n) {g n cap gA : Nat} (hvs : vs k = .slice (some ⟨g, 0, none⟩) n cap) (hn : n = (G.ch k).q.length)
    (k1 : Kp [rs k] w W) (hr : CrAt W (rs k) (G.ch k).tl.sto) (k2 : Kp [g] W w3) (hi : ItRow w3 (.slice (some ⟨g, 0, none⟩) (n - 1) cap) ((G.ch k).q.drop 1)) (hA : w.heap.size ≤ gA) (cA : ∃ cur, w3.heap[gA]? = some (.cells cur 81 (0, 0))) (k5 : Kp [gA] (w3.setCell ⟨L, k * 3 + 1, none⟩ (.slice (some ⟨g, 0, none⟩) (n - 1) cap)) w5) :
    GtAt B w5 b L (G.upd k (G.ch k).tl) ∧ Ko gtO B w w5 := by
  have hob : (vs k).ownBlock.toList = [g] := by rw [hvs]; rfl
  have kk : Kp (rs k :: (vs k).ownBlock.toList) w w3 := by
    rw [hob]
    exact (k1.mono (G := [rs k, g]) (by simp)).trans (k2.mono (G := [rs k, g]) (by simp)) (fun _ hx => Or.inl hx)
  have hrg : rs k ∉ [g] := by simpa using h.rv hk hk (g := g) (by rw [hvs]; rfl)
  obtain ⟨a1, a2, a3⟩ := gt_stepV h hl hk (c := (G.ch k).tl) kk (hr.kp k2 hrg) (by
    have : (G.ch k).tl.q = (G.ch k).q.drop 1 := List.drop_one.symm
    rw [this]
    exact hi) (fun g' hg' => Or.inl (by rw [hvs]; exact hg')) rfl (by rw [Ch.tl_sto]; exact (h.ok.ch k hk).tk)
  have hbs : b < w.heap.size := (Array.getElem?_eq_some_iff.1 h.box).1
  have hLs : L < w.heap.size := (Array.getElem?_eq_some_iff.1 h.lb).1
  refine ⟨⟨_, _, _, a1.kpF k5 (by simp; omega) (by simp; omega) (fun j hj => ?_) (fun j hj g' hg' => ?_), a2⟩, a3.trans (Ko.of k5 (fun x hm hlt => ?_))⟩
  · have := (h.rm j hj).lt
    simp; omega
  · have hlt : g' < w.heap.size := by
      by_cases e : j = k
      · subst e
        rw [if_pos rfl] at hg'
        exact (h.it j hj).lt (by rw [hvs]; exact hg')
      · rw [if_neg e] at hg'
        exact (h.it j hj).lt hg'
    simp; omega
  · simp only [List.mem_singleton] at hm
    subst hm
    obtain ⟨cur, hc⟩ := cA
    refine ⟨by have := hl.b; omega, ?_⟩
    have hne : x ≠ L := by omega
    exact ⟨_, (Kp.set w3 L (k * 3 + 1) _).block x (Array.getElem?_eq_some_iff.1 hc).1 (by simpa using hne) ▸ hc, rfl⟩
end Go.Proofs.Ytcgmoadahdkbbaa
namespace Go.Proofs.Ytcgmoadahdkbbaa
open Go.RowKit Gt Cr

theorem info_it2 : (Try.prog.info? 81).map (fun i => i.size) = some 2 := by kernel_rfl
set_option maxHeartbeats 8000000 in
set_option maxRecDepth 100000 in
theorem gShift_any (B b L : Nat) (G : Gt) (k : Nat) (w : World) (h : GtAt B w b L G) (hk : k < G.n) (hq : 0 < (G.ch k).q.length) :
    Calls Try.prog 29 #[.pointer (some ⟨L, k * 3, none⟩)] w fun e w' => e = .returned (.agg #[.string (G.ch k).hd.t, .int .i64 ((G.ch k).hd.n : Int)]) ∧ GtAt B w' b L (G.upd k (G.ch k).tl) ∧ Ko gtO B w w' := by
  obtain ⟨cs, rs, vs, hv, hl⟩ := h
  have c0 := hv.cell0 hk
  have KA := Kp.alloc w (.cells #[.string ⟨#[]⟩, .int .i64 0] 81)
  have NA := CBox.new w #[.string ⟨#[]⟩, .int .i64 0] 81
  have hrl : rs k < w.heap.size := (hv.rm k hk).lt
  have TK := hide (cTake_any (rs k) (G.ch k).sto (w.alloc (.cells #[.string ⟨#[]⟩, .int .i64 0] 81)) ((hv.rm k hk).kp KA (by simp)))
  rw [← Ch.tl_sto] at TK
  have c0A := KA.cell c0 (by simp)
  rcases hv.first hk with ⟨ad, cap, c, h0⟩ | ⟨g, n, cap, c1, hn, hnq, hvs, d0, d1⟩
  · omega
  have hrL : L ≠ rs k := hv.Lr hk
  have hrg : g ≠ rs k := fun e => hv.rv hk hk (g := g) (by rw [hvs]; rfl) e.symm
  have hgl : g < w.heap.size := (hv.it k hk).lt (by rw [hvs]; rfl)
  have hLl : L < w.heap.size := (Array.getElem?_eq_some_iff.1 hv.lb).1
  have hLg : L ≠ g := hv.Lv hk (by rw [hvs]; rfl)
  have K1 : Hid (∀ w1, Kp [rs k] (w.alloc (.cells #[.string ⟨#[]⟩, .int .i64 0] 81)) w1 → Kp [rs k] w w1 ∧ CBox w.heap.size #[.string ⟨#[]⟩, .int .i64 0] 81 w1 ∧ w1.cell? ⟨L, k * 3 + 1, none⟩ = some (.slice (some ⟨g, 0, none⟩) n cap) ∧ w1.cell? ⟨g, 0, none⟩ = some (.string (G.ch k).hd.t) ∧ w1.cell? ⟨g, 1, none⟩ = some (.int .i64 ((G.ch k).hd.n : Int))) := hide (fun w1 k1 => by
    have kk : Kp [rs k] w w1 := (KA.mono (G := [rs k]) (by simp)).trans k1 (fun _ hx => Or.inl hx)
    exact ⟨kk, NA.kp k1 (by simp; omega), kk.cell c1 (by simpa using hrL), kk.cell d0 (by simpa using hrg), kk.cell d1 (by simpa using hrg)⟩)
  have HLB : Hid (∀ W, Kp [rs k] w W → CBox L cs 71 W ∧ cs[k * 3 + 1]? = some (.slice (some ⟨g, 0, none⟩) n cap)) := hide (fun W hk1 => ⟨hv.lb.kp hk1 (by simpa using hrL), by rw [hv.c1 k hk, hvs]⟩)
  have HDE : Hid (∀ W, Kp [rs k] w W → Calls Try.prog 42 #[.slice (some ⟨g, 0, none⟩) n cap, .int .i64 0, .int .i64 1] W fun e w' => e = .returned (.slice (some ⟨g, 0, none⟩) (n - 1) cap) ∧ ItRow w' (.slice (some ⟨g, 0, none⟩) (n - 1) cap) ((G.ch k).q.drop 1) ∧ Kp [g] W w') := hide (fun W hk1 => by
    have hi := (hv.it k hk).kp hk1 (fun x hx => by
      rw [hvs] at hx
      simp [Value.ownBlock] at hx
      subst hx
      simpa using hrg)
    rw [hvs, hnq] at hi
    have := itcut_any g cap (G.ch k).q 1 W hi (by omega) (by decide)
    rw [hnq]
    exact this)
  have HFI : Hid (∀ W w3 gA w5, Kp [rs k] w W → CrAt W (rs k) (G.ch k).tl.sto → Kp [g] W w3 → ItRow w3 (.slice (some ⟨g, 0, none⟩) (n - 1) cap) ((G.ch k).q.drop 1) → w.heap.size ≤ gA → (∃ cur, w3.heap[gA]? = some (.cells cur 81 (0, 0))) → Kp [gA] (w3.setCell ⟨L, k * 3 + 1, none⟩ (.slice (some ⟨g, 0, none⟩) (n - 1) cap)) w5 → GtAt B w5 b L (G.upd k (G.ch k).tl) ∧ Ko gtO B w w5) := hide (fun W w3 gA w5 k1 hr k2 hi hA cA k5 => gt_shift hv hl hk hvs hnq k1 hr k2 hi hA cA k5)
  clear hv hl KA NA hvs hnq hq
  generalize (G.ch k).hd.n = hn' at *
  generalize (G.ch k).hd.t = ht' at *
  generalize tkT (G.ch k).sto = tkt at *
  generalize tkE (G.ch k).sto = tke at *
  generalize G.upd k (G.ch k).tl = G2 at *
  generalize (G.ch k).tl.sto = SS at *
  generalize (G.ch k).q.drop 1 = Q2 at *
  generalize k * 3 = o at *
  generalize rs k = R at *
  clear hk G
  go_enter Try.func29, Try.ntmps29
  go_wp2_with fail
  refine (unhide TK).mono ?_
  rintro r w1 ⟨rfl, h1, h2⟩
  obtain ⟨k1, nA1, l1, e0, e1⟩ := unhide K1 _ h2
  have CR1 := hide h1
  have KV0 := hide k1
  clear h1 h2 k1 K1 TK c0A c0 c1 d0 d1
  go_upto_region 3 with fail
  obtain ⟨V, hV⟩ : ∃ V, V = w1.alloc (.cells #[.string ht', .int .i64 (hn' : Int)] 81) := ⟨_, rfl⟩
  have kV : Kp [] w1 V := by rw [hV]; exact Kp.alloc _ _
  have KV : Hid (Kp [R] w V) := hide ((unhide KV0).trans kV (by simp))
  have CR : Hid (CrAt V R SS) := hide ((unhide CR1).kp kV (by simp))
  have NA : Hid (CBox w.heap.size #[.string ⟨#[]⟩, .int .i64 0] 81 V) := hide (nA1.kp kV (by simp))
  have NB : Hid (CBox w1.heap.size #[.string ht', .int .i64 (hn' : Int)] 81 V) := hide (by rw [hV]; exact CBox.new w1 _ _)
  have HSZ : Hid (w.heap.size ≤ w1.heap.size ∧ w.heap.size ≠ w1.heap.size) := hide (by
    have := nA1
    have h1 := (Array.getElem?_eq_some_iff.1 this).1
    have h2 := (unhide KV0).size
    exact ⟨h2, by omega⟩)
  have a0 : V.cell? ⟨L, o + 1, none⟩ = some (.slice (some ⟨g, 0, none⟩) n cap) := kV.cell l1 (by simp)
  rw [← hV]
  clear hV kV KV0 CR1 nA1 l1 e0 e1
  have HGA : Hid (g < w.heap.size ∧ L < w.heap.size ∧ R < w.heap.size ∧ L ≠ g) := hide ⟨hgl, hLl, hrl, hLg⟩
  clear hgl hLl hrl hLg hrL hrg
  generalize hgA : w.heap.size = gA at *
  have HgA := hide hgA
  clear hgA
  generalize w1.heap.size = gB at *
  go_wp2_with fail
  refine (unhide HDE V (unhide KV)).mono ?_
  rintro e w3 ⟨rfl, hi3, k3⟩
  have a9 : w3.cell? ⟨L, o + 1, none⟩ = some (.slice (some ⟨g, 0, none⟩) n cap) := k3.cell a0 (by simpa using (unhide HGA).2.2.2)
  have f9 : w3.frozen? ⟨L, o + 1, none⟩ = false := ((unhide HLB V (unhide KV)).1.kp k3 (by simpa using (unhide HGA).2.2.2)).froz _
  have I3 := hide hi3
  have K3 := hide k3
  clear hi3 k3 HDE
  go_upto_region 4 with fail
  obtain ⟨W4, hW4⟩ : ∃ W4, W4 = w3.setCell ⟨L, o + 1, none⟩ (.slice (some ⟨g, 0, none⟩) (n - 1) cap) := ⟨_, rfl⟩
  have HF := hide (fun w5 (k5 : Kp [gA] W4 w5) (cA : ∃ cur, w3.heap[gA]? = some (.cells cur 81 (0, 0))) => unhide HFI V w3 gA w5 (unhide KV) (unhide CR) (unhide K3) (unhide I3) (Nat.le_refl _) cA (by rw [← hW4]; exact k5))
  have hh := unhide HGA
  have hz := unhide HSZ
  have A3 : CBox gA #[.string ⟨#[]⟩, .int .i64 0] 81 w3 := (unhide NA).kp (unhide K3) (by simp; omega)
  have B3 : CBox gB #[.string ht', .int .i64 (hn' : Int)] 81 w3 := (unhide NB).kp (unhide K3) (by simp; omega)
  have k34 : Kp [L] w3 W4 := by rw [hW4]; exact Kp.set _ _ _ _
  have A4 := A3.kp k34 (by simp; omega)
  have B4 := B3.kp k34 (by simp; omega)
  have ba0 := B4.cell (i := 0) rfl
  have ba1 := B4.cell (i := 1) rfl
  have aa0 := A4.cell (i := 0) rfl
  have aa1 := A4.cell (i := 1) rfl
  have af0 := A4.froz 0
  have af1 := A4.froz 1
  have HBX : Hid (CBox gA #[.string ht', .int .i64 (hn' : Int)] 81 ((W4.setCell ⟨gA, 0, none⟩ (.string ht')).setCell ⟨gA, 1, none⟩ (.int .i64 (hn' : Int)))) := hide ((A4.set 0 (.string ht')).set 1 (.int .i64 (hn' : Int)))
  have HK5 : Hid (∀ a b, Kp [gA] W4 ((W4.setCell ⟨gA, 0, none⟩ a).setCell ⟨gA, 1, none⟩ b)) := hide (fun a b => (Kp.set W4 gA 0 a).trans (Kp.set _ gA 1 b) (fun _ hx => Or.inl hx))
  have CA : Hid (∃ cur, w3.heap[gA]? = some (Obj.cells cur 81 (0, 0))) := hide ⟨_, A3⟩
  rw [← hW4]
  clear hW4 hh hz k34 A3 B3 A4 B4 a9 f9 HFI HLB a0
  go_wp2
  exact bodyPost_ret (results_cell_row Try.results29 _ _ gA 81 _ (0, 0) _ rfl (unhide HBX) Try.underlying81 rfl info_it2) rfl ⟨rfl, unhide HF _ (unhide HK5 _ _) (unhide CA)⟩

end Go.Proofs.Ytcgmoadahdkbbaa
