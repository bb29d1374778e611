/-
  Links: a text is pushed.
  Cells in the middle of a block written over. Of no program.
  Links: cells of a row of texts written over.
-/
import Derived.Test.YtiomngpfolkgpaaL12
import Derived.Test.YtiomngpfolkgpaaL07
import Derived.Lib.SliceRun
import Derived.Deep.RegionLaw
import Derived.Shelf.RegionOpenPlain
namespace Go.Proofs.Ytiomngpfolkgpaa
open Go.RowKit Lk

/-- A step of a sender: where it lies, and what stays. -/
theorem sd_step {B b : Nat} {w w' : World} {v v' : Value} {s s' : Snd} (h : SdV w b v s) (hB : B ≤ b) (hv : ∀ k, v.ownBlock = some k → B ≤ k) (hk : Kp (b :: v.ownBlock.toList) w w') (hb : CBox b (sdC s' v') 60 w') (hr : PuRow w' v' s'.left) (hv' : ∀ k, v'.ownBlock = some k → v.ownBlock = some k ∨ w.heap.size ≤ k) : SdAt B w' b s' ∧ Ko sdO B w w' := by
  have hbs : b < w.heap.size := (Array.getElem?_eq_some_iff.1 h.box).1
  refine ⟨⟨v', ⟨hb, hr⟩, hB, fun k hk1 => ?_⟩, Ko.of hk (fun k hm hlt => ?_)⟩
  · rcases hv' k hk1 with h1 | h1
    · exact hv k h1
    · omega
  · rcases List.mem_cons.1 hm with rfl | hm
    · exact ⟨hB, _, h.box, rfl⟩
    · have hk1 : v.ownBlock = some k := by simpa using hm
      obtain ⟨cur, hc⟩ := h.row.block hk1
      exact ⟨hv k hk1, _, hc, rfl⟩
theorem sd_push {B b : Nat} {w V3 w9 : World} {v : Value} {s : Snd} {x : Pu} {g9 cap9 : Nat} (h : SdV w b v s) (hB : B ≤ b) (hv : ∀ k, v.ownBlock = some k → B ≤ k) (k3 : Kp [] w V3)
    (ho : w9.ownsRow 0 66 2 (.slice (some ⟨g9, 0, none⟩) (s.left.length + 1) cap9) (s.left.length + 1) (pshC s.left ++ (pshA x).toList)) (hg : V3.grownBy w9 v.ownBlock) (hat : v.ownBlock = some g9 ∨ g9 = V3.heap.size) :
    SdAt B (w9.setCell ⟨b, 4, none⟩ (.slice (some ⟨g9, 0, none⟩) (s.left.length + 1) cap9)) b ⟨s.ep, s.wd, s.pt, s.first, s.left ++ [x], s.now⟩ ∧ Ko sdO B w (w9.setCell ⟨b, 4, none⟩ (.slice (some ⟨g9, 0, none⟩) (s.left.length + 1) cap9)) := by
  have hbn : b ∉ v.ownBlock.toList := fun hm => h.ne (k := b) (by simpa using hm) rfl
  have b9 := (h.box.kp k3 (by simp)).kp (Kp.of hg) hbn
  have hbs : b < w.heap.size := (Array.getElem?_eq_some_iff.1 h.box).1
  have hz := k3.size
  have hgb : g9 ≠ b := by
    rcases hat with e | e
    · exact h.ne e
    · omega
  have hset := Kp.set w9 b 4 (.slice (some ⟨g9, 0, none⟩) (s.left.length + 1) cap9)
  refine sd_step h hB hv (v' := .slice (some ⟨g9, 0, none⟩) (s.left.length + 1) cap9) (((k3.mono (G := b :: v.ownBlock.toList) (by simp)).trans ((Kp.of hg).mono (fun x hx => List.mem_cons_of_mem _ hx)) (fun _ hx => Or.inl hx)).trans (hset.mono (fun x hx => by simp at hx; subst hx; exact List.mem_cons_self ..)) (fun _ hx => Or.inl hx)) ?_ ?_ (fun k hk => ?_)
  · exact b9.set 4 _
  · refine PuRow.kp (w := w9) ?_ hset (fun k hk => by
      simp [Value.ownBlock] at hk
      subst hk
      simpa using hgb)
    unfold PuRow
    dsimp only
    rw [List.length_append, pshC_append, pshC_one]
    exact ho
  · simp [Value.ownBlock] at hk
    subst hk
    rcases hat with e | e
    · exact Or.inl e
    · exact Or.inr (by omega)
theorem sd_same {B b : Nat} {w w' : World} {s : Snd} (h : SdAt B w b s) (hk : Kp [] w w') : SdAt B w' b s ∧ Ko sdO B w w' := ⟨h.kp hk, Ko.nil hk⟩
set_option maxHeartbeats 8000000 in
set_option maxRecDepth 100000 in
theorem lPush_any (B b : Nat) (s : Snd) (t : ByteArray) (w : World) (h : SdAt B w b s) (hok : SOk s) (ht : t.size ≤ 9223372036854775807) :
    Calls Try.prog 10 #[.pointer (some ⟨b, 0, none⟩), .string t] w fun e w' => e = .returned (.int .i64 (luE s t)) ∧ SdAt B w' b (luS s t) ∧ Ko sdO B w w' := by
  obtain ⟨v, hv, hB, hbv⟩ := id h
  obtain ⟨ad, cap, hvs⟩ := hv.row.slice
  have c4 : w.cell? ⟨b, 4, none⟩ = some (.slice ad s.left.length cap) := by rw [← hvs]; exact hv.box.cell (i := 4) rfl
  have htop := hok.top
  have hlen := hok.len
  have NX := hide (lNext_any b v s w hv (by omega))
  by_cases h1 : 60000 < t.size
  · have e1 : luE s t = 2 := by unfold luE; rw [if_pos (Or.inl h1)]
    have e2 : luS s t = s := by unfold luS; rw [e1]; rfl
    have HH := hide (sd_same h (Kp.refl [] w))
    have h1i : (60000 : Int) < (t.size : Int) := by omega
    rw [e1, e2]
    clear h hv NX c4 hbv hok htop hlen e1 e2
    go_enter Try.func10, Try.ntmps10
    go_wp2
    go_ret
    exact ⟨rfl, unhide HH⟩
  · have h1i : ¬ (60000 : Int) < (t.size : Int) := by omega
    by_cases h2 : s.left.length = 4096
    · have e1 : luE s t = 2 := by unfold luE; rw [if_pos (Or.inr (Or.inl h2))]
      have e2 : luS s t = s := by unfold luS; rw [e1]; rfl
      have HH := hide (sd_same h (Kp.refl [] w))
      rw [e1, e2]
      rw [h2] at c4
      clear h hv NX hbv hok htop hlen e1 e2 h2
      go_enter Try.func10, Try.ntmps10
      go_wp2
      go_ret
      exact ⟨rfl, unhide HH⟩
    · have h2b : ((s.left.length : Int) == 4096) = false := beq_eq_false_iff_ne.2 (by omega)
      by_cases h3 : 1073741824 < s.first + s.left.length
      · have e1 : luE s t = 2 := by unfold luE; rw [if_pos (Or.inr (Or.inr h3))]
        have e2 : luS s t = s := by unfold luS; rw [e1]; rfl
        have HH := hide (fun w' hk => sd_same (w' := w') h hk)
        have h3i : (1073741824 : Int) < ((s.first + s.left.length : Nat) : Int) := by omega
        rw [e1, e2]
        clear h hv hbv hok htop hlen e1 e2 h2 h3
        generalize s.first + s.left.length = N at *
        generalize s.left.length = n at *
        go_enter Try.func10, Try.ntmps10
        go_wp2_with fail
        refine (unhide NX).mono ?_
        rintro r w1 ⟨rfl, k1⟩
        have HK := hide (unhide HH w1 k1)
        clear k1 HH NX
        go_wp2
        go_ret
        exact ⟨rfl, unhide HK⟩
      · have e1 : luE s t = 0 := by unfold luE; rw [if_neg (by omega)]
        have e2 : luS s t = ⟨s.ep, s.wd, s.pt, s.first, s.left ++ [⟨t, -1⟩], s.now⟩ := by unfold luS; rw [if_pos e1]
        have h3i : ¬ (1073741824 : Int) < ((s.first + s.left.length : Nat) : Int) := by omega
        rw [e1, e2]
        obtain ⟨i0, hi0, hz0, hz1, hz2⟩ := info_parts info_pu
        have HS : Hid (∀ W, Kp [] w W → W.cell? ⟨b, 4, none⟩ = some (.slice ad s.left.length cap)) := hide (fun W hk => hk.cell c4 (by simp))
        have HOW : Hid (∀ W, Kp [] w W → W.ownsRow 0 66 2 (.slice ad s.left.length cap) s.left.length (pshC s.left)) := hide (fun W hk => by
          have := hv.row.kp hk (by simp)
          rw [hvs] at this
          exact this)
        have HG : Hid (∀ V3 w9, Kp [] w V3 → V3.grownBy w9 (Value.slice ad s.left.length cap).ownBlock → w9.cell? ⟨b, 4, none⟩ = some (.slice ad s.left.length cap) ∧ w9.frozen? ⟨b, 4, none⟩ = false) := hide (fun V3 w9 k3 hg => by
          rw [← hvs] at hg ⊢
          have b9 := (hv.box.kp k3 (by simp)).kp (Kp.of hg) (fun hm => hv.ne (k := b) (by simpa using hm) rfl)
          exact ⟨b9.cell rfl, b9.froz 4⟩)
        have HFI : Hid (∀ V3 w9 g9 cap9, Kp [] w V3 → w9.ownsRow 0 66 2 (.slice (some ⟨g9, 0, none⟩) (s.left.length + 1) cap9) (s.left.length + 1) (pshC s.left ++ [.string t, .int .i64 (-1)]) → V3.grownBy w9 (Value.slice ad s.left.length cap).ownBlock → ((Value.slice ad s.left.length cap).ownBlock = some g9 ∨ g9 = V3.heap.size) → SdAt B (w9.setCell ⟨b, 4, none⟩ (.slice (some ⟨g9, 0, none⟩) (s.left.length + 1) cap9)) b ⟨s.ep, s.wd, s.pt, s.first, s.left ++ [⟨t, -1⟩], s.now⟩ ∧ Ko sdO B w (w9.setCell ⟨b, 4, none⟩ (.slice (some ⟨g9, 0, none⟩) (s.left.length + 1) cap9))) := hide (fun V3 w9 g9 cap9 k3 ho hg hat => by
          rw [← hvs] at hg hat
          exact sd_push (x := ⟨t, -1⟩) hv hB hbv k3 ho hg hat)
        have CL := hide (fun W => clone_any t W (by omega))
        have hn : s.left.length < 4096 := by omega
        clear h hv hbv hok htop hlen e1 e2 h2 h3 hvs h1 ht
        generalize (⟨s.ep, s.wd, s.pt, s.first, s.left ++ [⟨t, -1⟩], s.now⟩ : Snd) = s2 at *
        generalize s.first + s.left.length = N at *
        generalize pshC s.left = xs at *
        generalize s.left.length = n at *
        go_enter Try.func10, Try.ntmps10
        go_wp2_with fail
        refine (unhide NX).mono ?_
        rintro r w1 ⟨rfl, k1⟩
        have K1 := hide k1
        clear k1 NX c4
        go_upto_region 3 with fail
        obtain ⟨V, hV⟩ : ∃ V, V = w1.drew := ⟨_, rfl⟩
        have KV : Hid (Kp [] w V) := hide (by rw [hV]; exact (unhide K1).trans (Kp.drew _) (by simp))
        have a0 := unhide HS V (unhide KV)
        refine wp_region_late (fun W => W.cell? ⟨b, 4, none⟩ = some (.slice ad n cap)) 12 (by kernel_rfl) ?_
        rw [← hV]
        clear hV K1
        show wpAnyL _ _ _ _ _ _ 13 (Array.replicate 13 false) _ _
        refine wpAnyL_take (i := 0) (oi := { dst := some 21, op := Op.move (Operand.tmp 0), type := 25, pos := "sender.go:38", after := #[], guard := none }) (v := ?_) rfl (by kernel_rfl) (by kernel_rfl) (by kernel_rfl) (by kernel_rfl) (fun _ _ _ h => h) (Or.inl ⟨by rfl, ?_⟩) a0 ?_
        rotate_left 1
        · intro w0 hSw
          (try dsimp only at hSw)
          go_simp
          (try with_reducible rfl)
        try simp only [Act.put, List.setIfInBounds_toArray, List.set_cons_zero, List.set_cons_succ]
        refine wpAnyL_take (i := 1) (oi := { dst := some 22, op := Op.move (Operand.tmp 0), type := 25, pos := "sender.go:38", after := #[], guard := none }) (v := ?_) rfl (by kernel_rfl) (by kernel_rfl) (by kernel_rfl) (by kernel_rfl) (fun _ _ _ h => h) (Or.inl ⟨by rfl, ?_⟩) a0 ?_
        rotate_left 1
        · intro w0 hSw
          (try dsimp only at hSw)
          go_simp
          (try with_reducible rfl)
        try simp only [Act.put, List.setIfInBounds_toArray, List.set_cons_zero, List.set_cons_succ]
        refine wpAnyL_take (i := 2) (oi := { dst := some 23, op := Op.nilCheck (Operand.tmp 22), type := 0, pos := "sender.go:38", after := #[{ on := 1, ground := Ground.data }], guard := none }) (v := ?_) rfl (by kernel_rfl) (by kernel_rfl) (by kernel_rfl) (by kernel_rfl) (fun _ _ _ h => h) (Or.inl ⟨by rfl, ?_⟩) a0 ?_
        rotate_left 1
        · intro w0 hSw
          (try dsimp only at hSw)
          go_simp
          (try with_reducible rfl)
        try simp only [Act.put, List.setIfInBounds_toArray, List.set_cons_zero, List.set_cons_succ]
        refine wpAnyL_take (i := 3) (oi := { dst := some 24, op := Op.fieldAddr 60 (Operand.tmp 23) 4, type := 0, pos := "sender.go:38", after := #[{ on := 2, ground := Ground.data }], guard := none }) (v := ?_) rfl (by kernel_rfl) (by kernel_rfl) (by kernel_rfl) (by kernel_rfl) (fun _ _ _ h => h) (Or.inl ⟨by rfl, ?_⟩) a0 ?_
        rotate_left 1
        · intro w0 hSw
          (try dsimp only at hSw)
          go_simp
          (try with_reducible rfl)
        try simp only [Act.put, List.setIfInBounds_toArray, List.set_cons_zero, List.set_cons_succ]
        refine wpAnyL_take (i := 4) (oi := { dst := some 25, op := Op.load 58 (Operand.tmp 24), type := 58, pos := "sender.go:38", after := #[{ on := 3, ground := Ground.data }], guard := none }) (v := ?_) rfl (by kernel_rfl) (by kernel_rfl) (by kernel_rfl) (by kernel_rfl) (fun _ _ _ h => h) (Or.inl ⟨by rfl, ?_⟩) a0 ?_
        rotate_left 1
        · intro w0 hSw
          (try dsimp only at hSw)
          go_simp
          (try with_reducible rfl)
        try simp only [Act.put, List.setIfInBounds_toArray, List.set_cons_zero, List.set_cons_succ]
        refine wpAnyL_take (i := 5) (oi := { dst := some 26, op := Op.move (Operand.tmp 1), type := 9, pos := "sender.go:38", after := #[], guard := none }) (v := ?_) rfl (by kernel_rfl) (by kernel_rfl) (by kernel_rfl) (by kernel_rfl) (fun _ _ _ h => h) (Or.inl ⟨by rfl, ?_⟩) a0 ?_
        rotate_left 1
        · intro w0 hSw
          (try dsimp only at hSw)
          go_simp
          (try with_reducible rfl)
        try simp only [Act.put, List.setIfInBounds_toArray, List.set_cons_zero, List.set_cons_succ]
        refine wpAnyL_one (i := 6) (o := { dst := some 27, op := Op.call { callee := Callee.value (Operand.func 24), args := #[Operand.tmp 26], argTypes := #[9] }, type := 9, pos := "sender.go:38", after := #[{ on := 5, ground := Ground.data }], guard := none }) rfl (by kernel_rfl) (fun K hK => ?_)
        go_simp
        refine (unhide CL V).mono ?_
        rintro e V2 ⟨rfl, kb⟩
        have KV2 : Hid (Kp [] w V2) := hide ((unhide KV).trans (Kp.ofBelow kb) (by simp))
        clear kb KV a0
        have a0 := unhide HS V2 (unhide KV2)
        refine hK _ _ (Or.inr a0) ?_
        clear hK K
        try simp only [Act.put, List.setIfInBounds_toArray, List.set_cons_zero, List.set_cons_succ]
        refine wpAnyL_take (i := 7) (oi := { dst := some 28, op := Op.build 66 #[(0, Operand.tmp 27), (1, Operand.const (Value.int IntKind.i64 (-1)))], type := 66, pos := "sender.go:38", after := #[{ on := 6, ground := Ground.data }], guard := none }) (v := ?_) rfl (by kernel_rfl) (by kernel_rfl) (by kernel_rfl) (by kernel_rfl) (fun _ _ _ h => h) (Or.inl ⟨by rfl, ?_⟩) a0 ?_
        rotate_left 1
        · intro w0 hSw
          (try dsimp only at hSw)
          go_simp
          (try with_reducible rfl)
        try simp only [Act.put, List.setIfInBounds_toArray, List.set_cons_zero, List.set_cons_succ]
        refine wpAnyL_one (i := 8) (o := { dst := some 29, op := Op.buildSlice 58 1 #[(0, Operand.tmp 28)], type := 58, pos := "sender.go:38", after := #[{ on := 7, ground := Ground.data }], guard := none }) rfl (by kernel_rfl) (fun K hK => ?_)
        go_simp
        have KV3 : Hid (Kp [] w (V2.alloc (.cells #[.string t, .int .i64 (-1)] 66))) := hide ((unhide KV2).trans (Kp.alloc _ _) (by simp))
        have NB := hide (CBox.new V2 #[.string t, .int .i64 (-1)] 66)
        have a1 := unhide HS _ (unhide KV3)
        refine hK _ _ (Or.inr a1) ?_
        clear hK K
        try simp only [Act.put, List.setIfInBounds_toArray, List.set_cons_zero, List.set_cons_succ]
        generalize V2.alloc (.cells #[.string t, .int .i64 (-1)] 66) = V3 at *
        generalize V2.heap.size = g3 at *
        refine wpAnyL_one (i := 9) (o := { dst := some 30, op := Op.call { callee := Callee.builtin Builtin.append, args := #[Operand.tmp 25, Operand.tmp 29], argTypes := #[58, 58] }, type := 58, pos := "sender.go:38", after := #[{ on := 4, ground := Ground.data }, { on := 8, ground := Ground.data }, { on := 6, ground := Ground.chain }], guard := none }) rfl (by kernel_rfl) (fun K hK => ?_)
        refine step_append_lies rfl (.tmp 25) (.tmp 29) 58 rfl 0 66 i0 _ 2 24 Try.underlying58 hi0 hz0 hz1 hz2 rfl (by decide) _ n xs rfl (unhide HOW _ (unhide KV3)) ⟨g3, 0, none⟩ 1 1 [.string t, .int .i64 (-1)] rfl rfl (fun j u hj => by
          rw [Go.WideShapes.add_plain, Nat.zero_add]
          exact (unhide NB).cell (by simpa using hj)) (fun u hu => by simp at hu; rcases hu with rfl | rfl <;> rfl) (by decide) (by unfold maxLen; omega) (by omega) (Nat.zero_le _) ?_
        intro g9 cap9 w9 own9 gr9 at9
        obtain ⟨a9, f9⟩ := unhide HG _ w9 (unhide KV3) gr9
        have FN := hide (unhide HFI _ w9 g9 cap9 (unhide KV3) own9 gr9 at9)
        refine hK _ _ (Or.inr a9) ?_
        clear hK K
        try simp only [Act.put, List.setIfInBounds_toArray, List.set_cons_zero, List.set_cons_succ]
        refine wpAnyL_one (i := 10) (o := { dst := some 31, op := Op.nilCheck (Operand.tmp 21), type := 0, pos := "sender.go:38", after := #[{ on := 0, ground := Ground.data }, { on := 0, ground := Ground.phase }, { on := 1, ground := Ground.phase }, { on := 2, ground := Ground.phase }, { on := 3, ground := Ground.phase }, { on := 4, ground := Ground.phase }, { on := 5, ground := Ground.phase }, { on := 6, ground := Ground.phase }, { on := 7, ground := Ground.phase }, { on := 8, ground := Ground.phase }, { on := 9, ground := Ground.phase }], guard := none }) rfl (by kernel_rfl) (fun K hK => ?_)
        go_simp
        refine hK _ _ (Or.inr a9) ?_
        clear hK K
        try simp only [Act.put, List.setIfInBounds_toArray, List.set_cons_zero, List.set_cons_succ]
        refine wpAnyL_one (i := 11) (o := { dst := some 32, op := Op.fieldAddr 60 (Operand.tmp 31) 4, type := 0, pos := "sender.go:38", after := #[{ on := 10, ground := Ground.data }, { on := 0, ground := Ground.phase }, { on := 1, ground := Ground.phase }, { on := 2, ground := Ground.phase }, { on := 3, ground := Ground.phase }, { on := 4, ground := Ground.phase }, { on := 5, ground := Ground.phase }, { on := 6, ground := Ground.phase }, { on := 7, ground := Ground.phase }, { on := 8, ground := Ground.phase }, { on := 9, ground := Ground.phase }], guard := none }) rfl (by kernel_rfl) (fun K hK => ?_)
        go_simp
        refine hK _ _ (Or.inr a9) ?_
        clear hK K
        try simp only [Act.put, List.setIfInBounds_toArray, List.set_cons_zero, List.set_cons_succ]
        refine wpAnyL_one (i := 12) (o := { dst := none, op := Op.store 58 (Operand.tmp 32) (Operand.tmp 30), type := 0, pos := "sender.go:38", after := #[{ on := 11, ground := Ground.data }, { on := 9, ground := Ground.data }, { on := 9, ground := Ground.chain }, { on := 0, ground := Ground.phase }, { on := 1, ground := Ground.phase }, { on := 2, ground := Ground.phase }, { on := 3, ground := Ground.phase }, { on := 4, ground := Ground.phase }, { on := 5, ground := Ground.phase }, { on := 6, ground := Ground.phase }, { on := 7, ground := Ground.phase }, { on := 8, ground := Ground.phase }, { on := 9, ground := Ground.phase }], guard := none }) rfl (by kernel_rfl) (fun K hK => ?_)
        go_simp
        refine hK _ _ (Or.inl rfl) ?_
        clear hK K
        try simp only [Act.put, List.setIfInBounds_toArray, List.set_cons_zero, List.set_cons_succ]
        refine wpAnyL_done (by kernel_rfl) ?_ _
        go_wp2
        go_ret
        exact ⟨rfl, unhide FN⟩
end Go.Proofs.Ytiomngpfolkgpaa
namespace Go.Proofs.Ytiomngpfolkgpaa
open Go.RowKit

/-- Cells in the middle of a block written over. -/
theorem CBox.put {g t : Nat} : ∀ (vs B A C : List Value) (w : World), B.length = vs.length → CBox g (A ++ B ++ C).toArray t w → CBox g (A ++ vs ++ C).toArray t (w.setCells g A.length vs)
  | [], B, A, C, w, hl, h => by
    obtain rfl : B = [] := List.eq_nil_of_length_eq_zero hl
    exact h
  | v :: r, [], A, C, w, hl, h => by simp at hl
  | v :: r, b :: B, A, C, w, hl, h => by
    have h1 := h.set A.length v
    rw [show (A ++ b :: B ++ C).toArray.setIfInBounds A.length v = (A ++ [v] ++ B ++ C).toArray by simp] at h1
    have h2 := CBox.put r B (A ++ [v]) C _ (by simpa using hl) h1
    rw [show A ++ [v] ++ r ++ C = A ++ v :: r ++ C by simp, show (A ++ [v]).length = A.length + 1 by simp] at h2
    exact h2
theorem Kp.sets (g : Nat) : ∀ (vs : List Value) (o : Nat) (w : World), Kp [g] w (w.setCells g o vs)
  | [], _, w => Kp.refl _ w
  | v :: r, o, w => (Kp.set w g o v).trans (Kp.sets g r (o + 1) _) (fun _ hx => Or.inl hx)
end Go.Proofs.Ytiomngpfolkgpaa
namespace Go.Proofs.Ytiomngpfolkgpaa
open Go.RowKit Lk

/-- A row of texts by its block. -/
theorem PuRow.box {w : World} {g n cap : Nat} {l : List Pu} (h : PuRow w (.slice (some ⟨g, 0, none⟩) n cap) l) : n = l.length ∧ l.length ≤ cap ∧ cap ≤ maxLen ∧ ∃ rest : List Value, rest.length = (cap - l.length) * 2 ∧ CBox g (pshC l ++ rest).toArray 66 w := by
  obtain ⟨h0, ⟨h1, _⟩ | ⟨g', cp, cur, e, _, hh, hn, hm, hsz, htk⟩⟩ := h
  · cases h1
  · injection e with e1 e2 e3
    injection e1 with e1; injection e1 with e1
    subst e1; subst e3
    refine ⟨e2, hn, hm, cur.toList.drop (l.length * 2), ?_, ?_⟩
    · rw [List.length_drop, Array.length_toList, hsz]; omega
    · rw [← htk, List.take_append_drop]
      exact hh
theorem PuRow.ofBox {w : World} {g cap : Nat} {l : List Pu} {rest : List Value} (h : CBox g (pshC l ++ rest).toArray 66 w) (hl : l.length ≤ cap) (hm : cap ≤ maxLen) (hr : rest.length = (cap - l.length) * 2) : PuRow w (.slice (some ⟨g, 0, none⟩) l.length cap) l :=
  ⟨pshC_len l, Or.inr ⟨g, cap, (pshC l ++ rest).toArray, rfl, Nat.zero_le _, h, hl, hm, by rw [List.size_toArray, List.length_append, pshC_len, hr]; omega, by rw [← pshC_len l]; simp⟩⟩
/-- An element of a row written over. -/
theorem PuRow.set {w : World} {g cap : Nat} {L : List Pu} (h : PuRow w (.slice (some ⟨g, 0, none⟩) L.length cap) L) (i : Nat) (hi : i < L.length) (p : Pu) :
    PuRow ((w.setCell ⟨g, i * 2, none⟩ (.string p.b)).setCell ⟨g, i * 2 + 1, none⟩ (.int .i64 p.at_)) (.slice (some ⟨g, 0, none⟩) L.length cap) (L.set i p) := by
  obtain ⟨_, hl, hm, rest, hr, hb⟩ := h.box
  have h1 := (hb.set (i * 2) (.string p.b)).set (i * 2 + 1) (.int .i64 p.at_)
  have hlen := pshC_len L
  rw [show ((pshC L ++ rest).toArray.setIfInBounds (i * 2) (.string p.b)).setIfInBounds (i * 2 + 1) (.int .i64 p.at_) = (pshC (L.set i p) ++ rest).toArray by
    rw [pshC_set L i p hi, List.setIfInBounds_toArray, List.setIfInBounds_toArray, List.set_append_left _ _ (by omega), List.set_append_left _ _ (by rw [List.length_set]; omega)]] at h1
  have := PuRow.ofBox (l := L.set i p) (cap := cap) h1 (by rw [List.length_set]; exact hl) hm (by rw [List.length_set]; exact hr)
  rwa [List.length_set] at this
/-- The tick at which a text was sent, written over. -/
theorem PuRow.tick {w : World} {g cap : Nat} {L : List Pu} (h : PuRow w (.slice (some ⟨g, 0, none⟩) L.length cap) L) (i : Nat) (hi : i < L.length) (t : Int) :
    PuRow (w.setCell ⟨g, i * 2 + 1, none⟩ (.int .i64 t)) (.slice (some ⟨g, 0, none⟩) L.length cap) (L.set i ⟨(L[i]).b, t⟩) := by
  obtain ⟨_, hl, hm, rest, hr, hb⟩ := h.box
  have h1 := hb.set (i * 2 + 1) (.int .i64 t)
  have hlen := pshC_len L
  have hat := (pshC_at L i hi).1
  have hself : (pshC L).set (i * 2) (.string (L[i]).b) = pshC L := by
    refine List.ext_getElem? fun j => ?_
    rw [List.getElem?_set]
    split
    · rename_i e
      subst e
      split
      · exact hat.symm
      · rename_i hn
        exact absurd (List.getElem?_eq_some_iff.1 hat).1 hn
    · rfl
  rw [show (pshC L ++ rest).toArray.setIfInBounds (i * 2 + 1) (.int .i64 t) = (pshC (L.set i ⟨(L[i]).b, t⟩) ++ rest).toArray by
    rw [pshC_set L i ⟨(L[i]).b, t⟩ hi]
    dsimp only
    rw [hself, List.setIfInBounds_toArray, List.set_append_left _ _ (by omega)]] at h1
  have := PuRow.ofBox (l := L.set i ⟨(L[i]).b, t⟩) (cap := cap) h1 (by rw [List.length_set]; exact hl) hm (by rw [List.length_set]; exact hr)
  rwa [List.length_set] at this
end Go.Proofs.Ytiomngpfolkgpaa
