/-
  A copy of a match: its stages' rows are the call's own.
-/
import Derived.Test.YtpfcoaimciojjaaG05
import Derived.Test.YtpfcoaimciojjaaG06
import Derived.Deep.DeepCutAuto
namespace Go.Proofs.Ytpfcoaimciojjaa
open Go.RowKit

/-- append of numbers that lie anywhere to a row of the call's own. -/
theorem appIt {w : World} {ad : Option Addr} {c g2 n2 cap2 : Nat} {A l : List Int} (h : IntsAt w ad l) (ha : ad = none → l = [] ∧ c = 0) (ho : IRo w (.slice (some ⟨g2, 0, none⟩) n2 cap2) A) (hl : A.length + l.length ≤ 17592186044416) (ty : TypeId) :
    ∃ g cap w', (Builtin.append_ #[61, 61] ty #[.slice (some ⟨g2, 0, none⟩) n2 cap2, .slice ad l.length c]).run Try.prog w = .ok (.slice (some ⟨g, 0, none⟩) (A ++ l).length cap) w' ∧ IRo w' (.slice (some ⟨g, 0, none⟩) (A ++ l).length cap) (A ++ l) ∧ w.grownBy w' (some g2) ∧ (g = g2 ∨ g = w.heap.size) := by
  obtain ⟨i0, hi, hz0, hz1, hz2⟩ := info_parts info_intT
  have hn2 : n2 = A.length ∧ A.length ≤ cap2 := by
    obtain ⟨_, ⟨e, _⟩ | ⟨g, cp, cur, e, _, _, hn, _⟩⟩ := id ho
    · cases e
    · injection e with _ e2 e3
      exact ⟨e2, by omega⟩
  obtain ⟨rfl, hc2⟩ := hn2
  cases ad with
  | none =>
    obtain ⟨rfl, rfl⟩ := ha rfl
    exact ⟨g2, cap2, w, by simpa using run_append_owned_none (P := Try.prog) (w := w) 0 _ ty 3 i0 1 Try.underlying61 hi _ _ _ ho, by simpa using ho, World.grownBy.refl _ _, Or.inl rfl⟩
  | some a =>
    by_cases h0 : l = []
    · subst h0
      have := run_append_room_cells (P := Try.prog) (w := w) 61 ty 3 i0 Try.underlying61 hi g2 0 A.length cap2 a 0 c [] (by simp) (fun j u hj => by simp at hj) (fun u hu => by cases hu) (by omega) (fun j hj => absurd hj (by simp)) (fun j hj => absurd hj (by simp))
      exact ⟨g2, cap2, w, by simpa [World.setCells] using this, by simpa using ho, World.grownBy.refl _ _, Or.inl rfl⟩
    · have hpos : 0 < l.length := List.length_pos_iff.2 h0
      obtain ⟨b, off, e, _, hc⟩ := h h0
      injection e with e
      subst e
      obtain ⟨g3, cap3, w', hr, h1, h2, h3, _⟩ := run_append_lies (P := Try.prog) (w := w) 61 ty 0 3 i0 (.int .i64 0) 1 8 Try.underlying61 hi hz0 hz1 hz2 rfl (by decide) _ _ _ ho ⟨b, off, none⟩ l.length c (iC l) (iC_len l) (fun j u hj => by
        unfold iC at hj
        rw [List.getElem?_map] at hj
        cases hq : l[j]? with
        | none => rw [hq] at hj; cases hj
        | some y =>
          rw [hq] at hj
          simp at hj
          subst hj
          obtain ⟨hjl, rfl⟩ := List.getElem?_eq_some_iff.1 hq
          rw [Go.WideShapes.add_plain]
          exact hc j hjl) (iC_one l) hpos (by unfold maxLen; omega) (by omega) (Nat.zero_le _) _ rfl
      refine ⟨g3, cap3, w', by rw [List.length_append]; exact hr, ?_, h2, ?_⟩
      · unfold IRo iC
        rw [List.length_append, List.map_append]
        exact h1
      · rcases h3 with h3 | h3
        · exact Or.inl (by simpa [Value.ownBlock] using h3.symm)
        · exact Or.inr h3
/-- The same, as one step of a statement whose order is drawn. -/
theorem step_ints {ops : Array Oper} {o : Oper} {a : Act} {w : World} {K : Act → World → Prop} {Q : Exit → Act → World → Prop} {E : Prop}
    (hg : o.guard = none) (s x : Operand) (hop : o.op = Op.call { callee := Callee.builtin Builtin.append, args := #[s, x], argTypes := #[61, 61] })
    {ad : Option Addr} {c g2 n2 cap2 m : Nat} {A l : List Int} (hs : a.eval s = .slice (some ⟨g2, 0, none⟩) n2 cap2) (hx : a.eval x = .slice ad m c) (hm : m = l.length) (h : IntsAt w ad l) (ha : ad = none → l = [] ∧ c = 0) (ho : IRo w (.slice (some ⟨g2, 0, none⟩) n2 cap2) A) (hl : A.length + l.length ≤ 17592186044416) (N : Nat) (hN : (A ++ l).length = N)
    (hK : ∀ g cap w', IRo w' (.slice (some ⟨g, 0, none⟩) N cap) (A ++ l) → w.grownBy w' (some g2) → (g = g2 ∨ g = w.heap.size) → K (a.put o.dst (.slice (some ⟨g, 0, none⟩) N cap)) w') :
    if Region.wanted o (yielded ops a.tmps) = true then Oper.wp Try.prog o a w K Q else E := by
  subst hm hN
  have hw : Region.wanted o (yielded ops a.tmps) = true := by simp [Region.wanted, hg]
  rw [if_pos hw]
  obtain ⟨g, cap, w', hrun, r1, r2, r3⟩ := appIt h ha ho hl o.type
  unfold Oper.wp
  simp [execOp, hop, resolve, invoke, builtin, hs, hx, hrun, Result.andThen]
  have := hK g cap w' r1 r2 r3
  rw [List.length_append] at this
  exact this
/-- Stages that lie there; a nil row has no room. -/
def StagesN (w : World) (ad : Option Addr) (ss : List (List Int)) : Prop :=
  ss ≠ [] → ∃ b off, ad = some ⟨b, off, none⟩ ∧ b < w.heap.size ∧ ∀ i (h : i < ss.length), ∃ a c, w.cell? ⟨b, off + i, none⟩ = some (.slice a ss[i].length c) ∧ IntsAt w a ss[i] ∧ (a = none → ss[i] = [] ∧ c = 0)
theorem StagesN.at {w : World} {ad : Option Addr} {ss : List (List Int)} (h : StagesN w ad ss) : StagesAt w ad ss := fun hne => by
  obtain ⟨b, off, h1, h2, h3⟩ := h hne
  exact ⟨b, off, h1, h2, fun i hi => let ⟨a, c, x, y, _⟩ := h3 i hi; ⟨a, c, x, y⟩⟩
/-- What lies there while a match is copied. -/
structure CpS (w : World) (k : ByteArray) (ad : Option Addr) (n cap : Nat) (v : Value) (vs : List Value) (ps : List (List Int)) (wr : World) : Prop where
  kp : Kp [] w wr
  b1 : CBox w.heap.size #[.string k, .slice ad n cap] 35 wr
  b2 : CBox (w.heap.size + 1) #[.string ⟨#[]⟩, .slice none 0 0] 35 wr
  sd : Side wr (w.heap.size + 2) k v vs ps
  ge : ∀ b, v.ownBlock = some b → w.heap.size + 2 < b
theorem CpS.next {w wr w' : World} {k : ByteArray} {ad : Option Addr} {n cap : Nat} {v : Value} {vs : List Value} {ps : List (List Int)} (h : CpS w k ad n cap v vs ps wr) (hk : Kp [] wr w') : CpS w k ad n cap v vs ps w' :=
  ⟨h.kp.trans hk (by simp), h.b1.kp hk (by simp), h.b2.kp hk (by simp), h.sd.kp hk, h.ge⟩
set_option maxHeartbeats 2000000 in
set_option maxRecDepth 100000 in
theorem copyMatch_any (k : ByteArray) (ad : Option Addr) (cap : Nat) (ss : List (List Int)) (w : World) (hs : ss.length ≤ 5864062014805) (hp : ∀ p ∈ ss, p.length ≤ 17592186044416) (hA : StagesN w ad ss) :
    Calls Try.prog 13 #[.agg #[.string k, .slice ad ss.length cap]] w fun r w' => ∃ a c, r = .returned (.agg #[.string k, .slice a ss.length c]) ∧ StagesAt w' a ss ∧ Below w.heap.size w w' := by
  have HA := hide hA
  have HPL := hide hp
  have HS0 : Hid (CpS w k ad ss.length cap (.slice none 0 0) [] [] (((w.alloc (.cells #[.string k, .slice ad ss.length cap] 35)).alloc (.cells #[.string ⟨#[]⟩, .slice none 0 0] 35)).alloc (.cells #[.string k, .slice none 0 0] 35))) := hide (by
    have h1 := CBox.new w #[.string k, .slice ad ss.length cap] 35
    have h2 := CBox.new (w.alloc (.cells #[.string k, .slice ad ss.length cap] 35)) #[.string ⟨#[]⟩, .slice none 0 0] 35
    have h3 := CBox.new ((w.alloc (.cells #[.string k, .slice ad ss.length cap] 35)).alloc (.cells #[.string ⟨#[]⟩, .slice none 0 0] 35)) #[.string k, .slice none 0 0] 35
    simp at h2 h3
    exact ⟨((Kp.alloc _ _).trans (Kp.alloc _ _) (by simp)).trans (Kp.alloc _ _) (by simp), (h1.kp (Kp.alloc _ _) (by simp)).kp (Kp.alloc _ _) (by simp), h2.kp (Kp.alloc _ _) (by simp), ⟨h3, ⟨rfl, Or.inl ⟨rfl, rfl⟩⟩, RowsI.nil _⟩, fun b hb => by cases hb⟩)
  obtain ⟨i1, hj1, hy0, hy1, hy2⟩ := info_parts info_intsT
  clear hA hp
  go_enter Try.func13, Try.ntmps13
  go_wp2_with fail
  go_loopw [4] (fun i wr => ∃ (j : Nat) (v : Value) (vs : List Value), j ≤ ss.length ∧ i = .int .i64 (j : Int) ∧ Hid (CpS w k ad ss.length cap v vs (ss.take j) wr)) (fun i _ => ss.length - (intOf i).toNat)
  case atStart => exact ⟨0, _, [], Nat.zero_le _, rfl, HS0⟩
  case round =>
    obtain ⟨j, v, vs, hj, rfl, HS⟩ := hrel
    clear HS0
    have c1 : wr.cell? ⟨w.heap.size, 1, none⟩ = some (.slice ad ss.length cap) := (unhide HS).b1.cell rfl
    by_cases hlt : j < ss.length
    · have hlt' : (j : Int) < (ss.length : Int) := by omega
      go_upto_region 5 with fail
      obtain ⟨bs, off, hbs, hbl, hcs⟩ := (unhide HA) (by intro e; rw [e] at hlt; simp at hlt)
      subst hbs
      obtain ⟨a, c, ec, hI, hn⟩ := hcs j hlt
      have HIA := hide (fun W (hk : Kp [] w W) => hI.below (hk.below (Nat.le_refl _) (by simp)) (Nat.le_refl _))
      have hpl := unhide HPL _ (List.getElem_mem hlt)
      have HTK : Hid (ss.take (j + 1) = ss.take j ++ [ss[j]]) := hide (List.take_succ_eq_append_getElem hlt)
      have HNN := hide hn
      have hvl : vs.length ≤ j := by have := (unhide HS).sd.inn.1; rw [List.length_take] at this; omega
      have ec1 := (unhide HS).kp.cell ec (by simp)
      have a0 : wr.drew.cell? ⟨w.heap.size + 2, 1, none⟩ = some v ∧ wr.drew.cell? ⟨w.heap.size, 1, none⟩ = some (.slice (some ⟨bs, off, none⟩) ss.length cap) ∧ wr.drew.cell? ⟨bs, off + j, none⟩ = some (.slice a ss[j].length c) := ⟨(unhide HS).sd.box.cell rfl, c1, ec1⟩
      have RW := hide (fun W (hk : Kp [] wr W) => (show W.cell? ⟨w.heap.size + 2, 1, none⟩ = some v ∧ W.cell? ⟨w.heap.size, 1, none⟩ = some (.slice (some ⟨bs, off, none⟩) ss.length cap) ∧ W.cell? ⟨bs, off + j, none⟩ = some (.slice a ss[j].length c) from ⟨hk.cell (p := ⟨w.heap.size + 2, 1, none⟩) a0.1 (by simp), hk.cell (p := ⟨w.heap.size, 1, none⟩) a0.2.1 (by simp), hk.cell (p := ⟨bs, off + j, none⟩) a0.2.2 (by simp)⟩))
      have kE : Kp [] wr (wr.alloc (.cells #[] 3)).drew := (Kp.alloc wr (.cells #[] 3)).trans (Kp.drew _) (by simp)
      have a1 := unhide RW _ kE
      have oE : IRo (wr.alloc (.cells #[] 3)).drew (.slice (some ⟨wr.heap.size, 0, none⟩) 0 0) [] := (IRo.empty wr).kp (Kp.drew _) (by simp)
      have hIE := unhide HIA _ ((unhide HS).kp.trans kE (by simp))
      generalize ss[j] = p at *
      have hbs2 := hbl
      clear hcs hI hn ec
      refine wp_region_late (fun W => W.cell? ⟨w.heap.size + 2, 1, none⟩ = some v ∧ W.cell? ⟨w.heap.size, 1, none⟩ = some (.slice (some ⟨bs, off, none⟩) ss.length cap) ∧ W.cell? ⟨bs, off + j, none⟩ = some (.slice a p.length c)) 12 (by kernel_rfl) ?_
      show wpAnyL _ _ _ _ _ _ 13 (Array.replicate 13 false) _ _
      refine wpAnyL_take (i := 0) (oi := { dst := some 15, op := Op.fieldAddr 35 (Operand.tmp 3) 1, type := 0, pos := "book.go:85", after := #[], guard := none }) (v := ?_) rfl (by kernel_rfl) (by kernel_rfl) (by kernel_rfl) (by kernel_rfl) (fun _ _ _ h => h) (Or.inl ⟨by rfl, ?_⟩) a0 ?_
      rotate_left 1
      · intro w0 hSw
        (try dsimp only at hSw)
        go_simp
        (try with_reducible rfl)
      try simp only [Act.put, List.setIfInBounds_toArray, List.set_cons_zero, List.set_cons_succ]
      refine wpAnyL_take (i := 1) (oi := { dst := some 16, op := Op.load 33 (Operand.tmp 15), type := 33, pos := "book.go:85", after := #[{ on := 0, ground := Ground.data }], guard := none }) (v := ?_) rfl (by kernel_rfl) (by kernel_rfl) (by kernel_rfl) (by kernel_rfl) (fun _ _ _ h => h) (Or.inl ⟨by rfl, ?_⟩) a0 ?_
      rotate_left 1
      · intro w0 hSw
        (try dsimp only at hSw)
        go_simp
        (try with_reducible rfl)
      try simp only [Act.put, List.setIfInBounds_toArray, List.set_cons_zero, List.set_cons_succ]
      refine wpAnyL_take (i := 3) (oi := { dst := some 18, op := Op.fieldAddr 35 (Operand.tmp 1) 1, type := 0, pos := "book.go:85", after := #[], guard := none }) (v := ?_) rfl (by kernel_rfl) (by kernel_rfl) (by kernel_rfl) (by kernel_rfl) (fun _ _ _ h => h) (Or.inl ⟨by rfl, ?_⟩) a0 ?_
      rotate_left 1
      · intro w0 hSw
        (try dsimp only at hSw)
        go_simp
        (try with_reducible rfl)
      try simp only [Act.put, List.setIfInBounds_toArray, List.set_cons_zero, List.set_cons_succ]
      refine wpAnyL_take (i := 4) (oi := { dst := some 19, op := Op.load 33 (Operand.tmp 18), type := 33, pos := "book.go:85", after := #[{ on := 3, ground := Ground.data }], guard := none }) (v := ?_) rfl (by kernel_rfl) (by kernel_rfl) (by kernel_rfl) (by kernel_rfl) (fun _ _ _ h => h) (Or.inl ⟨by rfl, ?_⟩) a0 ?_
      rotate_left 1
      · intro w0 hSw
        (try dsimp only at hSw)
        go_simp
        (try with_reducible rfl)
      try simp only [Act.put, List.setIfInBounds_toArray, List.set_cons_zero, List.set_cons_succ]
      refine wpAnyL_take (i := 5) (oi := { dst := some 20, op := Op.move (Operand.tmp 4), type := 3, pos := "book.go:85", after := #[], guard := none }) (v := ?_) rfl (by kernel_rfl) (by kernel_rfl) (by kernel_rfl) (by kernel_rfl) (fun _ _ _ h => h) (Or.inl ⟨by rfl, ?_⟩) a0 ?_
      rotate_left 1
      · intro w0 hSw
        (try dsimp only at hSw)
        go_simp
        (try with_reducible rfl)
      try simp only [Act.put, List.setIfInBounds_toArray, List.set_cons_zero, List.set_cons_succ]
      refine wpAnyL_take (i := 6) (oi := { dst := some 21, op := Op.indexAddr 33 (Operand.tmp 19) (Operand.tmp 20), type := 0, pos := "book.go:85", after := #[{ on := 4, ground := Ground.data }, { on := 5, ground := Ground.data }], guard := none }) (v := ?_) rfl (by kernel_rfl) (by kernel_rfl) (by kernel_rfl) (by kernel_rfl) (fun _ _ _ h => h) (Or.inl ⟨by rfl, ?_⟩) a0 ?_
      rotate_left 1
      · intro w0 hSw
        (try dsimp only at hSw)
        go_simp
        (try with_reducible rfl)
      try simp only [Act.put, List.setIfInBounds_toArray, List.set_cons_zero, List.set_cons_succ]
      refine wpAnyL_take (i := 7) (oi := { dst := some 22, op := Op.load 61 (Operand.tmp 21), type := 61, pos := "book.go:85", after := #[{ on := 6, ground := Ground.data }], guard := none }) (v := ?_) rfl (by kernel_rfl) (by kernel_rfl) (by kernel_rfl) (by kernel_rfl) (fun _ _ _ h => h) (Or.inl ⟨by rfl, ?_⟩) a0 ?_
      rotate_left 1
      · intro w0 hSw
        (try dsimp only at hSw)
        go_simp
        (try with_reducible rfl)
      try simp only [Act.put, List.setIfInBounds_toArray, List.set_cons_zero, List.set_cons_succ]
      refine wpAnyL_one (i := 2) (o := { dst := some 17, op := Op.buildSlice 61 0 #[], type := 61, pos := "book.go:85", after := #[], guard := none }) rfl (by kernel_rfl) (fun K hK => ?_)
      go_simp
      refine hK _ _ (Or.inr a1) ?_
      refine wpAnyL_one (i := 8) (o := { dst := some 23, op := Op.call { callee := Callee.builtin Builtin.append, args := #[Operand.tmp 17, Operand.tmp 22], argTypes := #[61, 61] }, type := 61, pos := "book.go:85", after := #[{ on := 2, ground := Ground.data }, { on := 7, ground := Ground.data }], guard := none }) rfl (by kernel_rfl) (fun K hK => ?_)
      refine step_ints rfl (.tmp 17) (.tmp 22) rfl rfl rfl rfl hIE (unhide HNN) oE (by simpa using hpl) p.length rfl ?_
      intro g5 cap5 w5 own5 gr5 at5
      have k5 : Kp [] wr w5 := kE.trans (Kp.of gr5) (by simp)
      have hg5 : wr.heap.size ≤ g5 := by rcases at5 with rfl | rfl <;> simp
      have a5 := unhide RW w5 k5
      have k5m := k5.trans (Kp.alloc w5 (.cells #[.slice (some ⟨g5, 0, none⟩) p.length cap5] 61)) (by simp)
      have a5m := unhide RW _ k5m
      have S5 := (unhide HS).next k5
      rw [List.nil_append] at own5
      refine hK _ _ (Or.inr a5) ?_
      try simp only [Act.put, List.setIfInBounds_toArray, List.set_cons_zero, List.set_cons_succ]
      refine wpAnyL_one (i := 9) (o := { dst := some 24, op := Op.buildSlice 33 1 #[(0, Operand.tmp 23)], type := 33, pos := "book.go:85", after := #[{ on := 8, ground := Ground.data }], guard := none }) rfl (by kernel_rfl) (fun K hK => ?_)
      go_simp
      refine hK _ _ (Or.inr a5m) ?_
      refine wpAnyL_one (i := 10) (o := { dst := some 25, op := Op.call { callee := Callee.builtin Builtin.append, args := #[Operand.tmp 16, Operand.tmp 24], argTypes := #[33, 33] }, type := 33, pos := "book.go:85", after := #[{ on := 1, ground := Ground.data }, { on := 9, ground := Ground.data }, { on := 8, ground := Ground.chain }], guard := none }) rfl (by kernel_rfl) (fun K hK => ?_)
      refine step_append_lies rfl (.tmp 16) (.tmp 24) 33 rfl 0 61 i1 (.slice none 0 0) 1 24 Try.underlying33 hj1 hy0 hy1 hy2 rfl (by decide) v vs.length vs rfl (S5.sd.row.kp (Kp.alloc _ _) (by simp)) ⟨w5.heap.size, 0, none⟩ 1 1 [.slice (some ⟨g5, 0, none⟩) p.length cap5] rfl rfl (one_new _ _ _) (by intro u hu; simp at hu; subst hu; rfl) (by decide) (by unfold maxLen; omega) (by omega) (Nat.zero_le _) ?_
      intro g7 cap7 w7 own7 gr7 at7
      obtain ⟨SP, KP, q7, f7⟩ := S5.sd.push own5 own7 gr7 at7
      have hb1 : w.heap.size ∉ sideF (w.heap.size + 2) v := by
        intro hm
        rcases List.mem_cons.1 hm with e | e
        · omega
        · have := S5.ge _ (by simpa using e); omega
      have hb2 : w.heap.size + 1 ∉ sideF (w.heap.size + 2) v := by
        intro hm
        rcases List.mem_cons.1 hm with e | e
        · omega
        · have := S5.ge _ (by simpa using e); omega
      have FIN : Hid (CpS w k (some ⟨bs, off, none⟩) ss.length cap (.slice (some ⟨g7, 0, none⟩) (vs.length + 1) cap7) (vs ++ [.slice (some ⟨g5, 0, none⟩) p.length cap5]) (ss.take (j + 1)) (w7.setCell ⟨w.heap.size + 2, 1, none⟩ (.slice (some ⟨g7, 0, none⟩) (vs.length + 1) cap7))) := hide ⟨S5.kp.trans KP (fun x hx => Or.inr (by
        rcases List.mem_cons.1 hx with e | e
        · omega
        · have := S5.ge _ (by simpa using e); omega)), S5.b1.kp KP hb1, S5.b2.kp KP hb2, by rw [unhide HTK]; exact SP, fun b hb => by
        simp [Value.ownBlock] at hb
        subst hb
        rcases at7 with e | e
        · exact S5.ge _ e
        · have := (Array.getElem?_eq_some_iff.1 S5.sd.box).1
          rw [e]; simp; omega⟩
      have k7 := Kp.of gr7
      have hv7 : ∀ x : Nat, x ≤ w.heap.size + 2 → x ∉ v.ownBlock.toList := fun x hx hm => by have := S5.ge x (by simpa using hm); omega
      have a7 : w7.cell? ⟨w.heap.size + 2, 1, none⟩ = some v ∧ w7.cell? ⟨w.heap.size, 1, none⟩ = some (.slice (some ⟨bs, off, none⟩) ss.length cap) ∧ w7.cell? ⟨bs, off + j, none⟩ = some (.slice a p.length c) := ⟨k7.cell a5m.1 (hv7 _ (by simp)), k7.cell a5m.2.1 (hv7 _ (by simp)), k7.cell a5m.2.2 (hv7 bs (by have := hbs2; omega))⟩
      clear SP KP hb1 hb2 own7 gr7 at7 k7 hv7 own5 gr5 at5 k5 k5m a5 a5m S5
      refine hK _ _ (Or.inr a7) ?_
      try simp only [Act.put, List.setIfInBounds_toArray, List.set_cons_zero, List.set_cons_succ]
      refine wpAnyL_one (i := 11) (o := { dst := some 26, op := Op.fieldAddr 35 (Operand.tmp 3) 1, type := 0, pos := "book.go:85", after := #[{ on := 0, ground := Ground.phase }, { on := 1, ground := Ground.phase }, { on := 2, ground := Ground.phase }, { on := 3, ground := Ground.phase }, { on := 4, ground := Ground.phase }, { on := 5, ground := Ground.phase }, { on := 6, ground := Ground.phase }, { on := 7, ground := Ground.phase }, { on := 8, ground := Ground.phase }, { on := 9, ground := Ground.phase }, { on := 10, ground := Ground.phase }], guard := none }) rfl (by kernel_rfl) (fun K hK => ?_)
      go_simp
      refine hK _ _ (Or.inr a7) ?_
      refine wpAnyL_one (i := 12) (o := { dst := none, op := Op.store 33 (Operand.tmp 26) (Operand.tmp 25), type := 0, pos := "book.go:85", after := #[{ on := 11, ground := Ground.data }, { on := 10, ground := Ground.data }, { on := 10, ground := Ground.chain }, { on := 0, ground := Ground.phase }, { on := 1, ground := Ground.phase }, { on := 2, ground := Ground.phase }, { on := 3, ground := Ground.phase }, { on := 4, ground := Ground.phase }, { on := 5, ground := Ground.phase }, { on := 6, ground := Ground.phase }, { on := 7, ground := Ground.phase }, { on := 8, ground := Ground.phase }, { on := 9, ground := Ground.phase }, { on := 10, ground := Ground.phase }], guard := none }) rfl (by kernel_rfl) (fun K hK => ?_)
      go_simp
      refine hK _ _ (Or.inl rfl) ?_
      refine wpAnyL_done (by kernel_rfl) ?_ _
      clear a0 a1 c1 ec1 kE oE hIE a7 q7 f7
      go_wp2
      go_roundw
      case rel => exact ⟨j + 1, _, _, by omega, by go_num, FIN⟩
      case measure => simp [intOf]; omega
    · have hlt' : ¬ ((j : Int) < (ss.length : Int)) := by omega
      obtain rfl : j = ss.length := by omega
      rw [List.take_length] at HS
      obtain ⟨a, c, hv, hst⟩ := (unhide HS).sd.stages
      subst hv
      have x0 : wr.cell? ⟨w.heap.size + 2, 0, none⟩ = some (.string k) := (unhide HS).sd.box.cell rfl
      have x1 : wr.cell? ⟨w.heap.size + 2, 1, none⟩ = some (.slice a ss.length c) := (unhide HS).sd.box.cell rfl
      have fR : wr.cell? ⟨w.heap.size + 1, 0, none⟩ = some (.string ⟨#[]⟩) ∧ wr.cell? ⟨w.heap.size + 1, 1, none⟩ = some (.slice none 0 0) := ⟨(unhide HS).b2.cell rfl, (unhide HS).b2.cell rfl⟩
      have rR : wr.frozen? ⟨w.heap.size + 1, 0, none⟩ = false ∧ wr.frozen? ⟨w.heap.size + 1, 1, none⟩ = false := ⟨(unhide HS).b2.froz 0, (unhide HS).b2.froz 1⟩
      have k2 := (Kp.set wr (w.heap.size + 1) 0 (.string k)).trans (Kp.set _ (w.heap.size + 1) 1 (.slice a ss.length c)) (fun x hx => Or.inl hx)
      have hno : NoI wr [w.heap.size + 1] := fun f hf cur fr hc => by
        rw [List.mem_singleton] at hf
        subst hf
        have hx : wr.heap[w.heap.size + 1]? = _ := (unhide HS).b2
        rw [hc] at hx
        injection hx with e; injection e with _ e; exact absurd e (by decide)
      have S2 := (unhide HS).sd.kpT k2 (by simp) (fun b hb => by have := (unhide HS).ge b hb; simp; omega) hno
      obtain ⟨a2, c2, hv2, hst2⟩ := S2.stages
      simp only [Value.slice.injEq, true_and] at hv2
      obtain ⟨rfl, rfl⟩ := hv2
      have HST := hide hst2
      have HBF := hide (((unhide HS).kp.trans k2 (fun x hx => Or.inr (by simp at hx; omega))).below (Nat.le_refl _) (by simp))
      clear hst hst2 S2 hno k2 HS HA HPL
      go_wp2
      exact bodyPost_ret (v := .agg #[.string k, .slice a ss.length c]) (by simp [results, Try.results13, go_sem, fR]) rfl ⟨a, ⟨c, rfl⟩, unhide HST, unhide HBF⟩
end Go.Proofs.Ytpfcoaimciojjaa
