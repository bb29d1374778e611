/-
  slices.Insert of one part where there is no room, and at the end.
  The reader takes a part (made by wip/mkrd.py).
-/
import Derived.Test.YtjijhefmbmdbeaaGreatDoorP21
namespace Go.Proofs.YtjijhefmbmdbeaaGreatDoor
open Go.RowKit Go.Shelf

theorem Kp.setRow (w : World) (g : Nat) (cs : Array Value) : Kp [g] w (w.setRow g cs) := ⟨rfl, rfl, rfl, by simp [World.setRow], fun j _ hn => by
  simp only [List.mem_singleton] at hn
  simp [World.setRow, Array.getElem?_modify, show ¬ g = j by omega]⟩
theorem zero_part : ∃ i0 : TypeInfo, Tryz.prog.info? 86 = some i0 ∧ i0.zero = some (.agg #[.int .i64 0, .int .i64 0, .string { data := #[] }, .string { data := #[] }, .int .i64 0]) ∧ i0.size = 5 ∧ i0.bytes = 56 :=
  info_parts (by kernel_rfl)
theorem grow_list (X Z P D R : List Value) (n i G : Nat) (hX : X.length = n * 5) (hR : R = X.take (i * 5) ++ Z) (hRl : R.length = G * 5) (hD : D = X.drop (i * 5)) (hP : P.length = 5) (hi : i < n) (hc : n + 1 ≤ G) (A1 A2 : List Value) (h1 : A1 = R.take (i * 5) ++ P ++ R.drop (i * 5 + P.length)) (h2 : A2 = A1.take ((i + 1) * 5) ++ D ++ A1.drop ((i + 1) * 5 + D.length)) :
    A1.length = G * 5 ∧ A2.length = G * 5 ∧ A2.take ((n + 1) * 5) = X.take (i * 5) ++ (P ++ D) ∧ D.length = (n - i) * 5 := by
  have lD : D.length = (n - i) * 5 := by rw [hD, List.length_drop, hX]; omega
  have l1 : A1.length = G * 5 := by rw [h1]; simp only [List.length_append, List.length_take, List.length_drop, hRl, hP]; omega
  have l2 : A2.length = G * 5 := by rw [h2]; simp only [List.length_append, List.length_take, List.length_drop, l1, lD]; omega
  have t0 : R.take (i * 5) = X.take (i * 5) := by rw [hR, List.take_append_of_le_length (by rw [List.length_take, hX]; omega), List.take_take]; congr 1; omega
  have t1 : A1.take ((i + 1) * 5) = X.take (i * 5) ++ P := by
    rw [h1, t0, List.take_append_of_le_length (by simp only [List.length_append, List.length_take, hX, hP]; omega), List.take_of_length_le (by simp only [List.length_append, List.length_take, hX, hP]; omega)]
  refine ⟨l1, l2, ?_, lD⟩
  rw [h2, t1, List.take_append_of_le_length (by simp only [List.length_append, List.length_take, hX, hP, lD]; omega), List.take_of_length_le (by simp only [List.length_append, List.length_take, hX, hP, lD]; omega), List.append_assoc]
set_option maxHeartbeats 4000000 in
set_option maxRecDepth 100000 in
theorem insert_grow (g n c i vb vc : Nat) (cur : Array Value) (xs : List Pt) (p : Pt) (w : World) (hn : xs.length = n) (hi : i < n) (hnc : n ≤ c) (hroom : c < n + 1) (hbig : n ≤ 100000000) (hg : w.heap[g]? = some (.cells cur 86 (0, 0))) (hx : cur.toList.take (n * 5) = xs.flatMap ptE) (hv : CBox vb (ptE p).toArray 86 w) :
    Calls Tryz.prog 198 #[.slice (some ⟨g, 0, none⟩) n c, .int .i64 (i : Int), .slice (some ⟨vb, 0, none⟩) 1 vc] w fun e w' => ∃ (G : Nat) (cur' : Array Value), e = .returned (.slice (some ⟨w.heap.size, 0, none⟩) (n + 1) G) ∧ w'.heap[w.heap.size]? = some (.cells cur' 86 (0, 0)) ∧ n + 1 ≤ G ∧ G ≤ maxLen ∧ cur'.size = G * 5 ∧ cur'.toList.take ((n + 1) * 5) = (xs.take i ++ p :: xs.drop i).flatMap ptE ∧ Kp [] w w' := by
  obtain ⟨i0, hi0, hz0, hzs, hzb⟩ := zero_part
  have hgw : g < w.heap.size := (Array.getElem?_eq_some_iff.1 hg).1
  have hvw : vb < w.heap.size := (Array.getElem?_eq_some_iff.1 hv).1
  have hXl : (xs.flatMap ptE).length = n * 5 := by rw [flat_len ptE 5 ptE_len, hn]
  have hold : (Builtin.firstCells i0.size i (.slice (some ⟨g, 0, none⟩) i c)).run Tryz.prog w.drew = .ok ((xs.flatMap ptE).take (i * 5)).toArray w.drew := by
    rw [hzs]
    exact run_firstCells_some w.drew 5 i ⟨g, 0, none⟩ i c _ (by rw [List.length_take, hXl]; omega) (fun j v hj => by
      rw [List.getElem?_take] at hj
      split at hj
      · have := row_from (i := 0) hg hx j v (by simpa using hj)
        rw [Nat.zero_mul] at this
        exact this
      · cases hj)
  have hik : i + (n + 1 - i) = n + 1 := by omega
  have hkk : (n : Int) + 1 - (i : Int) = ((n + 1 - i : Nat) : Int) := by omega
  obtain ⟨G, hG⟩ : ∃ G, G = grownCap w (n + 1) c 86 := ⟨_, rfl⟩
  obtain ⟨Z, hZ⟩ : ∃ Z : List Value, Z = (Builtin.zeroCells (Value.agg #[.int .i64 0, .int .i64 0, .string { data := #[] }, .string { data := #[] }, .int .i64 0]).cells (n + 1 - i) ++ Builtin.zeroCells (Value.agg #[.int .i64 0, .int .i64 0, .string { data := #[] }, .string { data := #[] }, .int .i64 0]).cells (G - (n + 1))).toList := ⟨_, rfl⟩
  have hGn : n + 1 ≤ G := by rw [hG]; exact grownCap_ge w _ _ _
  have hGm : G ≤ maxLen := by rw [hG]; exact grownCap_le_maxLen w (n + 1) c _ (by unfold maxLen; omega)
  have hG63 : G ≤ 9223372036854775807 := by unfold maxLen at hGm; omega
  obtain ⟨R, hR⟩ : ∃ R, R = (xs.flatMap ptE).take (i * 5) ++ Z := ⟨_, rfl⟩
  have hZl : Z.length = (G - i) * 5 := by
    rw [hZ]
    simp [Builtin.zeroCells, Value.cells]
    omega
  have hRl : R.length = G * 5 := by rw [hR, List.length_append, List.length_take, hXl, hZl]; omega
  have hrz : ∀ ty, (Builtin.append_ #[52, 3] ty #[.slice (some ⟨g, 0, none⟩) i c, .int .i64 ((n : Int) + 1 - (i : Int))]).run Tryz.prog w =
      .ok (.slice (some ⟨w.heap.size, 0, none⟩) (n + 1) G) (w.drew.alloc (.cells R.toArray 86)) := fun ty => by
    have h := Lib.run_append_grow_zeros w 52 3 ty 86 i0 _ .i64 .i64 Tryz.underlying52 Tryz.underlying3 hi0 hz0 (some ⟨g, 0, none⟩) i c _ hold (n + 1 - i) (by omega) (by omega) (by omega) (by omega) (by rw [hzb]; omega) (by rw [hzb, hik]; exact growslice_fits hroom (by omega))
    rw [hik, ← hG] at h
    rw [hkk, h, hR, hZ]
    congr 4
    simp
  obtain ⟨A1, hA1⟩ : ∃ A1, A1 = R.take (i * 5) ++ ptE p ++ R.drop (i * 5 + (ptE p).length) := ⟨_, rfl⟩
  obtain ⟨A2, hA2⟩ : ∃ A2, A2 = A1.take ((i + 1) * 5) ++ (xs.drop i).flatMap ptE ++ A1.drop ((i + 1) * 5 + ((xs.drop i).flatMap ptE).length) := ⟨_, rfl⟩
  obtain ⟨l1, l2, l3, l4⟩ := grow_list (xs.flatMap ptE) Z (ptE p) ((xs.drop i).flatMap ptE) R n i G hXl hR hRl (flat_drop ptE 5 ptE_len xs i).symm rfl hi hGn A1 A2 hA1 hA2
  have hcpA : ∀ (W : World), W.heap = (w.alloc (.cells R.toArray 86)).heap → ∀ ty dc, (Builtin.copy_ #[52, 52] ty #[.slice (some ⟨w.heap.size, i * 5, none⟩) (n + 1 - i) dc, .slice (some ⟨vb, 0, none⟩) 1 vc]).run Tryz.prog W = .ok (goInt 1) (W.setRow w.heap.size A1.toArray) := fun W hW ty dc => by
    have := run_copy_rowN (P := Tryz.prog) W 52 52 ty 86 5 w.heap.size (i * 5) (n + 1 - i) dc ⟨vb, 0, none⟩ 1 vc 1 R.toArray 86 (ptE p) Tryz.underlying52 info_part (by rw [hW]; exact heap_alloc_new w _) (by simp only [Nat.min_def]; split <;> omega) rfl (fun j v hj => by
      rw [Addr.add_lit]
      refine (World.cell?_of_block ?_).trans (hv.cell (i := 0 + j) (by rw [Nat.zero_add]; simpa using hj))
      rw [hW]
      exact Below.heap_alloc _ _ _ hvw) (by rw [ptE_len]; simp [hRl]; omega) (fun v hv => ptE_one [p] v (by simpa using hv))
    rw [this, hA1]
    rfl
  have hg2 : ∀ (W : World), W.heap = ((w.alloc (.cells R.toArray 86)).setRow w.heap.size A1.toArray).heap → W.heap[w.heap.size]? = some (.cells A1.toArray 86 (0, 0)) := fun W hW => by rw [hW]; exact setRow_heap _ _ _ _ _ _ (heap_alloc_new w _)
  have hgo : ∀ (W : World), W.heap = ((w.alloc (.cells R.toArray 86)).setRow w.heap.size A1.toArray).heap → W.heap[g]? = some (.cells cur 86 (0, 0)) := fun W hW => by
    rw [hW, ← hg, ← Below.heap_alloc w (.cells R.toArray 86) g hgw]
    simp [World.setRow, Array.getElem?_modify, show ¬ w.heap.size = g by omega]
  have hcpB : ∀ (W : World), W.heap = ((w.alloc (.cells R.toArray 86)).setRow w.heap.size A1.toArray).heap → ∀ ty dc sc, (Builtin.copy_ #[52, 52] ty #[.slice (some ⟨w.heap.size, (i + 1) * 5, none⟩) (n - i) dc, .slice (some ⟨g, i * 5, none⟩) (n - i) sc]).run Tryz.prog W = .ok (goInt ((n - i : Nat) : Int)) (W.setRow w.heap.size A2.toArray) := fun W hW ty dc sc => by
    have := run_copy_rowN (P := Tryz.prog) W 52 52 ty 86 5 w.heap.size ((i + 1) * 5) (n - i) dc ⟨g, i * 5, none⟩ (n - i) sc (n - i) A1.toArray 86 ((xs.drop i).flatMap ptE) Tryz.underlying52 info_part (hg2 W hW) (by simp only [Nat.min_def]; split <;> omega) l4 (row_from (hgo W hW) hx) (by rw [l4]; simp [l1]; omega) (ptE_one _)
    rw [this, hA2]
  have HF := hide (And.intro l2 (And.intro l3 (And.intro hGn hGm)))
  have HG2 := hide hg2
  have mixed : Tryz.prog.follows .mixedOrders = true := by kernel_rfl
  have hz2 : ¬ ((i : Int) = (n : Int)) := by omega
  have hz3 : (c : Int) < (n : Int) + 1 := by omega
  have hGi : ¬ (G = i) := by omega
  have hGim : ¬ (G = i + 1) := by omega
  have hci : ¬ (c = i) := by omega
  have hw1 : IntKind.i64.wrap ((i : Int) + 1) = (i : Int) + 1 := by rw [IntKind.wrap_i64]; omega
  have hb1 : (0 : Int) ≤ (i : Int) + 1 := by omega
  have hin : i ≤ n := by omega
  have htn : ((i : Int) + 1).toNat = i + 1 := by omega
  have hb3 : (i : Int) ≤ (n : Int) := by omega
  have hb5 : (i : Int) ≤ (n : Int) + 1 := by omega
  clear hA1 hA2 l1 l2 l3 l4 hg2 hgo hG hZ hR hRl hZl hkk hik hold hx hXl hv hg hz0 hzs hzb hi0
  go_enter Tryz.func198, Tryz.ntmps198
  go_wp2_with (at_builtin; refine Lib.wpList_append_run _ rfl _ _ _ _ rfl _ _ rfl rfl _ _ (hrz _) ?_)
  rw [hcpA (w.alloc (.cells R.toArray 86)).drew rfl]
  simp only [Result.andThen_ok]
  rw [Oper.upon_value]
  go_wp2
  go_region_law_o (refine step_copy_runI rfl _ _ 52 52 rfl (.slice (some ⟨w.heap.size, (i + 1) * 5, none⟩) (n - i) (G - (i + 1))) (.slice (some ⟨g, i * 5, none⟩) (n - i) (c - i)) (by simp [Act.eval, Act.put]) (by simp [Act.eval, Act.put]) (hcpB ((w.alloc (.cells R.toArray 86)).drew.setRow w.heap.size A1.toArray).drew rfl 3 (G - (i + 1)) (c - i)) ?_)
  go_wp2
  go_ret
  obtain ⟨l2, l3, q1, q2⟩ := unhide HF
  refine ⟨G, A2.toArray, rfl, setRow_heap _ _ A1.toArray _ _ _ (unhide HG2 _ rfl), q1, q2, by simpa using l2, ?_, ?_⟩
  · rw [List.flatMap_append, List.flatMap_cons, ← flat_take ptE 5 ptE_len]
    exact l3
  · exact ((((Kp.alloc w _).trans (Kp.drew _) (by simp)).trans (Kp.setRow _ _ _) (by simp)).trans (Kp.drew _) (by simp)).trans (Kp.setRow _ _ _) (by simp)
set_option maxHeartbeats 4000000 in
set_option maxRecDepth 100000 in
theorem insert_end (B : Nat) (v : Value) (xs : List Pt) (p : Pt) (vb vc : Nat) (w : World) (hown : w.ownsRow B 86 5 v xs.length (xs.flatMap ptE)) (hbig : xs.length ≤ 100000000) (hv : CBox vb (ptE p).toArray 86 w) (hB : B ≤ w.heap.size) :
    Calls Tryz.prog 198 #[v, .int .i64 (xs.length : Int), .slice (some ⟨vb, 0, none⟩) 1 vc] w fun e w' => ∃ v', e = .returned v' ∧ w'.ownsRow B 86 5 v' (xs.length + 1) ((xs ++ [p]).flatMap ptE) ∧ Kp v.ownBlock.toList w w' := by
  obtain ⟨i0, hi0, hz0, hzs, hzb⟩ := zero_part
  obtain ⟨g, cap, w', hr, r1, r2, _, _⟩ := run_append_lies (P := Tryz.prog) (w := w) 52 52 B 86 i0 _ 5 56 Tryz.underlying52 hi0 hz0 hzs hzb rfl (by decide) v xs.length _ hown ⟨vb, 0, none⟩ 1 vc (ptE p) rfl (fun j u hj => by
    rw [Addr.add_lit]
    exact hv.cell (i := 0 + j) (by rw [Nat.zero_add]; simpa using hj)) (fun u hu => ptE_one [p] u (by simpa using hu)) (by decide) (by unfold maxLen; omega) (by omega) hB _ rfl
  have HE : Hid (w'.ownsRow B 86 5 (.slice (some ⟨g, 0, none⟩) (xs.length + 1) cap) (xs.length + 1) ((xs ++ [p]).flatMap ptE) ∧ Kp v.ownBlock.toList w w') := hide ⟨by rw [List.flatMap_append]; simpa using r1, Kp.of r2⟩
  have hform : v = .slice none 0 0 ∧ xs.length = 0 ∨ ∃ g cap, v = .slice (some ⟨g, 0, none⟩) xs.length cap ∧ xs.length ≤ cap ∧ cap ≤ 9223372036854775807 := by
    obtain ⟨_, ⟨e, h0⟩ | ⟨g, cap, cur, e, _, _, h5, h6, _⟩⟩ := hown
    · exact Or.inl ⟨e, h0⟩
    · exact Or.inr ⟨g, cap, e, h5, by unfold maxLen at h6; omega⟩
  clear r1 r2 hown hv hi0 hz0 hzs hzb
  generalize xs.length = n at *
  generalize (xs ++ [p]).flatMap ptE = Y at *
  generalize v.ownBlock.toList = F at *
  rcases hform with ⟨rfl, rfl⟩ | ⟨g0, c0, rfl, h5, h6⟩
  · go_enter Tryz.func198, Tryz.ntmps198
    go_wp2_with (at_builtin; refine Lib.wpList_append_run _ rfl _ _ _ _ rfl _ _ rfl rfl _ _ hr ?_)
    go_ret
    exact ⟨_, rfl, unhide HE⟩
  · go_enter Tryz.func198, Tryz.ntmps198
    go_wp2_with (at_builtin; refine Lib.wpList_append_run _ rfl _ _ _ _ rfl _ _ rfl rfl _ _ hr ?_)
    all_goals (go_ret; exact ⟨_, rfl, unhide HE⟩)
/-- A part put into a row of the call's own. -/
theorem insert_any (B : Nat) (v : Value) (xs : List Pt) (i : Nat) (p : Pt) (vb vc : Nat) (w : World) (hown : w.ownsRow B 86 5 v xs.length (xs.flatMap ptE)) (hi : i ≤ xs.length) (hbig : xs.length ≤ 100000000) (hv : CBox vb (ptE p).toArray 86 w) (hne : v.ownBlock ≠ some vb) (hB : B ≤ w.heap.size) :
    Calls Tryz.prog 198 #[v, .int .i64 (i : Int), .slice (some ⟨vb, 0, none⟩) 1 vc] w fun e w' => ∃ v', e = .returned v' ∧ w'.ownsRow B 86 5 v' (xs.length + 1) ((xs.take i ++ p :: xs.drop i).flatMap ptE) ∧ Kp v.ownBlock.toList w w' := by
  rcases Nat.lt_or_ge i xs.length with h | h
  · have hl : ((xs.take i ++ p :: xs.drop i).flatMap ptE).length = (xs.length + 1) * 5 := by
      rw [flat_len ptE 5 ptE_len]
      simp
      omega
    obtain ⟨_, ⟨_, h0⟩ | ⟨g, cap, cur, rfl, h3, h4, h5, h6, h7, h8⟩⟩ := hown
    · omega
    · rcases Nat.lt_or_ge xs.length cap with hr | hr
      · refine (insert_shift g xs.length cap i vb vc cur xs p w rfl h hr h6 h4 h7 h8 hv (fun e => hne (by rw [e]; rfl))).mono ?_
        rintro e w' ⟨rfl, cur', rfl, q1, q2⟩
        exact ⟨_, rfl, ⟨hl, Or.inr ⟨g, cap, cur', rfl, h3, setRow_heap _ _ cur _ _ _ h4, hr, h6, q1, q2⟩⟩, ((Kp.drew w).mono (by simp)).trans (Kp.setRow _ _ _) (by simp [Value.ownBlock])⟩
      · refine (insert_grow g xs.length cap i vb vc cur xs p w rfl h h5 (by omega) hbig h4 h8 hv).mono ?_
        rintro e w' ⟨G, cur', rfl, q0, q1, q2, q3, q4, q5⟩
        exact ⟨_, rfl, ⟨hl, Or.inr ⟨w.heap.size, G, cur', rfl, hB, q0, q1, q2, q3, q4⟩⟩, q5.mono (by simp)⟩
  · obtain rfl : i = xs.length := by omega
    rw [List.take_of_length_le (Nat.le_refl _), List.drop_eq_nil_of_le (Nat.le_refl _)]
    exact insert_end B v xs p vb vc w hown hbig hv hB
end Go.Proofs.YtjijhefmbmdbeaaGreatDoor
namespace Go.Proofs.YtjijhefmbmdbeaaGreatDoor
open Go.RowKit Go.Shelf
attribute [local irreducible] opsV

/-- The reader with other parts. -/
theorem Rd.parts {gr : Nat} {lv tk : Value} {l : List Tk} {k d : Nat} {ps ps' : List Pt} {W W' : World} {pv pv' : Value} (h : Rd gr lv tk l k d ps W) (hb : CBox gr (rdC lv tk k d pv) 204 W') (hbl : Below gr W W') (ho : W'.ownsRow (gr + 1) 86 5 pv' ps'.length (ps'.flatMap ptE)) : Rd gr lv tk l k d ps' (W'.setCell ⟨gr, 74, none⟩ pv') := by
  have c := hb.set 74 pv'
  rw [rdC_p] at c
  have hlt := (Array.getElem?_eq_some_iff.1 hb).1
  exact ⟨(h.env.below hbl).below ((Kp.set W' gr 74 _).below (by omega) (by simp)), pv', c, row_kp ho (Kp.set _ _ _ _) (fun g hg => by have := (ho.lt g hg).1; simp; omega)⟩
set_option maxHeartbeats 2000000 in
set_option maxRecDepth 100000 in
theorem take_any {gr : Nat} {lv tk : Value} {l : List Tk} {k d : Nat} {ps : List Pt} {W : World} (h : Rd gr lv tk l k d ps W) (p : Pt) (hk : k ≤ 100000) (hps : ps.length ≤ 1000000) :
    Calls Tryz.prog 190 #[.pointer (some ⟨gr, 0, none⟩), p.v] W fun e w' => e = .returned (.bool true) ∧ Rd gr lv tk l (k + 1) d (ps ++ [p]) w' ∧ Below gr W w' := by
  obtain ⟨pv, hb, ho⟩ := h.box
  have hgl := (Array.getElem?_eq_some_iff.1 hb).1
  have HR := hide h
  obtain ⟨kd, n, s, st, fl⟩ := p
  unfold Pt.v
  dsimp only
  obtain ⟨W1, hW1⟩ : ∃ W1, W1 = W.alloc (.cells #[.int .i64 kd, .int .i64 n, .string s, .string st, .int .i64 fl] 86) := ⟨_, rfl⟩
  have k1 : Kp [] W W1 := by rw [hW1]; exact Kp.alloc _ _
  have hbx : CBox W.heap.size #[.int .i64 kd, .int .i64 n, .string s, .string st, .int .i64 fl] 86 W1 := by rw [hW1]; exact CBox.new _ _ _
  have hsW1 : W1.heap.size = W.heap.size + 1 := by rw [hW1]; simp
  have hdis : gr ∉ pv.ownBlock.toList ∧ W.heap.size ∉ pv.ownBlock.toList := ⟨fun hx => by have := (ho.lt gr (by simpa using hx)).1; omega, fun hx => by have := (ho.lt _ (by simpa using hx)).2; omega⟩
  have HS : Hid (∀ W', Kp pv.ownBlock.toList W1 W' → W'.cell? ⟨gr, 74, none⟩ = some pv ∧ W'.cell? ⟨W.heap.size, 0, none⟩ = some (.int .i64 kd) ∧ W'.cell? ⟨W.heap.size, 1, none⟩ = some (.int .i64 n) ∧ W'.cell? ⟨W.heap.size, 2, none⟩ = some (.string s) ∧ W'.cell? ⟨W.heap.size, 3, none⟩ = some (.string st) ∧ W'.cell? ⟨W.heap.size, 4, none⟩ = some (.int .i64 fl)) := hide (fun W' hk' => by
    have c1 := (hb.kp k1 (by simp)).kp hk' hdis.1
    have c2 := hbx.kp hk' hdis.2
    exact ⟨c1.cell (rdC_74 lv tk k d pv), c2.cell rfl, c2.cell rfl, c2.cell rfl, c2.cell rfl, c2.cell rfl⟩)
  have HO := hide (row_kp ho k1 (by simp))
  have HB := hide (hb.kp k1 (by simp))
  have HK1 := hide k1
  obtain ⟨i0, hi0, hz0, hzs, hzb⟩ := zero_part
  have hne : ∀ g, pv.ownBlock = some g → gr + 1 ≤ g := fun g hg => (ho.lt g hg).1
  have HNE := hide hne
  clear h hb ho k1 hbx hne hdis
  go_enter Tryz.func190, Tryz.ntmps190
  go_wp2
  rw [← hW1]
  clear hW1
  have hS := unhide HS W1.drew ((Kp.drew _).mono (by simp))
  refine wp_region_late (fun W' => W'.cell? ⟨gr, 74, none⟩ = some pv ∧ W'.cell? ⟨W.heap.size, 0, none⟩ = some (.int .i64 kd) ∧ W'.cell? ⟨W.heap.size, 1, none⟩ = some (.int .i64 n) ∧ W'.cell? ⟨W.heap.size, 2, none⟩ = some (.string s) ∧ W'.cell? ⟨W.heap.size, 3, none⟩ = some (.string st) ∧ W'.cell? ⟨W.heap.size, 4, none⟩ = some (.int .i64 fl)) 10 (by kernel_rfl) ?_
  show wpAnyL _ _ _ _ _ _ 11 (Array.replicate 11 false) _ _
  refine wpAnyL_take (i := 0) (oi := { dst := some 5, op := Op.move (Operand.tmp 0), type := 219, pos := "read.go:154", after := #[], guard := none }) (v := ?_) rfl (by kernel_rfl) (by kernel_rfl) (by kernel_rfl) (by kernel_rfl) (fun _ _ _ h => h) (Or.inl ⟨by rfl, ?_⟩) hS ?_
  rotate_left 1
  · intro w0 hSw
    (try dsimp only at hSw)
    go_simp
    (try with_reducible rfl)
  try simp only [Act.put, List.setIfInBounds_toArray, List.set_cons_zero, List.set_cons_succ]
  refine wpAnyL_take (i := 1) (oi := { dst := some 6, op := Op.move (Operand.tmp 0), type := 219, pos := "read.go:154", after := #[], guard := none }) (v := ?_) rfl (by kernel_rfl) (by kernel_rfl) (by kernel_rfl) (by kernel_rfl) (fun _ _ _ h => h) (Or.inl ⟨by rfl, ?_⟩) hS ?_
  rotate_left 1
  · intro w0 hSw
    (try dsimp only at hSw)
    go_simp
    (try with_reducible rfl)
  try simp only [Act.put, List.setIfInBounds_toArray, List.set_cons_zero, List.set_cons_succ]
  refine wpAnyL_take (i := 2) (oi := { dst := some 7, op := Op.nilCheck (Operand.tmp 6), type := 0, pos := "read.go:154", after := #[{ on := 1, ground := Ground.data }], guard := none }) (v := ?_) rfl (by kernel_rfl) (by kernel_rfl) (by kernel_rfl) (by kernel_rfl) (fun _ _ _ h => h) (Or.inl ⟨by rfl, ?_⟩) hS ?_
  rotate_left 1
  · intro w0 hSw
    (try dsimp only at hSw)
    go_simp
    (try with_reducible rfl)
  try simp only [Act.put, List.setIfInBounds_toArray, List.set_cons_zero, List.set_cons_succ]
  refine wpAnyL_take (i := 3) (oi := { dst := some 8, op := Op.fieldAddr 204 (Operand.tmp 7) 5, type := 0, pos := "read.go:154", after := #[{ on := 2, ground := Ground.data }], guard := none }) (v := ?_) rfl (by kernel_rfl) (by kernel_rfl) (by kernel_rfl) (by kernel_rfl) (fun _ _ _ h => h) (Or.inl ⟨by rfl, ?_⟩) hS ?_
  rotate_left 1
  · intro w0 hSw
    (try dsimp only at hSw)
    go_simp
    (try with_reducible rfl)
  try simp only [Act.put, List.setIfInBounds_toArray, List.set_cons_zero, List.set_cons_succ]
  refine wpAnyL_take (i := 4) (oi := { dst := some 9, op := Op.load 52 (Operand.tmp 8), type := 52, pos := "read.go:154", after := #[{ on := 3, ground := Ground.data }], guard := none }) (v := ?_) rfl (by kernel_rfl) (by kernel_rfl) (by kernel_rfl) (by kernel_rfl) (fun _ _ _ h => h) (Or.inl ⟨by rfl, ?_⟩) hS ?_
  rotate_left 1
  · intro w0 hSw
    (try dsimp only at hSw)
    go_simp
    (try with_reducible rfl)
  try simp only [Act.put, List.setIfInBounds_toArray, List.set_cons_zero, List.set_cons_succ]
  refine wpAnyL_take (i := 5) (oi := { dst := some 10, op := Op.load 86 (Operand.tmp 3), type := 86, pos := "read.go:154", after := #[], guard := none }) (v := ?_) rfl (by kernel_rfl) (by kernel_rfl) (by kernel_rfl) (by kernel_rfl) (fun _ _ _ h => h) (Or.inl ⟨by rfl, ?_⟩) hS ?_
  rotate_left 1
  · intro w0 hSw
    (try dsimp only at hSw)
    go_simp
    (try with_reducible rfl)
  try simp only [Act.put, List.setIfInBounds_toArray, List.set_cons_zero, List.set_cons_succ]
  refine wpAnyL_one (i := 6) (o := { dst := some 11, op := Op.buildSlice 52 1 #[(0, Operand.tmp 10)], type := 52, pos := "read.go:154", after := #[{ on := 5, ground := Ground.data }], guard := none }) rfl (by kernel_rfl) (fun K hK => ?_)
  go_simp
  have k2 : Kp [] W1 (W1.alloc (.cells #[.int .i64 kd, .int .i64 n, .string s, .string st, .int .i64 fl] 86)).drew := (Kp.alloc _ _).trans (Kp.drew _) (by simp)
  have hn2 : CBox W1.heap.size #[.int .i64 kd, .int .i64 n, .string s, .string st, .int .i64 fl] 86 (W1.alloc (.cells #[.int .i64 kd, .int .i64 n, .string s, .string st, .int .i64 fl] 86)).drew := CBox.new W1 _ _
  rw [hsW1] at hn2
  have hown := row_kp (unhide HO) k2 (by simp)
  have hsz2 : gr + 1 ≤ (W1.alloc (.cells #[.int .i64 kd, .int .i64 n, .string s, .string st, .int .i64 fl] 86)).drew.heap.size := by have := k2.size; omega
  clear hS
  have hS := unhide HS _ (k2.mono (by simp))
  refine hK _ _ (Or.inr hS) ?_
  try simp only [Act.put, List.setIfInBounds_toArray, List.set_cons_zero, List.set_cons_succ]
  generalize (W1.alloc (.cells #[.int .i64 kd, .int .i64 n, .string s, .string st, .int .i64 fl] 86)).drew = W2 at *
  refine wpAnyL_one (i := 7) (o := { dst := some 12, op := Op.call { callee := Callee.builtin Builtin.append, args := #[Operand.tmp 9, Operand.tmp 11], argTypes := #[52, 52] }, type := 52, pos := "read.go:154", after := #[{ on := 4, ground := Ground.data }, { on := 6, ground := Ground.data }], guard := none }) rfl (by kernel_rfl) (fun K hK => ?_)
  refine step_append_lies rfl (.tmp 9) (.tmp 11) 52 rfl (gr + 1) 86 i0 _ 5 56 Tryz.underlying52 hi0 hz0 hzs hzb rfl (by decide) pv ps.length _ rfl hown ⟨W.heap.size + 1, 0, none⟩ 1 1 [.int .i64 kd, .int .i64 n, .string s, .string st, .int .i64 fl] rfl rfl (fun j u hj => by
    rw [Addr.add_lit]
    exact hn2.cell (i := 0 + j) (by rw [Nat.zero_add]; simpa using hj)) (by simp [Value.oneCell']) (by decide) (by unfold maxLen; omega) (by omega) hsz2 ?_
  rintro g5 cap5 w5 hw5 hgr hg5
  have hne := unhide HNE
  have k5 : Kp pv.ownBlock.toList W1 w5 := (k2.mono (by simp)).trans (Kp.of hgr) (fun x hx => Or.inl hx)
  have hlow : ∀ x ∈ pv.ownBlock.toList, gr + 1 ≤ x := fun x hx => hne x (by simpa using hx)
  have hb5 := (unhide HB).kp k5 (fun hx => by have := hlow _ hx; omega)
  have hbl5 : Below gr W w5 := ((unhide HK1).below (by omega) (by simp)).trans (k5.below (by omega) (fun x hx => by have := hlow x hx; omega))
  have HR6 := hide (Rd.parts (pv' := .slice (some ⟨g5, 0, none⟩) (ps.length + 1) cap5) (ps' := ps ++ [⟨kd, n, s, st, fl⟩]) (unhide HR) hb5 hbl5 (by rw [List.length_append, List.flatMap_append]; exact hw5))
  have HB6 := hide (hbl5.setCell (p := ⟨gr, 74, none⟩) (Nat.le_refl _) (.slice (some ⟨g5, 0, none⟩) (ps.length + 1) cap5))
  have c74 := hb5.cell (rdC_74 lv tk k d pv)
  have f74 := hb5.froz
  clear hS
  have hS := unhide HS _ k5
  refine hK _ _ (Or.inr hS) ?_
  try simp only [Act.put, List.setIfInBounds_toArray, List.set_cons_zero, List.set_cons_succ]
  refine wpAnyL_one (i := 8) (o := { dst := some 13, op := Op.nilCheck (Operand.tmp 5), type := 0, pos := "read.go:154", after := #[{ on := 0, ground := Ground.data }, { on := 0, ground := Ground.phase }, { on := 1, ground := Ground.phase }, { on := 2, ground := Ground.phase }, { on := 3, ground := Ground.phase }, { on := 4, ground := Ground.phase }, { on := 5, ground := Ground.phase }, { on := 6, ground := Ground.phase }, { on := 7, ground := Ground.phase }], guard := none }) rfl (by kernel_rfl) (fun K hK => ?_)
  go_simp
  refine hK _ _ (Or.inr hS) ?_
  try simp only [Act.put, List.setIfInBounds_toArray, List.set_cons_zero, List.set_cons_succ]
  refine wpAnyL_one (i := 9) (o := { dst := some 14, op := Op.fieldAddr 204 (Operand.tmp 13) 5, type := 0, pos := "read.go:154", after := #[{ on := 8, ground := Ground.data }, { on := 0, ground := Ground.phase }, { on := 1, ground := Ground.phase }, { on := 2, ground := Ground.phase }, { on := 3, ground := Ground.phase }, { on := 4, ground := Ground.phase }, { on := 5, ground := Ground.phase }, { on := 6, ground := Ground.phase }, { on := 7, ground := Ground.phase }], guard := none }) rfl (by kernel_rfl) (fun K hK => ?_)
  go_simp
  refine hK _ _ (Or.inr hS) ?_
  try simp only [Act.put, List.setIfInBounds_toArray, List.set_cons_zero, List.set_cons_succ]
  refine wpAnyL_one (i := 10) (o := { dst := none, op := Op.store 52 (Operand.tmp 14) (Operand.tmp 12), type := 0, pos := "read.go:154", after := #[{ on := 9, ground := Ground.data }, { on := 7, ground := Ground.data }, { on := 7, ground := Ground.chain }, { on := 0, ground := Ground.phase }, { on := 1, ground := Ground.phase }, { on := 2, ground := Ground.phase }, { on := 3, ground := Ground.phase }, { on := 4, ground := Ground.phase }, { on := 5, ground := Ground.phase }, { on := 6, ground := Ground.phase }, { on := 7, ground := Ground.phase }], guard := none }) rfl (by kernel_rfl) (fun K hK => ?_)
  go_simp
  refine hK _ _ (Or.inl rfl) ?_
  refine wpAnyL_done (by kernel_rfl) ?_ _
  obtain ⟨c72, _, f72, _⟩ := (unhide HR6).cells
  clear hS c74 f74 hb5 hbl5 hw5 hgr hg5 hown hn2 k5 k2 hlow hne
  generalize w5.setCell ⟨gr, 74, none⟩ (.slice (some ⟨g5, 0, none⟩) (ps.length + 1) cap5) = W6 at *
  go_wp2
  exact bodyPost_ret (results_tmp rfl _ _ _) rfl ⟨rfl, (unhide HR6).next, (unhide HB6).setCell (p := ⟨gr, 72, none⟩) (Nat.le_refl _) _⟩
end Go.Proofs.YtjijhefmbmdbeaaGreatDoor
