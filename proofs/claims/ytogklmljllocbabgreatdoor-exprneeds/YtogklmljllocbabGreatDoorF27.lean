/-
  slices.Insert of one part into a row of the call's own.
  slices.Insert of one part where there is no room, and at the end.
-/
import Derived.Test.YtogklmljllocbabGreatDoorF26
import Derived.Shelf.Spec.SlicesInsertGrow
import Derived.Laws.CopyRow
namespace Go.Proofs.YtogklmljllocbabGreatDoor
open Go.RowKit Go.Shelf

theorem run_copy_rowN {P : Program} (w : World) (dT sT ty elem : TypeId) (sz g o dLen dCap : Nat) (a : Addr) (sLen sCap m : Nat) (cur : Array Value) (t : TypeId) (cs : List Value)
    (hu : P.underlying dT = some (.slice elem)) (hs : (P.info? elem).map (·.size) = some sz)
    (hg : w.heap[g]? = some (.cells cur t (0, 0))) (hm : Nat.min sLen dLen = m) (hn : cs.length = m * sz)
    (hsrc : ∀ j v, cs[j]? = some v → w.cell? (a.add j) = some v) (hfit : o + cs.length ≤ cur.size) (h1 : ∀ v ∈ cs, v.oneCell' = true) :
    (Builtin.copy_ #[dT, sT] ty #[.slice (some ⟨g, o, none⟩) dLen dCap, .slice (some a) sLen sCap]).run P w =
      .ok (goInt m) (w.setRow g (cur.toList.take o ++ cs ++ cur.toList.drop (o + cs.length)).toArray) := by
  have hl := run_loadCells_list (P := P) w a cs hsrc
  have hst := run_storeCells_at P g o t cs 0 cur w hg (by simpa using hfit) h1
  cases hq : P.info? elem with
  | none => simp [hq] at hs
  | some i =>
    have hi : i.size = sz := by simpa [hq] using hs
    simp [Builtin.copy_, run_underlying hu, Builtin.lenOf, Builtin.firstCells, sizeOf, typeInfo, hq, hi, hm, ← hn, hl, hst]
theorem info_part : (Tryz.prog.info? 89).map (·.size) = some 5 := by kernel_rfl
theorem ptE_one (xs : List Pt) : ∀ v ∈ xs.flatMap ptE, v.oneCell' = true := by
  intro v hv
  obtain ⟨p, _, hp⟩ := List.mem_flatMap.1 hv
  simp only [ptE, List.mem_cons, List.not_mem_nil, or_false] at hp
  rcases hp with rfl | rfl | rfl | rfl | rfl <;> rfl
theorem flat_drop {α : Type} (enc : α → List Value) (sz : Nat) (he : ∀ a, (enc a).length = sz) (l : List α) (m : Nat) : (l.flatMap enc).drop (m * sz) = (l.drop m).flatMap enc := by
  induction l generalizing m with
  | nil => simp
  | cons a r ih =>
    cases m with
    | zero => simp
    | succ m =>
      rw [List.flatMap_cons, List.drop_succ_cons, ← ih m, List.drop_append, he, List.drop_eq_nil_of_le (by rw [he, Nat.add_mul]; omega), List.nil_append, show (m + 1) * sz - sz = m * sz by rw [Nat.add_mul]; omega]
theorem ins_list (A X P D : List Value) (n i c : Nat) (hA : A.length = c * 5) (hX : A.take (n * 5) = X) (hD : D = X.drop (i * 5)) (hP : P.length = 5) (hi : i < n) (hc : n + 1 ≤ c) (A1 A2 : List Value) (h1 : A1 = A.take ((i + 1) * 5) ++ D ++ A.drop ((i + 1) * 5 + D.length)) (h2 : A2 = A1.take (i * 5) ++ P ++ A1.drop (i * 5 + P.length)) :
    A1.length = c * 5 ∧ A2.length = c * 5 ∧ A2.take ((n + 1) * 5) = X.take (i * 5) ++ (P ++ D) ∧ D.length = (n - i) * 5 := by
  have lX : X.length = n * 5 := by rw [← hX, List.length_take, hA]; omega
  have lD : D.length = (n - i) * 5 := by rw [hD, List.length_drop, lX]; omega
  have l1 : A1.length = c * 5 := by rw [h1]; simp only [List.length_append, List.length_take, List.length_drop, hA, lD]; omega
  have t1 : A1.take (i * 5) = X.take (i * 5) := by
    rw [h1, List.append_assoc, List.take_append_of_le_length (by rw [List.length_take, hA]; omega), List.take_take, ← hX, List.take_take]
    congr 1
    omega
  have d1 : A1.drop (i * 5 + P.length) = D ++ A.drop ((i + 1) * 5 + D.length) := by
    rw [h1, List.append_assoc, List.drop_append_of_le_length (by rw [List.length_take, hA, hP]; omega), List.drop_eq_nil_of_le (by rw [List.length_take, hA, hP]; omega), List.nil_append]
  have l2 : A2.length = c * 5 := by rw [h2]; simp only [List.length_append, List.length_take, List.length_drop, l1, hP]; omega
  refine ⟨l1, l2, ?_, lD⟩
  rw [h2, t1, d1, ← List.append_assoc, ← List.append_assoc, List.take_append_of_le_length (by simp only [List.length_append, List.length_take, lX, hP, lD]; omega), List.take_of_length_le (by simp only [List.length_append, List.length_take, lX, hP, lD]; omega)]
/-- The cells of a row behind the first. -/
theorem row_from {w : World} {g n i : Nat} {cur : Array Value} {t : TypeId} {xs : List Pt} (hg : w.heap[g]? = some (.cells cur t (0, 0))) (hx : cur.toList.take (n * 5) = xs.flatMap ptE) :
    ∀ j v, ((xs.drop i).flatMap ptE)[j]? = some v → w.cell? ((⟨g, i * 5, none⟩ : Addr).add j) = some v := fun j v hj => by
  rw [Addr.add_lit]
  rw [← flat_drop ptE 5 ptE_len, List.getElem?_drop, ← hx, List.getElem?_take] at hj
  split at hj
  · simp only [World.cell?, hg]
    rw [← Array.getElem?_toList]
    exact hj
  · cases hj
set_option maxHeartbeats 4000000 in
set_option maxRecDepth 100000 in
theorem insert_shift (g n c i vb vc : Nat) (cur : Array Value) (xs : List Pt) (p : Pt) (w : World) (hn : xs.length = n) (hi : i < n) (hroom : n + 1 ≤ c) (hc : c ≤ maxLen) (hg : w.heap[g]? = some (.cells cur 89 (0, 0))) (hcs : cur.size = c * 5) (hx : cur.toList.take (n * 5) = xs.flatMap ptE) (hv : CBox vb (ptE p).toArray 89 w) (hne : vb ≠ g) :
    Calls Tryz.prog 240 #[.slice (some ⟨g, 0, none⟩) n c, .int .i64 (i : Int), .slice (some ⟨vb, 0, none⟩) 1 vc] w fun e w' => e = .returned (.slice (some ⟨g, 0, none⟩) (n + 1) c) ∧ ∃ cur' : Array Value, w' = w.drew.setRow g cur' ∧ cur'.size = c * 5 ∧ cur'.toList.take ((n + 1) * 5) = (xs.take i ++ p :: xs.drop i).flatMap ptE := by
  have hc63 : c ≤ 9223372036854775807 := by unfold maxLen at hc; omega
  have hov : ∀ lb cb, (callFunc 259 #[.slice (some ⟨vb, 0, none⟩) 1 vc, .slice (some ⟨g, (i + 1) * 5, none⟩) lb cb]).run Tryz.prog w = .ok (.value (.bool false)) w := fun lb cb => by
    rw [run_callFunc_extern Tryz.func259 (by kernel_rfl) (by kernel_rfl) (by kernel_rfl) (e := Extern.SlicesOverlaps.overlaps #[31, 31] #[4]) (by kernel_rfl),
      Lib.run_overlaps_apart w 31 4 89 Tryz.underlying31 5 Tryz.sizeOf89 ⟨vb, 0, none⟩ ⟨g, (i + 1) * 5, none⟩ 1 vc lb cb hne 89 89 5 (c * 5) (by unfold CBox at hv; simp [World.shape?, hv, ptE]) (by simp [World.shape?, hg, hcs]) (by omega) (hv.froz 0) (hv.froz 5)]
    rfl
  have hw1 : IntKind.i64.wrap ((i : Int) + 1) = (i : Int) + 1 := by rw [IntKind.wrap_i64]; omega
  have hb1 : (0 : Int) ≤ (i : Int) + 1 := by omega
  have htn : ((i : Int) + 1).toNat = i + 1 := by omega
  have hin : i ≤ n := by omega
  have hz2 : ¬ ((i : Int) = (n : Int)) := by omega
  have hb2 : ¬ (c = i + 1) := by omega
  have hb4 : ¬ (c = i) := by omega
  have hb3 : (i : Int) ≤ (n : Int) + 1 := by omega
  have hlen : cur.toList.length = c * 5 := by rw [Array.length_toList]; exact hcs
  obtain ⟨A1, hA1⟩ : ∃ A1, A1 = cur.toList.take ((i + 1) * 5) ++ (xs.drop i).flatMap ptE ++ cur.toList.drop ((i + 1) * 5 + ((xs.drop i).flatMap ptE).length) := ⟨_, rfl⟩
  obtain ⟨A2, hA2⟩ : ∃ A2, A2 = A1.take (i * 5) ++ ptE p ++ A1.drop (i * 5 + (ptE p).length) := ⟨_, rfl⟩
  obtain ⟨l1, l2, l3, l4⟩ := ins_list cur.toList (xs.flatMap ptE) (ptE p) ((xs.drop i).flatMap ptE) n i c hlen hx (flat_drop ptE 5 ptE_len xs i).symm rfl hi hroom A1 A2 hA1 hA2
  have hcp1 : ∀ ty dc sc, (Builtin.copy_ #[31, 31] ty #[.slice (some ⟨g, (i + 1) * 5, none⟩) (n - i) dc, .slice (some ⟨g, i * 5, none⟩) (n + 1 - i) sc]).run Tryz.prog w.drew = .ok (goInt ((n - i : Nat) : Int)) (w.drew.setRow g A1.toArray) := fun ty dc sc => by
    rw [hA1]
    exact run_copy_rowN w.drew _ _ ty 89 5 g ((i + 1) * 5) (n - i) dc ⟨g, i * 5, none⟩ (n + 1 - i) sc (n - i) cur 89 _ Tryz.underlying31 info_part hg (by simp only [Nat.min_def]; split <;> omega) l4 (row_from (w := w.drew) hg hx) (by rw [l4, hcs]; omega) (ptE_one _)
  have hg1 : (w.drew.setRow g A1.toArray).heap[g]? = some (.cells A1.toArray 89 (0, 0)) := setRow_heap w.drew g cur _ _ _ hg
  have hcp2 : ∀ ty dc, (Builtin.copy_ #[31, 31] ty #[.slice (some ⟨g, i * 5, none⟩) (n + 1 - i) dc, .slice (some ⟨vb, 0, none⟩) 1 vc]).run Tryz.prog (w.drew.setRow g A1.toArray) = .ok (goInt 1) (w.drew.setRow g A2.toArray) := fun ty dc => by
    have := run_copy_rowN (P := Tryz.prog) (w.drew.setRow g A1.toArray) 31 31 ty 89 5 g (i * 5) (n + 1 - i) dc ⟨vb, 0, none⟩ 1 vc 1 A1.toArray 89 (ptE p) Tryz.underlying31 info_part hg1 (by simp only [Nat.min_def]; split <;> omega) rfl (fun j v hj => by
      rw [Addr.add_lit]
      refine (World.cell?_of_block ?_).trans (hv.cell (i := 0 + j) (by rw [Nat.zero_add]; simpa using hj))
      simp [World.setRow, Array.getElem?_modify, hne.symm]
      rfl) (by rw [ptE_len]; simp [l1]; omega) (fun v hv => ptE_one [p] v (by simpa using hv))
    rw [this, setRow_setRow, hA2]
    rfl
  have HF := hide (And.intro l2 l3)
  have mixed : Tryz.prog.follows .mixedOrders = true := by kernel_rfl
  clear hA1 hA2 l1 l2 l3 l4 hg1 hlen hx hcs hv hg
  go_enter Tryz.func240, Tryz.ntmps240
  go_wp2_with (simp only [hov])
  go_region_law_o (refine step_copy_runI rfl _ _ 31 31 rfl _ _ (by simp [Act.eval, Act.put]) (by simp [Act.eval, Act.put]) (hcp1 _ _ _) ?_)
  go_wp2_with (at_builtin; refine wpList_copy_runI _ rfl _ _ 31 31 rfl _ _ rfl rfl (hcp2 _ _) ?_)
  go_ret
  obtain ⟨l2, l3⟩ := unhide HF
  refine ⟨rfl, A2.toArray, rfl, by simpa using l2, ?_⟩
  rw [List.flatMap_append, List.flatMap_cons, ← flat_take ptE 5 ptE_len]
  exact l3
end Go.Proofs.YtogklmljllocbabGreatDoor
namespace Go.Proofs.YtogklmljllocbabGreatDoor
open Go.RowKit Go.Shelf

theorem Kp.setRow (w : World) (g : Nat) (cs : Array Value) : Kp [g] w (w.setRow g cs) := ⟨rfl, rfl, rfl, by simp [World.setRow], fun j _ hn => by
  simp only [List.mem_singleton] at hn
  simp [World.setRow, Array.getElem?_modify, show ¬ g = j by omega]⟩
theorem zero_part : ∃ i0 : TypeInfo, Tryz.prog.info? 89 = some i0 ∧ i0.zero = some (.agg #[.int .i64 0, .int .i64 0, .string { data := #[] }, .string { data := #[] }, .int .i64 0]) ∧ i0.size = 5 ∧ i0.bytes = 56 :=
  info_parts (by kernel_rfl)
theorem grow_list (X Z P D R : List Value) (n i G : Nat) (hX : X.length = n * 5) (hR : R = X.take (i * 5) ++ Z) (hRl : R.length = G * 5) (hD : D = X.drop (i * 5)) (hP : P.length = 5) (hi : i < n) (hc : n + 1 ≤ G) (A1 A2 : List Value) (h1 : A1 = R.take (i * 5) ++ P ++ R.drop (i * 5 + P.length)) (h2 : A2 = A1.take ((i + 1) * 5) ++ D ++ A1.drop ((i + 1) * 5 + D.length)) :
    A1.length = G * 5 ∧ A2.length = G * 5 ∧ A2.take ((n + 1) * 5) = X.take (i * 5) ++ (P ++ D) ∧ D.length = (n - i) * 5 := by
  have lD : D.length = (n - i) * 5 := by rw [hD, List.length_drop, hX]; omega
  have l1 : A1.length = G * 5 := by rw [h1]; simp only [List.length_append, List.length_take, List.length_drop, hRl, hP]; omega
  have l2 : A2.length = G * 5 := by rw [h2]; simp only [List.length_append, List.length_take, List.length_drop, l1, lD]; omega
  have t0 : R.take (i * 5) = X.take (i * 5) := by rw [hR, List.take_append_of_le_length (by rw [List.length_take, hX]; omega), List.take_take]; congr 1; omega
  have t1 : A1.take ((i + 1) * 5) = X.take (i * 5) ++ P := by
    rw [h1, t0, List.take_append_of_le_length (by simp only [List.length_append, List.length_take, hX, hP]; omega), List.take_of_length_le (by simp only [List.length_append, List.length_take, hX, hP]; omega)]
  refine ⟨l1, l2, ?_, lD⟩
  rw [h2, t1, List.take_append_of_le_length (by simp only [List.length_append, List.length_take, hX, hP, lD]; omega), List.take_of_length_le (by simp only [List.length_append, List.length_take, hX, hP, lD]; omega), List.append_assoc]
set_option maxHeartbeats 4000000 in
set_option maxRecDepth 100000 in
theorem insert_grow (g n c i vb vc : Nat) (cur : Array Value) (xs : List Pt) (p : Pt) (w : World) (hn : xs.length = n) (hi : i < n) (hnc : n ≤ c) (hroom : c < n + 1) (hbig : n ≤ 100000000) (hg : w.heap[g]? = some (.cells cur 89 (0, 0))) (hx : cur.toList.take (n * 5) = xs.flatMap ptE) (hv : CBox vb (ptE p).toArray 89 w) :
    Calls Tryz.prog 240 #[.slice (some ⟨g, 0, none⟩) n c, .int .i64 (i : Int), .slice (some ⟨vb, 0, none⟩) 1 vc] w fun e w' => ∃ (G : Nat) (cur' : Array Value), e = .returned (.slice (some ⟨w.heap.size, 0, none⟩) (n + 1) G) ∧ w'.heap[w.heap.size]? = some (.cells cur' 89 (0, 0)) ∧ n + 1 ≤ G ∧ G ≤ maxLen ∧ cur'.size = G * 5 ∧ cur'.toList.take ((n + 1) * 5) = (xs.take i ++ p :: xs.drop i).flatMap ptE ∧ Kp [] w w' := by
  obtain ⟨i0, hi0, hz0, hzs, hzb⟩ := zero_part
  have hgw : g < w.heap.size := (Array.getElem?_eq_some_iff.1 hg).1
  have hvw : vb < w.heap.size := (Array.getElem?_eq_some_iff.1 hv).1
  have hXl : (xs.flatMap ptE).length = n * 5 := by rw [flat_len ptE 5 ptE_len, hn]
  have hold : (Builtin.firstCells i0.size i (.slice (some ⟨g, 0, none⟩) i c)).run Tryz.prog w.drew = .ok ((xs.flatMap ptE).take (i * 5)).toArray w.drew := by
    rw [hzs]
    exact run_firstCells_some w.drew 5 i ⟨g, 0, none⟩ i c _ (by rw [List.length_take, hXl]; omega) (fun j v hj => by
      rw [List.getElem?_take] at hj
      split at hj
      · have := row_from (i := 0) hg hx j v (by simpa using hj)
        rw [Nat.zero_mul] at this
        exact this
      · cases hj)
  have hik : i + (n + 1 - i) = n + 1 := by omega
  have hkk : (n : Int) + 1 - (i : Int) = ((n + 1 - i : Nat) : Int) := by omega
  obtain ⟨G, hG⟩ : ∃ G, G = grownCap w (n + 1) c 89 := ⟨_, rfl⟩
  obtain ⟨Z, hZ⟩ : ∃ Z : List Value, Z = (Builtin.zeroCells (Value.agg #[.int .i64 0, .int .i64 0, .string { data := #[] }, .string { data := #[] }, .int .i64 0]).cells (n + 1 - i) ++ Builtin.zeroCells (Value.agg #[.int .i64 0, .int .i64 0, .string { data := #[] }, .string { data := #[] }, .int .i64 0]).cells (G - (n + 1))).toList := ⟨_, rfl⟩
  have hGn : n + 1 ≤ G := by rw [hG]; exact grownCap_ge w _ _ _
  have hGm : G ≤ maxLen := by rw [hG]; exact grownCap_le_maxLen w (n + 1) c _ (by unfold maxLen; omega)
  have hG63 : G ≤ 9223372036854775807 := by unfold maxLen at hGm; omega
  obtain ⟨R, hR⟩ : ∃ R, R = (xs.flatMap ptE).take (i * 5) ++ Z := ⟨_, rfl⟩
  have hZl : Z.length = (G - i) * 5 := by
    rw [hZ]
    simp [Builtin.zeroCells, Value.cells]
    omega
  have hRl : R.length = G * 5 := by rw [hR, List.length_append, List.length_take, hXl, hZl]; omega
  have hrz : ∀ ty, (Builtin.append_ #[31, 3] ty #[.slice (some ⟨g, 0, none⟩) i c, .int .i64 ((n : Int) + 1 - (i : Int))]).run Tryz.prog w =
      .ok (.slice (some ⟨w.heap.size, 0, none⟩) (n + 1) G) (w.drew.alloc (.cells R.toArray 89)) := fun ty => by
    have h := Lib.run_append_grow_zeros w 31 3 ty 89 i0 _ .i64 .i64 Tryz.underlying31 Tryz.underlying3 hi0 hz0 (some ⟨g, 0, none⟩) i c _ hold (n + 1 - i) (by omega) (by omega) (by omega) (by omega) (by rw [hzb]; omega) (by rw [hzb, hik]; exact growslice_fits hroom (by omega))
    rw [hik, ← hG] at h
    rw [hkk, h, hR, hZ]
    congr 4
    simp
  obtain ⟨A1, hA1⟩ : ∃ A1, A1 = R.take (i * 5) ++ ptE p ++ R.drop (i * 5 + (ptE p).length) := ⟨_, rfl⟩
  obtain ⟨A2, hA2⟩ : ∃ A2, A2 = A1.take ((i + 1) * 5) ++ (xs.drop i).flatMap ptE ++ A1.drop ((i + 1) * 5 + ((xs.drop i).flatMap ptE).length) := ⟨_, rfl⟩
  obtain ⟨l1, l2, l3, l4⟩ := grow_list (xs.flatMap ptE) Z (ptE p) ((xs.drop i).flatMap ptE) R n i G hXl hR hRl (flat_drop ptE 5 ptE_len xs i).symm rfl hi hGn A1 A2 hA1 hA2
  have hcpA : ∀ (W : World), W.heap = (w.alloc (.cells R.toArray 89)).heap → ∀ ty dc, (Builtin.copy_ #[31, 31] ty #[.slice (some ⟨w.heap.size, i * 5, none⟩) (n + 1 - i) dc, .slice (some ⟨vb, 0, none⟩) 1 vc]).run Tryz.prog W = .ok (goInt 1) (W.setRow w.heap.size A1.toArray) := fun W hW ty dc => by
    have := run_copy_rowN (P := Tryz.prog) W 31 31 ty 89 5 w.heap.size (i * 5) (n + 1 - i) dc ⟨vb, 0, none⟩ 1 vc 1 R.toArray 89 (ptE p) Tryz.underlying31 info_part (by rw [hW]; exact heap_alloc_new w _) (by simp only [Nat.min_def]; split <;> omega) rfl (fun j v hj => by
      rw [Addr.add_lit]
      refine (World.cell?_of_block ?_).trans (hv.cell (i := 0 + j) (by rw [Nat.zero_add]; simpa using hj))
      rw [hW]
      exact Below.heap_alloc _ _ _ hvw) (by rw [ptE_len]; simp [hRl]; omega) (fun v hv => ptE_one [p] v (by simpa using hv))
    rw [this, hA1]
    rfl
  have hg2 : ∀ (W : World), W.heap = ((w.alloc (.cells R.toArray 89)).setRow w.heap.size A1.toArray).heap → W.heap[w.heap.size]? = some (.cells A1.toArray 89 (0, 0)) := fun W hW => by rw [hW]; exact setRow_heap _ _ _ _ _ _ (heap_alloc_new w _)
  have hgo : ∀ (W : World), W.heap = ((w.alloc (.cells R.toArray 89)).setRow w.heap.size A1.toArray).heap → W.heap[g]? = some (.cells cur 89 (0, 0)) := fun W hW => by
    rw [hW, ← hg, ← Below.heap_alloc w (.cells R.toArray 89) g hgw]
    simp [World.setRow, Array.getElem?_modify, show ¬ w.heap.size = g by omega]
  have hcpB : ∀ (W : World), W.heap = ((w.alloc (.cells R.toArray 89)).setRow w.heap.size A1.toArray).heap → ∀ ty dc sc, (Builtin.copy_ #[31, 31] ty #[.slice (some ⟨w.heap.size, (i + 1) * 5, none⟩) (n - i) dc, .slice (some ⟨g, i * 5, none⟩) (n - i) sc]).run Tryz.prog W = .ok (goInt ((n - i : Nat) : Int)) (W.setRow w.heap.size A2.toArray) := fun W hW ty dc sc => by
    have := run_copy_rowN (P := Tryz.prog) W 31 31 ty 89 5 w.heap.size ((i + 1) * 5) (n - i) dc ⟨g, i * 5, none⟩ (n - i) sc (n - i) A1.toArray 89 ((xs.drop i).flatMap ptE) Tryz.underlying31 info_part (hg2 W hW) (by simp only [Nat.min_def]; split <;> omega) l4 (row_from (hgo W hW) hx) (by rw [l4]; simp [l1]; omega) (ptE_one _)
    rw [this, hA2]
  have HF := hide (And.intro l2 (And.intro l3 (And.intro hGn hGm)))
  have HG2 := hide hg2
  have mixed : Tryz.prog.follows .mixedOrders = true := by kernel_rfl
  have hz2 : ¬ ((i : Int) = (n : Int)) := by omega
  have hz3 : (c : Int) < (n : Int) + 1 := by omega
  have hGi : ¬ (G = i) := by omega
  have hGim : ¬ (G = i + 1) := by omega
  have hci : ¬ (c = i) := by omega
  have hw1 : IntKind.i64.wrap ((i : Int) + 1) = (i : Int) + 1 := by rw [IntKind.wrap_i64]; omega
  have hb1 : (0 : Int) ≤ (i : Int) + 1 := by omega
  have hin : i ≤ n := by omega
  have htn : ((i : Int) + 1).toNat = i + 1 := by omega
  have hb3 : (i : Int) ≤ (n : Int) := by omega
  have hb5 : (i : Int) ≤ (n : Int) + 1 := by omega
  clear hA1 hA2 l1 l2 l3 l4 hg2 hgo hG hZ hR hRl hZl hkk hik hold hx hXl hv hg hz0 hzs hzb hi0
  go_enter Tryz.func240, Tryz.ntmps240
  go_wp2_with (at_builtin; refine Lib.wpList_append_run _ rfl _ _ _ _ rfl _ _ rfl rfl _ _ (hrz _) ?_)
  rw [hcpA (w.alloc (.cells R.toArray 89)).drew rfl]
  simp only [Result.andThen_ok]
  rw [Oper.upon_value]
  go_wp2
  go_region_law_o (refine step_copy_runI rfl _ _ 31 31 rfl (.slice (some ⟨w.heap.size, (i + 1) * 5, none⟩) (n - i) (G - (i + 1))) (.slice (some ⟨g, i * 5, none⟩) (n - i) (c - i)) (by simp [Act.eval, Act.put]) (by simp [Act.eval, Act.put]) (hcpB ((w.alloc (.cells R.toArray 89)).drew.setRow w.heap.size A1.toArray).drew rfl 3 (G - (i + 1)) (c - i)) ?_)
  go_wp2
  go_ret
  obtain ⟨l2, l3, q1, q2⟩ := unhide HF
  refine ⟨G, A2.toArray, rfl, setRow_heap _ _ A1.toArray _ _ _ (unhide HG2 _ rfl), q1, q2, by simpa using l2, ?_, ?_⟩
  · rw [List.flatMap_append, List.flatMap_cons, ← flat_take ptE 5 ptE_len]
    exact l3
  · exact ((((Kp.alloc w _).trans (Kp.drew _) (by simp)).trans (Kp.setRow _ _ _) (by simp)).trans (Kp.drew _) (by simp)).trans (Kp.setRow _ _ _) (by simp)
set_option maxHeartbeats 4000000 in
set_option maxRecDepth 100000 in
theorem insert_end (B : Nat) (v : Value) (xs : List Pt) (p : Pt) (vb vc : Nat) (w : World) (hown : w.ownsRow B 89 5 v xs.length (xs.flatMap ptE)) (hbig : xs.length ≤ 100000000) (hv : CBox vb (ptE p).toArray 89 w) (hB : B ≤ w.heap.size) :
    Calls Tryz.prog 240 #[v, .int .i64 (xs.length : Int), .slice (some ⟨vb, 0, none⟩) 1 vc] w fun e w' => ∃ v', e = .returned v' ∧ w'.ownsRow B 89 5 v' (xs.length + 1) ((xs ++ [p]).flatMap ptE) ∧ Kp v.ownBlock.toList w w' := by
  obtain ⟨i0, hi0, hz0, hzs, hzb⟩ := zero_part
  obtain ⟨g, cap, w', hr, r1, r2, _, _⟩ := run_append_lies (P := Tryz.prog) (w := w) 31 31 B 89 i0 _ 5 56 Tryz.underlying31 hi0 hz0 hzs hzb rfl (by decide) v xs.length _ hown ⟨vb, 0, none⟩ 1 vc (ptE p) rfl (fun j u hj => by
    rw [Addr.add_lit]
    exact hv.cell (i := 0 + j) (by rw [Nat.zero_add]; simpa using hj)) (fun u hu => ptE_one [p] u (by simpa using hu)) (by decide) (by unfold maxLen; omega) (by omega) hB _ rfl
  have HE : Hid (w'.ownsRow B 89 5 (.slice (some ⟨g, 0, none⟩) (xs.length + 1) cap) (xs.length + 1) ((xs ++ [p]).flatMap ptE) ∧ Kp v.ownBlock.toList w w') := hide ⟨by rw [List.flatMap_append]; simpa using r1, Kp.of r2⟩
  have hform : v = .slice none 0 0 ∧ xs.length = 0 ∨ ∃ g cap, v = .slice (some ⟨g, 0, none⟩) xs.length cap ∧ xs.length ≤ cap ∧ cap ≤ 9223372036854775807 := by
    obtain ⟨_, ⟨e, h0⟩ | ⟨g, cap, cur, e, _, _, h5, h6, _⟩⟩ := hown
    · exact Or.inl ⟨e, h0⟩
    · exact Or.inr ⟨g, cap, e, h5, by unfold maxLen at h6; omega⟩
  clear r1 r2 hown hv hi0 hz0 hzs hzb
  generalize xs.length = n at *
  generalize (xs ++ [p]).flatMap ptE = Y at *
  generalize v.ownBlock.toList = F at *
  rcases hform with ⟨rfl, rfl⟩ | ⟨g0, c0, rfl, h5, h6⟩
  · go_enter Tryz.func240, Tryz.ntmps240
    go_wp2_with (at_builtin; refine Lib.wpList_append_run _ rfl _ _ _ _ rfl _ _ rfl rfl _ _ hr ?_)
    go_ret
    exact ⟨_, rfl, unhide HE⟩
  · go_enter Tryz.func240, Tryz.ntmps240
    go_wp2_with (at_builtin; refine Lib.wpList_append_run _ rfl _ _ _ _ rfl _ _ rfl rfl _ _ hr ?_)
    all_goals (go_ret; exact ⟨_, rfl, unhide HE⟩)
/-- A part put into a row of the call's own. -/
theorem insert_any (B : Nat) (v : Value) (xs : List Pt) (i : Nat) (p : Pt) (vb vc : Nat) (w : World) (hown : w.ownsRow B 89 5 v xs.length (xs.flatMap ptE)) (hi : i ≤ xs.length) (hbig : xs.length ≤ 100000000) (hv : CBox vb (ptE p).toArray 89 w) (hne : v.ownBlock ≠ some vb) (hB : B ≤ w.heap.size) :
    Calls Tryz.prog 240 #[v, .int .i64 (i : Int), .slice (some ⟨vb, 0, none⟩) 1 vc] w fun e w' => ∃ v', e = .returned v' ∧ w'.ownsRow B 89 5 v' (xs.length + 1) ((xs.take i ++ p :: xs.drop i).flatMap ptE) ∧ Kp v.ownBlock.toList w w' := by
  rcases Nat.lt_or_ge i xs.length with h | h
  · have hl : ((xs.take i ++ p :: xs.drop i).flatMap ptE).length = (xs.length + 1) * 5 := by
      rw [flat_len ptE 5 ptE_len]
      simp
      omega
    obtain ⟨_, ⟨_, h0⟩ | ⟨g, cap, cur, rfl, h3, h4, h5, h6, h7, h8⟩⟩ := hown
    · omega
    · rcases Nat.lt_or_ge xs.length cap with hr | hr
      · refine (insert_shift g xs.length cap i vb vc cur xs p w rfl h hr h6 h4 h7 h8 hv (fun e => hne (by rw [e]; rfl))).mono ?_
        rintro e w' ⟨rfl, cur', rfl, q1, q2⟩
        exact ⟨_, rfl, ⟨hl, Or.inr ⟨g, cap, cur', rfl, h3, setRow_heap _ _ cur _ _ _ h4, hr, h6, q1, q2⟩⟩, ((Kp.drew w).mono (by simp)).trans (Kp.setRow _ _ _) (by simp [Value.ownBlock])⟩
      · refine (insert_grow g xs.length cap i vb vc cur xs p w rfl h h5 (by omega) hbig h4 h8 hv).mono ?_
        rintro e w' ⟨G, cur', rfl, q0, q1, q2, q3, q4, q5⟩
        exact ⟨_, rfl, ⟨hl, Or.inr ⟨w.heap.size, G, cur', rfl, hB, q0, q1, q2, q3, q4⟩⟩, q5.mono (by simp)⟩
  · obtain rfl : i = xs.length := by omega
    rw [List.take_of_length_le (Nat.le_refl _), List.drop_eq_nil_of_le (Nat.le_refl _)]
    exact insert_end B v xs p vb vc w hown hbig hv hB
end Go.Proofs.YtogklmljllocbabGreatDoor
