/-
  The document's disk: files, with one, in its place by names.
  The document's disk: files, with a change made upon them (a removal, a rename).
-/
import Derived.Test.YtboffmbaaokbnaaGreatDoorG13
import Derived.ArgAppend
import Derived.Laws.AppendOwnNone
namespace Go.Proofs.YtboffmbaaokbnaaGreatDoor
open Go.RowKit

theorem split_while {α : Type} {p : α → Bool} {L : List α} {k : Nat} (hk : k ≤ L.length) (h1 : ∀ x ∈ L.take k, p x = true) (h2 : ∀ h : k < L.length, p L[k] = false) : L.takeWhile p = L.take k ∧ L.dropWhile p = L.drop k := by
  have hd : (L.drop k).takeWhile p = [] ∧ (L.drop k).dropWhile p = L.drop k := by
    by_cases h : k < L.length
    · rw [List.drop_eq_getElem_cons h]
      exact ⟨List.takeWhile_cons_of_neg (by simp [h2 h]), List.dropWhile_cons_of_neg (by simp [h2 h])⟩
    · rw [List.drop_of_length_le (by omega)]; exact ⟨rfl, rfl⟩
  have e : L = L.take k ++ L.drop k := (List.take_append_drop k L).symm
  refine ⟨?_, ?_⟩
  · conv => lhs; rw [e]
    rw [List.takeWhile_append_of_pos h1, hd.1, List.append_nil]
  · conv => lhs; rw [e]
    rw [List.dropWhile_append_of_pos h1, hd.2]
theorem fcells_drop : ∀ (fs : Fs) (k : Nat), (fs.flatMap fcell).drop (k * 2) = (fs.drop k).flatMap fcell
  | fs, 0 => by simp
  | [], k + 1 => by simp
  | p :: fs, k + 1 => by
    rw [List.flatMap_cons, List.drop_succ_cons, show (k + 1) * 2 = (fcell p).length + k * 2 by simp [fcell]; omega, List.drop_append, Nat.add_sub_cancel_left, fcells_drop fs k]
    simp
theorem fcells_len (fs : Fs) : (fs.flatMap fcell).length = fs.length * 2 := by
  induction fs with
  | nil => rfl
  | cons p fs ih => rw [List.flatMap_cons, List.length_append, ih]; simp [fcell]; omega
theorem fcells_one (fs : Fs) : ∀ u ∈ fs.flatMap fcell, u.oneCell' = true := fun u hu => by
  obtain ⟨p, _, h⟩ := List.mem_flatMap.1 hu
  simp [fcell] at h
  rcases h with rfl | rfl <;> rfl
/-- The files from a place on. -/
def fromF : Value → Nat → Value
  | .slice ad n cap, k => .slice (if cap = k then ad else ad.map (·.add (k * 2))) (n - k) (cap - k)
  | v, _ => v
theorem runFromF {w : World} {v : Value} {fs : Fs} (h : FlRow w v fs) (k : Nat) (hk : k ≤ fs.length) (W : World) :
    (Instr.slice 47 v (some (.int .i64 (k : Int))) none none).run Tryz.prog W = .ok (fromF v k) W := by
  obtain ⟨i0, hi, hz0, hz1, hz2⟩ := info_parts info_file
  obtain ⟨rfl, rfl⟩ | ⟨g, cap, rfl, hc, hm⟩ := h.shape
  · obtain rfl : k = 0 := by simpa using hk
    simp [Instr.slice, run_underlying Tryz.underlying47, Instr.sliceBounds, Instr.sliceBound, asIntOf, sizeOf, typeInfo, hi, fromF, Result.andThen]
  · simp [Instr.slice, run_underlying Tryz.underlying47, Instr.sliceBounds, Instr.sliceBound, asIntOf, sizeOf, typeInfo, hi, hz1, fromF, Result.andThen, hk]
/-- The rest of a row put at the end of another one that is the call's own. -/
theorem appRest {w : World} {v ov : Value} {L A : Fs} (h : FlRow w v L) (ho : FlRow w ov A) (hA : A ≠ []) (k : Nat) (hk : k ≤ L.length) (hl : A.length + L.length ≤ 3000000) (ty : TypeId) :
    ∃ v' w', (Builtin.append_ #[47, 47] ty #[ov, fromF v k]).run Tryz.prog w = .ok v' w' ∧ FlRow w' v' (A ++ L.drop k) ∧ w.grownBy w' ov.ownBlock ∧ (v'.ownBlock = ov.ownBlock ∨ v'.ownBlock = some w.heap.size) := by
  obtain ⟨i0, hi, hz0, hz1, hz2⟩ := info_parts info_file
  obtain ⟨rfl, rfl⟩ | ⟨g2, cap2, rfl, hc2, hm2⟩ := ho.shape
  · exact absurd rfl hA
  obtain ⟨rfl, rfl⟩ | ⟨g, cap, rfl, hc, hm⟩ := h.shape
  · obtain rfl : k = 0 := by simpa using hk
    refine ⟨_, w, run_append_owned_none (P := Tryz.prog) (w := w) 0 _ ty 68 i0 2 Tryz.underlying47 hi _ _ _ ho, by simpa using ho, World.grownBy.refl _ _, Or.inl rfl⟩
  · by_cases hkl : k = L.length
    · subst hkl
      refine ⟨.slice (some ⟨g2, 0, none⟩) A.length cap2, w, ?_, by simpa using ho, World.grownBy.refl _ _, Or.inl rfl⟩
      have he : ∃ a c, fromF (.slice (some ⟨g, 0, none⟩) L.length cap) L.length = .slice (some a) 0 c := by
        show ∃ a c, Value.slice (if cap = L.length then some ⟨g, 0, none⟩ else (some ⟨g, 0, none⟩ : Option Addr).map (·.add (L.length * 2))) (L.length - L.length) (cap - L.length) = .slice (some a) 0 c
        rw [Nat.sub_self]
        split
        · exact ⟨_, _, rfl⟩
        · exact ⟨_, _, rfl⟩
      obtain ⟨a, c, he⟩ := he
      rw [he]
      have := run_append_room_cells (P := Tryz.prog) (w := w) 47 ty 68 i0 Tryz.underlying47 hi g2 0 A.length cap2 a 0 c [] (by simp) (fun j u hj => by simp at hj) (fun u hu => by cases hu) (by omega) (fun j hj => absurd hj (by simp)) (fun j hj => absurd hj (by simp))
      simpa [World.setCells] using this
    · have hlt : k < L.length := by omega
      have he : fromF (.slice (some ⟨g, 0, none⟩) L.length cap) k = .slice (some ⟨g, k * 2, none⟩) (L.length - k) (cap - k) := by
        show Value.slice (if cap = k then some ⟨g, 0, none⟩ else (some ⟨g, 0, none⟩ : Option Addr).map (·.add (k * 2))) (L.length - k) (cap - k) = _
        rw [if_neg (by omega)]
        simp [Addr.add]
        exact fun h => h.symm
      rw [he]
      obtain ⟨g3, cap3, w', hr, h1, h2, h3, _⟩ := run_append_lies (P := Tryz.prog) (w := w) 47 ty 0 68 i0 (.agg #[.string ⟨#[]⟩, .string ⟨#[]⟩]) 2 32 Tryz.underlying47 hi hz0 hz1 hz2 rfl (by decide) _ _ _ ho ⟨g, k * 2, none⟩ (L.length - k) (cap - k) ((L.drop k).flatMap fcell) (by rw [fcells_len, List.length_drop]) (fun j u hj => by
        rw [Go.WideShapes.add_plain]
        have hj2 : (L.flatMap fcell)[k * 2 + j]? = some u := by
          rw [← List.getElem?_drop, fcells_drop]; exact hj
        have := World.ownsRow.cells h (g := g) rfl (k * 2 + j) u hj2
        rw [Go.WideShapes.add_plain, Nat.zero_add] at this
        exact this) (fcells_one _) (by omega) (by unfold maxLen; omega) (by omega) (Nat.zero_le _) _ rfl
      refine ⟨_, w', hr, ?_, h2, ?_⟩
      · unfold FlRow
        rw [List.length_append, List.flatMap_append, List.length_drop]
        exact h1
      · rcases h3 with h3 | h3
        · exact Or.inl h3.symm
        · exact Or.inr (by rw [h3]; rfl)
theorem wpList_restF {ops : Array Oper} {rest : List Oper} {o : Oper} {a : Act} {Q : Exit → Act → World → Prop} {w : World} (hg : o.guard = none) (s x : Operand) (hop : o.op = Op.call { callee := Callee.builtin Builtin.append, args := #[s, x], argTypes := #[47, 47] })
    {v ov : Value} {L A : Fs} {k : Nat} (hs : a.eval s = ov) (hx : a.eval x = fromF v k) (h : FlRow w v L) (ho : FlRow w ov A) (hA : A ≠ []) (hk : k ≤ L.length) (hl : A.length + L.length ≤ 3000000)
    (hK : ∀ v' w', FlRow w' v' (A ++ L.drop k) → w.grownBy w' ov.ownBlock → (v'.ownBlock = ov.ownBlock ∨ v'.ownBlock = some w.heap.size) → wpList Tryz.prog ops Q rest (a.put o.dst v') w') : wpList Tryz.prog ops Q (o :: rest) a w := by
  refine wpList_plain hg fun K hKK => ?_
  obtain ⟨v', w', hrun, h1, h2, h3⟩ := appRest h ho hA k hk hl o.type
  unfold Oper.wp
  simp [execOp, hop, resolve, invoke, builtin, hs, hx, hrun, Result.andThen]
  exact hKK _ _ (hK v' w' h1 h2 h3)
theorem less_eq : ∀ (x y : List UInt8), Op.bytesLess x y = decide (Lib.compareBytes x y < 0)
  | [], [] => rfl
  | [], _ :: _ => rfl
  | _ :: _, [] => rfl
  | a :: x, b :: y => by
    unfold Op.bytesLess Lib.compareBytes
    by_cases h : a < b
    · simp [h]
    · by_cases h' : b < a
      · have h2 : a ≠ b := fun e => h (by rw [e] at h' ⊢; exact h')
        simp [h, h', h2]
      · obtain rfl : a = b := UInt8.le_antisymm (UInt8.not_lt.1 h') (UInt8.not_lt.1 h)
        rw [less_eq x y]; simp
theorem less_nlt (a b : ByteArray) : Op.bytesLess a.toList b.toList = nlt a b := by
  unfold nlt
  rw [ByteArray.toList_eq, ByteArray.toList_eq, less_eq]
theorem FlRow.snoc0 {w : World} {v : Value} {A : Fs} {n : ByteArray} {b : List UInt8} {d : ByteArray} (hd : (⟨b.toArray⟩ : ByteArray) = d) (h : w.ownsRow 0 68 2 v (A.length + 1) (A.flatMap fcell ++ [.string n, .string d])) : FlRow w v (A ++ [(n, b)]) := by
  unfold FlRow
  rw [List.length_append, flatMap_snoc, hd]
  exact h
theorem fresh3 {ov v1 : Value} {w W0 wq wq1 : World} {g3 : Nat} (HB : ∀ j, ov.ownBlock = some j → w.heap.size + 1 ≤ j ∧ v1.ownBlock ≠ some j) (HAT : ov.ownBlock = some g3 ∨ g3 = wq1.heap.size) (hsw : W0.heap.size ≤ wq.heap.size) (hsz0 : W0.heap.size = w.heap.size + 1) (hz : wq1.heap.size = wq.heap.size + 1) (m cap3 : Nat) : ∀ j, (Value.slice (some ⟨g3, 0, none⟩) m cap3).ownBlock = some j → w.heap.size + 1 ≤ j := fun j hj => by
  have e1 : g3 = j := by simpa [Value.ownBlock] using hj
  subst e1
  rcases HAT with h1 | h1
  · exact (HB g3 h1).1
  · rw [hz] at h1; omega
theorem data_arr (d : ByteArray) : (⟨d.data.toList.toArray⟩ : ByteArray) = d := by
  apply ByteArray.ext
  simp
theorem FlRow.snoc {w : World} {v : Value} {A : Fs} {n d : ByteArray} (h : w.ownsRow 0 68 2 v (A.length + 1) (A.flatMap fcell ++ [.string n, .string d])) : FlRow w v (A ++ [(n, d.data.toList)]) := FlRow.snoc0 (data_arr d) h
set_option maxHeartbeats 1000000 in
set_option maxRecDepth 100000 in
theorem with_any (v : Value) (fs : Fs) (n d : ByteArray) (w : World) (h : FlRow w v fs) (hl : fs.length ≤ 1000000) :
    Calls Tryz.prog 79 #[v, .agg #[.string n, .string d]] w fun e w' => ∃ v', e = .returned v' ∧ FlRow w' v' (withF fs n d.data.toList) ∧ Kp [] w w' ∧ ∀ k, v'.ownBlock = some k → w.heap.size ≤ k := by
  obtain ⟨i0, hi, hz0, hz1, hz2⟩ := info_parts info_file
  have hk0 := Kp.alloc w (.cells #[.string n, .string d] 68)
  have bx0 := CBox.new w #[.string n, .string d] 68
  have hbx : ∀ W, Kp [] (w.alloc (.cells #[.string n, .string d] 68)) W → W.cell? ⟨w.heap.size, 0, none⟩ = some (.string n) ∧ W.cell? ⟨w.heap.size, 1, none⟩ = some (.string d) := fun W hk => by
    have b := bx0.kp hk (by simp)
    exact ⟨b.cell rfl, b.cell rfl⟩
  have hwo := fun W (hk : Kp [] w W) => without_any v fs n W (h.kp hk (by simp)) hl
  have hwl := without_le fs n
  have hwf : withF fs n d.data.toList = (without fs n).takeWhile (fun p => nlt p.1 n) ++ (n, d.data.toList) :: (without fs n).dropWhile (fun p => nlt p.1 n) := rfl
  rw [hwf]
  generalize without fs n = L at *
  have HWO := hide hwo
  have HBX := hide hbx
  have HK0 := hide hk0
  have hLl : L.length ≤ 1000000 := by omega
  have hsz0 : (w.alloc (.cells #[.string n, .string d] 68)).heap.size = w.heap.size + 1 := by simp
  have hcb := unhide HBX _ (Kp.refl _ _)
  clear hwo hbx hk0 bx0 h hwl hwf
  go_enter Tryz.func79, Tryz.ntmps79
  go_wp2_with fail
  refine (unhide HWO _ (unhide HK0)).mono ?_
  rintro e w1 ⟨v1, rfl, hL, hk1, hf1⟩
  have HF1 : Hid (∀ k, v1.ownBlock = some k → w.heap.size + 1 ≤ k) := hide (by rw [← hsz0]; exact hf1)
  generalize w.alloc (.cells #[.string n, .string d] 68) = W0 at *
  obtain ⟨hv1, hLn⟩ | ⟨g0, cap0, hv1, _, _⟩ := hL.shape
  · subst hv1 hLn
    clear hcb hf1 hL HF1
    go_wp2
    go_loopw [5, 6] (fun o i wr => o = .slice none 0 0 ∧ i = .int .i64 0 ∧ Kp [] W0 wr) (fun _ _ _ => 0)
    case atStart => exact ⟨rfl, rfl, hk1⟩
    case round =>
      clear hk1
      obtain ⟨rfl, rfl, hk1⟩ := hrel
      go_wp2
      go_quiet (fail)
      have hkq := hk1.trans (Kp.drewQ wr nq) (by simp)
      have hcbq := unhide HBX _ hkq
      have HSW := hide hkq.size
      clear hk1
      generalize wr.drewN nq = wq at *
      have hnil : wq.ownsRow 0 68 2 (.slice none 0 0) 0 [] := World.ownsRow_nil _ _ _ _
      go_wp2_with (at_builtin; first | (refine wpList_append_own_none rfl _ _ 47 rfl 0 68 i0 2 Tryz.underlying47 hi (.slice (some ⟨g3, 0, none⟩) (0 + 1) cap3) (0 + 1) ([] ++ [.string n, .string d]) rfl hown' rfl ?_; have HDONE := hide hown') | (refine wpList_append_lies _ rfl _ _ 47 rfl 0 68 i0 (.agg #[.string ⟨#[]⟩, .string ⟨#[]⟩]) 2 32 Tryz.underlying47 hi hz0 hz1 hz2 rfl (by decide) (.slice none 0 0) 0 [] rfl (hnil.alloc _) ⟨wq.heap.size, 0, none⟩ 1 1 [.string n, .string d] rfl rfl (two_cellF _ _ _ _) (by intro u hu; simp at hu; rcases hu with rfl | rfl <;> rfl) (by omega) (by unfold maxLen; omega) (by omega) (by simp) _ rfl ?_; intro g3 cap3 w3 hown' hgrow hat3 hlt3; have HAT := hide hat3; clear hat3))
      have hal := Kp.alloc wq (.cells #[.string n, .string d] 68)
      have hz : (wq.alloc (.cells #[.string n, .string d] 68)).heap.size = wq.heap.size + 1 := by simp
      have hk3 : Kp [] W0 w3 := (hkq.trans hal (by simp)).trans (Kp.of hgrow) (fun x hx => by simp [Value.ownBlock] at hx)
      have HF4 : Hid (∀ k, (Value.slice (some ⟨g3, 0, none⟩) (0 + 1) cap3).ownBlock = some k → w.heap.size ≤ k) := hide (fun k hk => by
        have e1 : g3 = k := by simpa [Value.ownBlock] using hk
        subst e1
        have := unhide HSW
        rcases unhide HAT with h1 | h1
        · simp [Value.ownBlock] at h1
        · rw [hz] at h1; omega)
      have H4 : Hid (FlRow w3 (.slice (some ⟨g3, 0, none⟩) (0 + 1) cap3) [(n, d.data.toList)]) := hide (FlRow.snoc (A := []) hown')
      clear hown' hgrow HAT hal hz
      go_wp2
      go_ret
      exact ⟨_, rfl, unhide H4, (unhide HK0).trans hk3 (by simp), unhide HF4⟩
  have HV1 := hide hv1
  clear hv1
  have HL := hide hL
  clear hcb hf1 hL
  go_wp2
  go_loopw [5, 6] (fun o i wr => ∃ (k : Nat) (ov : Value), k ≤ L.length ∧ i = .int .i64 (k : Int) ∧ ov = o ∧ Hid (FlRow wr v1 L) ∧ Kp [] W0 wr ∧ Hid (FlRow wr ov (L.take k)) ∧ Hid (∀ j, ov.ownBlock = some j → w.heap.size + 1 ≤ j ∧ v1.ownBlock ≠ some j) ∧ Hid (∀ x ∈ L.take k, nlt x.1 n = true)) (fun _ i _ => L.length - (intOf i).toNat)
  case atStart => exact ⟨0, _, Nat.zero_le _, rfl, rfl, HL, hk1, hide (FlRow.nil _), hide (fun k hk => by simp [Value.ownBlock] at hk), hide (by simp)⟩
  case round =>
    clear hk1 HL
    obtain ⟨k, ov, hk, rfl, rfl, HL, hk1, HO, HB, HN⟩ := hrel
    have hcb := unhide HBX wr hk1
    by_cases hlt : k < L.length
    · have hli : (k : Int) < (L.length : Int) := by omega
      obtain ⟨hv1, _⟩ | ⟨g, cap, rfl, hc, hm⟩ := (unhide HL).shape
      · exact absurd (hv1.symm.trans (unhide HV1)) (by simp)
      obtain ⟨c1, c2⟩ := (unhide HL).cell k hlt
      generalize hfk : L[k] = q at *
      obtain ⟨qn, qb⟩ := q
      dsimp only at c1 c2
      have HFK := hide hfk
      clear hfk
      generalize hqs : (⟨qb.toArray⟩ : ByteArray) = qs at *
      have HQ := hide hqs
      clear hqs
      by_cases hnl : nlt qn n = true
      · have hless : Op.bytesLess qn.toList n.toList = true := (less_nlt qn n).trans hnl
        go_wp2
        go_quiet (fail)
        have hdq := Kp.drewQ wr nq
        have hkq := hk1.trans hdq (by simp)
        have HLq := hide ((unhide HL).kp hdq (by simp))
        have HOq := hide ((unhide HO).kp hdq (by simp))
        have hszq := hkq.size
        obtain ⟨c1, c2⟩ := (unhide HLq).cell k hlt
        rw [unhide HFK] at c1 c2
        dsimp only at c1 c2
        rw [unhide HQ] at c2
        have hown : (wr.drewN nq).ownsRow 0 68 2 ov (L.take k).length ((L.take k).flatMap fcell) := unhide HOq
        have htk : (L.take k).length ≤ 1000000 := by rw [List.length_take]; omega
        have HTS : Hid (L.take (k + 1) = L.take k ++ [(qn, qb)]) := hide (by rw [List.take_succ_eq_append_getElem hlt, unhide HFK])
        clear hdq hcb HL HO hk1
        generalize wr.drewN nq = wq at *
        generalize htkk : L.take k = TK at *
        have HTK := hide htkk
        clear htkk
        go_wp2_with (at_builtin; refine wpList_append_lies _ rfl _ _ 47 rfl 0 68 i0 (.agg #[.string ⟨#[]⟩, .string ⟨#[]⟩]) 2 32 Tryz.underlying47 hi hz0 hz1 hz2 rfl (by decide) ov TK.length (TK.flatMap fcell) rfl (hown.alloc _) ⟨wq.heap.size, 0, none⟩ 1 1 [.string qn, .string qs] rfl rfl (two_cellF _ _ _ _) (by intro u hu; simp at hu; rcases hu with rfl | rfl <;> rfl) (by omega) (by unfold maxLen; omega) (by omega) (by simp) _ rfl ?_; intro g3 cap3 w3 hown' hgrow hat3 hlt3; have HAT := hide hat3; clear hat3)
        have hal := Kp.alloc wq (.cells #[.string qn, .string qs] 68)
        have hz : (wq.alloc (.cells #[.string qn, .string qs] 68)).heap.size = wq.heap.size + 1 := by simp
        have hk3 : Kp [] W0 w3 := (hkq.trans hal (by simp)).trans (Kp.of hgrow) (fun x hx => Or.inr (by have := (unhide HB x (by simpa using hx)).1; omega))
        have HL3 := hide (((unhide HLq).kp hal (by simp)).kp (Kp.of hgrow) (fun k hk hm => (unhide HB k (by simpa using hm)).2 hk))
        have HO3 : Hid (FlRow w3 (.slice (some ⟨g3, 0, none⟩) (TK.length + 1) cap3) (TK ++ [(qn, qb)])) := hide (by
          unfold FlRow
          rw [List.length_append, flatMap_snoc, unhide HQ]
          exact hown')
        have hgq : g < wq.heap.size := (unhide HLq).lt rfl
        have HB3 : Hid (∀ j, (Value.slice (some ⟨g3, 0, none⟩) (TK.length + 1) cap3).ownBlock = some j → w.heap.size + 1 ≤ j ∧ (Value.slice (some ⟨g, 0, none⟩) L.length cap).ownBlock ≠ some j) := hide (fun j hj => by
          have e1 : g3 = j := by simpa [Value.ownBlock] using hj
          subst e1
          rcases unhide HAT with h1 | h1
          · exact unhide HB g3 h1
          · rw [hz] at h1
            refine ⟨by omega, fun h2 => ?_⟩
            have : g = g3 := by simpa [Value.ownBlock] using h2
            omega)
        have HN3 : Hid (∀ x ∈ L.take (k + 1), nlt x.1 n = true) := hide (fun x hx => by
          rw [unhide HTS, List.mem_append, List.mem_singleton] at hx
          rcases hx with hx | rfl
          · exact unhide HN x hx
          · exact hnl)
        rw [← unhide HTS] at HO3
        clear hown hown' hgrow HAT hal hz HTS HTK
        go_wp2
        go_roundw
        case rel => exact ⟨k + 1, _, by omega, by go_num, rfl, HL3, hk3, HO3, HB3, HN3⟩
        case measure => simp [intOf]; omega
      · have hnf : nlt qn n = false := by simpa using hnl
        have hless : Op.bytesLess qn.toList n.toList = false := (less_nlt qn n).trans hnf
        have H2 : Hid (∀ h : k < L.length, nlt L[k].1 n = false) := hide (fun _ => by rw [unhide HFK]; exact hnf)
        go_wp2
        go_quiet (fail)
        have hdq := Kp.drewQ wr nq
        have hkq := hk1.trans hdq (by simp)
        have HLq := hide ((unhide HL).kp hdq (by simp))
        have HOq := hide ((unhide HO).kp hdq (by simp))
        have hcbq := unhide HBX _ hkq
        have hszq := hkq.size
        clear hdq HL HO hk1 c1 c2 HQ HFK hnf hnl
        generalize wr.drewN nq = wq at *
        have hown : wq.ownsRow 0 68 2 ov (L.take k).length ((L.take k).flatMap fcell) := unhide HOq
        have htk : (L.take k).length ≤ 1000000 := by rw [List.length_take]; omega
        have hne : L.take k ++ [(n, d.data.toList)] ≠ [] := by simp
        have HSP := hide (split_while hk (unhide HN) (unhide H2))
        have HSW := hide hszq
        have hll : (L.take k ++ [(n, d.data.toList)]).length + L.length ≤ 3000000 := by rw [List.length_append, List.length_singleton]; omega
        have hsl := runFromF (unhide HLq) k hk
        clear hcb hszq
        generalize htkk : L.take k = TK at *
        have HTK := hide htkk
        clear htkk
        go_wp2_with (at_builtin; first | (refine wpList_restF (ov := .slice (some ⟨g3, 0, none⟩) (TK.length + 1) cap3) rfl _ _ rfl rfl rfl hL3 hO3 hne hk hll ?_; intro v' w4 h4 hg4 hat4; have HAT := hide hat4; clear hat4) | (refine wpList_append_lies _ rfl _ _ 47 rfl 0 68 i0 (.agg #[.string ⟨#[]⟩, .string ⟨#[]⟩]) 2 32 Tryz.underlying47 hi hz0 hz1 hz2 rfl (by decide) ov TK.length (TK.flatMap fcell) rfl (hown.alloc _) ⟨wq.heap.size, 0, none⟩ 1 1 [.string n, .string d] rfl rfl (two_cellF _ _ _ _) (by intro u hu; simp at hu; rcases hu with rfl | rfl <;> rfl) (by omega) (by unfold maxLen; omega) (by omega) (by simp) _ rfl ?_; intro g3 cap3 w3 hown' hgrow hat3 hlt3; have HAT := hide hat3; clear hat3; have hal := Kp.alloc wq (.cells #[.string n, .string d] 68); have hz : (wq.alloc (.cells #[.string n, .string d] 68)).heap.size = wq.heap.size + 1 := (by simp); have hk3 : Kp [] W0 w3 := (hkq.trans hal (by simp)).trans (Kp.of hgrow) (fun x hx => Or.inr (by have := (unhide HB x (by simpa using hx)).1; omega)); have hL3 : FlRow w3 (.slice (some ⟨g, 0, none⟩) L.length cap) L := ((unhide HLq).kp hal (by simp)).kp (Kp.of hgrow) (fun k hk hm => (unhide HB k (by simpa using hm)).2 hk); have hO3 : FlRow w3 (.slice (some ⟨g3, 0, none⟩) (TK.length + 1) cap3) (TK ++ [(n, d.data.toList)]) := FlRow.snoc hown'; have HB3 := hide (fresh3 (unhide HB) (unhide HAT) (unhide HSW) hsz0 hz (TK.length + 1) cap3); have hs3 : W0.heap.size ≤ w3.heap.size := hk3.size; clear hown hown' hgrow HAT hal hz))
        have hk4 : Kp [] W0 w4 := hk3.trans (Kp.of hg4) (fun x hx => Or.inr (by have := unhide HB3 x (by simpa using hx); omega))
        have HF4 : Hid (∀ k, v'.ownBlock = some k → w.heap.size ≤ k) := hide (fun k hk => by
          rcases unhide HAT with h1 | h1
          · have := unhide HB3 k (by rw [← h1]; exact hk); omega
          · rw [h1] at hk
            have : w3.heap.size = k := by simpa using hk
            omega)
        have H4 := hide h4
        clear h4 hg4 hL3 hO3 hsl hll HAT
        go_wp2
        go_ret
        refine ⟨_, rfl, ?_, (unhide HK0).trans hk4 (by simp), unhide HF4⟩
        obtain ⟨e1, e2⟩ := unhide HSP
        rw [e1, e2]
        simpa using unhide H4
    · have hli : ¬ ((k : Int) < (L.length : Int)) := by omega
      have H2 : Hid (∀ h : k < L.length, nlt L[k].1 n = false) := hide (fun h => absurd h hlt)
      obtain ⟨hv1, hLn⟩ | ⟨g, cap, rfl, hc, hm⟩ := (unhide HL).shape
      · exact absurd (hv1.symm.trans (unhide HV1)) (by simp)
      · go_wp2
        go_quiet (fail)
        have hdq := Kp.drewQ wr nq
        have hkq := hk1.trans hdq (by simp)
        have HLq := hide ((unhide HL).kp hdq (by simp))
        have HOq := hide ((unhide HO).kp hdq (by simp))
        have hcbq := unhide HBX _ hkq
        have hszq := hkq.size
        clear hdq HL HO hk1
        generalize wr.drewN nq = wq at *
        have hown : wq.ownsRow 0 68 2 ov (L.take k).length ((L.take k).flatMap fcell) := unhide HOq
        have htk : (L.take k).length ≤ 1000000 := by rw [List.length_take]; omega
        have hne : L.take k ++ [(n, d.data.toList)] ≠ [] := by simp
        have HSP := hide (split_while hk (unhide HN) (unhide H2))
        have HSW := hide hszq
        have hll : (L.take k ++ [(n, d.data.toList)]).length + L.length ≤ 3000000 := by rw [List.length_append, List.length_singleton]; omega
        have hsl := runFromF (unhide HLq) k hk
        clear hcb hszq
        generalize htkk : L.take k = TK at *
        have HTK := hide htkk
        clear htkk
        go_wp2_with (at_builtin; first | (refine wpList_restF (ov := .slice (some ⟨g3, 0, none⟩) (TK.length + 1) cap3) rfl _ _ rfl rfl rfl hL3 hO3 hne hk hll ?_; intro v' w4 h4 hg4 hat4; have HAT := hide hat4; clear hat4) | (refine wpList_append_lies _ rfl _ _ 47 rfl 0 68 i0 (.agg #[.string ⟨#[]⟩, .string ⟨#[]⟩]) 2 32 Tryz.underlying47 hi hz0 hz1 hz2 rfl (by decide) ov TK.length (TK.flatMap fcell) rfl (hown.alloc _) ⟨wq.heap.size, 0, none⟩ 1 1 [.string n, .string d] rfl rfl (two_cellF _ _ _ _) (by intro u hu; simp at hu; rcases hu with rfl | rfl <;> rfl) (by omega) (by unfold maxLen; omega) (by omega) (by simp) _ rfl ?_; intro g3 cap3 w3 hown' hgrow hat3 hlt3; have HAT := hide hat3; clear hat3; have hal := Kp.alloc wq (.cells #[.string n, .string d] 68); have hz : (wq.alloc (.cells #[.string n, .string d] 68)).heap.size = wq.heap.size + 1 := (by simp); have hk3 : Kp [] W0 w3 := (hkq.trans hal (by simp)).trans (Kp.of hgrow) (fun x hx => Or.inr (by have := (unhide HB x (by simpa using hx)).1; omega)); have hL3 : FlRow w3 (.slice (some ⟨g, 0, none⟩) L.length cap) L := ((unhide HLq).kp hal (by simp)).kp (Kp.of hgrow) (fun k hk hm => (unhide HB k (by simpa using hm)).2 hk); have hO3 : FlRow w3 (.slice (some ⟨g3, 0, none⟩) (TK.length + 1) cap3) (TK ++ [(n, d.data.toList)]) := FlRow.snoc hown'; have HB3 := hide (fresh3 (unhide HB) (unhide HAT) (unhide HSW) hsz0 hz (TK.length + 1) cap3); have hs3 : W0.heap.size ≤ w3.heap.size := hk3.size; clear hown hown' hgrow HAT hal hz))
        have hk4 : Kp [] W0 w4 := hk3.trans (Kp.of hg4) (fun x hx => Or.inr (by have := unhide HB3 x (by simpa using hx); omega))
        have HF4 : Hid (∀ k, v'.ownBlock = some k → w.heap.size ≤ k) := hide (fun k hk => by
          rcases unhide HAT with h1 | h1
          · have := unhide HB3 k (by rw [← h1]; exact hk); omega
          · rw [h1] at hk
            have : w3.heap.size = k := by simpa using hk
            omega)
        have H4 := hide h4
        clear h4 hg4 hL3 hO3 hsl hll HAT
        go_wp2
        go_ret
        refine ⟨_, rfl, ?_, (unhide HK0).trans hk4 (by simp), unhide HF4⟩
        obtain ⟨e1, e2⟩ := unhide HSP
        rw [e1, e2]
        simpa using unhide H4
end Go.Proofs.YtboffmbaaokbnaaGreatDoor
namespace Go.Proofs.YtboffmbaaokbnaaGreatDoor
open Go.RowKit

/-- What a change is there. -/
def chA : Chg → Array Value
  | .wr n pos d => #[.int .i64 0, .string n, .string ⟨#[]⟩, .int .i64 (pos : Int), .string d]
  | .ct n len => #[.int .i64 1, .string n, .string ⟨#[]⟩, .int .i64 (len : Int), .string ⟨#[]⟩]
  | .rn a b => #[.int .i64 2, .string a, .string b, .int .i64 0, .string ⟨#[]⟩]
  | .rm n => #[.int .i64 3, .string n, .string ⟨#[]⟩, .int .i64 0, .string ⟨#[]⟩]
/-- What a file has, as a string. -/
def hasS (fs : Fs) (n : ByteArray) : ByteArray := ⟨(hasF fs n).toArray⟩
theorem hasS_data (fs : Fs) (n : ByteArray) : (hasS fs n).data.toList = hasF fs n := by simp [hasS]
set_option maxHeartbeats 1000000 in
set_option maxRecDepth 100000 in
theorem made_rm (v : Value) (fs : Fs) (n : ByteArray) (w : World) (h : FlRow w v fs) (hl : fs.length ≤ 1000000) :
    Calls Tryz.prog 59 #[v, .agg (chA (.rm n))] w fun e w' => ∃ v', e = .returned v' ∧ FlRow w' v' (made fs (.rm n)) ∧ Kp [] w w' ∧ ∀ k, v'.ownBlock = some k → w.heap.size ≤ k := by
  show Calls Tryz.prog 59 #[v, .agg #[.int .i64 3, .string n, .string ⟨#[]⟩, .int .i64 0, .string ⟨#[]⟩]] w _
  have hk0 := Kp.alloc w (.cells #[.int .i64 3, .string n, .string ⟨#[]⟩, .int .i64 0, .string ⟨#[]⟩] 96)
  have bx0 := CBox.new w #[.int .i64 3, .string n, .string ⟨#[]⟩, .int .i64 0, .string ⟨#[]⟩] 96
  have hbx : ∀ W, Kp [] (w.alloc (.cells #[.int .i64 3, .string n, .string ⟨#[]⟩, .int .i64 0, .string ⟨#[]⟩] 96)) W → CBox w.heap.size #[.int .i64 3, .string n, .string ⟨#[]⟩, .int .i64 0, .string ⟨#[]⟩] 96 W := fun W hk => bx0.kp hk (by simp)
  have h0 := h.kp hk0 (by simp)
  have hfi := find_any v fs n (w.alloc (.cells #[.int .i64 3, .string n, .string ⟨#[]⟩, .int .i64 0, .string ⟨#[]⟩] 96)) h0
  have hsz0 : (w.alloc (.cells #[.int .i64 3, .string n, .string ⟨#[]⟩, .int .i64 0, .string ⟨#[]⟩] 96)).heap.size = w.heap.size + 1 := by simp
  have HFI := hide hfi
  have HBX := hide hbx
  have H0 := hide h0
  have HK0 := hide hk0
  have HSZ := hide hsz0
  have b1 : (w.alloc (.cells #[.int .i64 3, .string n, .string ⟨#[]⟩, .int .i64 0, .string ⟨#[]⟩] 96)).cell? ⟨w.heap.size, 0, none⟩ = some #[.int .i64 3, .string n, .string ⟨#[]⟩, .int .i64 0, .string ⟨#[]⟩][0] := bx0.cell rfl
  have b2 : (w.alloc (.cells #[.int .i64 3, .string n, .string ⟨#[]⟩, .int .i64 0, .string ⟨#[]⟩] 96)).cell? ⟨w.heap.size, 1, none⟩ = some #[.int .i64 3, .string n, .string ⟨#[]⟩, .int .i64 0, .string ⟨#[]⟩][1] := bx0.cell rfl
  clear hfi hbx h0 hk0 hsz0 h bx0
  go_enter Tryz.func59, Tryz.ntmps59
  go_wp2_with fail
  refine (unhide HFI).mono ?_
  rintro e w1 ⟨r, rfl, rfl, hr⟩
  clear HFI b1 b2
  generalize w.alloc (.cells #[.int .i64 3, .string n, .string ⟨#[]⟩, .int .i64 0, .string ⟨#[]⟩] 96) = W0 at *
  have b1 : W0.cell? ⟨w.heap.size, 0, none⟩ = some #[.int .i64 3, .string n, .string ⟨#[]⟩, .int .i64 0, .string ⟨#[]⟩][0] := (unhide HBX _ (Kp.refl _ _)).cell rfl
  have b2 : W0.cell? ⟨w.heap.size, 1, none⟩ = some #[.int .i64 3, .string n, .string ⟨#[]⟩, .int .i64 0, .string ⟨#[]⟩][1] := (unhide HBX _ (Kp.refl _ _)).cell rfl
  have b3 : W0.cell? ⟨w.heap.size, 2, none⟩ = some #[.int .i64 3, .string n, .string ⟨#[]⟩, .int .i64 0, .string ⟨#[]⟩][2] := (unhide HBX _ (Kp.refl _ _)).cell rfl
  have b4 : W0.cell? ⟨w.heap.size, 3, none⟩ = some #[.int .i64 3, .string n, .string ⟨#[]⟩, .int .i64 0, .string ⟨#[]⟩][3] := (unhide HBX _ (Kp.refl _ _)).cell rfl
  have b5 : W0.cell? ⟨w.heap.size, 4, none⟩ = some #[.int .i64 3, .string n, .string ⟨#[]⟩, .int .i64 0, .string ⟨#[]⟩][4] := (unhide HBX _ (Kp.refl _ _)).cell rfl
  dsimp at b1 b2 b3 b4 b5
  obtain ⟨k, hk, rfl, hn, hg⟩ | ⟨rfl, hg⟩ := hr
  · obtain ⟨_, hLn⟩ | ⟨g, cap, rfl, hc, hm⟩ := (unhide H0).shape
    · rw [hLn] at hk; exact absurd hk (by simp)
    have c2 := ((unhide H0).cell k hk).2
    have HHS : Hid (⟨fs[k].2.toArray⟩ = hasS fs n) := hide (by unfold hasS hasF; rw [hg]; rfl)
    rw [unhide HHS] at c2
    have hki : (k : Int) < (fs.length : Int) := by omega
    clear hn hg HHS
    have HWO := hide (without_any (.slice (some ⟨g, 0, none⟩) fs.length cap) fs n W0 (unhide H0) hl)
    go_wp2_with fail
    refine (unhide HWO).mono ?_
    rintro e w2 ⟨v', rfl, h2, hk2, hf2⟩
    have H2 := hide h2
    have HF2 : Hid (∀ k, v'.ownBlock = some k → w.heap.size ≤ k) := hide (fun k hk => by have := hf2 k hk; have := unhide HSZ; omega)
    clear h2 hf2
    go_wp2
    go_ret
    exact ⟨_, rfl, unhide H2, (unhide HK0).trans hk2 (by simp), unhide HF2⟩
  · have HHS : Hid ((⟨#[]⟩ : ByteArray) = hasS fs n) := hide (by unfold hasS hasF; rw [hg]; rfl)
    clear hg
    have HWO := hide (without_any v fs n W0 (unhide H0) hl)
    go_wp2_with fail
    refine (unhide HWO).mono ?_
    rintro e w2 ⟨v', rfl, h2, hk2, hf2⟩
    have H2 := hide h2
    have HF2 : Hid (∀ k, v'.ownBlock = some k → w.heap.size ≤ k) := hide (fun k hk => by have := hf2 k hk; have := unhide HSZ; omega)
    clear h2 hf2
    go_wp2
    go_ret
    exact ⟨_, rfl, unhide H2, (unhide HK0).trans hk2 (by simp), unhide HF2⟩
end Go.Proofs.YtboffmbaaokbnaaGreatDoor
