/-
  A buffer: the way of an entry.
-/
import Derived.Test.YthdfaidjdddagaaBuF
import Derived.Test.YthdfaidjdddagaaBuH
namespace Go.Proofs.Ythdfaidjdddagaa
open Go.RowKit

set_option maxHeartbeats 1000000 in
set_option maxRecDepth 100000 in
theorem buWay_not (b : Nat) (id : Int) (c : Nat → Ent) (m : Int) (w : World) (h : Bu b c m w) (hS : Sml c) (hn : hasE c id = false) : Calls Try.prog 16 #[.pointer (some ⟨b, 0, none⟩), .int .i64 id] w fun e w' => e = .returned (.tuple #[.slice none 0 0, .int .i64 160]) ∧ Kp [] w w' := by
  have HA := hide (has_any b id c m w h hS)
  rw [hn] at HA
  clear h hn
  go_enter Try.func16, Try.ntmps16
  go_wp2_with fail
  refine (unhide HA).mono ?_
  rintro r w1 ⟨rfl, HK1⟩
  have HK1 := hide HK1
  clear HA
  go_wp2_with fail
  go_ret2
  exact ⟨rfl, unhide HK1⟩
theorem own_kp {F : List Nat} {B : Nat} {w w' : World} {e : TypeId} {sz n : Nat} {v : Value} {xs : List Value} (h : w.ownsRow B e sz v n xs) (hk : Kp F w w') (hF : ∀ b, v.ownBlock = some b → b ∉ F) : w'.ownsRow B e sz v n xs := by
  obtain ⟨h0, ⟨rfl, h1⟩ | ⟨g, cap, cur, rfl, hg, hh, h2⟩⟩ := h
  · exact ⟨h0, Or.inl ⟨rfl, h1⟩⟩
  · exact ⟨h0, Or.inr ⟨g, cap, cur, rfl, hg, (hk.block g (Array.getElem?_eq_some_iff.1 hh).1 (hF g rfl)).trans hh, h2⟩⟩
theorem own_ge {B : Nat} {w : World} {e : TypeId} {sz n : Nat} {v : Value} {xs : List Value} (h : w.ownsRow B e sz v n xs) : ∀ b, v.ownBlock = some b → B ≤ b := by
  obtain ⟨h0, ⟨rfl, h1⟩ | ⟨g, cap, cur, rfl, hg, hh, h2⟩⟩ := h
  · intro b hb; cases hb
  · intro b hb; simp [Value.ownBlock] at hb; omega
set_option maxHeartbeats 1000000 in
set_option maxRecDepth 100000 in
theorem buWay_ok (b i : Nat) (hi : i < 4096) (c : Nat → Ent) (m : Nat) (B : Int) (w : World) (h : Bu b c (m : Int) w) (hI : BIv c (-1) m B) (hB : B ≤ 2305843009213693952) (hv : lvE (c i) = true) : Calls Try.prog 16 #[.pointer (some ⟨b, 0, none⟩), .int .i64 (i : Int)] w fun e w' => ∃ (l : List (Int × Int)) (v : Value), e = .returned (.tuple #[v, .int .i64 0]) ∧ Hid (IsWay c (i : Int) l) ∧ l.length ≤ 1073741825 ∧ OwP w.heap.size w' v l ∧ Kp [] w w' := by
  have HA := hide (has_any b (i : Int) c m w h (hI.sml hB))
  rw [hasE_nat c i hi, hv] at HA
  have HU := hide h
  have HI := hide hI
  have HV := hide hv
  have hbw := h.lt
  clear h hI hv hB
  go_enter Try.func16, Try.ntmps16
  go_wp2_with fail
  refine (unhide HA).mono ?_
  rintro r w1 ⟨rfl, HK1⟩
  have HK1 := hide HK1
  clear HA
  go_wp2_with fail
  go_loopw [1, 6] (fun x v wr => ∃ (q : Int) (r : List (Int × Int)), x = .int .i64 q ∧ r.length ≤ 1073741825 ∧ Hid (q = -1 ∧ r ≠ [] ∨ ∃ j : Nat, q = (j : Int) ∧ j < 4096 ∧ lvE (c j) = true ∧ (c j).p + (r.length : Int) ≤ 1073741824) ∧ Hid (∀ l, IsWay c q l → IsWay c (i : Int) (l ++ r.reverse)) ∧ Hid (OwP w.heap.size wr v r) ∧ Hid (Kp [] w wr)) (fun x _ _ => if intOf x = -1 then 0 else ((c (intOf x).toNat).p + 1).toNat)
  case atStart => exact ⟨i, [], rfl, by simp, hide (Or.inr ⟨i, rfl, hi, unhide HV, by simpa using ((unhide HI).rng i hi (prE_lv _ (unhide HV))).2.2.2⟩), hide (fun l hl => by simpa using hl), hide (OwP.nil _ _), HK1⟩
  case round =>
    clear HK1
    obtain ⟨q, r, rfl, hrl, HQ, HW, HO, HK⟩ := hrel
    by_cases hq : q = -1
    · have hr : r ≠ [] := by
        rcases unhide HQ with ⟨_, h⟩ | ⟨j, h, _⟩
        · exact h
        · omega
      subst hq
      obtain ⟨g, cap, rfl, hg, hf⟩ := OwP.at (unhide HO) hr
      have RV := hide (reverse_any g r.length cap _ wr hf (by omega))
      have HR := hide hr
      clear hr hf
      go_wp2_with fail
      refine (unhide RV).mono ?_
      rintro rr w2 ⟨rfl, hf2, hk2⟩
      have HF2 := hide hf2
      have HK2 : Hid (Kp [] w w2) := hide ((unhide HK).trans hk2 (by simp; omega))
      clear hf2 hk2 RV
      go_wp2_with fail
      go_ret2
      refine ⟨r.reverse, _, rfl, hide (by simpa using unhide HW [] IsWay.none), by simpa using hrl, ?_, unhide HK2⟩
      have e := OwP.of (B := w.heap.size) (l := r.reverse) (by rw [List.length_reverse]; exact unhide HF2) (fun k hk => by
        rw [List.getElem_reverse]
        have hk' : r.length - 1 - k < r.length := by simp at hk; omega
        simp only [List.getD_eq_getElem?_getD, List.getElem?_eq_getElem hk', Option.getD_some]) hg
      rw [List.length_reverse] at e
      exact e
    · obtain ⟨j, rfl, hj, hvj, hpj⟩ : ∃ j : Nat, q = (j : Int) ∧ j < 4096 ∧ lvE (c j) = true ∧ (c j).p + (r.length : Int) ≤ 1073741824 := by
        rcases unhide HQ with ⟨h, _⟩ | h
        · exact absurd h hq
        · exact h
      have hjj : (j : Int) < 4096 := by omega
      have bu := (unhide HU).kp (unhide HK) (by simp)
      have bu := hide bu
      obtain ⟨hs1, hs2, hp1, hp2⟩ := (unhide HI).rng j hj (prE_lv _ hvj)
      have s1 := (unhide bu).s j hj
      have s2 := (unhide bu).p j hj
      have s3 := (unhide bu).q j hj
      have hbr : b < wr.heap.size := (unhide bu).lt
      have HPAR := hide ((unhide HI).par j hj (prE_lv _ hvj))
      have HRL : Hid (r.length + 1 ≤ 1073741825) := hide (by omega)
      have HPJ := hide hpj
      have HVJ := hide hvj
      have HWN : Hid (∀ l, IsWay c (c j).q l → IsWay c (i : Int) (l ++ (r ++ [((c j).s, (c j).p)]).reverse)) := hide (fun l hl => by
        have := unhide HW _ (IsWay.some j l hj (unhide HVJ) hl)
        simpa using this)
      have OWN := hide (fun W (hW : Kp [] wr W) => own_kp (w := wr) (w' := W) (B := w.heap.size) (e := 41) (sz := 2) (n := r.length) (xs := prC r) (unhide HO) hW (fun _ _ => by simp))
      have HGE := hide (own_ge (unhide HO))
      obtain ⟨i0, hi0, hz0, hz1, hz2⟩ := info_parts info_pair
      have hb1 : r.length + 1 ≤ maxLen := by unfold maxLen; omega
      have hb2 : (r.length + 1) * 16 ≤ 140737488355328 := by omega
      have hwl : w.heap.size ≤ wr.heap.size := (unhide HK).size
      have HFIN : Hid (∀ (o : Obj) g7 cap7 w7, w7.ownsRow w.heap.size 41 2 (.slice (some ⟨g7, 0, none⟩) (r.length + 1) cap7) (r.length + 1) (prC r ++ [.int .i64 (c j).s, .int .i64 (c j).p]) → (wr.alloc o).drew.grownBy w7 u6.ownBlock → OwP w.heap.size w7 (.slice (some ⟨g7, 0, none⟩) (r.length + 1) cap7) (r ++ [((c j).s, (c j).p)]) ∧ Kp [] w w7 ∧ w7.cell? ⟨b, j * 5 + 2, none⟩ = some (.int .i64 (c j).q)) := hide (fun o g7 cap7 w7 h1 h2 => by
        have k1 : Kp [] w w7 := (((unhide HK).trans (Kp.alloc wr o) (by simp)).trans (Kp.drew _) (by simp)).trans (Kp.of h2) (fun x hx => Or.inr (unhide HGE x (by simpa using hx)))
        refine ⟨?_, k1, ((unhide HU).kp k1 (by simp)).q j hj⟩
        unfold OwP
        rw [prC_snoc, List.length_append]
        exact h1)
      clear hvj hpj
      go_wp2_with fail
      go_region_law
        (refine step_append_lies rfl (.tmp 22) (.tmp 34) 37 rfl w.heap.size 41 i0 (.agg #[.int .i64 0, .int .i64 0]) 2 16 Try.underlying37 hi0 hz0 hz1 hz2 rfl (by decide) u6 r.length (prC r) rfl (unhide OWN _ (by first | exact (Kp.alloc _ _) | exact (Kp.drew _).trans (Kp.alloc _ _) (by simp) | exact (Kp.alloc _ _).trans (Kp.drew _) (by simp))) ⟨wr.heap.size, 0, none⟩ 1 1 [.int .i64 (c j).s, .int .i64 (c j).p] rfl rfl (two_new wr _ rfl _ _ _) (by intro u hu; simp at hu; rcases hu with rfl | rfl <;> rfl) (by omega) hb1 hb2 (by simp; omega) ?_; intro g7 cap7 w7 hown7 hg7 hat7; obtain ⟨own8, kp8, cq8⟩ := unhide HFIN _ g7 cap7 w7 hown7 hg7; have OWN8 := hide own8; have KP8 := hide kp8; clear hown7 hg7 hat7 own8 kp8)
      all_goals
        clear OWN HFIN HO HW s1 s2 s3
        go_wp2_with fail
        go_roundw
        case rel =>
          refine ⟨_, _, rfl, ?_, hide ?_, HWN, ?_, KP8⟩
          · rw [List.length_append]; exact unhide HRL
          · rcases unhide HPAR with h1 | ⟨a, h1, h2, h3, h4, h5⟩
            · exact Or.inl ⟨h1, by simp⟩
            · exact Or.inr ⟨a, h1, h2, lv_kids (unhide HI) h2 h3, by have := unhide HPJ; simp; omega⟩
          · exact OWN8
        case measure =>
          rcases unhide HPAR with h1 | ⟨a, h1, h2, h3, h4, h5⟩
          · simp [intOf, h1]; omega
          · simp [intOf, h1]; omega
end Go.Proofs.Ythdfaidjdddagaa
