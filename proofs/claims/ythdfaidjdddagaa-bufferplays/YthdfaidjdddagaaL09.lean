/-
  A buffer: the way of an entry.
  A number from 0 to n - 1: the plain fact.
  A buffer: the chapter's example; a number from 0 on.
-/
import Derived.Test.YthdfaidjdddagaaL07
import Derived.Test.YthdfaidjdddagaaL08
import Derived.Test.YthdfaidjdddagaaL01
namespace Go.Proofs.Ythdfaidjdddagaa
open Go.RowKit

set_option maxHeartbeats 1000000 in
set_option maxRecDepth 100000 in
theorem buWay_not (b : Nat) (id : Int) (c : Nat → Ent) (m : Int) (w : World) (h : Bu b c m w) (hS : Sml c) (hn : hasE c id = false) : Calls Try.prog 16 #[.pointer (some ⟨b, 0, none⟩), .int .i64 id] w fun e w' => e = .returned (.tuple #[.slice none 0 0, .int .i64 160]) ∧ Kp [] w w' := by
  have HA := hide (has_any b id c m w h hS)
  rw [hn] at HA
  clear h hn
  go_enter Try.func16, Try.ntmps16
  go_wp2_with fail
  refine (unhide HA).mono ?_
  rintro r w1 ⟨rfl, HK1⟩
  have HK1 := hide HK1
  clear HA
  go_wp2_with fail
  go_ret2
  exact ⟨rfl, unhide HK1⟩
theorem own_kp {F : List Nat} {B : Nat} {w w' : World} {e : TypeId} {sz n : Nat} {v : Value} {xs : List Value} (h : w.ownsRow B e sz v n xs) (hk : Kp F w w') (hF : ∀ b, v.ownBlock = some b → b ∉ F) : w'.ownsRow B e sz v n xs := by
  obtain ⟨h0, ⟨rfl, h1⟩ | ⟨g, cap, cur, rfl, hg, hh, h2⟩⟩ := h
  · exact ⟨h0, Or.inl ⟨rfl, h1⟩⟩
  · exact ⟨h0, Or.inr ⟨g, cap, cur, rfl, hg, (hk.block g (Array.getElem?_eq_some_iff.1 hh).1 (hF g rfl)).trans hh, h2⟩⟩
theorem own_ge {B : Nat} {w : World} {e : TypeId} {sz n : Nat} {v : Value} {xs : List Value} (h : w.ownsRow B e sz v n xs) : ∀ b, v.ownBlock = some b → B ≤ b := by
  obtain ⟨h0, ⟨rfl, h1⟩ | ⟨g, cap, cur, rfl, hg, hh, h2⟩⟩ := h
  · intro b hb; cases hb
  · intro b hb; simp [Value.ownBlock] at hb; omega
/-- Rows of elements of unlike types lie apart. -/
theorem own_ne {B B' : Nat} {w : World} {e e' : TypeId} {sz sz' n n' : Nat} {v u : Value} {xs ys : List Value} (h : w.ownsRow B e sz v n xs) (k : w.ownsRow B' e' sz' u n' ys) (he : e ≠ e') : ∀ b, u.ownBlock = some b → v.ownBlock ≠ some b := by
  obtain ⟨h0, ⟨rfl, h1⟩ | ⟨g, cap, cur, rfl, hg, hh, h2⟩⟩ := h
  · intro b _ hb; cases hb
  · obtain ⟨k0, ⟨rfl, k1⟩ | ⟨g', cap', cur', rfl, hg', hh', h2'⟩⟩ := k
    · intro b hb; cases hb
    · intro b hb hb'
      simp [Value.ownBlock] at hb hb'
      subst hb
      subst hb'
      rw [hh] at hh'
      simp at hh'
      exact he hh'.2
set_option maxHeartbeats 1000000 in
set_option maxRecDepth 100000 in
theorem buWay_ok (b i : Nat) (hi : i < 4096) (c : Nat → Ent) (m : Nat) (B : Int) (w : World) (h : Bu b c (m : Int) w) (hI : BIv c (-1) m B) (hB : B ≤ 2305843009213693952) (hv : lvE (c i) = true) : Calls Try.prog 16 #[.pointer (some ⟨b, 0, none⟩), .int .i64 (i : Int)] w fun e w' => ∃ (l : List (Int × Int)) (v : Value), e = .returned (.tuple #[v, .int .i64 0]) ∧ Hid (IsWay c (i : Int) l) ∧ l.length ≤ 1073741825 ∧ OwP w.heap.size w' v l ∧ Kp [] w w' := by
  have HA := hide (has_any b (i : Int) c m w h (hI.sml hB))
  rw [hasE_nat c i hi, hv] at HA
  have HU := hide h
  have HI := hide hI
  have HV := hide hv
  have hbw := h.lt
  clear h hI hv hB
  go_enter Try.func16, Try.ntmps16
  go_wp2_with fail
  refine (unhide HA).mono ?_
  rintro r w1 ⟨rfl, HK1⟩
  have HK1 := hide HK1
  clear HA
  go_wp2_with fail
  go_loopw [1, 6] (fun x v wr => ∃ (q : Int) (r : List (Int × Int)), x = .int .i64 q ∧ r.length ≤ 1073741825 ∧ Hid (q = -1 ∧ r ≠ [] ∨ ∃ j : Nat, q = (j : Int) ∧ j < 4096 ∧ lvE (c j) = true ∧ (c j).p + (r.length : Int) ≤ 1073741824) ∧ Hid (∀ l, IsWay c q l → IsWay c (i : Int) (l ++ r.reverse)) ∧ Hid (OwP w.heap.size wr v r) ∧ Hid (Kp [] w wr)) (fun x _ _ => if intOf x = -1 then 0 else ((c (intOf x).toNat).p + 1).toNat)
  case atStart => exact ⟨i, [], rfl, by simp, hide (Or.inr ⟨i, rfl, hi, unhide HV, by simpa using ((unhide HI).rng i hi (prE_lv _ (unhide HV))).2.2.2⟩), hide (fun l hl => by simpa using hl), hide (OwP.nil _ _), HK1⟩
  case round =>
    clear HK1
    obtain ⟨q, r, rfl, hrl, HQ, HW, HO, HK⟩ := hrel
    by_cases hq : q = -1
    · have hr : r ≠ [] := by
        rcases unhide HQ with ⟨_, h⟩ | ⟨j, h, _⟩
        · exact h
        · omega
      subst hq
      obtain ⟨g, cap, rfl, hg, hf⟩ := OwP.at (unhide HO) hr
      have RV := hide (reverse_any g r.length cap _ wr hf (by omega))
      have HR := hide hr
      clear hr hf
      go_wp2_with fail
      refine (unhide RV).mono ?_
      rintro rr w2 ⟨rfl, hf2, hk2⟩
      have HF2 := hide hf2
      have HK2 : Hid (Kp [] w w2) := hide ((unhide HK).trans hk2 (by simp; omega))
      clear hf2 hk2 RV
      go_wp2_with fail
      go_ret2
      refine ⟨r.reverse, _, rfl, hide (by simpa using unhide HW [] IsWay.none), by simpa using hrl, ?_, unhide HK2⟩
      have e := OwP.of (B := w.heap.size) (l := r.reverse) (by rw [List.length_reverse]; exact unhide HF2) (fun k hk => by
        rw [List.getElem_reverse]
        have hk' : r.length - 1 - k < r.length := by simp at hk; omega
        simp only [List.getD_eq_getElem?_getD, List.getElem?_eq_getElem hk', Option.getD_some]) hg
      rw [List.length_reverse] at e
      exact e
    · obtain ⟨j, rfl, hj, hvj, hpj⟩ : ∃ j : Nat, q = (j : Int) ∧ j < 4096 ∧ lvE (c j) = true ∧ (c j).p + (r.length : Int) ≤ 1073741824 := by
        rcases unhide HQ with ⟨h, _⟩ | h
        · exact absurd h hq
        · exact h
      have hjj : (j : Int) < 4096 := by omega
      have bu := (unhide HU).kp (unhide HK) (by simp)
      have bu := hide bu
      obtain ⟨hs1, hs2, hp1, hp2⟩ := (unhide HI).rng j hj (prE_lv _ hvj)
      have s1 := (unhide bu).s j hj
      have s2 := (unhide bu).p j hj
      have s3 := (unhide bu).q j hj
      have hbr : b < wr.heap.size := (unhide bu).lt
      have HPAR := hide ((unhide HI).par j hj (prE_lv _ hvj))
      have HRL : Hid (r.length + 1 ≤ 1073741825) := hide (by omega)
      have HPJ := hide hpj
      have HVJ := hide hvj
      have HWN : Hid (∀ l, IsWay c (c j).q l → IsWay c (i : Int) (l ++ (r ++ [((c j).s, (c j).p)]).reverse)) := hide (fun l hl => by
        have := unhide HW _ (IsWay.some j l hj (unhide HVJ) hl)
        simpa using this)
      have OWN := hide (fun W (hW : Kp [] wr W) => own_kp (w := wr) (w' := W) (B := w.heap.size) (e := 41) (sz := 2) (n := r.length) (xs := prC r) (unhide HO) hW (fun _ _ => by simp))
      have HGE := hide (own_ge (unhide HO))
      obtain ⟨i0, hi0, hz0, hz1, hz2⟩ := info_parts info_pair
      have hb1 : r.length + 1 ≤ maxLen := by unfold maxLen; omega
      have hb2 : (r.length + 1) * 16 ≤ 140737488355328 := by omega
      have hwl : w.heap.size ≤ wr.heap.size := (unhide HK).size
      have HFIN : Hid (∀ (o : Obj) g7 cap7 w7, w7.ownsRow w.heap.size 41 2 (.slice (some ⟨g7, 0, none⟩) (r.length + 1) cap7) (r.length + 1) (prC r ++ [.int .i64 (c j).s, .int .i64 (c j).p]) → (wr.alloc o).drew.grownBy w7 u6.ownBlock → OwP w.heap.size w7 (.slice (some ⟨g7, 0, none⟩) (r.length + 1) cap7) (r ++ [((c j).s, (c j).p)]) ∧ Kp [] w w7 ∧ w7.cell? ⟨b, j * 5 + 2, none⟩ = some (.int .i64 (c j).q)) := hide (fun o g7 cap7 w7 h1 h2 => by
        have k1 : Kp [] w w7 := (((unhide HK).trans (Kp.alloc wr o) (by simp)).trans (Kp.drew _) (by simp)).trans (Kp.of h2) (fun x hx => Or.inr (unhide HGE x (by simpa using hx)))
        refine ⟨?_, k1, ((unhide HU).kp k1 (by simp)).q j hj⟩
        unfold OwP
        rw [prC_snoc, List.length_append]
        exact h1)
      clear hvj hpj
      go_wp2_with fail
      go_region_law
        (refine step_append_lies rfl (.tmp 22) (.tmp 34) 37 rfl w.heap.size 41 i0 (.agg #[.int .i64 0, .int .i64 0]) 2 16 Try.underlying37 hi0 hz0 hz1 hz2 rfl (by decide) u6 r.length (prC r) rfl (unhide OWN _ (by first | exact (Kp.alloc _ _) | exact (Kp.drew _).trans (Kp.alloc _ _) (by simp) | exact (Kp.alloc _ _).trans (Kp.drew _) (by simp))) ⟨wr.heap.size, 0, none⟩ 1 1 [.int .i64 (c j).s, .int .i64 (c j).p] rfl rfl (two_new wr _ rfl _ _ _) (by intro u hu; simp at hu; rcases hu with rfl | rfl <;> rfl) (by omega) hb1 hb2 (by simp; omega) ?_; intro g7 cap7 w7 hown7 hg7 hat7; obtain ⟨own8, kp8, cq8⟩ := unhide HFIN _ g7 cap7 w7 hown7 hg7; have OWN8 := hide own8; have KP8 := hide kp8; clear hown7 hg7 hat7 own8 kp8)
      all_goals
        clear OWN HFIN HO HW s1 s2 s3
        go_wp2_with fail
        go_roundw
        case rel =>
          refine ⟨_, _, rfl, ?_, hide ?_, HWN, ?_, KP8⟩
          · rw [List.length_append]; exact unhide HRL
          · rcases unhide HPAR with h1 | ⟨a, h1, h2, h3, h4, h5⟩
            · exact Or.inl ⟨h1, by simp⟩
            · exact Or.inr ⟨a, h1, h2, lv_kids (unhide HI) h2 h3, by have := unhide HPJ; simp; omega⟩
          · exact OWN8
        case measure =>
          rcases unhide HPAR with h1 | ⟨a, h1, h2, h3, h4, h5⟩
          · simp [intOf, h1]; omega
          · simp [intOf, h1]; omega
end Go.Proofs.Ythdfaidjdddagaa
namespace Go.Proofs.Ythdfaidjdddagaa

theorem among_eq (x n : Int) (hn : 0 < n) : (x.tmod n + n).tmod n = x % n := by
  rcases Int.lt_or_le x 0 with h | h
  · have h1 := Int.tmod_eq_emod (a := x) (b := n)
    have h2 := Int.emod_nonneg x (by omega : n ≠ 0)
    have h3 := Int.emod_lt_of_pos x hn
    by_cases hd : n ∣ x
    · have e : x % n = 0 := Int.emod_eq_zero_of_dvd hd
      rw [h1, if_pos (Or.inr hd), e]
      simp
    · rw [h1, if_neg (by omega), show (n.natAbs : Int) = n by omega, show x % n - n + n = x % n by omega, Int.tmod_eq_emod_of_nonneg h2, Int.emod_emod_of_dvd x (Int.dvd_refl n)]
  · rw [Int.tmod_eq_emod_of_nonneg h, Int.tmod_eq_emod_of_nonneg (by have := Int.emod_nonneg x (by omega : n ≠ 0); omega)]
    simp
end Go.Proofs.Ythdfaidjdddagaa
namespace Go.Proofs.Ythdfaidjdddagaa
open Go.RowKit

theorem buAmong_any (x n : Int) (w : World) (hn : 0 < n) (hn1 : n ≤ 1099511627776) :
    Calls Try.prog 9 #[.int .i64 x, .int .i64 n] w fun e w' => e = .returned (.int .i64 (x % n)) ∧ w' = w := by
  have hne : (n == 0) = false := beq_eq_false_iff_ne.2 (by omega)
  have e1 := among_eq x n hn
  have b1 : -n < x.tmod n := Int.lt_tmod_of_pos x hn
  have b2 : x.tmod n < n := Int.tmod_lt_of_pos x hn
  go_enter Try.func9, Try.ntmps9
  go_wp2
  go_ret
  exact ⟨rfl, rfl⟩
/-- No entries at all. -/
def e0 : Nat → Ent := fun _ => zeE
theorem e0_lv (j : Nat) : lvE (e0 j) = false := rfl
def x1 : Nat → Ent := adE e0 0 0 5 (-1)
def x2 : Nat → Ent := adE x1 1 1 7 0
def x3 : Nat → Ent := hoE x2 1
def x4 : Nat → Ent := adE x3 2 1 8 0
theorem x1_at (j : Nat) : x1 j = if j = 0 then ⟨0, 5, -1, 1, 0⟩ else zeE := rfl
theorem x2_at (j : Nat) : x2 j = if j = 0 then ⟨0, 5, -1, 1, 1⟩ else if j = 1 then ⟨1, 7, 0, 1, 0⟩ else zeE := by
  unfold x2 adE kdE
  rw [if_neg (by decide)]
  unfold setE
  by_cases h : j = 0
  · subst h; rfl
  · simp [h, x1_at]
theorem x3_at (j : Nat) : x3 j = if j = 0 then ⟨0, 5, -1, 1, 1⟩ else if j = 1 then ⟨1, 7, 0, 2, 0⟩ else zeE := by
  unfold x3 hoE setE
  by_cases h : j = 1
  · subst h; rfl
  · simp [h, x2_at]
theorem x4_at (j : Nat) : x4 j = if j = 0 then ⟨0, 5, -1, 1, 2⟩ else if j = 1 then ⟨1, 7, 0, 2, 0⟩ else if j = 2 then ⟨1, 8, 0, 1, 0⟩ else zeE := by
  unfold x4 adE kdE
  rw [if_neg (by decide)]
  unfold setE
  by_cases h : j = 0
  · subst h; rfl
  · by_cases h2 : j = 2
    · subst h2; rfl
    · simp [h, h2, x3_at]
theorem wput1 : PutR e0 0 0 5 (-1) 0 0 x1 1 := PutR.more 0 (by decide) (Or.inl rfl) (fun j _ h => by rw [e0_lv] at h; cases h) (by decide) (by decide) rfl (fun j hj => by omega)
theorem wput2 : PutR x1 1 1 7 0 1 0 x2 2 := PutR.more 1 (by decide) (Or.inr ⟨0, rfl, by decide, rfl, by decide, by decide⟩) (fun j _ h => by
  rw [x1_at] at h ⊢
  by_cases e : j = 0
  · subst e; decide
  · rw [if_neg e] at h; cases h) (by decide) (by decide) rfl (fun j hj => by rcases (show j = 0 from Nat.lt_one_iff.1 hj) with rfl; rfl)
theorem wput3 : PutR x2 2 1 7 0 1 0 x3 2 := PutR.again 1 (by decide) (Or.inr ⟨0, rfl, by decide, rfl, by decide, by decide⟩) (by decide) rfl ⟨rfl, rfl, rfl⟩
theorem wput4 : PutR x3 2 1 8 0 2 0 x4 3 := PutR.more 2 (by decide) (Or.inr ⟨0, rfl, by decide, rfl, by decide, by decide⟩) (fun j _ h => by
  rw [x3_at] at h ⊢
  by_cases e : j = 0
  · subst e; decide
  · by_cases e2 : j = 1
    · subst e2; decide
    · rw [if_neg e, if_neg e2] at h; cases h) (by decide) (by decide) rfl (fun j hj => by
      rcases (show j = 0 ∨ j = 1 by omega) with rfl | rfl <;> rfl)
theorem way4 : IsWay x4 2 [(0, 5), (1, 8)] := IsWay.some 2 [(0, 5)] (by decide) rfl (IsWay.some 0 [] (by decide) rfl IsWay.none)
theorem biv0 : BIv e0 (-1) 0 0 := BIv.empty
theorem biv1 : BIv x1 (-1) 1 1 := wput1.iv biv0 (by decide)
theorem biv2 : BIv x2 (-1) 2 2 := wput2.iv biv1 (by decide)
theorem biv3 : BIv x3 (-1) 2 3 := wput3.iv biv2 (by decide)
theorem biv4 : BIv x4 (-1) 3 4 := wput4.iv biv3 (by decide)
/-- Put, where it is known what it tells. -/
theorem put_is (b : Nat) (s p q : Int) (c : Nat → Ent) (m : Nat) (B : Int) (w : World) (id er : Int) (d : Nat → Ent) (n : Nat) (h : Bu b c (m : Int) w) (hI : BIv c (-1) m B) (hB : B ≤ 2305843009213693952) (hR : PutR c m s p q id er d n) : Calls Try.prog 10 #[.pointer (some ⟨b, 0, none⟩), .int .i64 s, .int .i64 p, .int .i64 q] w fun e w' => e = .returned (.tuple #[.int .i64 id, .int .i64 er]) ∧ Bu b d (n : Int) w' ∧ Kp [b] w w' := by
  refine (put_any b s p q c m B w h hI hB).mono ?_
  rintro e w' ⟨id', er', d', n', rfl, hr, hb, hk⟩
  obtain ⟨rfl, rfl, rfl, rfl⟩ := PutR.one hR (unhide hr) hI
  exact ⟨rfl, hb, hk⟩
theorem lit4 (w : World) : PrAt (w.alloc (.cells #[.int .i64 0, .int .i64 5, .int .i64 1, .int .i64 8] 41)) (.slice (some ⟨w.heap.size, 0, none⟩) 2 2) [(0, 5), (1, 8)] := by
  have h := CBox.new w #[.int .i64 0, .int .i64 5, .int .i64 1, .int .i64 8] 41
  refine ⟨_, _, rfl, fun i hi => ⟨_, rfl, ?_⟩⟩
  match i, hi with
  | 0, _ => exact ⟨h.cell rfl, h.cell rfl⟩
  | 1, _ => exact ⟨h.cell rfl, h.cell rfl⟩
set_option maxHeartbeats 1000000 in
set_option maxRecDepth 100000 in
theorem bworks_any (w : World) : Calls Try.prog 23 #[] w fun e w' => e = .returned (.bool true) ∧ Kp [] w w' := by
  have NW := hide (buNew_any w)
  go_enter Try.func23, Try.ntmps23
  go_wp2_with fail
  refine (unhide NW).mono ?_
  rintro r w1 ⟨rfl, hb1, hk1⟩
  have P1 := hide (put_is w.heap.size 0 5 (-1) e0 0 0 w1 0 0 x1 1 hb1 biv0 (by decide) wput1)
  have HK1 := hide hk1
  clear NW hb1 hk1
  go_wp2_with fail
  refine (unhide P1).mono ?_
  rintro r w2 ⟨rfl, hb2, hk2⟩
  have P2 := hide (put_is w.heap.size 1 7 0 x1 1 1 w2 1 0 x2 2 hb2 biv1 (by decide) wput2)
  have HK2 : Hid (Kp [] w w2) := hide ((unhide HK1).trans hk2 (by simp))
  clear P1 hb2 hk2 HK1
  go_wp2_with fail
  refine (unhide P2).mono ?_
  rintro r w3 ⟨rfl, hb3, hk3⟩
  have P3 := hide (put_is w.heap.size 1 7 0 x2 2 2 w3 1 0 x3 2 hb3 biv2 (by decide) wput3)
  have HK3 : Hid (Kp [] w w3) := hide ((unhide HK2).trans hk3 (by simp))
  clear P2 hb3 hk3 HK2
  go_wp2_with fail
  refine (unhide P3).mono ?_
  rintro r w4 ⟨rfl, hb4, hk4⟩
  have P4 := hide (put_is w.heap.size 1 8 0 x3 2 3 w4 2 0 x4 3 hb4 biv3 (by decide) wput4)
  have HK4 : Hid (Kp [] w w4) := hide ((unhide HK3).trans hk4 (by simp))
  clear P3 hb4 hk4 HK3
  go_wp2_with fail
  refine (unhide P4).mono ?_
  rintro r w5 ⟨rfl, hb5, hk5⟩
  have P5 := hide (buCount_ok w.heap.size 0 (by decide) x4 3 w5 hb5 (biv4.sml (by decide)) rfl)
  rw [show (x4 0).h + (x4 0).k = 3 from rfl] at P5
  have HB5 := hide hb5
  have HK5 : Hid (Kp [] w w5) := hide ((unhide HK4).trans hk5 (by simp))
  clear P4 hb5 hk5 HK4
  go_wp2_with fail
  refine (unhide P5).mono ?_
  rintro r w6 ⟨rfl, hk6⟩
  have P6 := hide (buWay_ok w.heap.size 2 (by decide) x4 3 4 w6 ((unhide HB5).kp hk6 (by simp)) biv4 (by decide) rfl)
  have HK6 : Hid (Kp [] w w6) := hide ((unhide HK5).trans hk6 (by simp))
  clear P5 hk6 HK5 HB5
  go_wp2_with fail
  refine (unhide P6).mono ?_
  rintro r w7 ⟨l, v, rfl, hw, _, ho, hk7⟩
  obtain rfl := IsWay.one (unhide hw) way4
  have HK7 : Hid (Kp [] w w7) := hide ((unhide HK6).trans hk7 (by simp))
  have WS := hide (ways_any v _ [(0, 5), (1, 8)] [(0, 5), (1, 8)] (w7.alloc (.cells #[.int .i64 0, .int .i64 5, .int .i64 1, .int .i64 8] 41)) (ho.read.kp0 (Kp.alloc _ _)) (lit4 w7) (by decide) true (by simp))
  clear P6 hk7 HK6 ho hw
  go_wp2_with fail
  refine (unhide WS).mono ?_
  rintro r w8 ⟨rfl, hk8⟩
  have HK8 : Hid (Kp [] w w8) := hide (((unhide HK7).trans (Kp.alloc _ _) (by simp)).trans hk8 (by simp))
  clear WS hk8
  go_wp2_with fail
  go_ret
  exact ⟨rfl, unhide HK8⟩
end Go.Proofs.Ythdfaidjdddagaa
