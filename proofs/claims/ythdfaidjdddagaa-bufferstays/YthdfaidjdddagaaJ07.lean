/-
  A buffer: the way of an entry.
  A number from 0 to n - 1: the plain fact.
  A buffer: the chapter's example; a number from 0 on.
  Entries by their keys, plainly: what Put leaves of them; chains of two. Of no program.
-/
import Derived.Test.YthdfaidjdddagaaJ06
import Derived.Test.YthdfaidjdddagaaJ01
import Derived.Test.YthdfaidjdddagaaJ04
namespace Go.Proofs.Ythdfaidjdddagaa
open Go.RowKit

set_option maxHeartbeats 1000000 in
set_option maxRecDepth 100000 in
theorem buWay_not (b : Nat) (id : Int) (c : Nat → Ent) (m : Int) (w : World) (h : Bu b c m w) (hS : Sml c) (hn : hasE c id = false) : Calls Try.prog 16 #[.pointer (some ⟨b, 0, none⟩), .int .i64 id] w fun e w' => e = .returned (.tuple #[.slice none 0 0, .int .i64 160]) ∧ Kp [] w w' := by
  have HA := hide (has_any b id c m w h hS)
  rw [hn] at HA
  clear h hn
  go_enter Try.func16, Try.ntmps16
  go_wp2_with fail
  refine (unhide HA).mono ?_
  rintro r w1 ⟨rfl, HK1⟩
  have HK1 := hide HK1
  clear HA
  go_wp2_with fail
  go_ret2
  exact ⟨rfl, unhide HK1⟩
theorem own_kp {F : List Nat} {B : Nat} {w w' : World} {e : TypeId} {sz n : Nat} {v : Value} {xs : List Value} (h : w.ownsRow B e sz v n xs) (hk : Kp F w w') (hF : ∀ b, v.ownBlock = some b → b ∉ F) : w'.ownsRow B e sz v n xs := by
  obtain ⟨h0, ⟨rfl, h1⟩ | ⟨g, cap, cur, rfl, hg, hh, h2⟩⟩ := h
  · exact ⟨h0, Or.inl ⟨rfl, h1⟩⟩
  · exact ⟨h0, Or.inr ⟨g, cap, cur, rfl, hg, (hk.block g (Array.getElem?_eq_some_iff.1 hh).1 (hF g rfl)).trans hh, h2⟩⟩
theorem own_ge {B : Nat} {w : World} {e : TypeId} {sz n : Nat} {v : Value} {xs : List Value} (h : w.ownsRow B e sz v n xs) : ∀ b, v.ownBlock = some b → B ≤ b := by
  obtain ⟨h0, ⟨rfl, h1⟩ | ⟨g, cap, cur, rfl, hg, hh, h2⟩⟩ := h
  · intro b hb; cases hb
  · intro b hb; simp [Value.ownBlock] at hb; omega
/-- Rows of elements of unlike types lie apart. -/
theorem own_ne {B B' : Nat} {w : World} {e e' : TypeId} {sz sz' n n' : Nat} {v u : Value} {xs ys : List Value} (h : w.ownsRow B e sz v n xs) (k : w.ownsRow B' e' sz' u n' ys) (he : e ≠ e') : ∀ b, u.ownBlock = some b → v.ownBlock ≠ some b := by
  obtain ⟨h0, ⟨rfl, h1⟩ | ⟨g, cap, cur, rfl, hg, hh, h2⟩⟩ := h
  · intro b _ hb; cases hb
  · obtain ⟨k0, ⟨rfl, k1⟩ | ⟨g', cap', cur', rfl, hg', hh', h2'⟩⟩ := k
    · intro b hb; cases hb
    · intro b hb hb'
      simp [Value.ownBlock] at hb hb'
      subst hb
      subst hb'
      rw [hh] at hh'
      simp at hh'
      exact he hh'.2
set_option maxHeartbeats 1000000 in
set_option maxRecDepth 100000 in
theorem buWay_ok (b i : Nat) (hi : i < 4096) (c : Nat → Ent) (m : Nat) (B : Int) (w : World) (h : Bu b c (m : Int) w) (hI : BIv c (-1) m B) (hB : B ≤ 2305843009213693952) (hv : lvE (c i) = true) : Calls Try.prog 16 #[.pointer (some ⟨b, 0, none⟩), .int .i64 (i : Int)] w fun e w' => ∃ (l : List (Int × Int)) (v : Value), e = .returned (.tuple #[v, .int .i64 0]) ∧ Hid (IsWay c (i : Int) l) ∧ l.length ≤ 1073741825 ∧ OwP w.heap.size w' v l ∧ Kp [] w w' := by
  have HA := hide (has_any b (i : Int) c m w h (hI.sml hB))
  rw [hasE_nat c i hi, hv] at HA
  have HU := hide h
  have HI := hide hI
  have HV := hide hv
  have hbw := h.lt
  clear h hI hv hB
  go_enter Try.func16, Try.ntmps16
  go_wp2_with fail
  refine (unhide HA).mono ?_
  rintro r w1 ⟨rfl, HK1⟩
  have HK1 := hide HK1
  clear HA
  go_wp2_with fail
  go_loopw [1, 6] (fun x v wr => ∃ (q : Int) (r : List (Int × Int)), x = .int .i64 q ∧ r.length ≤ 1073741825 ∧ Hid (q = -1 ∧ r ≠ [] ∨ ∃ j : Nat, q = (j : Int) ∧ j < 4096 ∧ lvE (c j) = true ∧ (c j).p + (r.length : Int) ≤ 1073741824) ∧ Hid (∀ l, IsWay c q l → IsWay c (i : Int) (l ++ r.reverse)) ∧ Hid (OwP w.heap.size wr v r) ∧ Hid (Kp [] w wr)) (fun x _ _ => if intOf x = -1 then 0 else ((c (intOf x).toNat).p + 1).toNat)
  case atStart => exact ⟨i, [], rfl, by simp, hide (Or.inr ⟨i, rfl, hi, unhide HV, by simpa using ((unhide HI).rng i hi (prE_lv _ (unhide HV))).2.2.2⟩), hide (fun l hl => by simpa using hl), hide (OwP.nil _ _), HK1⟩
  case round =>
    clear HK1
    obtain ⟨q, r, rfl, hrl, HQ, HW, HO, HK⟩ := hrel
    by_cases hq : q = -1
    · have hr : r ≠ [] := by
        rcases unhide HQ with ⟨_, h⟩ | ⟨j, h, _⟩
        · exact h
        · omega
      subst hq
      obtain ⟨g, cap, rfl, hg, hf⟩ := OwP.at (unhide HO) hr
      have RV := hide (reverse_any g r.length cap _ wr hf (by omega))
      have HR := hide hr
      clear hr hf
      go_wp2_with fail
      refine (unhide RV).mono ?_
      rintro rr w2 ⟨rfl, hf2, hk2⟩
      have HF2 := hide hf2
      have HK2 : Hid (Kp [] w w2) := hide ((unhide HK).trans hk2 (by simp; omega))
      clear hf2 hk2 RV
      go_wp2_with fail
      go_ret2
      refine ⟨r.reverse, _, rfl, hide (by simpa using unhide HW [] IsWay.none), by simpa using hrl, ?_, unhide HK2⟩
      have e := OwP.of (B := w.heap.size) (l := r.reverse) (by rw [List.length_reverse]; exact unhide HF2) (fun k hk => by
        rw [List.getElem_reverse]
        have hk' : r.length - 1 - k < r.length := by simp at hk; omega
        simp only [List.getD_eq_getElem?_getD, List.getElem?_eq_getElem hk', Option.getD_some]) hg
      rw [List.length_reverse] at e
      exact e
    · obtain ⟨j, rfl, hj, hvj, hpj⟩ : ∃ j : Nat, q = (j : Int) ∧ j < 4096 ∧ lvE (c j) = true ∧ (c j).p + (r.length : Int) ≤ 1073741824 := by
        rcases unhide HQ with ⟨h, _⟩ | h
        · exact absurd h hq
        · exact h
      have hjj : (j : Int) < 4096 := by omega
      have bu := (unhide HU).kp (unhide HK) (by simp)
      have bu := hide bu
      obtain ⟨hs1, hs2, hp1, hp2⟩ := (unhide HI).rng j hj (prE_lv _ hvj)
      have s1 := (unhide bu).s j hj
      have s2 := (unhide bu).p j hj
      have s3 := (unhide bu).q j hj
      have hbr : b < wr.heap.size := (unhide bu).lt
      have HPAR := hide ((unhide HI).par j hj (prE_lv _ hvj))
      have HRL : Hid (r.length + 1 ≤ 1073741825) := hide (by omega)
      have HPJ := hide hpj
      have HVJ := hide hvj
      have HWN : Hid (∀ l, IsWay c (c j).q l → IsWay c (i : Int) (l ++ (r ++ [((c j).s, (c j).p)]).reverse)) := hide (fun l hl => by
        have := unhide HW _ (IsWay.some j l hj (unhide HVJ) hl)
        simpa using this)
      have OWN := hide (fun W (hW : Kp [] wr W) => own_kp (w := wr) (w' := W) (B := w.heap.size) (e := 41) (sz := 2) (n := r.length) (xs := prC r) (unhide HO) hW (fun _ _ => by simp))
      have HGE := hide (own_ge (unhide HO))
      obtain ⟨i0, hi0, hz0, hz1, hz2⟩ := info_parts info_pair
      have hb1 : r.length + 1 ≤ maxLen := by unfold maxLen; omega
      have hb2 : (r.length + 1) * 16 ≤ 140737488355328 := by omega
      have hwl : w.heap.size ≤ wr.heap.size := (unhide HK).size
      have HFIN : Hid (∀ (o : Obj) g7 cap7 w7, w7.ownsRow w.heap.size 41 2 (.slice (some ⟨g7, 0, none⟩) (r.length + 1) cap7) (r.length + 1) (prC r ++ [.int .i64 (c j).s, .int .i64 (c j).p]) → (wr.alloc o).drew.grownBy w7 u6.ownBlock → OwP w.heap.size w7 (.slice (some ⟨g7, 0, none⟩) (r.length + 1) cap7) (r ++ [((c j).s, (c j).p)]) ∧ Kp [] w w7 ∧ w7.cell? ⟨b, j * 5 + 2, none⟩ = some (.int .i64 (c j).q)) := hide (fun o g7 cap7 w7 h1 h2 => by
        have k1 : Kp [] w w7 := (((unhide HK).trans (Kp.alloc wr o) (by simp)).trans (Kp.drew _) (by simp)).trans (Kp.of h2) (fun x hx => Or.inr (unhide HGE x (by simpa using hx)))
        refine ⟨?_, k1, ((unhide HU).kp k1 (by simp)).q j hj⟩
        unfold OwP
        rw [prC_snoc, List.length_append]
        exact h1)
      clear hvj hpj
      go_wp2_with fail
      go_region_law
        (refine step_append_lies rfl (.tmp 22) (.tmp 34) 37 rfl w.heap.size 41 i0 (.agg #[.int .i64 0, .int .i64 0]) 2 16 Try.underlying37 hi0 hz0 hz1 hz2 rfl (by decide) u6 r.length (prC r) rfl (unhide OWN _ (by first | exact (Kp.alloc _ _) | exact (Kp.drew _).trans (Kp.alloc _ _) (by simp) | exact (Kp.alloc _ _).trans (Kp.drew _) (by simp))) ⟨wr.heap.size, 0, none⟩ 1 1 [.int .i64 (c j).s, .int .i64 (c j).p] rfl rfl (two_new wr _ rfl _ _ _) (by intro u hu; simp at hu; rcases hu with rfl | rfl <;> rfl) (by omega) hb1 hb2 (by simp; omega) ?_; intro g7 cap7 w7 hown7 hg7 hat7; obtain ⟨own8, kp8, cq8⟩ := unhide HFIN _ g7 cap7 w7 hown7 hg7; have OWN8 := hide own8; have KP8 := hide kp8; clear hown7 hg7 hat7 own8 kp8)
      all_goals
        clear OWN HFIN HO HW s1 s2 s3
        go_wp2_with fail
        go_roundw
        case rel =>
          refine ⟨_, _, rfl, ?_, hide ?_, HWN, ?_, KP8⟩
          · rw [List.length_append]; exact unhide HRL
          · rcases unhide HPAR with h1 | ⟨a, h1, h2, h3, h4, h5⟩
            · exact Or.inl ⟨h1, by simp⟩
            · exact Or.inr ⟨a, h1, h2, lv_kids (unhide HI) h2 h3, by have := unhide HPJ; simp; omega⟩
          · exact OWN8
        case measure =>
          rcases unhide HPAR with h1 | ⟨a, h1, h2, h3, h4, h5⟩
          · simp [intOf, h1]; omega
          · simp [intOf, h1]; omega
end Go.Proofs.Ythdfaidjdddagaa
namespace Go.Proofs.Ythdfaidjdddagaa

theorem among_eq (x n : Int) (hn : 0 < n) : (x.tmod n + n).tmod n = x % n := by
  rcases Int.lt_or_le x 0 with h | h
  · have h1 := Int.tmod_eq_emod (a := x) (b := n)
    have h2 := Int.emod_nonneg x (by omega : n ≠ 0)
    have h3 := Int.emod_lt_of_pos x hn
    by_cases hd : n ∣ x
    · have e : x % n = 0 := Int.emod_eq_zero_of_dvd hd
      rw [h1, if_pos (Or.inr hd), e]
      simp
    · rw [h1, if_neg (by omega), show (n.natAbs : Int) = n by omega, show x % n - n + n = x % n by omega, Int.tmod_eq_emod_of_nonneg h2, Int.emod_emod_of_dvd x (Int.dvd_refl n)]
  · rw [Int.tmod_eq_emod_of_nonneg h, Int.tmod_eq_emod_of_nonneg (by have := Int.emod_nonneg x (by omega : n ≠ 0); omega)]
    simp
end Go.Proofs.Ythdfaidjdddagaa
namespace Go.Proofs.Ythdfaidjdddagaa
open Go.RowKit

theorem buAmong_any (x n : Int) (w : World) (hn : 0 < n) (hn1 : n ≤ 1099511627776) :
    Calls Try.prog 9 #[.int .i64 x, .int .i64 n] w fun e w' => e = .returned (.int .i64 (x % n)) ∧ w' = w := by
  have hne : (n == 0) = false := beq_eq_false_iff_ne.2 (by omega)
  have e1 := among_eq x n hn
  have b1 : -n < x.tmod n := Int.lt_tmod_of_pos x hn
  have b2 : x.tmod n < n := Int.tmod_lt_of_pos x hn
  go_enter Try.func9, Try.ntmps9
  go_wp2
  go_ret
  exact ⟨rfl, rfl⟩
/-- No entries at all. -/
def e0 : Nat → Ent := fun _ => zeE
theorem e0_lv (j : Nat) : lvE (e0 j) = false := rfl
def x1 : Nat → Ent := adE e0 0 0 5 (-1)
def x2 : Nat → Ent := adE x1 1 1 7 0
def x3 : Nat → Ent := hoE x2 1
def x4 : Nat → Ent := adE x3 2 1 8 0
theorem x1_at (j : Nat) : x1 j = if j = 0 then ⟨0, 5, -1, 1, 0⟩ else zeE := rfl
theorem x2_at (j : Nat) : x2 j = if j = 0 then ⟨0, 5, -1, 1, 1⟩ else if j = 1 then ⟨1, 7, 0, 1, 0⟩ else zeE := by
  unfold x2 adE kdE
  rw [if_neg (by decide)]
  unfold setE
  by_cases h : j = 0
  · subst h; rfl
  · simp [h, x1_at]
theorem x3_at (j : Nat) : x3 j = if j = 0 then ⟨0, 5, -1, 1, 1⟩ else if j = 1 then ⟨1, 7, 0, 2, 0⟩ else zeE := by
  unfold x3 hoE setE
  by_cases h : j = 1
  · subst h; rfl
  · simp [h, x2_at]
theorem x4_at (j : Nat) : x4 j = if j = 0 then ⟨0, 5, -1, 1, 2⟩ else if j = 1 then ⟨1, 7, 0, 2, 0⟩ else if j = 2 then ⟨1, 8, 0, 1, 0⟩ else zeE := by
  unfold x4 adE kdE
  rw [if_neg (by decide)]
  unfold setE
  by_cases h : j = 0
  · subst h; rfl
  · by_cases h2 : j = 2
    · subst h2; rfl
    · simp [h, h2, x3_at]
theorem wput1 : PutR e0 0 0 5 (-1) 0 0 x1 1 := PutR.more 0 (by decide) (Or.inl rfl) (fun j _ h => by rw [e0_lv] at h; cases h) (by decide) (by decide) rfl (fun j hj => by omega)
theorem wput2 : PutR x1 1 1 7 0 1 0 x2 2 := PutR.more 1 (by decide) (Or.inr ⟨0, rfl, by decide, rfl, by decide, by decide⟩) (fun j _ h => by
  rw [x1_at] at h ⊢
  by_cases e : j = 0
  · subst e; decide
  · rw [if_neg e] at h; cases h) (by decide) (by decide) rfl (fun j hj => by rcases (show j = 0 from Nat.lt_one_iff.1 hj) with rfl; rfl)
theorem wput3 : PutR x2 2 1 7 0 1 0 x3 2 := PutR.again 1 (by decide) (Or.inr ⟨0, rfl, by decide, rfl, by decide, by decide⟩) (by decide) rfl ⟨rfl, rfl, rfl⟩
theorem wput4 : PutR x3 2 1 8 0 2 0 x4 3 := PutR.more 2 (by decide) (Or.inr ⟨0, rfl, by decide, rfl, by decide, by decide⟩) (fun j _ h => by
  rw [x3_at] at h ⊢
  by_cases e : j = 0
  · subst e; decide
  · by_cases e2 : j = 1
    · subst e2; decide
    · rw [if_neg e, if_neg e2] at h; cases h) (by decide) (by decide) rfl (fun j hj => by
      rcases (show j = 0 ∨ j = 1 by omega) with rfl | rfl <;> rfl)
theorem way4 : IsWay x4 2 [(0, 5), (1, 8)] := IsWay.some 2 [(0, 5)] (by decide) rfl (IsWay.some 0 [] (by decide) rfl IsWay.none)
theorem biv0 : BIv e0 (-1) 0 0 := BIv.empty
theorem biv1 : BIv x1 (-1) 1 1 := wput1.iv biv0 (by decide)
theorem biv2 : BIv x2 (-1) 2 2 := wput2.iv biv1 (by decide)
theorem biv3 : BIv x3 (-1) 2 3 := wput3.iv biv2 (by decide)
theorem biv4 : BIv x4 (-1) 3 4 := wput4.iv biv3 (by decide)
/-- Put, where it is known what it tells. -/
theorem put_is (b : Nat) (s p q : Int) (c : Nat → Ent) (m : Nat) (B : Int) (w : World) (id er : Int) (d : Nat → Ent) (n : Nat) (h : Bu b c (m : Int) w) (hI : BIv c (-1) m B) (hB : B ≤ 2305843009213693952) (hR : PutR c m s p q id er d n) : Calls Try.prog 10 #[.pointer (some ⟨b, 0, none⟩), .int .i64 s, .int .i64 p, .int .i64 q] w fun e w' => e = .returned (.tuple #[.int .i64 id, .int .i64 er]) ∧ Bu b d (n : Int) w' ∧ Kp [b] w w' := by
  refine (put_any b s p q c m B w h hI hB).mono ?_
  rintro e w' ⟨id', er', d', n', rfl, hr, hb, hk⟩
  obtain ⟨rfl, rfl, rfl, rfl⟩ := PutR.one hR (unhide hr) hI
  exact ⟨rfl, hb, hk⟩
theorem lit4 (w : World) : PrAt (w.alloc (.cells #[.int .i64 0, .int .i64 5, .int .i64 1, .int .i64 8] 41)) (.slice (some ⟨w.heap.size, 0, none⟩) 2 2) [(0, 5), (1, 8)] := by
  have h := CBox.new w #[.int .i64 0, .int .i64 5, .int .i64 1, .int .i64 8] 41
  refine ⟨_, _, rfl, fun i hi => ⟨_, rfl, ?_⟩⟩
  match i, hi with
  | 0, _ => exact ⟨h.cell rfl, h.cell rfl⟩
  | 1, _ => exact ⟨h.cell rfl, h.cell rfl⟩
set_option maxHeartbeats 1000000 in
set_option maxRecDepth 100000 in
theorem bworks_any (w : World) : Calls Try.prog 23 #[] w fun e w' => e = .returned (.bool true) ∧ Kp [] w w' := by
  have NW := hide (buNew_any w)
  go_enter Try.func23, Try.ntmps23
  go_wp2_with fail
  refine (unhide NW).mono ?_
  rintro r w1 ⟨rfl, hb1, hk1⟩
  have P1 := hide (put_is w.heap.size 0 5 (-1) e0 0 0 w1 0 0 x1 1 hb1 biv0 (by decide) wput1)
  have HK1 := hide hk1
  clear NW hb1 hk1
  go_wp2_with fail
  refine (unhide P1).mono ?_
  rintro r w2 ⟨rfl, hb2, hk2⟩
  have P2 := hide (put_is w.heap.size 1 7 0 x1 1 1 w2 1 0 x2 2 hb2 biv1 (by decide) wput2)
  have HK2 : Hid (Kp [] w w2) := hide ((unhide HK1).trans hk2 (by simp))
  clear P1 hb2 hk2 HK1
  go_wp2_with fail
  refine (unhide P2).mono ?_
  rintro r w3 ⟨rfl, hb3, hk3⟩
  have P3 := hide (put_is w.heap.size 1 7 0 x2 2 2 w3 1 0 x3 2 hb3 biv2 (by decide) wput3)
  have HK3 : Hid (Kp [] w w3) := hide ((unhide HK2).trans hk3 (by simp))
  clear P2 hb3 hk3 HK2
  go_wp2_with fail
  refine (unhide P3).mono ?_
  rintro r w4 ⟨rfl, hb4, hk4⟩
  have P4 := hide (put_is w.heap.size 1 8 0 x3 2 3 w4 2 0 x4 3 hb4 biv3 (by decide) wput4)
  have HK4 : Hid (Kp [] w w4) := hide ((unhide HK3).trans hk4 (by simp))
  clear P3 hb4 hk4 HK3
  go_wp2_with fail
  refine (unhide P4).mono ?_
  rintro r w5 ⟨rfl, hb5, hk5⟩
  have P5 := hide (buCount_ok w.heap.size 0 (by decide) x4 3 w5 hb5 (biv4.sml (by decide)) rfl)
  rw [show (x4 0).h + (x4 0).k = 3 from rfl] at P5
  have HB5 := hide hb5
  have HK5 : Hid (Kp [] w w5) := hide ((unhide HK4).trans hk5 (by simp))
  clear P4 hb5 hk5 HK4
  go_wp2_with fail
  refine (unhide P5).mono ?_
  rintro r w6 ⟨rfl, hk6⟩
  have P6 := hide (buWay_ok w.heap.size 2 (by decide) x4 3 4 w6 ((unhide HB5).kp hk6 (by simp)) biv4 (by decide) rfl)
  have HK6 : Hid (Kp [] w w6) := hide ((unhide HK5).trans hk6 (by simp))
  clear P5 hk6 HK5 HB5
  go_wp2_with fail
  refine (unhide P6).mono ?_
  rintro r w7 ⟨l, v, rfl, hw, _, ho, hk7⟩
  obtain rfl := IsWay.one (unhide hw) way4
  have HK7 : Hid (Kp [] w w7) := hide ((unhide HK6).trans hk7 (by simp))
  have WS := hide (ways_any v _ [(0, 5), (1, 8)] [(0, 5), (1, 8)] (w7.alloc (.cells #[.int .i64 0, .int .i64 5, .int .i64 1, .int .i64 8] 41)) (ho.read.kp0 (Kp.alloc _ _)) (lit4 w7) (by decide) true (by simp))
  clear P6 hk7 HK6 ho hw
  go_wp2_with fail
  refine (unhide WS).mono ?_
  rintro r w8 ⟨rfl, hk8⟩
  have HK8 : Hid (Kp [] w w8) := hide (((unhide HK7).trans (Kp.alloc _ _) (by simp)).trans hk8 (by simp))
  clear WS hk8
  go_wp2_with fail
  go_ret
  exact ⟨rfl, unhide HK8⟩
end Go.Proofs.Ythdfaidjdddagaa
namespace Go.Proofs.Ythdfaidjdddagaa
open Go.RowKit

/-- An entry with this key is there. -/
def Ky (c : Nat → Ent) (s p q : Int) (i : Nat) : Prop := i < 4096 ∧ lvE (c i) = true ∧ (c i).s = s ∧ (c i).p = p ∧ (c i).q = q
theorem Ky.key {c : Nat → Ent} {s p q s' p' q' : Int} {i : Nat} (h : Ky c s p q i) (k : Ky c s' p' q' i) : s = s' ∧ p = p' ∧ q = q' :=
  ⟨h.2.2.1.symm.trans k.2.2.1, h.2.2.2.1.symm.trans k.2.2.2.1, h.2.2.2.2.symm.trans k.2.2.2.2⟩
theorem Ky.one {c : Nat → Ent} {m : Nat} {B s p q : Int} {i j : Nat} (hI : BIv c (-1) m B) (h : Ky c s p q i) (k : Ky c s p q j) : i = j :=
  hI.one i j h.1 k.1 (prE_lv _ h.2.1) (prE_lv _ k.2.1) (by rw [h.2.2.1, k.2.2.1]) (by rw [h.2.2.2.1, k.2.2.2.1]) (by rw [h.2.2.2.2, k.2.2.2.2])
theorem adE_at {c : Nat → Ent} {i : Nat} {s p q : Int} (hv : lvE (c i) = false) (hq : ParOk c s p q) : adE c i s p q i = ⟨s, p, q, 1, 0⟩ := by
  unfold adE
  split
  · exact setE_same _ _ _
  · rename_i hq1
    unfold kdE
    rw [setE_ne _ _ (fun e => ?_), setE_same]
    rcases hq with h1 | ⟨j, h1, h2, h3, _⟩
    · exact hq1 h1
    · obtain rfl : i = j := by omega
      rw [hv] at h3; cases h3
theorem adE_ne {c : Nat → Ent} {i a : Nat} {s p q : Int} (hq : ParOk c s p q) (ha : a ≠ i) : (adE c i s p q a).s = (c a).s ∧ (adE c i s p q a).p = (c a).p ∧ (adE c i s p q a).q = (c a).q ∧ (adE c i s p q a).h = (c a).h ∧ lvE (adE c i s p q a) = lvE (c a) := by
  unfold adE
  split
  · rw [setE_ne _ _ ha]; exact ⟨rfl, rfl, rfl, rfl, rfl⟩
  · rename_i hq1
    unfold kdE
    by_cases e : a = q.toNat
    · rw [e, setE_same, setE_ne _ _ (by rw [← e]; exact ha)]
      refine ⟨rfl, rfl, rfl, rfl, ?_⟩
      rcases hq with h1 | ⟨j, h1, h2, h3, _⟩
      · exact absurd h1 hq1
      · have : q.toNat = j := by omega
        rw [this, h3, lvE_iff]
        rw [lvE_iff] at h3
        show 0 < (c j).h + ((c j).k + 1)
        omega
    · rw [setE_ne _ _ e, setE_ne _ _ ha]; exact ⟨rfl, rfl, rfl, rfl, rfl⟩
theorem hoE_all (c : Nat → Ent) (i a : Nat) (hv : lvE (c i) = true) : (hoE c i a).s = (c a).s ∧ (hoE c i a).p = (c a).p ∧ (hoE c i a).q = (c a).q ∧ (hoE c i a).k = (c a).k ∧ lvE (hoE c i a) = lvE (c a) := by
  unfold hoE
  by_cases e : a = i
  · subst e
    rw [setE_same]
    refine ⟨rfl, rfl, rfl, rfl, ?_⟩
    rw [hv, lvE_iff]
    rw [lvE_iff] at hv
    show 0 < (c a).h + 1 + (c a).k
    omega
  · rw [setE_ne _ _ e]; exact ⟨rfl, rfl, rfl, rfl, rfl⟩
/-- Put of what may be put, where there is room. -/
theorem PutR.ok {c d : Nat → Ent} {m n : Nat} {s p q id er : Int} (h : PutR c m s p q id er d n) (hr : 0 ≤ s ∧ s < 8 ∧ 0 ≤ p ∧ p ≤ 1073741824) (hq : ParOk c s p q) (hm : m < 4096) :
    er = 0 ∧ ∃ i : Nat, id = (i : Int) ∧ Ky d s p q i ∧ (∀ s' p' q' j, Ky d s' p' q' j ↔ Ky c s' p' q' j ∨ (j = i ∧ s' = s ∧ p' = p ∧ q' = q)) ∧ ((n = m ∧ Ky c s p q i) ∨ (n = m + 1 ∧ ∀ j, ¬ Ky c s p q j)) := by
  cases h with
  | range a => exact absurd hr a
  | ref _ a1 a2 => exact (hq.ref a1 a2).elim
  | bad j _ a1 _ _ a4 => exact (hq.bad a1 a4).elim
  | full _ _ _ a => omega
  | again i _ _ a2 a3 a4 =>
    have hk : Ky c s p q i := ⟨a2, a3, a4⟩
    have key : ∀ s' p' q' j, Ky (hoE c i) s' p' q' j ↔ Ky c s' p' q' j := fun s' p' q' j => by
      obtain ⟨e1, e2, e3, _, e5⟩ := hoE_all c i j a3
      unfold Ky
      rw [e1, e2, e3, e5]
    refine ⟨rfl, i, rfl, (key _ _ _ _).2 hk, fun s' p' q' j => ?_, Or.inl ⟨rfl, hk⟩⟩
    rw [key]
    refine ⟨Or.inl, fun h => h.elim (fun h => h) fun ⟨h1, h2, h3, h4⟩ => ?_⟩
    rw [h1, h2, h3, h4]
    exact hk
  | more i _ _ a2 _ a4 a5 a6 =>
    have hat := adE_at (s := s) (p := p) (q := q) a5 hq
    have hk : Ky (adE c i s p q) s p q i := ⟨a4, by rw [hat]; rfl, by rw [hat], by rw [hat], by rw [hat]⟩
    refine ⟨rfl, i, rfl, hk, fun s' p' q' j => ?_, Or.inr ⟨rfl, fun j hj => a2 j hj.1 hj.2.1 hj.2.2⟩⟩
    by_cases e : j = i
    · subst e
      constructor
      · intro h
        obtain ⟨h1, h2, h3⟩ := h.key hk
        exact Or.inr ⟨rfl, h1, h2, h3⟩
      · rintro (h | ⟨_, h2, h3, h4⟩)
        · have := h.2.1
          rw [a5] at this; cases this
        · rw [h2, h3, h4]; exact hk
    · obtain ⟨e1, e2, e3, _, e5⟩ := adE_ne (s := s) (p := p) hq e
      unfold Ky
      rw [e1, e2, e3, e5]
      exact ⟨Or.inl, fun h => h.elim id fun h => absurd h.1 e⟩
/-- What was seen is what is there: chains of one, and of two. -/
structure ShI (c : Nat → Ent) (S : List (Int × Int)) : Prop where
  a : ∀ f, (f, -1) ∈ S ↔ ∃ i, Ky c 0 f (-1) i
  b : ∀ f g, g ≠ -1 → ((f, g) ∈ S ↔ ∃ i j : Nat, Ky c 0 f (-1) i ∧ Ky c 1 g (i : Int) j)
theorem ShI.empty : ShI (fun _ => zeE) [] where
  a := fun f => ⟨(fun h => by cases h), (fun ⟨i, h⟩ => by have := h.2.1; cases this)⟩
  b := fun f g _ => ⟨(fun h => by cases h), (fun ⟨i, j, h, _⟩ => by have := h.2.1; cases this)⟩
/-- Who is a parent is there. -/
theorem Ky.par {c : Nat → Ent} {m : Nat} {B s p : Int} {i j : Nat} (hI : BIv c (-1) m B) (h : Ky c s p (i : Int) j) : i < 4096 ∧ lvE (c i) = true := by
  rcases hI.par j h.1 (prE_lv _ h.2.1) with h1 | ⟨k, h1, h2, h3, _⟩
  · rw [h.2.2.2.2] at h1; omega
  · have : k = i := by rw [h.2.2.2.2] at h1; omega
    subst this
    exact ⟨h2, lv_kids hI h2 h3⟩
/-- Two more Puts. -/
theorem ShI.step {c c1 c2 : Nat → Ent} {S S' : List (Int × Int)} {m n1 n2 i j : Nat} {B f g : Int} (h : ShI c S) (hI : BIv c (-1) m B) (hI1 : BIv c1 (-1) n1 (B + 1)) (hg : g ≠ -1)
    (k1 : Ky c1 0 f (-1) i) (a1 : ∀ s' p' q' j, Ky c1 s' p' q' j ↔ Ky c s' p' q' j ∨ (j = i ∧ s' = 0 ∧ p' = f ∧ q' = -1)) (m1 : (n1 = m ∧ Ky c 0 f (-1) i) ∨ (n1 = m + 1 ∧ ∀ j, ¬ Ky c 0 f (-1) j))
    (k2 : Ky c2 1 g (i : Int) j) (a2 : ∀ s' p' q' x, Ky c2 s' p' q' x ↔ Ky c1 s' p' q' x ∨ (x = j ∧ s' = 1 ∧ p' = g ∧ q' = (i : Int))) (m2 : (n2 = n1 ∧ Ky c1 1 g (i : Int) j) ∨ (n2 = n1 + 1 ∧ ∀ x, ¬ Ky c1 1 g (i : Int) x))
    (hS : ∀ x, x ∈ S' ↔ (x ∈ S ∨ x = (f, -1)) ∨ x = (f, g)) :
    ShI c2 S' ∧ (n1 = if (f, -1) ∈ S then m else m + 1) ∧ (n2 = if (f, g) ∈ S then n1 else n1 + 1) ∧ IsWay c2 (j : Int) [(0, f), (1, g)] := by
  have q0 : ∀ f' x, Ky c2 0 f' (-1) x ↔ Ky c 0 f' (-1) x ∨ (x = i ∧ f' = f) := fun f' x => by
    rw [a2, a1]
    constructor
    · rintro ((h | ⟨h1, _, h2, _⟩) | ⟨_, h, _⟩)
      · exact Or.inl h
      · exact Or.inr ⟨h1, h2⟩
      · exact absurd h (by decide)
    · rintro (h | ⟨h1, h2⟩)
      · exact Or.inl (Or.inl h)
      · exact Or.inl (Or.inr ⟨h1, rfl, h2, rfl⟩)
  have q1 : ∀ g' (y : Int) z, Ky c1 1 g' y z ↔ Ky c 1 g' y z := fun g' y z => by
    rw [a1]
    constructor
    · rintro (h | ⟨_, h, _⟩)
      · exact h
      · exact absurd h (by decide)
    · exact Or.inl
  have q2 : ∀ g' (y : Int) z, Ky c2 1 g' y z ↔ Ky c 1 g' y z ∨ (z = j ∧ g' = g ∧ y = (i : Int)) := fun g' y z => by
    rw [a2, q1]
    constructor
    · rintro (h | ⟨h1, _, h2, h3⟩)
      · exact Or.inl h
      · exact Or.inr ⟨h1, h2, h3⟩
    · rintro (h | ⟨h1, h2, h3⟩)
      · exact Or.inl h
      · exact Or.inr ⟨h1, rfl, h2, h3⟩
  -- one that has a child was there already
  have old : ∀ g' z, Ky c 1 g' (i : Int) z → Ky c 0 f (-1) i := fun g' z hz => by
    obtain ⟨hi, hl⟩ := hz.par hI
    have hc : Ky c (c i).s (c i).p (c i).q i := ⟨hi, hl, rfl, rfl, rfl⟩
    obtain ⟨e1, e2, e3⟩ := ((a1 _ _ _ _).2 (Or.inl hc)).key k1
    exact ⟨hi, hl, e1, e2, e3⟩
  have sb : (f, g) ∈ S ↔ ∃ z, Ky c 1 g (i : Int) z := by
    rw [h.b f g hg]
    constructor
    · rintro ⟨x, z, hx, hz⟩
      have e : x = i := Ky.one hI1 ((a1 _ _ _ _).2 (Or.inl hx)) k1
      subst e
      exact ⟨z, hz⟩
    · rintro ⟨z, hz⟩
      exact ⟨i, z, old g z hz, hz⟩
  refine ⟨⟨fun f' => ?_, fun f' g' hg' => ?_⟩, ?_, ?_, ?_⟩
  · rw [hS]
    constructor
    · rintro ((h1 | h1) | h1)
      · obtain ⟨x, hx⟩ := (h.a f').1 h1
        exact ⟨x, (q0 _ _).2 (Or.inl hx)⟩
      · simp at h1
        exact ⟨i, (q0 _ _).2 (Or.inr ⟨rfl, h1⟩)⟩
      · simp at h1
        exact absurd h1.2.symm hg
    · rintro ⟨x, hx⟩
      rcases (q0 _ _).1 hx with h1 | ⟨_, h1⟩
      · exact Or.inl (Or.inl ((h.a f').2 ⟨x, h1⟩))
      · exact Or.inl (Or.inr (by rw [h1]))
  · rw [hS]
    constructor
    · rintro ((h1 | h1) | h1)
      · obtain ⟨x, z, hx, hz⟩ := (h.b f' g' hg').1 h1
        exact ⟨x, z, (q0 _ _).2 (Or.inl hx), (q2 _ _ _).2 (Or.inl hz)⟩
      · simp at h1
        exact absurd h1.2 hg'
      · simp at h1
        exact ⟨i, j, (q0 _ _).2 (Or.inr ⟨rfl, h1.1⟩), (q2 _ _ _).2 (Or.inr ⟨rfl, h1.2, rfl⟩)⟩
    · rintro ⟨x, z, hx, hz⟩
      rcases (q0 _ _).1 hx with h1 | ⟨h1, h2⟩
      · rcases (q2 _ _ _).1 hz with h3 | ⟨_, h4, h5⟩
        · exact Or.inl (Or.inl ((h.b f' g' hg').2 ⟨x, z, h1, h3⟩))
        · have e : x = i := by omega
          subst e
          have := ((a1 _ _ _ _).2 (Or.inl h1)).key k1
          exact Or.inr (by rw [this.2.1, h4])
      · subst h1
        rcases (q2 _ _ _).1 hz with h3 | ⟨_, h4, _⟩
        · exact Or.inl (Or.inl ((h.b f' g' hg').2 ⟨x, z, by rw [h2]; exact old g' z h3, h3⟩))
        · exact Or.inr (by rw [h2, h4])
  · rcases m1 with ⟨e, hk⟩ | ⟨e, hk⟩
    · rw [if_pos ((h.a f).2 ⟨i, hk⟩)]; exact e
    · rw [if_neg (fun hm => by obtain ⟨x, hx⟩ := (h.a f).1 hm; exact hk x hx)]; exact e
  · rcases m2 with ⟨e, hk⟩ | ⟨e, hk⟩
    · rw [if_pos (sb.2 ⟨j, (q1 _ _ _).1 hk⟩)]; exact e
    · rw [if_neg (fun hm => by obtain ⟨x, hx⟩ := sb.1 hm; exact hk x ((q1 _ _ _).2 hx))]; exact e
  · have e1 : Ky c2 0 f (-1) i := (a2 _ _ _ _).2 (Or.inl k1)
    have w1 := IsWay.some i [] e1.1 e1.2.1 (by rw [e1.2.2.2.2]; exact IsWay.none)
    have w2 := IsWay.some j _ k2.1 k2.2.1 (by rw [k2.2.2.2.2]; exact w1)
    rw [e1.2.2.1, e1.2.2.2.1, k2.2.2.1, k2.2.2.2.1] at w2
    exact w2
end Go.Proofs.Ythdfaidjdddagaa
