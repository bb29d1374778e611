/-
  A buffer: the way of an entry.
  A number from 0 to n - 1: the plain fact.
  A buffer: the chapter's example; a number from 0 on.
  A chain of entries, plainly: each behind the one ahead; put, dropped, swept. Of no program.
  A slice of numbers: they lie where it says.
-/
import Derived.Test.YthdfaidjdddagaaH06
import Derived.Test.YthdfaidjdddagaaH01
import Derived.Test.YthdfaidjdddagaaH04
import Derived.Test.YthdfaidjdddagaaChecked
import Derived.WalkLawsBesides
namespace Go.Proofs.Ythdfaidjdddagaa
open Go.RowKit

set_option maxHeartbeats 1000000 in
set_option maxRecDepth 100000 in
theorem buWay_not (b : Nat) (id : Int) (c : Nat → Ent) (m : Int) (w : World) (h : Bu b c m w) (hS : Sml c) (hn : hasE c id = false) : Calls Try.prog 16 #[.pointer (some ⟨b, 0, none⟩), .int .i64 id] w fun e w' => e = .returned (.tuple #[.slice none 0 0, .int .i64 160]) ∧ Kp [] w w' := by
  have HA := hide (has_any b id c m w h hS)
  rw [hn] at HA
  clear h hn
  go_enter Try.func16, Try.ntmps16
  go_wp2_with fail
  refine (unhide HA).mono ?_
  rintro r w1 ⟨rfl, HK1⟩
  have HK1 := hide HK1
  clear HA
  go_wp2_with fail
  go_ret2
  exact ⟨rfl, unhide HK1⟩
theorem own_kp {F : List Nat} {B : Nat} {w w' : World} {e : TypeId} {sz n : Nat} {v : Value} {xs : List Value} (h : w.ownsRow B e sz v n xs) (hk : Kp F w w') (hF : ∀ b, v.ownBlock = some b → b ∉ F) : w'.ownsRow B e sz v n xs := by
  obtain ⟨h0, ⟨rfl, h1⟩ | ⟨g, cap, cur, rfl, hg, hh, h2⟩⟩ := h
  · exact ⟨h0, Or.inl ⟨rfl, h1⟩⟩
  · exact ⟨h0, Or.inr ⟨g, cap, cur, rfl, hg, (hk.block g (Array.getElem?_eq_some_iff.1 hh).1 (hF g rfl)).trans hh, h2⟩⟩
theorem own_ge {B : Nat} {w : World} {e : TypeId} {sz n : Nat} {v : Value} {xs : List Value} (h : w.ownsRow B e sz v n xs) : ∀ b, v.ownBlock = some b → B ≤ b := by
  obtain ⟨h0, ⟨rfl, h1⟩ | ⟨g, cap, cur, rfl, hg, hh, h2⟩⟩ := h
  · intro b hb; cases hb
  · intro b hb; simp [Value.ownBlock] at hb; omega
set_option maxHeartbeats 1000000 in
set_option maxRecDepth 100000 in
theorem buWay_ok (b i : Nat) (hi : i < 4096) (c : Nat → Ent) (m : Nat) (B : Int) (w : World) (h : Bu b c (m : Int) w) (hI : BIv c (-1) m B) (hB : B ≤ 2305843009213693952) (hv : lvE (c i) = true) : Calls Try.prog 16 #[.pointer (some ⟨b, 0, none⟩), .int .i64 (i : Int)] w fun e w' => ∃ (l : List (Int × Int)) (v : Value), e = .returned (.tuple #[v, .int .i64 0]) ∧ Hid (IsWay c (i : Int) l) ∧ l.length ≤ 1073741825 ∧ OwP w.heap.size w' v l ∧ Kp [] w w' := by
  have HA := hide (has_any b (i : Int) c m w h (hI.sml hB))
  rw [hasE_nat c i hi, hv] at HA
  have HU := hide h
  have HI := hide hI
  have HV := hide hv
  have hbw := h.lt
  clear h hI hv hB
  go_enter Try.func16, Try.ntmps16
  go_wp2_with fail
  refine (unhide HA).mono ?_
  rintro r w1 ⟨rfl, HK1⟩
  have HK1 := hide HK1
  clear HA
  go_wp2_with fail
  go_loopw [1, 6] (fun x v wr => ∃ (q : Int) (r : List (Int × Int)), x = .int .i64 q ∧ r.length ≤ 1073741825 ∧ Hid (q = -1 ∧ r ≠ [] ∨ ∃ j : Nat, q = (j : Int) ∧ j < 4096 ∧ lvE (c j) = true ∧ (c j).p + (r.length : Int) ≤ 1073741824) ∧ Hid (∀ l, IsWay c q l → IsWay c (i : Int) (l ++ r.reverse)) ∧ Hid (OwP w.heap.size wr v r) ∧ Hid (Kp [] w wr)) (fun x _ _ => if intOf x = -1 then 0 else ((c (intOf x).toNat).p + 1).toNat)
  case atStart => exact ⟨i, [], rfl, by simp, hide (Or.inr ⟨i, rfl, hi, unhide HV, by simpa using ((unhide HI).rng i hi (prE_lv _ (unhide HV))).2.2.2⟩), hide (fun l hl => by simpa using hl), hide (OwP.nil _ _), HK1⟩
  case round =>
    clear HK1
    obtain ⟨q, r, rfl, hrl, HQ, HW, HO, HK⟩ := hrel
    by_cases hq : q = -1
    · have hr : r ≠ [] := by
        rcases unhide HQ with ⟨_, h⟩ | ⟨j, h, _⟩
        · exact h
        · omega
      subst hq
      obtain ⟨g, cap, rfl, hg, hf⟩ := OwP.at (unhide HO) hr
      have RV := hide (reverse_any g r.length cap _ wr hf (by omega))
      have HR := hide hr
      clear hr hf
      go_wp2_with fail
      refine (unhide RV).mono ?_
      rintro rr w2 ⟨rfl, hf2, hk2⟩
      have HF2 := hide hf2
      have HK2 : Hid (Kp [] w w2) := hide ((unhide HK).trans hk2 (by simp; omega))
      clear hf2 hk2 RV
      go_wp2_with fail
      go_ret2
      refine ⟨r.reverse, _, rfl, hide (by simpa using unhide HW [] IsWay.none), by simpa using hrl, ?_, unhide HK2⟩
      have e := OwP.of (B := w.heap.size) (l := r.reverse) (by rw [List.length_reverse]; exact unhide HF2) (fun k hk => by
        rw [List.getElem_reverse]
        have hk' : r.length - 1 - k < r.length := by simp at hk; omega
        simp only [List.getD_eq_getElem?_getD, List.getElem?_eq_getElem hk', Option.getD_some]) hg
      rw [List.length_reverse] at e
      exact e
    · obtain ⟨j, rfl, hj, hvj, hpj⟩ : ∃ j : Nat, q = (j : Int) ∧ j < 4096 ∧ lvE (c j) = true ∧ (c j).p + (r.length : Int) ≤ 1073741824 := by
        rcases unhide HQ with ⟨h, _⟩ | h
        · exact absurd h hq
        · exact h
      have hjj : (j : Int) < 4096 := by omega
      have bu := (unhide HU).kp (unhide HK) (by simp)
      have bu := hide bu
      obtain ⟨hs1, hs2, hp1, hp2⟩ := (unhide HI).rng j hj (prE_lv _ hvj)
      have s1 := (unhide bu).s j hj
      have s2 := (unhide bu).p j hj
      have s3 := (unhide bu).q j hj
      have hbr : b < wr.heap.size := (unhide bu).lt
      have HPAR := hide ((unhide HI).par j hj (prE_lv _ hvj))
      have HRL : Hid (r.length + 1 ≤ 1073741825) := hide (by omega)
      have HPJ := hide hpj
      have HVJ := hide hvj
      have HWN : Hid (∀ l, IsWay c (c j).q l → IsWay c (i : Int) (l ++ (r ++ [((c j).s, (c j).p)]).reverse)) := hide (fun l hl => by
        have := unhide HW _ (IsWay.some j l hj (unhide HVJ) hl)
        simpa using this)
      have OWN := hide (fun W (hW : Kp [] wr W) => own_kp (w := wr) (w' := W) (B := w.heap.size) (e := 41) (sz := 2) (n := r.length) (xs := prC r) (unhide HO) hW (fun _ _ => by simp))
      have HGE := hide (own_ge (unhide HO))
      obtain ⟨i0, hi0, hz0, hz1, hz2⟩ := info_parts info_pair
      have hb1 : r.length + 1 ≤ maxLen := by unfold maxLen; omega
      have hb2 : (r.length + 1) * 16 ≤ 140737488355328 := by omega
      have hwl : w.heap.size ≤ wr.heap.size := (unhide HK).size
      have HFIN : Hid (∀ (o : Obj) g7 cap7 w7, w7.ownsRow w.heap.size 41 2 (.slice (some ⟨g7, 0, none⟩) (r.length + 1) cap7) (r.length + 1) (prC r ++ [.int .i64 (c j).s, .int .i64 (c j).p]) → (wr.alloc o).drew.grownBy w7 u6.ownBlock → OwP w.heap.size w7 (.slice (some ⟨g7, 0, none⟩) (r.length + 1) cap7) (r ++ [((c j).s, (c j).p)]) ∧ Kp [] w w7 ∧ w7.cell? ⟨b, j * 5 + 2, none⟩ = some (.int .i64 (c j).q)) := hide (fun o g7 cap7 w7 h1 h2 => by
        have k1 : Kp [] w w7 := (((unhide HK).trans (Kp.alloc wr o) (by simp)).trans (Kp.drew _) (by simp)).trans (Kp.of h2) (fun x hx => Or.inr (unhide HGE x (by simpa using hx)))
        refine ⟨?_, k1, ((unhide HU).kp k1 (by simp)).q j hj⟩
        unfold OwP
        rw [prC_snoc, List.length_append]
        exact h1)
      clear hvj hpj
      go_wp2_with fail
      go_region_law
        (refine step_append_lies rfl (.tmp 22) (.tmp 34) 37 rfl w.heap.size 41 i0 (.agg #[.int .i64 0, .int .i64 0]) 2 16 Try.underlying37 hi0 hz0 hz1 hz2 rfl (by decide) u6 r.length (prC r) rfl (unhide OWN _ (by first | exact (Kp.alloc _ _) | exact (Kp.drew _).trans (Kp.alloc _ _) (by simp) | exact (Kp.alloc _ _).trans (Kp.drew _) (by simp))) ⟨wr.heap.size, 0, none⟩ 1 1 [.int .i64 (c j).s, .int .i64 (c j).p] rfl rfl (two_new wr _ rfl _ _ _) (by intro u hu; simp at hu; rcases hu with rfl | rfl <;> rfl) (by omega) hb1 hb2 (by simp; omega) ?_; intro g7 cap7 w7 hown7 hg7 hat7; obtain ⟨own8, kp8, cq8⟩ := unhide HFIN _ g7 cap7 w7 hown7 hg7; have OWN8 := hide own8; have KP8 := hide kp8; clear hown7 hg7 hat7 own8 kp8)
      all_goals
        clear OWN HFIN HO HW s1 s2 s3
        go_wp2_with fail
        go_roundw
        case rel =>
          refine ⟨_, _, rfl, ?_, hide ?_, HWN, ?_, KP8⟩
          · rw [List.length_append]; exact unhide HRL
          · rcases unhide HPAR with h1 | ⟨a, h1, h2, h3, h4, h5⟩
            · exact Or.inl ⟨h1, by simp⟩
            · exact Or.inr ⟨a, h1, h2, lv_kids (unhide HI) h2 h3, by have := unhide HPJ; simp; omega⟩
          · exact OWN8
        case measure =>
          rcases unhide HPAR with h1 | ⟨a, h1, h2, h3, h4, h5⟩
          · simp [intOf, h1]; omega
          · simp [intOf, h1]; omega
end Go.Proofs.Ythdfaidjdddagaa
namespace Go.Proofs.Ythdfaidjdddagaa

theorem among_eq (x n : Int) (hn : 0 < n) : (x.tmod n + n).tmod n = x % n := by
  rcases Int.lt_or_le x 0 with h | h
  · have h1 := Int.tmod_eq_emod (a := x) (b := n)
    have h2 := Int.emod_nonneg x (by omega : n ≠ 0)
    have h3 := Int.emod_lt_of_pos x hn
    by_cases hd : n ∣ x
    · have e : x % n = 0 := Int.emod_eq_zero_of_dvd hd
      rw [h1, if_pos (Or.inr hd), e]
      simp
    · rw [h1, if_neg (by omega), show (n.natAbs : Int) = n by omega, show x % n - n + n = x % n by omega, Int.tmod_eq_emod_of_nonneg h2, Int.emod_emod_of_dvd x (Int.dvd_refl n)]
  · rw [Int.tmod_eq_emod_of_nonneg h, Int.tmod_eq_emod_of_nonneg (by have := Int.emod_nonneg x (by omega : n ≠ 0); omega)]
    simp
end Go.Proofs.Ythdfaidjdddagaa
namespace Go.Proofs.Ythdfaidjdddagaa
open Go.RowKit

theorem buAmong_any (x n : Int) (w : World) (hn : 0 < n) (hn1 : n ≤ 1099511627776) :
    Calls Try.prog 9 #[.int .i64 x, .int .i64 n] w fun e w' => e = .returned (.int .i64 (x % n)) ∧ w' = w := by
  have hne : (n == 0) = false := beq_eq_false_iff_ne.2 (by omega)
  have e1 := among_eq x n hn
  have b1 : -n < x.tmod n := Int.lt_tmod_of_pos x hn
  have b2 : x.tmod n < n := Int.tmod_lt_of_pos x hn
  go_enter Try.func9, Try.ntmps9
  go_wp2
  go_ret
  exact ⟨rfl, rfl⟩
/-- No entries at all. -/
def e0 : Nat → Ent := fun _ => zeE
theorem e0_lv (j : Nat) : lvE (e0 j) = false := rfl
def x1 : Nat → Ent := adE e0 0 0 5 (-1)
def x2 : Nat → Ent := adE x1 1 1 7 0
def x3 : Nat → Ent := hoE x2 1
def x4 : Nat → Ent := adE x3 2 1 8 0
theorem x1_at (j : Nat) : x1 j = if j = 0 then ⟨0, 5, -1, 1, 0⟩ else zeE := rfl
theorem x2_at (j : Nat) : x2 j = if j = 0 then ⟨0, 5, -1, 1, 1⟩ else if j = 1 then ⟨1, 7, 0, 1, 0⟩ else zeE := by
  unfold x2 adE kdE
  rw [if_neg (by decide)]
  unfold setE
  by_cases h : j = 0
  · subst h; rfl
  · simp [h, x1_at]
theorem x3_at (j : Nat) : x3 j = if j = 0 then ⟨0, 5, -1, 1, 1⟩ else if j = 1 then ⟨1, 7, 0, 2, 0⟩ else zeE := by
  unfold x3 hoE setE
  by_cases h : j = 1
  · subst h; rfl
  · simp [h, x2_at]
theorem x4_at (j : Nat) : x4 j = if j = 0 then ⟨0, 5, -1, 1, 2⟩ else if j = 1 then ⟨1, 7, 0, 2, 0⟩ else if j = 2 then ⟨1, 8, 0, 1, 0⟩ else zeE := by
  unfold x4 adE kdE
  rw [if_neg (by decide)]
  unfold setE
  by_cases h : j = 0
  · subst h; rfl
  · by_cases h2 : j = 2
    · subst h2; rfl
    · simp [h, h2, x3_at]
theorem wput1 : PutR e0 0 0 5 (-1) 0 0 x1 1 := PutR.more 0 (by decide) (Or.inl rfl) (fun j _ h => by rw [e0_lv] at h; cases h) (by decide) (by decide) rfl (fun j hj => by omega)
theorem wput2 : PutR x1 1 1 7 0 1 0 x2 2 := PutR.more 1 (by decide) (Or.inr ⟨0, rfl, by decide, rfl, by decide, by decide⟩) (fun j _ h => by
  rw [x1_at] at h ⊢
  by_cases e : j = 0
  · subst e; decide
  · rw [if_neg e] at h; cases h) (by decide) (by decide) rfl (fun j hj => by rcases (show j = 0 from Nat.lt_one_iff.1 hj) with rfl; rfl)
theorem wput3 : PutR x2 2 1 7 0 1 0 x3 2 := PutR.again 1 (by decide) (Or.inr ⟨0, rfl, by decide, rfl, by decide, by decide⟩) (by decide) rfl ⟨rfl, rfl, rfl⟩
theorem wput4 : PutR x3 2 1 8 0 2 0 x4 3 := PutR.more 2 (by decide) (Or.inr ⟨0, rfl, by decide, rfl, by decide, by decide⟩) (fun j _ h => by
  rw [x3_at] at h ⊢
  by_cases e : j = 0
  · subst e; decide
  · by_cases e2 : j = 1
    · subst e2; decide
    · rw [if_neg e, if_neg e2] at h; cases h) (by decide) (by decide) rfl (fun j hj => by
      rcases (show j = 0 ∨ j = 1 by omega) with rfl | rfl <;> rfl)
theorem way4 : IsWay x4 2 [(0, 5), (1, 8)] := IsWay.some 2 [(0, 5)] (by decide) rfl (IsWay.some 0 [] (by decide) rfl IsWay.none)
theorem biv0 : BIv e0 (-1) 0 0 := BIv.empty
theorem biv1 : BIv x1 (-1) 1 1 := wput1.iv biv0 (by decide)
theorem biv2 : BIv x2 (-1) 2 2 := wput2.iv biv1 (by decide)
theorem biv3 : BIv x3 (-1) 2 3 := wput3.iv biv2 (by decide)
theorem biv4 : BIv x4 (-1) 3 4 := wput4.iv biv3 (by decide)
/-- Put, where it is known what it tells. -/
theorem put_is (b : Nat) (s p q : Int) (c : Nat → Ent) (m : Nat) (B : Int) (w : World) (id er : Int) (d : Nat → Ent) (n : Nat) (h : Bu b c (m : Int) w) (hI : BIv c (-1) m B) (hB : B ≤ 2305843009213693952) (hR : PutR c m s p q id er d n) : Calls Try.prog 10 #[.pointer (some ⟨b, 0, none⟩), .int .i64 s, .int .i64 p, .int .i64 q] w fun e w' => e = .returned (.tuple #[.int .i64 id, .int .i64 er]) ∧ Bu b d (n : Int) w' ∧ Kp [b] w w' := by
  refine (put_any b s p q c m B w h hI hB).mono ?_
  rintro e w' ⟨id', er', d', n', rfl, hr, hb, hk⟩
  obtain ⟨rfl, rfl, rfl, rfl⟩ := PutR.one hR (unhide hr) hI
  exact ⟨rfl, hb, hk⟩
theorem lit4 (w : World) : PrAt (w.alloc (.cells #[.int .i64 0, .int .i64 5, .int .i64 1, .int .i64 8] 41)) (.slice (some ⟨w.heap.size, 0, none⟩) 2 2) [(0, 5), (1, 8)] := by
  have h := CBox.new w #[.int .i64 0, .int .i64 5, .int .i64 1, .int .i64 8] 41
  refine ⟨_, _, rfl, fun i hi => ⟨_, rfl, ?_⟩⟩
  match i, hi with
  | 0, _ => exact ⟨h.cell rfl, h.cell rfl⟩
  | 1, _ => exact ⟨h.cell rfl, h.cell rfl⟩
set_option maxHeartbeats 1000000 in
set_option maxRecDepth 100000 in
theorem bworks_any (w : World) : Calls Try.prog 23 #[] w fun e w' => e = .returned (.bool true) ∧ Kp [] w w' := by
  have NW := hide (buNew_any w)
  go_enter Try.func23, Try.ntmps23
  go_wp2_with fail
  refine (unhide NW).mono ?_
  rintro r w1 ⟨rfl, hb1, hk1⟩
  have P1 := hide (put_is w.heap.size 0 5 (-1) e0 0 0 w1 0 0 x1 1 hb1 biv0 (by decide) wput1)
  have HK1 := hide hk1
  clear NW hb1 hk1
  go_wp2_with fail
  refine (unhide P1).mono ?_
  rintro r w2 ⟨rfl, hb2, hk2⟩
  have P2 := hide (put_is w.heap.size 1 7 0 x1 1 1 w2 1 0 x2 2 hb2 biv1 (by decide) wput2)
  have HK2 : Hid (Kp [] w w2) := hide ((unhide HK1).trans hk2 (by simp))
  clear P1 hb2 hk2 HK1
  go_wp2_with fail
  refine (unhide P2).mono ?_
  rintro r w3 ⟨rfl, hb3, hk3⟩
  have P3 := hide (put_is w.heap.size 1 7 0 x2 2 2 w3 1 0 x3 2 hb3 biv2 (by decide) wput3)
  have HK3 : Hid (Kp [] w w3) := hide ((unhide HK2).trans hk3 (by simp))
  clear P2 hb3 hk3 HK2
  go_wp2_with fail
  refine (unhide P3).mono ?_
  rintro r w4 ⟨rfl, hb4, hk4⟩
  have P4 := hide (put_is w.heap.size 1 8 0 x3 2 3 w4 2 0 x4 3 hb4 biv3 (by decide) wput4)
  have HK4 : Hid (Kp [] w w4) := hide ((unhide HK3).trans hk4 (by simp))
  clear P3 hb4 hk4 HK3
  go_wp2_with fail
  refine (unhide P4).mono ?_
  rintro r w5 ⟨rfl, hb5, hk5⟩
  have P5 := hide (buCount_ok w.heap.size 0 (by decide) x4 3 w5 hb5 (biv4.sml (by decide)) rfl)
  rw [show (x4 0).h + (x4 0).k = 3 from rfl] at P5
  have HB5 := hide hb5
  have HK5 : Hid (Kp [] w w5) := hide ((unhide HK4).trans hk5 (by simp))
  clear P4 hb5 hk5 HK4
  go_wp2_with fail
  refine (unhide P5).mono ?_
  rintro r w6 ⟨rfl, hk6⟩
  have P6 := hide (buWay_ok w.heap.size 2 (by decide) x4 3 4 w6 ((unhide HB5).kp hk6 (by simp)) biv4 (by decide) rfl)
  have HK6 : Hid (Kp [] w w6) := hide ((unhide HK5).trans hk6 (by simp))
  clear P5 hk6 HK5 HB5
  go_wp2_with fail
  refine (unhide P6).mono ?_
  rintro r w7 ⟨l, v, rfl, hw, _, ho, hk7⟩
  obtain rfl := IsWay.one (unhide hw) way4
  have HK7 : Hid (Kp [] w w7) := hide ((unhide HK6).trans hk7 (by simp))
  have WS := hide (ways_any v _ [(0, 5), (1, 8)] [(0, 5), (1, 8)] (w7.alloc (.cells #[.int .i64 0, .int .i64 5, .int .i64 1, .int .i64 8] 41)) (ho.read.kp0 (Kp.alloc _ _)) (lit4 w7) (by decide) true (by simp))
  clear P6 hk7 HK6 ho hw
  go_wp2_with fail
  refine (unhide WS).mono ?_
  rintro r w8 ⟨rfl, hk8⟩
  have HK8 : Hid (Kp [] w w8) := hide (((unhide HK7).trans (Kp.alloc _ _) (by simp)).trans hk8 (by simp))
  clear WS hk8
  go_wp2_with fail
  go_ret
  exact ⟨rfl, unhide HK8⟩
end Go.Proofs.Ythdfaidjdddagaa
namespace Go.Proofs.Ythdfaidjdddagaa
open Go.RowKit

/-- A chain's first t entries: their stages and places, and how often each is held. -/
def chX (l : List (Int × Int)) (t : Nat) (H : Nat → Int) : Nat → Ent := fun j => if j < t then ⟨(l.getD j (0, 0)).1, (l.getD j (0, 0)).2, (j : Int) - 1, H j, if j + 1 < t then 1 else 0⟩ else zeE
theorem chX_in (l : List (Int × Int)) (t : Nat) (H : Nat → Int) (j : Nat) (h : j < t) : chX l t H j = ⟨(l.getD j (0, 0)).1, (l.getD j (0, 0)).2, (j : Int) - 1, H j, if j + 1 < t then 1 else 0⟩ := by unfold chX; rw [if_pos h]
theorem chX_out (l : List (Int × Int)) (t : Nat) (H : Nat → Int) (j : Nat) (h : ¬ j < t) : chX l t H j = zeE := by unfold chX; rw [if_neg h]
theorem chX_zero (l : List (Int × Int)) (H : Nat → Int) : chX l 0 H = fun _ => zeE := funext fun j => chX_out l 0 H j (by omega)
theorem getD_in {l k : List (Int × Int)} {j : Nat} (h : j < l.length) : (l ++ k).getD j (0, 0) = l.getD j (0, 0) := by
  rw [List.getD_eq_getElem?_getD, List.getD_eq_getElem?_getD, List.getElem?_append_left h]
theorem getD_end (l : List (Int × Int)) (x : Int × Int) : (l ++ [x]).getD l.length (0, 0) = x := by
  rw [List.getD_eq_getElem?_getD, List.getElem?_append_right (Nat.le_refl _)]
  simp
/-- All are held once. -/
def one1 : Nat → Int := fun _ => 1
theorem ch_more (l : List (Int × Int)) (s p : Int) : adE (chX l l.length one1) l.length s p ((l.length : Int) - 1) = chX (l ++ [(s, p)]) (l.length + 1) one1 := by
  funext j
  unfold adE
  by_cases h0 : l.length = 0
  · rw [if_pos (by omega)]
    by_cases e : j = l.length
    · subst e
      rw [setE_same, chX_in _ _ _ _ (by omega), getD_end, if_neg (by omega)]; rfl
    · rw [setE_ne _ _ e, chX_out _ _ _ _ (by omega), chX_out _ _ _ _ (by omega)]
  · rw [if_neg (by omega)]
    unfold kdE
    have ht : ((l.length : Int) - 1).toNat = l.length - 1 := by omega
    rw [ht]
    by_cases e1 : j = l.length - 1
    · subst e1
      rw [setE_same, setE_ne _ _ (by omega), chX_in _ _ _ _ (by omega), chX_in _ _ _ _ (by omega), getD_in (by omega), if_neg (by omega), if_pos (by omega)]; rfl
    · rw [setE_ne _ _ e1]
      by_cases e : j = l.length
      · subst e
        rw [setE_same, chX_in _ _ _ _ (by omega), getD_end, if_neg (by omega)]; rfl
      · rw [setE_ne _ _ e]
        by_cases h : j < l.length
        · rw [chX_in _ _ _ _ h, chX_in _ _ _ _ (by omega), getD_in h, if_pos (by omega), if_pos (by omega)]
        · rw [chX_out _ _ _ _ h, chX_out _ _ _ _ (by omega)]
theorem ch_put (l : List (Int × Int)) (s p : Int) (hs : 0 ≤ s ∧ s < 8 ∧ 0 ≤ p ∧ p ≤ 1073741824) (hl : l.length < 4096) (ha : ∀ j, j < l.length → (l.getD j (0, 0)).1 ≤ s ∧ (l.getD j (0, 0)).2 < p) :
    PutR (chX l l.length one1) l.length s p ((l.length : Int) - 1) (l.length : Int) 0 (chX (l ++ [(s, p)]) (l.length + 1) one1) (l.length + 1) := by
  rw [← ch_more]
  refine PutR.more l.length hs ?_ (fun j _ h e => ?_) hl hl ?_ (fun j hj => ?_)
  · by_cases h0 : l.length = 0
    · exact Or.inl (by omega)
    · refine Or.inr ⟨l.length - 1, by omega, by omega, ?_, ?_⟩
      · rw [chX_in _ _ _ _ (by omega), if_neg (by omega)]; rfl
      · rw [chX_in _ _ _ _ (by omega)]
        exact ha _ (by omega)
  · by_cases hj : j < l.length
    · rw [chX_in _ _ _ _ hj] at e
      have e1 := e.2.1
      have := (ha j hj).2
      dsimp only at e1
      omega
    · rw [chX_out _ _ _ _ hj] at h; cases h
  · rw [chX_out _ _ _ _ (by omega)]; rfl
  · rw [chX_in _ _ _ _ hj, lvE_iff]
    show 0 < (1 : Int) + (if j + 1 < l.length then 1 else 0)
    split <;> omega
theorem ch_let (l : List (Int × Int)) (n t : Nat) (H : Nat → Int) (ht : t < n) : lgE (chX l n H) t = chX l n (fun j => if j = t then H t - 1 else H j) := by
  funext j
  unfold lgE
  by_cases e : j = t
  · subst e
    rw [setE_same, chX_in _ _ _ _ ht, chX_in _ _ _ _ ht, if_pos rfl]
  · rw [setE_ne _ _ e]
    by_cases h : j < n
    · rw [chX_in _ _ _ _ h, chX_in _ _ _ _ h, if_neg e]
    · rw [chX_out _ _ _ _ h, chX_out _ _ _ _ h]
/-- The first t have been dropped. -/
def drp (t : Nat) : Nat → Int := fun j => if j < t then 0 else 1
theorem drp_zero : drp 0 = one1 := by funext j; unfold drp one1; rw [if_neg (by omega)]
theorem ch_drop (l : List (Int × Int)) (n t : Nat) (ht : t < n) : lgE (chX l n (drp t)) t = chX l n (drp (t + 1)) := by
  rw [ch_let _ _ _ _ ht]
  congr 1
  funext j
  unfold drp
  by_cases e : j = t
  · subst e; rw [if_pos rfl, if_neg (by omega), if_pos (by omega)]; rfl
  · rw [if_neg e]
    by_cases h : j < t
    · rw [if_pos h, if_pos (by omega)]
    · rw [if_neg h, if_neg (by omega)]
theorem ch_stays (l : List (Int × Int)) (n t : Nat) (ht : t + 1 < n) : Swp (lgE (chX l n (drp t)) t) (t : Int) 0 (chX l n (drp (t + 1))) := by
  rw [ch_drop _ _ _ (by omega)]
  refine Swp.there _ _ ?_
  rw [chX_in _ _ _ _ (by omega), if_pos ht]
  unfold drp
  rw [if_pos (by omega)]; rfl
theorem ch_held (l : List (Int × Int)) (n t : Nat) (ht : t < n) : 0 < (chX l n (drp t) t).h := by
  rw [chX_in _ _ _ _ ht]
  show 0 < drp t t
  unfold drp
  rw [if_neg (by omega)]; decide
/-- A chain that nobody holds. -/
def nil0 : Nat → Int := fun _ => 0
theorem ch_rm (l : List (Int × Int)) (t : Nat) : rmE (chX l (t + 1) nil0) t = chX l t nil0 ∧ (chX l (t + 1) nil0 t).q = (t : Int) - 1 ∧ lvE (chX l (t + 1) nil0 t) = false := by
  have vt : chX l (t + 1) nil0 t = ⟨(l.getD t (0, 0)).1, (l.getD t (0, 0)).2, (t : Int) - 1, 0, 0⟩ := by rw [chX_in _ _ _ _ (by omega), if_neg (by omega)]; rfl
  refine ⟨?_, by rw [vt], by rw [vt]; rfl⟩
  funext j
  unfold rmE
  rw [vt]
  dsimp only
  by_cases h0 : t = 0
  · subst h0
    rw [if_pos (by omega)]
    by_cases e : j = 0
    · subst e; rw [setE_same, chX_out _ _ _ _ (by omega)]
    · rw [setE_ne _ _ e, chX_out _ _ _ _ (by omega), chX_out _ _ _ _ (by omega)]
  · rw [if_neg (by omega)]
    have ht : ((t : Int) - 1).toNat = t - 1 := by omega
    rw [ht]
    unfold kdE
    by_cases e1 : j = t - 1
    · subst e1
      rw [setE_same, setE_ne _ _ (by omega), chX_in _ _ _ _ (by omega), chX_in _ _ _ _ (by omega), if_pos (by omega), if_neg (by omega)]; rfl
    · rw [setE_ne _ _ e1]
      by_cases e : j = t
      · subst e; rw [setE_same, chX_out _ _ _ _ (by omega)]
      · rw [setE_ne _ _ e]
        by_cases h : j < t
        · rw [chX_in _ _ _ _ (by omega), chX_in _ _ _ _ h, if_pos (by omega), if_pos (by omega)]
        · rw [chX_out _ _ _ _ (by omega), chX_out _ _ _ _ h]
theorem ch_swp (l : List (Int × Int)) (t : Nat) : Swp (chX l t nil0) ((t : Int) - 1) t (chX l 0 nil0) := by
  induction t with
  | zero => exact Swp.none _
  | succ t ih =>
    obtain ⟨h1, h2, h3⟩ := ch_rm l t
    rw [show ((t + 1 : Nat) : Int) - 1 = (t : Int) by omega]
    refine Swp.step _ _ t t h3 ?_
    rw [h1, h2]
    exact ih
theorem ch_last (l : List (Int × Int)) (t : Nat) : lgE (chX l (t + 1) (drp t)) t = chX l (t + 1) nil0 := by
  rw [ch_drop _ _ _ (by omega)]
  funext j
  by_cases h : j < t + 1
  · rw [chX_in _ _ _ _ h, chX_in _ _ _ _ h]
    unfold drp nil0
    rw [if_pos h]
  · rw [chX_out _ _ _ _ h, chX_out _ _ _ _ h]
theorem ch_way (l : List (Int × Int)) (n : Nat) (H : Nat → Int) (hn : n ≤ 4096) (hv : ∀ j, j < n → lvE (chX l n H j) = true) (t : Nat) (ht : t ≤ n) (htl : t ≤ l.length) : IsWay (chX l n H) ((t : Int) - 1) (l.take t) := by
  induction t with
  | zero => exact IsWay.none
  | succ t ih =>
    have e := IsWay.some t (l.take t) (by omega) (hv t (by omega)) (by rw [chX_in _ _ _ _ (by omega)]; exact ih (by omega) (by omega))
    rw [chX_in _ _ _ _ (by omega)] at e
    rw [show ((t + 1 : Nat) : Int) - 1 = (t : Int) by omega, List.take_succ_eq_append_getElem (by omega)]
    simp only [List.getD_eq_getElem?_getD, List.getElem?_eq_getElem (show t < l.length by omega), Option.getD_some] at e
    exact e
end Go.Proofs.Ythdfaidjdddagaa
namespace Go.Proofs.Ythdfaidjdddagaa
open Go.RowKit

/-- Numbers lie where the slice says. -/
def IntsAt (w : World) (ad : Option Addr) (l : List Int) : Prop :=
  l ≠ [] → ∃ b off, ad = some ⟨b, off, none⟩ ∧ b < w.heap.size ∧ ∀ i (h : i < l.length), w.cell? ⟨b, off + i, none⟩ = some (.int .i64 l[i])
theorem IntsAt.below {w w' : World} {B : Nat} {ad : Option Addr} {l : List Int} (h : IntsAt w ad l) (hb : Below B w w') (hB : w.heap.size ≤ B) : IntsAt w' ad l := fun hl => by
  obtain ⟨b, off, e, hlt, hc⟩ := h hl
  exact ⟨b, off, e, Nat.lt_of_lt_of_le hlt hb.size, fun i hi => (hb.cell (p := ⟨b, off + i, none⟩) (Nat.lt_of_lt_of_le hlt hB)).trans (hc i hi)⟩
end Go.Proofs.Ythdfaidjdddagaa
