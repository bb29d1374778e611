/-
  slices.Compare of numbers, slices.CompareFunc of lists of numbers with it, cmp.Or: as the plain functions have it.
  Compare of two matches: as the plain function has it; nothing that was there has changed.
-/
import Derived.Test.YtpfcoaimciojjaaG02
import Derived.Deep.RegionHeld3
namespace Go.Proofs.Ytpfcoaimciojjaa
open Go.RowKit

set_option maxHeartbeats 1000000 in
theorem sCompare_any (a1 a2 : Option Addr) (c1 c2 : Nat) (xs ys : List Int) (w : World) (hl1 : xs.length ≤ 9223372036854775807) (_hl2 : ys.length ≤ 9223372036854775807) (h1 : IntsAt w a1 xs) (h2 : IntsAt w a2 ys) :
    Calls Try.prog 52 #[.slice a1 xs.length c1, .slice a2 ys.length c2] w fun e w' => e = .returned (.int .i64 (cL Lib.compareInt xs ys)) ∧ w' = w := by
  generalize hR : cL Lib.compareInt xs ys = R
  have HR := hide hR
  have H1 := hide h1
  have H2 := hide h2
  clear hR h1 h2
  go_enter Try.func52, Try.ntmps52
  go_wp2
  go_loop [11] (fun i => ∃ k : Nat, k ≤ xs.length ∧ k ≤ ys.length ∧ i = .int .i64 (k : Int) ∧ Hid (cL Lib.compareInt (xs.drop k) (ys.drop k) = R)) (fun i => xs.length - (intOf i).toNat)
  case atStart => exact ⟨0, Nat.zero_le _, Nat.zero_le _, rfl, HR⟩
  case round =>
    obtain ⟨k, hk1, hk2, rfl, HK⟩ := hrel
    by_cases hx : k < xs.length
    · obtain ⟨b1, o1, rfl, _, q1⟩ := unhide H1 (fun e => by rw [e] at hx; simp at hx)
      have x1 := q1 k hx
      have hK := unhide HK
      rw [List.drop_eq_getElem_cons hx] at hK
      clear q1 H1 HK HR
      generalize xs[k] = x at *
      by_cases hy : k < ys.length
      · obtain ⟨b2, o2, rfl, _, q2⟩ := unhide H2 (fun e => by rw [e] at hy; simp at hy)
        have y1 := q2 k hy
        rw [List.drop_eq_getElem_cons hy] at hK
        clear q2 H2
        generalize ys[k] = y at *
        simp only [cL] at hK
        have hc := fun w => Try.cmp_Compare_int x y w
        by_cases h0 : Lib.compareInt x y = 0
        · rw [if_pos h0] at hK
          simp only [h0] at hc
          have HC := hide hc
          have HK := hide hK
          clear hc hK h0
          go_wp2_with fail
          refine (unhide HC _).mono ?_
          rintro e w1 ⟨rfl, rfl⟩
          go_wp2
          go_round
          case rel => exact ⟨k + 1, by omega, by omega, by go_num, HK⟩
          case measure => simp [intOf]; omega
        · rw [if_neg h0] at hK
          rw [hK] at hc h0
          have g : (R != 0) = true := by rw [bne_iff_ne]; exact h0
          have HC := hide hc
          clear hc hK h0
          go_wp2_with fail
          refine (unhide HC _).mono ?_
          rintro e w1 ⟨rfl, rfl⟩
          go_wp2
          go_ret
          exact ⟨rfl, rfl⟩
      · have hd : ys.drop k = [] := List.drop_of_length_le (by omega)
        rw [hd] at hK
        simp only [cL] at hK
        subst hK
        clear H2 hd
        go_wp2
        go_ret
        exact ⟨rfl, rfl⟩
    · have hK := unhide HK
      rw [List.drop_of_length_le (by omega)] at hK
      clear HK HR H1 H2
      by_cases hy : k < ys.length
      · rw [List.drop_eq_getElem_cons hy] at hK
        simp only [cL] at hK
        subst hK
        have hlt : (xs.length : Int) < (ys.length : Int) := by omega
        go_wp2
        go_ret
        exact ⟨rfl, rfl⟩
      · rw [List.drop_of_length_le (by omega)] at hK
        simp only [cL] at hK
        subst hK
        have hlt : ¬ ((xs.length : Int) < (ys.length : Int)) := by omega
        go_wp2
        go_ret
        exact ⟨rfl, rfl⟩
set_option maxHeartbeats 1000000 in
theorem sCompareFunc_any (a1 a2 : Option Addr) (c1 c2 : Nat) (xs ys : List (List Int)) (w : World) (hl1 : xs.length ≤ 9223372036854775807) (_hl2 : ys.length ≤ 9223372036854775807) (hp1 : ∀ p ∈ xs, p.length ≤ 9223372036854775807) (hp2 : ∀ p ∈ ys, p.length ≤ 9223372036854775807) (h1 : StagesAt w a1 xs) (h2 : StagesAt w a2 ys) :
    Calls Try.prog 51 #[.slice a1 xs.length c1, .slice a2 ys.length c2, .func (.func 52) #[] #[]] w fun e w' => e = .returned (.int .i64 (cL (cL Lib.compareInt) xs ys)) ∧ w' = w := by
  generalize hR : cL (cL Lib.compareInt) xs ys = R
  have HR := hide hR
  have H1 := hide h1
  have H2 := hide h2
  have P1 := hide hp1
  have P2 := hide hp2
  clear hR h1 h2 hp1 hp2
  go_enter Try.func51, Try.ntmps51
  go_wp2
  go_loop [13] (fun i => ∃ k : Nat, k ≤ xs.length ∧ k ≤ ys.length ∧ i = .int .i64 (k : Int) ∧ Hid (cL (cL Lib.compareInt) (xs.drop k) (ys.drop k) = R)) (fun i => xs.length - (intOf i).toNat)
  case atStart => exact ⟨0, Nat.zero_le _, Nat.zero_le _, rfl, HR⟩
  case round =>
    obtain ⟨k, hk1, hk2, rfl, HK⟩ := hrel
    by_cases hx : k < xs.length
    · obtain ⟨b1, o1, rfl, _, q1⟩ := unhide H1 (fun e => by rw [e] at hx; simp at hx)
      obtain ⟨p1, m1, x1, i1⟩ := q1 k hx
      have l1 := unhide P1 xs[k] (List.getElem_mem hx)
      have hK := unhide HK
      rw [List.drop_eq_getElem_cons hx] at hK
      clear q1 H1 HK HR P1
      generalize xs[k] = x at *
      by_cases hy : k < ys.length
      · obtain ⟨b2, o2, rfl, _, q2⟩ := unhide H2 (fun e => by rw [e] at hy; simp at hy)
        obtain ⟨p2, m2, y1, i2⟩ := q2 k hy
        have l2 := unhide P2 ys[k] (List.getElem_mem hy)
        rw [List.drop_eq_getElem_cons hy] at hK
        clear q2 H2 P2
        generalize ys[k] = y at *
        simp only [cL] at hK
        have hc := sCompare_any p1 p2 m1 m2 x y w l1 l2 i1 i2
        by_cases h0 : cL Lib.compareInt x y = 0
        · rw [if_pos h0] at hK
          rw [h0] at hc
          have HC := hide hc
          have HK := hide hK
          clear hc hK h0 i1 i2
          generalize x.length = nx at *
          generalize y.length = ny at *
          go_wp2_with fail
          refine (unhide HC).mono ?_
          rintro e w1 ⟨rfl, rfl⟩
          go_wp2
          go_round
          case rel => exact ⟨k + 1, by omega, by omega, by go_num, HK⟩
          case measure => simp [intOf]; omega
        · rw [if_neg h0] at hK
          rw [hK] at hc h0
          have g : (R != 0) = true := by rw [bne_iff_ne]; exact h0
          have HC := hide hc
          clear hc hK h0 i1 i2
          generalize x.length = nx at *
          generalize y.length = ny at *
          go_wp2_with fail
          refine (unhide HC).mono ?_
          rintro e w1 ⟨rfl, rfl⟩
          go_wp2
          go_ret
          exact ⟨rfl, rfl⟩
      · have hd : ys.drop k = [] := List.drop_of_length_le (by omega)
        rw [hd] at hK
        simp only [cL] at hK
        subst hK
        clear H2 hd i1 P2
        generalize x.length = nx at *
        go_wp2
        go_ret
        exact ⟨rfl, rfl⟩
    · have hK := unhide HK
      rw [List.drop_of_length_le (by omega)] at hK
      clear HK HR H1 H2 P1 P2
      by_cases hy : k < ys.length
      · rw [List.drop_eq_getElem_cons hy] at hK
        simp only [cL] at hK
        subst hK
        have hlt : (xs.length : Int) < (ys.length : Int) := by omega
        go_wp2
        go_ret
        exact ⟨rfl, rfl⟩
      · rw [List.drop_of_length_le (by omega)] at hK
        simp only [cL] at hK
        subst hK
        have hlt : ¬ ((xs.length : Int) < (ys.length : Int)) := by omega
        go_wp2
        go_ret
        exact ⟨rfl, rfl⟩
def orL : List Int → Int
  | [] => 0
  | x :: r => if x = 0 then orL r else x
set_option maxHeartbeats 1000000 in
theorem or_any (a1 : Option Addr) (c1 : Nat) (xs : List Int) (w : World) (hl1 : xs.length ≤ 9223372036854775807) (h1 : IntsAt w a1 xs) :
    Calls Try.prog 48 #[.slice a1 xs.length c1] w fun e w' => e = .returned (.int .i64 (orL xs)) ∧ w' = w := by
  generalize hR : orL xs = R
  have HR := hide hR
  have H1 := hide h1
  clear hR h1
  go_enter Try.func48, Try.ntmps48
  go_wp2
  go_loop [8] (fun i => ∃ k : Nat, k ≤ xs.length ∧ i = .int .i64 (k : Int) ∧ Hid (orL (xs.drop k) = R)) (fun i => xs.length - (intOf i).toNat)
  case atStart => exact ⟨0, Nat.zero_le _, rfl, HR⟩
  case round =>
    obtain ⟨k, hk1, rfl, HK⟩ := hrel
    by_cases hx : k < xs.length
    · obtain ⟨b1, o1, rfl, _, q1⟩ := unhide H1 (fun e => by rw [e] at hx; simp at hx)
      have x1 := q1 k hx
      have hK := unhide HK
      rw [List.drop_eq_getElem_cons hx, orL] at hK
      clear q1 H1 HK HR
      generalize xs[k] = x at *
      by_cases h0 : x = 0
      · rw [if_pos h0] at hK
        subst h0
        have HK := hide hK
        clear hK
        go_wp2
        go_round
        case rel => exact ⟨k + 1, by omega, by go_num, HK⟩
        case measure => simp [intOf]; omega
      · rw [if_neg h0] at hK
        subst hK
        have g : (x != 0) = true := by rw [bne_iff_ne]; exact h0
        clear h0
        go_wp2
        go_ret
        exact ⟨rfl, rfl⟩
    · have hK := unhide HK
      rw [List.drop_of_length_le (by omega), orL] at hK
      subst hK
      clear HK HR H1
      go_wp2
      go_ret
      exact ⟨rfl, rfl⟩
end Go.Proofs.Ytpfcoaimciojjaa
namespace Go.Proofs.Ytpfcoaimciojjaa
open Go.RowKit

/-- The order of two matches that may be. -/
def cM (k1 : ByteArray) (s1 : List (List Int)) (k2 : ByteArray) (s2 : List (List Int)) : Int :=
  orI (Lib.compareInt (lastM s1) (lastM s2)) (orI (cL (cL Lib.compareInt) s1 s2) (Lib.compareBytes k1.data.toList k2.data.toList))
def cmpE (k1 : ByteArray) (s1 : List (List Int)) (k2 : ByteArray) (s2 : List (List Int)) : Int := if mayM k1 s1 = true ∧ mayM k2 s2 = true then 0 else 20
def cmpV (k1 : ByteArray) (s1 : List (List Int)) (k2 : ByteArray) (s2 : List (List Int)) : Int := if mayM k1 s1 = true ∧ mayM k2 s2 = true then cM k1 s1 k2 s2 else 0
/-- The box of a match lies there. -/
def MBox (g : Nat) (k : ByteArray) (ad : Option Addr) (n cap : Nat) (w : World) : Prop := w.heap[g]? = some (.cells #[.string k, .slice ad n cap] 35 (0, 0))
theorem MBox.cells {g : Nat} {k : ByteArray} {ad : Option Addr} {n cap : Nat} {w : World} (h : MBox g k ad n cap w) : w.cell? ⟨g, 0, none⟩ = some (.string k) ∧ w.cell? ⟨g, 1, none⟩ = some (.slice ad n cap) := by
  unfold MBox at h
  simp [World.cell?, h]
theorem MBox.lt {g : Nat} {k : ByteArray} {ad : Option Addr} {n cap : Nat} {w : World} (h : MBox g k ad n cap w) : g < w.heap.size := by
  unfold MBox at h
  rcases Nat.lt_or_ge g w.heap.size with h1 | h1
  · exact h1
  · rw [Array.getElem?_eq_none h1] at h; cases h
theorem MBox.below {g B : Nat} {k : ByteArray} {ad : Option Addr} {n cap : Nat} {w w' : World} (h : MBox g k ad n cap w) (hb : Below B w w') (hB : g < B) : MBox g k ad n cap w' := by unfold MBox; rw [hb.block g hB]; exact h
theorem MBox.alloc {g : Nat} {k : ByteArray} {ad : Option Addr} {n cap : Nat} {w : World} (h : MBox g k ad n cap w) (o : Obj) : MBox g k ad n cap (w.alloc o) := (Below.heap_alloc _ _ _ h.lt).trans h
/-- What stays while two matches are compared. -/
structure CmpS (w : World) (g1 g2 : Nat) (k1 : ByteArray) (a1 : Option Addr) (n1 c1 : Nat) (k2 : ByteArray) (a2 : Option Addr) (n2 c2 : Nat) (W : World) : Prop where
  bel : Below w.heap.size w W
  b1 : MBox g1 k1 a1 n1 c1 W
  b2 : MBox g2 k2 a2 n2 c2 W
section
variable {w : World} {g1 g2 : Nat} {k1 : ByteArray} {a1 : Option Addr} {n1 c1 : Nat} {k2 : ByteArray} {a2 : Option Addr} {n2 c2 : Nat} {W : World}
theorem CmpS.drew (h : CmpS w g1 g2 k1 a1 n1 c1 k2 a2 n2 c2 W) : CmpS w g1 g2 k1 a1 n1 c1 k2 a2 n2 c2 W.drew := ⟨h.bel.drew, h.b1, h.b2⟩
theorem CmpS.alloc (h : CmpS w g1 g2 k1 a1 n1 c1 k2 a2 n2 c2 W) (o : Obj) : CmpS w g1 g2 k1 a1 n1 c1 k2 a2 n2 c2 (W.alloc o) := ⟨h.bel.alloc h.bel.size o, h.b1.alloc o, h.b2.alloc o⟩
theorem CmpS.full (h : CmpS w g1 g2 k1 a1 n1 c1 k2 a2 n2 c2 W) : CmpS w g1 g2 k1 a1 n1 c1 k2 a2 n2 c2 W ∧ W.cell? ⟨g1, 0, none⟩ = some (.string k1) ∧ W.cell? ⟨g1, 1, none⟩ = some (.slice a1 n1 c1) ∧ W.cell? ⟨g2, 0, none⟩ = some (.string k2) ∧ W.cell? ⟨g2, 1, none⟩ = some (.slice a2 n2 c2) :=
  ⟨h, h.b1.cells.1, h.b1.cells.2, h.b2.cells.1, h.b2.cells.2⟩
end
theorem orL3 (a b c : Int) : orL [a, b, c] = orI a (orI b c) := by
  unfold orI
  simp only [orL]
  split
  · split
    · split <;> omega
    · rfl
  · rfl
theorem ints3 (W : World) (a b c : Int) (t : TypeId) : IntsAt (W.alloc (.cells #[.int .i64 a, .int .i64 b, .int .i64 c] t)) (some ⟨W.heap.size, 0, none⟩) [a, b, c] := fun _ => by
  refine ⟨W.heap.size, 0, rfl, by simp, fun i hi => ?_⟩
  match i, hi with
  | 0, _ => simp
  | 1, _ => simp
  | 2, _ => simp
set_option maxHeartbeats 4000000 in
theorem compare_any (k1 : ByteArray) (a1 : Option Addr) (c1 : Nat) (s1 : List (List Int)) (k2 : ByteArray) (a2 : Option Addr) (c2 : Nat) (s2 : List (List Int)) (w : World) (ok1 : MtOk k1 s1) (ok2 : MtOk k2 s2) (h1 : StagesAt w a1 s1) (h2 : StagesAt w a2 s2) :
    Calls Try.prog 30 #[.agg #[.string k1, .slice a1 s1.length c1], .agg #[.string k2, .slice a2 s2.length c2]] w fun e w' => e = .returned (.tuple #[.int .i64 (cmpV k1 s1 k2 s2), .int .i64 (cmpE k1 s1 k2 s2)]) ∧ Below w.heap.size w w' := by
  have s0 : CmpS w w.heap.size (w.heap.size + 1) k1 a1 s1.length c1 k2 a2 s2.length c2 ((w.alloc (.cells #[.string k1, .slice a1 s1.length c1] 35)).alloc (.cells #[.string k2, .slice a2 s2.length c2] 35)) := by
    refine ⟨((Below.refl _ _).alloc (Nat.le_refl _) _).alloc (by simp) _, MBox.alloc (heap_alloc_new w _) _, ?_⟩
    have := heap_alloc_new (w.alloc (.cells #[.string k1, .slice a1 s1.length c1] 35)) (.cells #[.string k2, .slice a2 s2.length c2] 35)
    unfold MBox
    simpa using this
  have ck1 := fun W (hW : Below w.heap.size w W) => checkMatch_any k1 a1 c1 s1 W ok1 (h1.below hW (Nat.le_refl _))
  have ck2 := fun W (hW : Below w.heap.size w W) => checkMatch_any k2 a2 c2 s2 W ok2 (h2.below hW (Nat.le_refl _))
  have lp1 := fun W (hW : Below w.heap.size w W) (hm : mayM k1 s1 = true) => lastPlace_any k1 a1 c1 s1 W ok1 hm (h1.below hW (Nat.le_refl _))
  have lp2 := fun W (hW : Below w.heap.size w W) (hm : mayM k2 s2 = true) => lastPlace_any k2 a2 c2 s2 W ok2 hm (h2.below hW (Nat.le_refl _))
  have cf := fun W (hW : Below w.heap.size w W) => sCompareFunc_any a1 a2 c1 c2 s1 s2 W ok1.2.1 ok2.2.1 ok1.2.2 ok2.2.2 (h1.below hW (Nat.le_refl _)) (h2.below hW (Nat.le_refl _))
  have sc := fun W => Try.strings_Compare k1 k2 W
  clear h1 h2
  have CK1 := hide ck1
  have CK2 := hide ck2
  have LP1 := hide lp1
  have LP2 := hide lp2
  have CF := hide cf
  have SC := hide sc
  clear ck1 ck2 lp1 lp2 cf sc
  unfold cmpV cmpE
  by_cases m1 : mayM k1 s1 = true
  · have e1 : chkM k1 s1 = 0 := if_pos m1
    by_cases m2 : mayM k2 s2 = true
    · have e2 : chkM k2 s2 = 0 := if_pos m2
      rw [if_pos ⟨m1, m2⟩, if_pos ⟨m1, m2⟩]
      rw [e1] at CK1
      rw [e2] at CK2
      unfold cM
      rw [← orL3]
      have LQ1 : Hid (∀ W, Below w.heap.size w W → _) := hide (fun W hW => unhide LP1 W hW m1)
      have LQ2 : Hid (∀ W, Below w.heap.size w W → _) := hide (fun W hW => unhide LP2 W hW m2)
      have cc := fun W => Try.cmp_Compare_int (lastM s1) (lastM s2) W
      have CC := hide cc
      clear LP1 LP2 e1 e2 m1 m2 cc
      generalize Lib.compareInt (lastM s1) (lastM s2) = X at *
      generalize cL (cL Lib.compareInt) s1 s2 = Y at *
      generalize Lib.compareBytes k1.data.toList k2.data.toList = Z at *
      generalize lastM s1 = L1 at *
      generalize lastM s2 = L2 at *
      have oc := fun W => or_any (some ⟨W.heap.size, 0, none⟩) 3 [X, Y, Z] (W.alloc (.cells #[.int .i64 X, .int .i64 Y, .int .i64 Z] 3)) (by simp) (ints3 W X Y Z _)
      generalize orL [X, Y, Z] = T at *
      have OC := hide oc
      clear oc ok1 ok2
      generalize s1.length = n1 at *
      generalize s2.length = n2 at *
      go_enter Try.func30, Try.ntmps30
      go_wp2_with fail
      generalize ((w.alloc (.cells #[.string k1, .slice a1 n1 c1] 35)).alloc (.cells #[.string k2, .slice a2 n2 c2] 35)) = W0 at *
      have f0 := s0.full.2
      refine (unhide CK1 W0 s0.bel).mono ?_
      rintro e w1 ⟨rfl, rfl⟩
      have s1 := s0.alloc (.cells #[.string k1, .slice a1 n1 c1] 35)
      generalize (W0.alloc (.cells #[.string k1, .slice a1 n1 c1] 35)) = W1 at *
      clear f0 s0
      have f1 := s1.full.2
      go_wp2_with fail
      refine (unhide CK2 W1 s1.bel).mono ?_
      rintro e w2 ⟨rfl, rfl⟩
      have s2 := s1.alloc (.cells #[.string k2, .slice a2 n2 c2] 35)
      generalize (W1.alloc (.cells #[.string k2, .slice a2 n2 c2] 35)) = W2 at *
      clear f1 s1
      have f2 := s2.full.2
      go_wp2_with fail
      have ls1 : ∀ W, CmpS w w.heap.size (w.heap.size + 1) k1 a1 n1 c1 k2 a2 n2 c2 W → Calls Try.prog 50 #[.agg #[.string k1, .slice a1 n1 c1]] W fun e w' => e = .returned (.int .i64 L1) ∧ CmpS w w.heap.size (w.heap.size + 1) k1 a1 n1 c1 k2 a2 n2 c2 w' :=
        fun W hS => (unhide LQ1 W hS.bel).mono (fun e w' h => ⟨h.1, h.2 ▸ hS.alloc _⟩)
      have ls2 : ∀ W, CmpS w w.heap.size (w.heap.size + 1) k1 a1 n1 c1 k2 a2 n2 c2 W → Calls Try.prog 50 #[.agg #[.string k2, .slice a2 n2 c2]] W fun e w' => e = .returned (.int .i64 L2) ∧ CmpS w w.heap.size (w.heap.size + 1) k1 a1 n1 c1 k2 a2 n2 c2 w' :=
        fun W hS => (unhide LQ2 W hS.bel).mono (fun e w' h => ⟨h.1, h.2 ▸ hS.alloc _⟩)
      have LS1 := hide ls1
      have LS2 := hide ls2
      clear ls1 ls2 LQ1 LQ2 CK1 CK2
      go_region_held3 (fun W => CmpS w w.heap.size (w.heap.size + 1) k1 a1 n1 c1 k2 a2 n2 c2 W ∧ W.cell? ⟨w.heap.size, 0, none⟩ = some (.string k1) ∧ W.cell? ⟨w.heap.size, 1, none⟩ = some (.slice a1 n1 c1) ∧ W.cell? ⟨w.heap.size + 1, 0, none⟩ = some (.string k2) ∧ W.cell? ⟨w.heap.size + 1, 1, none⟩ = some (.slice a2 n2 c2)) (first | exact s2.full | exact s2.drew.full | exact s3.full | exact s4.full | exact (s4.alloc _).full)
        (first
          | (go_at_call 50; refine (unhide LS2 _ s3).mono ?_; rintro e w4 ⟨rfl, s4⟩)
          | (go_at_call 50; refine (unhide LS1 _ s2.drew).mono ?_; rintro e w3 ⟨rfl, s3⟩)
          | (go_at_call 49; refine (unhide CC _).mono ?_; rintro e w5 ⟨rfl, rfl⟩)
          | (go_at_call 51; refine (unhide CF _ s4.bel).mono ?_; rintro e w6 ⟨rfl, rfl⟩)
          | (go_at_call 53; refine (unhide SC _).mono ?_; rintro e w7 ⟨rfl, rfl⟩)
          | (go_at_call 48; refine (unhide OC _).mono ?_; rintro e w8 ⟨rfl, rfl⟩))
      go_wp2
      go_ret2
      exact ⟨rfl, (s4.alloc _).bel⟩
    · have e2 : chkM k2 s2 = 20 := if_neg m2
      rw [if_neg (fun h => m2 h.2), if_neg (fun h => m2 h.2)]
      rw [e1] at CK1
      rw [e2] at CK2
      clear LP1 LP2 e1 e2 m1 m2 CF SC ok1 ok2
      generalize s1.length = n1 at *
      generalize s2.length = n2 at *
      go_enter Try.func30, Try.ntmps30
      go_wp2_with fail
      generalize ((w.alloc (.cells #[.string k1, .slice a1 n1 c1] 35)).alloc (.cells #[.string k2, .slice a2 n2 c2] 35)) = W0 at *
      have f0 := s0.full.2
      refine (unhide CK1 W0 s0.bel).mono ?_
      rintro e w1 ⟨rfl, rfl⟩
      have s1 := s0.alloc (.cells #[.string k1, .slice a1 n1 c1] 35)
      generalize (W0.alloc (.cells #[.string k1, .slice a1 n1 c1] 35)) = W1 at *
      clear f0 s0
      have f1 := s1.full.2
      go_wp2_with fail
      refine (unhide CK2 W1 s1.bel).mono ?_
      rintro e w2 ⟨rfl, rfl⟩
      go_wp2
      go_ret2
      exact ⟨rfl, (s1.alloc _).bel⟩
  · have e1 : chkM k1 s1 = 20 := if_neg m1
    rw [if_neg (fun h => m1 h.1), if_neg (fun h => m1 h.1)]
    rw [e1] at CK1
    clear LP1 LP2 e1 m1 CF SC ok1 ok2 CK2
    generalize s1.length = n1 at *
    generalize s2.length = n2 at *
    go_enter Try.func30, Try.ntmps30
    go_wp2_with fail
    generalize ((w.alloc (.cells #[.string k1, .slice a1 n1 c1] 35)).alloc (.cells #[.string k2, .slice a2 n2 c2] 35)) = W0 at *
    have f0 := s0.full.2
    refine (unhide CK1 W0 s0.bel).mono ?_
    rintro e w1 ⟨rfl, rfl⟩
    go_wp2
    go_ret2
    exact ⟨rfl, (s0.alloc _).bel⟩
end Go.Proofs.Ytpfcoaimciojjaa
