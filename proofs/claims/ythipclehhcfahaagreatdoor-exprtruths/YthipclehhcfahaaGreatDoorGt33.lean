/-
  works: the chapter's examples.
  Read, with what it gives lying somewhere; how long a written text is.
  ExprTruths: its walk.
  An event that comes in as an argument: its parts.
-/
import Derived.Test.YthipclehhcfahaaGreatDoorGt32
import Derived.Test.YthipclehhcfahaaGreatDoorChecked
import Derived.Test.YthipclehhcfahaaGreatDoorGt28
import Derived.ProofKit
import Derived.OpenShut
import Derived.Deep.Slices
namespace Go.Proofs.YthipclehhcfahaaGreatDoor
open Go.RowKit Go.Shelf

def exX : List Pt := [⟨11, 0, ⟨#[]⟩, ⟨#[]⟩, 0⟩, ⟨7, 0, ⟨#[]⟩, ⟨#[]⟩, 0⟩, ⟨4, 0, ⟨#[]⟩, ⟨#[]⟩, 0⟩, ⟨3, 0, ⟨#[]⟩, ⟨#[]⟩, 0⟩, ⟨1, 1, ⟨#[]⟩, ⟨#[]⟩, 0⟩, ⟨3, 0, ⟨#[]⟩, ⟨#[97]⟩, 0⟩, ⟨9, 0, ⟨#[]⟩, ⟨#[]⟩, 0⟩, ⟨3, 0, ⟨#[]⟩, ⟨#[]⟩, 4⟩, ⟨2, 0, ⟨#[120]⟩, ⟨#[]⟩, 0⟩]
theorem ex_read : rdO ⟨#[110, 48, 32, 43, 32, 49, 32, 60, 32, 97, 46, 110, 48, 32, 97, 110, 100, 32, 116, 121, 112, 101, 32, 61, 61, 32, 39, 120, 39]⟩ = ⟨exX, 0, 0⟩ := by kernel_rfl
theorem ex_two : rdO ⟨#[110, 48, 32, 60, 32, 49, 32, 60, 32, 50]⟩ = ⟨[], 7, 110⟩ := by kernel_rfl
theorem ex_three : rdO ⟨#[110, 48, 32, 97, 110, 100, 32, 49]⟩ = ⟨[], 0, 110⟩ := by kernel_rfl
theorem ex_ck : ckK exX = 3 := by kernel_rfl
theorem ex_write : wrS exX = ⟨#[40, 32, 40, 32, 110, 48, 32, 43, 32, 49, 32, 41, 32, 60, 32, 97, 32, 46, 32, 110, 48, 32, 41, 32, 97, 110, 100, 32, 40, 32, 116, 121, 112, 101, 32, 61, 61, 32, 39, 120, 39, 32, 41]⟩ := by kernel_rfl
set_option maxHeartbeats 2000000 in
set_option maxRecDepth 100000 in
theorem eworks_any (w : World) (hT : TbE w) : Calls Tryz.prog 17 #[] w fun e w' => e = .returned (.bool true) ∧ Below w.heap.size w w' := by
  have R1 := eread_any ⟨#[110, 48, 32, 43, 32, 49, 32, 60, 32, 97, 46, 110, 48, 32, 97, 110, 100, 32, 116, 121, 112, 101, 32, 61, 61, 32, 39, 120, 39]⟩ w hT (by decide)
  have R2 := fun W hW => eread_any ⟨#[110, 48, 32, 60, 32, 49, 32, 60, 32, 50]⟩ W hW (by decide)
  have R3 := fun W hW => eread_any ⟨#[110, 48, 32, 97, 110, 100, 32, 49]⟩ W hW (by decide)
  have WR := fun ad cp W hA hW => write_any ad cp exX W hA hW (by rw [show exX = (rdO ⟨#[110, 48, 32, 43, 32, 49, 32, 60, 32, 97, 46, 110, 48, 32, 97, 110, 100, 32, 116, 121, 112, 101, 32, 61, 61, 32, 39, 120, 39]⟩).x by rw [ex_read]]; exact read_ok _)
  rw [ex_read] at R1
  rw [ex_two] at R2
  rw [ex_three] at R3
  rw [ex_write, ex_ck, if_neg (by decide)] at WR
  have HR1 : Hid (Calls Tryz.prog 22 #[.string ⟨#[110, 48, 32, 43, 32, 49, 32, 60, 32, 97, 46, 110, 48, 32, 97, 110, 100, 32, 116, 121, 112, 101, 32, 61, 61, 32, 39, 120, 39]⟩] w fun e w' => ∃ ad cp, e = .returned (.tuple #[.slice ad 9 cp, .agg #[.int .i64 0, .int .i64 0]]) ∧ PtsAt w' ad exX ∧ Below w.heap.size w w') := hide (R1.mono fun e w' ⟨⟨v, h1, h2⟩, h3⟩ => by
    obtain ⟨ad, cp, rfl, h4, _⟩ := h2.at
    exact ⟨ad, cp, h1, h4, h3⟩)
  have HR2 : Hid (∀ W, TbE W → Calls Tryz.prog 22 #[.string ⟨#[110, 48, 32, 60, 32, 49, 32, 60, 32, 50]⟩] W fun e w' => ∃ ad cp, e = .returned (.tuple #[.slice ad 0 cp, .agg #[.int .i64 7, .int .i64 110]]) ∧ Below W.heap.size W w') := hide (fun W hW => (R2 W hW).mono fun e w' ⟨⟨v, h1, h2⟩, h3⟩ => by
    obtain ⟨ad, cp, rfl, _, _⟩ := h2.at
    exact ⟨ad, cp, h1, h3⟩)
  have HR3 : Hid (∀ W, TbE W → Calls Tryz.prog 22 #[.string ⟨#[110, 48, 32, 97, 110, 100, 32, 49]⟩] W fun e w' => ∃ ad cp, e = .returned (.tuple #[.slice ad 0 cp, .agg #[.int .i64 0, .int .i64 110]]) ∧ Below W.heap.size W w') := hide (fun W hW => (R3 W hW).mono fun e w' ⟨⟨v, h1, h2⟩, h3⟩ => by
    obtain ⟨ad, cp, rfl, _, _⟩ := h2.at
    exact ⟨ad, cp, h1, h3⟩)
  have HWR : Hid (∀ ad cp W, PtsAt W ad exX → TbE W → Calls Tryz.prog 11 #[.slice ad 9 cp] W fun e w' => e = .returned (.tuple #[.string ⟨#[40, 32, 40, 32, 110, 48, 32, 43, 32, 49, 32, 41, 32, 60, 32, 97, 32, 46, 32, 110, 48, 32, 41, 32, 97, 110, 100, 32, 40, 32, 116, 121, 112, 101, 32, 61, 61, 32, 39, 120, 39, 32, 41]⟩, .int .i64 0]) ∧ Below W.heap.size W w') := hide WR
  have HT := hide hT
  clear R1 R2 R3 WR hT
  go_enter Tryz.func17, Tryz.ntmps17
  go_wp2_with fail
  refine (unhide HR1).mono ?_
  rintro e w1 ⟨ad, cp, rfl, hA, hb1⟩
  have k1 : Kp [] w1 (w1.alloc (.cells #[.int .i64 0, .int .i64 0] 47)) := Kp.alloc _ _
  have hb2 : Below w.heap.size w (w1.alloc (.cells #[.int .i64 0, .int .i64 0] 47)) := hb1.alloc hb1.size _
  have WR2 := hide (unhide HWR ad cp _ (hA.kp k1) ((unhide HT).below hb2 (unhide HT).low))
  have fb2 : FBox w1.heap.size (w1.alloc (.cells #[.int .i64 0, .int .i64 0] 47)) := CBox.new w1 _ _
  have HB := hide hb2
  clear HR1 HWR hA k1 hb1 hb2
  go_wp2_with fail
  refine (unhide WR2).mono ?_
  rintro e w3 ⟨rfl, hb3⟩
  have HB3 := hide ((unhide HB).trans (hb3.mono (unhide HB).size))
  have fb3 := fb2.below hb3 fb2.lt
  have R4 := hide (unhide HR2 w3 ((unhide HT).below (unhide HB3) (unhide HT).low))
  clear hb3 HB fb2 WR2 HR2
  go_wp2_with fail
  refine (unhide R4).mono ?_
  rintro e w4 ⟨a4, c4, rfl, hb4⟩
  have HB4 := hide (((unhide HB3).trans (hb4.mono (unhide HB3).size)).alloc (by have := (unhide HB3).size; have := hb4.size; omega) (.cells #[.int .i64 7, .int .i64 110] 47))
  have fb4 : FBox w1.heap.size (w4.alloc (.cells #[.int .i64 7, .int .i64 110] 47)) := CBox.kp (fb3.below hb4 fb3.lt) (Kp.alloc _ _) (by simp)
  have fc4 : CBox w4.heap.size #[.int .i64 7, .int .i64 110] 47 (w4.alloc (.cells #[.int .i64 7, .int .i64 110] 47)) := CBox.new w4 _ _
  have R5 := hide (unhide HR3 _ ((unhide HT).below (unhide HB4) (unhide HT).low))
  clear hb4 HB3 fb3 R4 HR3
  go_wp2_with fail
  refine (unhide R5).mono ?_
  rintro e w5 ⟨a5, c5, rfl, hb5⟩
  have HB5 := hide (((unhide HB4).trans (hb5.mono (unhide HB4).size)).alloc (by have := (unhide HB4).size; have := hb5.size; omega) (.cells #[.int .i64 0, .int .i64 110] 47))
  have fb5 : FBox w1.heap.size (w5.alloc (.cells #[.int .i64 0, .int .i64 110] 47)) := CBox.kp (fb4.below hb5 fb4.lt) (Kp.alloc _ _) (by simp)
  have fc5 : CBox w4.heap.size #[.int .i64 7, .int .i64 110] 47 (w5.alloc (.cells #[.int .i64 0, .int .i64 110] 47)) := CBox.kp (CBox.kp fc4 (Kp.ofBelow hb5) (by simp)) (Kp.alloc _ _) (by simp)
  have fd5 : CBox w5.heap.size #[.int .i64 0, .int .i64 110] 47 (w5.alloc (.cells #[.int .i64 0, .int .i64 110] 47)) := CBox.new w5 _ _
  obtain ⟨x0, x1, _, _⟩ := fb5.cells
  obtain ⟨y0, y1⟩ := two_cells fc5
  obtain ⟨z0, z1⟩ := two_cells fd5
  clear hb5 fb4 fc4 R5 HB4 fb5 fc5 fd5
  go_wp2
  go_ret
  exact ⟨rfl, unhide HB5⟩
end Go.Proofs.YthipclehhcfahaaGreatDoor
namespace Go.Proofs.YthipclehhcfahaaGreatDoor
open Go.RowKit Go.Shelf

/-- Read, with what it gives lying somewhere. -/
theorem eread_at (s : ByteArray) (hs : s.size ≤ 9223372036854775807) (W : World) (hW : TbE W) : Calls Tryz.prog 22 #[.string s] W fun e w' => ∃ ad cp, e = .returned (.tuple #[.slice ad (rdO s).x.length cp, .agg #[.int .i64 (rdO s).at_, .int .i64 (rdO s).c]]) ∧ PtsAt w' ad (rdO s).x ∧ Below W.heap.size W w' :=
  (eread_any s W hW hs).mono fun e w' ⟨⟨v, h1, h2⟩, h3⟩ => by
    obtain ⟨ad, cp, rfl, h4, _⟩ := h2.at
    exact ⟨ad, cp, h1, h4, h3⟩
theorem wrS_size (x : List Pt) (hok : ∀ p ∈ x, p.ok) : (wrS x).size ≤ 60000 := by
  unfold wrS
  split
  · show 0 ≤ _; omega
  · rename_i h
    obtain ⟨t, h1, h2, h3, h4, h5, h6⟩ := ckK_leaves h
    have hfd : fdX wrv x = some (t.val wrv) := by rw [h3]; exact fdX_flat wrv t h1
    rw [hfd]
    have := t.wr_len h1 (t.fine_leaves h2) (fun q hq => (hok q (by rw [h3]; exact hq)).2.1.2)
    rw [← h3] at this
    show (txt (t.val wrv).1).size ≤ _
    rw [txt_size]
    omega
theorem flt_eq (a c : Int) : (a == 0 && c == 0) = true → c = 0 := by intro h; simp at h; exact h.2
theorem pair_cells {g : Nat} {a b : Value} {t : TypeId} {w : World} (h : CBox g #[a, b] t w) : w.cell? ⟨g, 0, none⟩ = some a ∧ w.cell? ⟨g, 1, none⟩ = some b := ⟨h.cell rfl, h.cell rfl⟩
end Go.Proofs.YthipclehhcfahaaGreatDoor
namespace Go.Proofs.YthipclehhcfahaaGreatDoor
open Go.RowKit Go.Shelf

theorem nil_nms (w : World) : NmsAt w none [] := fun h => absurd rfl h
theorem nil_evs (w : World) : EvsAt w none [] := fun h => absurd rfl h
/-- The five rows lie there. -/
def TruAt (w : World) (gs : Nat) (x y : List Pt) (a b : Bool) : Prop := gs < w.heap.size ∧ ∀ i, i < 5 → ∃ ad c, w.cell? ⟨gs, i * 2, none⟩ = some (.slice ad (truZ x y i).length c) ∧ w.cell? ⟨gs, i * 2 + 1, none⟩ = some (.bool (truW a b i)) ∧ PtsAt w ad (truZ x y i)
theorem TruAt.kp {w w' : World} {gs : Nat} {x y : List Pt} {a b : Bool} (h : TruAt w gs x y a b) (hk : Kp [] w w') : TruAt w' gs x y a b := ⟨Nat.lt_of_lt_of_le h.1 hk.size, fun i hi => by
  obtain ⟨ad, c, h1, h2, h3⟩ := h.2 i hi
  exact ⟨ad, c, hk.cell h1 (by simp), hk.cell h2 (by simp), h3.kp hk⟩⟩
theorem ps_one (w : World) (ad : Option Addr) (c : Nat) (x : List Pt) (hA : PtsAt w ad x) (hn : x ≠ []) (hl : x.length ≤ 200) : PsAt (w.alloc (.cells #[.slice ad x.length c] 22)) w.heap.size [⟨ad, c, x⟩] :=
  ⟨by simp, fun i hi => by
    obtain rfl : i = 0 := by simp at hi; exact hi
    exact ⟨(CBox.new w _ _).cell rfl, hA.kp (Kp.alloc _ _), hn, hl⟩⟩
theorem ps_two (w : World) (ad ad' : Option Addr) (c c' : Nat) (x y : List Pt) (hA : PtsAt w ad x) (hn : x ≠ []) (hl : x.length ≤ 200) (hA' : PtsAt w ad' y) (hn' : y ≠ []) (hl' : y.length ≤ 200) : PsAt (w.alloc (.cells #[.slice ad x.length c, .slice ad' y.length c'] 22)) w.heap.size [⟨ad, c, x⟩, ⟨ad', c', y⟩] :=
  ⟨by simp, fun i hi => by
    rcases (show i = 0 ∨ i = 1 by simp at hi; omega) with rfl | rfl
    · exact ⟨(CBox.new w _ _).cell rfl, hA.kp (Kp.alloc _ _), hn, hl⟩
    · exact ⟨(CBox.new w _ _).cell rfl, hA'.kp (Kp.alloc _ _), hn', hl'⟩⟩
theorem cat_one (ad : Option Addr) (c : Nat) (x : List Pt) : catP [⟨ad, c, x⟩] = x := by unfold catP; simp
theorem cat_two (ad ad' : Option Addr) (c c' : Nat) (x y : List Pt) : catP [⟨ad, c, x⟩, ⟨ad', c', y⟩] = x ++ y := by unfold catP; simp
theorem join_one' (ad : Option Addr) (c : Nat) (x : List Pt) (hn : x ≠ []) (hl : x.length ≤ 200) (op : Int) (w : World) (hA : PtsAt w ad x) (Z : List Pt) (hZ : Z = opP op :: x) :
    Calls Tryz.prog 24 #[.int .i64 op, .slice (some ⟨w.heap.size, 0, none⟩) 1 1] (w.alloc (.cells #[.slice ad x.length c] 22)) fun e w' => ∃ a3 c3, e = .returned (.slice a3 Z.length c3) ∧ PtsAt w' a3 Z ∧ Kp [] w w' := by
  refine (join1_any op w.heap.size 1 [⟨ad, c, x⟩] _ (ps_one w ad c x hA hn hl) (by simp)).mono ?_
  rintro e w' ⟨v, rfl, ho, hb⟩
  rw [cat_one, ← hZ] at ho
  obtain ⟨a3, c3, rfl, h1, _⟩ := ho.at
  exact ⟨a3, c3, rfl, h1, (Kp.alloc _ _).trans (Kp.ofBelow hb) (by simp)⟩
theorem join_two' (ad ad' : Option Addr) (c c' : Nat) (x y : List Pt) (hn : x ≠ []) (hl : x.length ≤ 200) (hn' : y ≠ []) (hl' : y.length ≤ 200) (op : Int) (w : World) (hA : PtsAt w ad x) (hA' : PtsAt w ad' y) (Z : List Pt) (hZ : Z = opP op :: (x ++ y)) :
    Calls Tryz.prog 24 #[.int .i64 op, .slice (some ⟨w.heap.size, 0, none⟩) 2 2] (w.alloc (.cells #[.slice ad x.length c, .slice ad' y.length c'] 22)) fun e w' => ∃ a3 c3, e = .returned (.slice a3 Z.length c3) ∧ PtsAt w' a3 Z ∧ Kp [] w w' := by
  refine (join1_any op w.heap.size 2 [⟨ad, c, x⟩, ⟨ad', c', y⟩] _ (ps_two w ad ad' c c' x y hA hn hl hA' hn' hl') (by simp)).mono ?_
  rintro e w' ⟨v, rfl, ho, hb⟩
  rw [cat_two, ← hZ] at ho
  obtain ⟨a3, c3, rfl, h1, _⟩ := ho.at
  exact ⟨a3, c3, rfl, h1, (Kp.alloc _ _).trans (Kp.ofBelow hb) (by simp)⟩
set_option maxHeartbeats 4000000 in
set_option maxRecDepth 100000 in
theorem etruths_walk (ax : Option Addr) (cx : Nat) (x : List Pt) (ay : Option Addr) (cy : Nat) (y : List Pt) (ev : Ev) (w : World) (_hlx : x.length ≤ 9223372036854775807) (hAx : PtsAt w ax x) (hokx : ∀ p ∈ x, p.ok) (_hly : y.length ≤ 9223372036854775807) (hAy : PtsAt w ay y) (hoky : ∀ p ∈ y, p.ok) (hT : TbE w) :
    Calls Tryz.prog 6 #[.slice ax x.length cx, .slice ay y.length cy, .agg ev.c] w fun e w' => e = .returned (.bool true) ∧ Kp [] w w' := by
  have hev : ev.c = #[.string ev.k, .string ev.t, .int .i64 ev.n0, .int .i64 ev.n1, .int .i64 ev.n2, .int .i64 ev.n3, .string ev.x] := rfl
  have hb0 : Below w.heap.size w (w.alloc (.cells ev.c 37)) := (Below.refl _ _).alloc (Nat.le_refl _) _
  have e0 : EBox w.heap.size ev (w.alloc (.cells ev.c 37)) := CBox.new w _ _
  have hT0 := hT.alloc (.cells ev.c 37)
  have WK := eworks_any _ hT0
  have hA0 := hAx.kp (Kp.alloc w (.cells ev.c 37))
  have hY0 := hAy.kp (Kp.alloc w (.cells ev.c 37))
  have HFX : Hid (∀ p ∈ x, p.fit) := hide (fun p hp => (hokx p hp).2.2.2.1)
  have HFY : Hid (∀ p ∈ y, p.fit) := hide (fun p hp => (hoky p hp).2.2.2.1)
  -- what stays: for every world above
  have HL : Hid (∀ w1, Below (w.alloc (.cells ev.c 37)).heap.size (w.alloc (.cells ev.c 37)) w1 → EBox w.heap.size ev w1 ∧ Hid (PtsAt w1 ax x) ∧ Hid (PtsAt w1 ay y) ∧ Hid (TbE w1) ∧ Hid (Below w.heap.size w w1)) := hide (fun w1 hb => ⟨e0.below hb e0.lt, hide (hA0.kp (Kp.ofBelow hb)), hide (hY0.kp (Kp.ofBelow hb)), hide (hT0.below hb hT0.low), hide (hb0.trans (hb.mono (by simp)))⟩)
  rw [hev] at WK HL
  rw [hev]
  have HWK := hide WK
  clear hb0 e0 hT0 hA0 hY0 hAx hAy hT WK hokx hoky
  go_enter Tryz.func6, Tryz.ntmps6
  go_wp2_with fail
  refine (unhide HWK).mono ?_
  rintro e w1 ⟨rfl, hb1⟩
  generalize w.alloc (.cells #[.string ev.k, .string ev.t, .int .i64 ev.n0, .int .i64 ev.n1, .int .i64 ev.n2, .int .i64 ev.n3, .string ev.x] 37) = W0 at *
  obtain ⟨_, HX1, HY1, HT1, HB1⟩ := unhide HL w1 hb1
  have WX := hide (whole_any ax cx x w1 (unhide HX1) (unhide HT1) (unhide HFX))
  have HB01 := hide hb1
  clear HWK hb1
  go_wp2_with fail
  refine (unhide WX).mono ?_
  rintro e w2 ⟨rfl, hb2⟩
  have hb02 := (unhide HB01).trans (hb2.mono (unhide HB01).size)
  obtain ⟨_, HX2, HY2, HT2, HB2⟩ := unhide HL w2 hb02
  have HB02 := hide hb02
  clear hb2 hb02 HB01 HB1 WX HX1 HY1 HT1
  by_cases hx3 : ckK x = 3
  · have g1 : (ckK x == 3) = true := by rw [hx3]; rfl
    rw [g1]
    clear g1
    have WY := hide (whole_any ay cy y w2 (unhide HY2) (unhide HT2) (unhide HFY))
    go_wp2_with fail
    refine (unhide WY).mono ?_
    rintro e w3 ⟨rfl, hb3⟩
    have hb03 := (unhide HB02).trans (hb3.mono (unhide HB02).size)
    obtain ⟨eb3, HX3, HY3, HT3, HB3⟩ := unhide HL w3 hb03
    have HB03 := hide hb03
    clear hb3 hb03 HB02 HB2 WY HX2 HY2 HT2
    by_cases hy3 : ckK y = 3
    · have g1 : (ckK y == 3) = true := by rw [hy3]; rfl
      rw [g1]
      clear g1
      have hxl : x.length ≤ 200 := by obtain ⟨_, _, _, _, _, h5⟩ := ckK_some (x := x) (by rw [hx3]; decide); exact h5
      have hyl : y.length ≤ 200 := by obtain ⟨_, _, _, _, _, h5⟩ := ckK_some (x := y) (by rw [hy3]; decide); exact h5
      have hxn : x ≠ [] := by rintro rfl; exact absurd hx3 (by decide)
      have hyn : y ≠ [] := by rintro rfl; exact absurd hy3 (by decide)
      have HEX := hide (hdE_of (M := ⟨ev, [], []⟩) hx3)
      have HEY := hide (hdE_of (M := ⟨ev, [], []⟩) hy3)
      have HTR := hide (fun (h : hdE x ⟨ev, [], []⟩ = 0) (h' : hdE y ⟨ev, [], []⟩ = 0) i hi hz => tru_ok h h' i hi hz)
      have HOX := hide (fun W (h1 : PtsAt W ax x) (h2 : TbE W) => holds_any ax none none cx 0 0 x ev [] [] W h1 (nil_nms W) (by simp) (nil_evs W) h2 (unhide HFX))
      have HOY := hide (fun W (h1 : PtsAt W ay y) (h2 : TbE W) => holds_any ay none none cy 0 0 y ev [] [] W h1 (nil_nms W) (by simp) (nil_evs W) h2 (unhide HFY))
      have HOZ := hide (fun i az cz W (h1 : PtsAt W az (truZ x y i)) (h2 : TbE W) => holds_any az none none cz 0 0 (truZ x y i) ev [] [] W h1 (nil_nms W) (by simp) (nil_evs W) h2 (truZ_ok (unhide HFX) (unhide HFY) i))
      have HWZ := hide (fun i az cz W (h1 : PtsAt W az (truZ x y i)) (h2 : TbE W) => whole_any az cz (truZ x y i) W h1 h2 (truZ_ok (unhide HFX) (unhide HFY) i))
      rw [hev] at HOX HOY HOZ
      clear hx3 hy3
      generalize hdE x ⟨ev, [], []⟩ = fx at *
      generalize hdE y ⟨ev, [], []⟩ = fy at *
      generalize hdB x ⟨ev, [], []⟩ = bx at *
      generalize hdB y ⟨ev, [], []⟩ = bby at *
      have H1 := hide (unhide HOX w3 (unhide HX3) (unhide HT3))
      obtain ⟨v0, v1, v2, v3, v4, v5, v6⟩ := eb3.cells
      clear HOX eb3 HX3 HY3 HT3
      go_wp2_with fail
      refine (unhide H1).mono ?_
      rintro e w4 ⟨rfl, hb4⟩
      have hb04 := (unhide HB03).trans (hb4.mono (unhide HB03).size)
      obtain ⟨eb4, HX4, HY4, HT4, HB4⟩ := unhide HL w4 hb04
      have HB04 := hide hb04
      clear hb4 hb04 HB03 HB3 H1 v0 v1 v2 v3 v4 v5 v6
      have H1 := hide (unhide HOY w4 (unhide HY4) (unhide HT4))
      obtain ⟨v0, v1, v2, v3, v4, v5, v6⟩ := eb4.cells
      clear HOY eb4 HX4 HY4 HT4
      go_wp2_with fail
      refine (unhide H1).mono ?_
      rintro e w5 ⟨rfl, hb5⟩
      have hb05 := (unhide HB04).trans (hb5.mono (unhide HB04).size)
      obtain ⟨eb5, HX5, HY5, HT5, HB5⟩ := unhide HL w5 hb05
      have HB05 := hide hb05
      clear hb5 hb05 HB04 HB4 H1 v0 v1 v2 v3 v4 v5 v6 eb5
      by_cases hz : fx = 0 ∧ fy = 0
      · obtain ⟨rfl, rfl⟩ := hz
        have HTR2 := hide (unhide HTR rfl rfl)
        clear HTR HEX HEY
        go_upto_region 10 with fail
        go_cut [97, 98, 99] (fun v l i wc => (∃ gs, v = .slice (some ⟨gs, 0, none⟩) 5 5 ∧ Hid (TruAt wc gs x y bx bby)) ∧ l = .int .i64 5 ∧ i = .int .i64 0 ∧ Hid (Below W0.heap.size W0 wc))
        case first =>
          have J0 := hide (fun W h => join_one' ax cx x hxn hxl 13 W h (truZ x y 0) rfl)
          have J1 := hide (fun W h h' => join_two' ax ay cx cy x y hxn hxl hyn hyl 11 W h h' (truZ x y 1) rfl)
          have J2 := hide (fun W h h' => join_two' ay ax cy cx y x hyn hyl hxn hxl 11 W h h' (truZ x y 2) rfl)
          have J3 := hide (fun W h h' => join_two' ax ay cx cy x y hxn hxl hyn hyl 12 W h h' (truZ x y 3) rfl)
          have J4 := hide (fun W h h' => join_two' ay ax cy cx y x hyn hyl hxn hxl 12 W h h' (truZ x y 4) rfl)
          have HXY := hide (fun W (hk : Kp [] w5 W) => And.intro ((unhide HX5).kp hk) ((unhide HY5).kp hk))
          clear HOZ HWZ HTR2 HX5 HY5 HT5 HL HFX HFY hxn hyn
          cases bx
          all_goals
            cases bby
            all_goals
              go_wp2_with fail
              refine (unhide J0 w5 (unhide HXY w5 (Kp.refl _ _)).1).mono ?_
              rintro e u0 ⟨a0, c0, rfl, p0, k0⟩
              have K0 := hide k0
              have P0 := hide p0
              clear p0 k0
              go_wp2_with fail
              refine (unhide J1 u0 (unhide HXY u0 (unhide K0)).1 (unhide HXY u0 (unhide K0)).2).mono ?_
              rintro e u1 ⟨a1, c1, rfl, p1, k1⟩
              have K1 := hide ((unhide K0).trans k1 (by simp))
              have P1 := hide (And.intro ((unhide P0).kp k1) p1)
              clear p1 k1 P0 K0
              go_wp2_with fail
              refine (unhide J2 u1 (unhide HXY u1 (unhide K1)).2 (unhide HXY u1 (unhide K1)).1).mono ?_
              rintro e u2 ⟨a2, c2, rfl, p2, k2⟩
              have K2 := hide ((unhide K1).trans k2 (by simp))
              have P2 := hide (And.intro ((unhide P1).1.kp k2) (And.intro ((unhide P1).2.kp k2) p2))
              clear p2 k2 P1 K1
              go_wp2_with fail
              refine (unhide J3 u2 (unhide HXY u2 (unhide K2)).1 (unhide HXY u2 (unhide K2)).2).mono ?_
              rintro e u3 ⟨a3, c3, rfl, p3, k3⟩
              have K3 := hide ((unhide K2).trans k3 (by simp))
              have P3 := hide (And.intro ((unhide P2).1.kp k3) (And.intro ((unhide P2).2.1.kp k3) (And.intro ((unhide P2).2.2.kp k3) p3)))
              clear p3 k3 P2 K2
              go_wp2_with fail
              refine (unhide J4 u3 (unhide HXY u3 (unhide K3)).2 (unhide HXY u3 (unhide K3)).1).mono ?_
              rintro e u4 ⟨a4, c4, rfl, p4, k4⟩
              have K4 := hide ((unhide K3).trans k4 (by simp))
              have P4 := hide (And.intro ((unhide P3).1.kp k4) (And.intro ((unhide P3).2.1.kp k4) (And.intro ((unhide P3).2.2.1.kp k4) (And.intro ((unhide P3).2.2.2.kp k4) p4))))
              clear p4 k4 P3 K3
              go_wp2
              go_meet
              refine ⟨⟨u4.heap.size, rfl, hide ⟨by simp, fun i hi => ?_⟩⟩, rfl, rfl, hide (((unhide HB05).trans ((unhide K4).below (unhide HB05).size (by simp))).alloc (by have := (unhide HB05).size; have := (unhide K4).size; omega) _)⟩
              obtain ⟨p0, p1, p2, p3, p4⟩ := unhide P4
              rcases (show i = 0 ∨ i = 1 ∨ i = 2 ∨ i = 3 ∨ i = 4 by omega) with rfl | rfl | rfl | rfl | rfl
              · exact ⟨_, _, (CBox.new u4 _ _).cell rfl, (CBox.new u4 _ _).cell rfl, p0.kp (Kp.alloc _ _)⟩
              · exact ⟨_, _, (CBox.new u4 _ _).cell rfl, (CBox.new u4 _ _).cell rfl, p1.kp (Kp.alloc _ _)⟩
              · exact ⟨_, _, (CBox.new u4 _ _).cell rfl, (CBox.new u4 _ _).cell rfl, p2.kp (Kp.alloc _ _)⟩
              · exact ⟨_, _, (CBox.new u4 _ _).cell rfl, (CBox.new u4 _ _).cell rfl, p3.kp (Kp.alloc _ _)⟩
              · exact ⟨_, _, (CBox.new u4 _ _).cell rfl, (CBox.new u4 _ _).cell rfl, p4.kp (Kp.alloc _ _)⟩
        case rest =>
          obtain ⟨⟨gs, rfl, HTA⟩, rfl, rfl, HBC⟩ := hcut
          clear HX5 HY5 HT5 HB5 HB05 HFX HFY hxn hyn hxl hyl
          have hgs := (unhide HTA).1
          go_wp2_with fail
          go_loopw [99] (fun i wr => ∃ k : Nat, k ≤ 5 ∧ i = .int .i64 (k : Int) ∧ Kp [] wc wr) (fun i _ => 5 - (intOf i).toNat)
          case atStart => exact ⟨0, by omega, rfl, Kp.refl _ _⟩
          case round =>
            obtain ⟨k, hk, rfl, kp⟩ := hrel
            by_cases hlt : k < 5
            · obtain ⟨az, cz, z0, z1, hz⟩ := ((unhide HTA).kp kp).2 k hlt
              have hli : (k : Int) < 5 := by omega
              have HZ := hide (fun hck => unhide HTR2 k hlt hck)
              have WZ := hide (unhide HWZ k az cz)
              have OZ := hide (unhide HOZ k az cz)
              have hb1 : Below W0.heap.size W0 (wr.alloc (.cells #[.slice az (truZ x y k).length cz, .bool (truW bx bby k)] 55)) := ((unhide HBC).trans (kp.below (unhide HBC).size (by simp))).alloc (by have := (unhide HBC).size; have := kp.size; omega) _
              have kz : Kp [] wc (wr.alloc (.cells #[.slice az (truZ x y k).length cz, .bool (truW bx bby k)] 55)) := kp.trans (Kp.alloc _ _) (by simp)
              obtain ⟨_, _, _, HTz, _⟩ := unhide HL _ hb1
              have hz2 := hz.kp (Kp.alloc wr (.cells #[.slice az (truZ x y k).length cz, .bool (truW bx bby k)] 55))
              have WZ2 := hide (unhide WZ _ hz2 (unhide HTz))
              have zb : CBox wr.heap.size #[.slice az (truZ x y k).length cz, .bool (truW bx bby k)] 55 (wr.alloc (.cells #[.slice az (truZ x y k).length cz, .bool (truW bx bby k)] 55)) := CBox.new wr _ _
              have HB1z := hide hb1
              have KZ := hide kz
              have HZ2 := hide hz2
              clear hz hz2 hb1 kz kp WZ HTz HWZ HOZ HTR2 HTA
              generalize truZ x y k = Z at *
              generalize truW bx bby k = want at *
              go_wp2_with fail
              refine (unhide WZ2).mono ?_
              rintro e w6 ⟨rfl, hb6⟩
              have hb06 := (unhide HB1z).trans (hb6.mono (unhide HB1z).size)
              have K6 := hide ((unhide KZ).trans (Kp.ofBelow hb6) (by simp))
              obtain ⟨y0, y1⟩ := pair_cells (zb.kp (Kp.ofBelow hb6) (by simp))
              obtain ⟨eb, _, _, HT6, HBW6⟩ := unhide HL w6 hb06
              have HZ6 := hide ((unhide HZ2).kp (Kp.ofBelow hb6))
              have HB06 := hide hb06
              clear WZ2 hb6 hb06 zb HZ2 KZ HB1z z0 z1
              by_cases hck : ckK Z = 3
              · have g1 : (ckK Z == 3) = true := by rw [hck]; rfl
                rw [g1]
                obtain ⟨hE, hBt⟩ := unhide HZ hck
                have OZ2 := hide (unhide OZ w6 (unhide HZ6) (unhide HT6))
                rw [hE, hBt] at OZ2
                obtain ⟨v0, v1, v2, v3, v4, v5, v6⟩ := eb.cells
                clear g1 hE hBt HZ OZ eb hck
                go_wp2_with fail
                refine (unhide OZ2).mono ?_
                rintro e w7 ⟨rfl, hb7⟩
                have y1' := (Kp.ofBelow hb7).cell y1 (by simp)
                have K7 := hide ((unhide K6).trans (Kp.ofBelow hb7) (by simp))
                clear hb7 OZ2 v0 v1 v2 v3 v4 v5 v6 y0 y1 K6
                go_wp2
                go_roundw
                case rel => exact ⟨k + 1, by omega, by go_num, unhide K7⟩
                case measure => simp [intOf]; omega
              · have g1 : (ckK Z == 3) = false := beq_eq_false_iff_ne.2 hck
                rw [g1]
                clear g1 HZ OZ eb hck
                go_wp2
                go_roundw
                case rel => exact ⟨k + 1, by omega, by go_num, unhide K6⟩
                case measure => simp [intOf]; omega
            · obtain ⟨_, _, _, _, HBW⟩ := unhide HL wc (unhide HBC)
              have HK := hide ((Kp.ofBelow (unhide HBW)).trans kp (by simp))
              clear kp HTA HWZ HOZ HTR2
              go_wp2
              go_ret
              exact ⟨rfl, unhide HK⟩
      · rcases unhide HEX with rfl | rfl
        · rcases unhide HEY with rfl | rfl
          · exact absurd ⟨rfl, rfl⟩ hz
          · clear hz HTR HEX HEY HOZ HWZ
            go_wp2
            go_ret
            exact ⟨rfl, Kp.ofBelow (unhide HB5)⟩
        · clear hz HTR HEX HEY HOZ HWZ
          go_wp2
          go_ret
          exact ⟨rfl, Kp.ofBelow (unhide HB5)⟩
    · have g1 : (ckK y == 3) = false := beq_eq_false_iff_ne.2 hy3
      rw [g1]
      clear g1 eb3
      go_wp2
      go_ret
      exact ⟨rfl, Kp.ofBelow (unhide HB3)⟩
  · have g1 : (ckK x == 3) = false := beq_eq_false_iff_ne.2 hx3
    rw [g1]
    clear g1
    go_wp2
    go_ret
    exact ⟨rfl, Kp.ofBelow (unhide HB2)⟩
end Go.Proofs.YthipclehhcfahaaGreatDoor
namespace Go.Proofs.YthipclehhcfahaaGreatDoor
open Go.RowKit Go.Deep

theorem cells_Event : Tryz.prog.cellsOf 37 = 7 := by kernel_rfl
theorem cells_i64 : Tryz.prog.cellsOf 2 = 1 := by kernel_rfl
theorem cells_four64 : Tryz.prog.cellsOf 35 = 4 := by kernel_rfl
theorem cells_text : Tryz.prog.cellsOf 9 = 1 := by kernel_rfl
theorem fields_Event : ∃ f0 f1 f2 f3 : Field, Tryz.prog.underlying 37 = some (.struct #[f0, f1, f2, f3]) ∧ f0.type = 9 ∧ f1.type = 9 ∧ f2.type = 35 ∧ f3.type = 9 ∧ f0.offset = 0 ∧ f1.offset = 1 ∧ f2.offset = 2 ∧ f3.offset = 6 :=
  ⟨_, _, _, _, Tryz.underlying37, rfl, rfl, rfl, rfl, rfl, rfl, rfl, rfl⟩
theorem list7 {α : Type} : ∀ (l : List α), l.length = 7 → ∃ a b c d e f g, l = [a, b, c, d, e, f, g]
  | [a, b, c, d, e, f, g], _ => ⟨a, b, c, d, e, f, g, rfl⟩
theorem list4 {α : Type} : ∀ (l : List α), l.length = 4 → ∃ a b c d, l = [a, b, c, d]
  | [a, b, c, d], _ => ⟨a, b, c, d, rfl⟩
section
variable {H : Type} {enc : TypeId × Value → H} {W : World} {spare : Nat → Bool} {held : Bool} {fuel : Nat} {x : DataW H × List MemPlace}
theorem open_event {cs : Array Value} (hsz : cs.size = Tryz.prog.cellsOf 37) (h : DataW.trod enc Tryz.prog W 0 spare held fuel 37 cs.toList = some x) :
    ∃ e : Ev, cs = e.c ∧ e.ok := by
  obtain ⟨f0, f1, f2, f3, hu, t0, t1, t2, t3, o0, o1, o2, o3⟩ := fields_Event
  rw [cells_Event] at hsz
  obtain ⟨xs, n, _, _, _, hxl, hf⟩ := DataW.trod_struct hu h
  obtain ⟨l⟩ := cs
  obtain ⟨v0, v1, v2, v3, v4, v5, v6, rfl⟩ := list7 l hsz
  obtain ⟨y0, y1, y2, y3, rfl⟩ := list4 xs hxl
  have g0 := hf 0 f0 rfl
  have g1 := hf 1 f1 rfl
  have g2 := hf 2 f2 rfl
  have g3 := hf 3 f3 rfl
  simp [o0, o1, o2, o3, t0, t1, t2, t3, cells_text, cells_four64] at g0 g1 g2 g3
  obtain ⟨k, q0, _, hk⟩ := DataW.trod_string Tryz.underlying9 g0
  obtain ⟨t, q1, _, ht⟩ := DataW.trod_string Tryz.underlying9 g1
  obtain ⟨s, q3, _, hs⟩ := DataW.trod_string Tryz.underlying9 g3
  simp only [List.cons.injEq, and_true] at q0 q1 q3
  subst q0 q1 q3
  obtain ⟨zs, m, _, _, _, hzl, hz⟩ := DataW.trod_array Tryz.underlying35 g2
  obtain ⟨z0, z1, z2, z3, rfl⟩ := list4 zs hzl
  have a0 := hz 0 (by omega)
  have a1 := hz 1 (by omega)
  have a2 := hz 2 (by omega)
  have a3 := hz 3 (by omega)
  simp [cells_i64] at a0 a1 a2 a3
  obtain ⟨n0, p0, _, w0⟩ := DataW.trod_int Tryz.underlying2 a0
  obtain ⟨n1, p1, _, w1⟩ := DataW.trod_int Tryz.underlying2 a1
  obtain ⟨n2, p2, _, w2⟩ := DataW.trod_int Tryz.underlying2 a2
  obtain ⟨n3, p3, _, w3⟩ := DataW.trod_int Tryz.underlying2 a3
  simp only [List.cons.injEq, and_true] at p0 p1 p2 p3
  subst p0 p1 p2 p3
  have u0 := bounds_i64 w0
  have u1 := bounds_i64 w1
  have u2 := bounds_i64 w2
  have u3 := bounds_i64 w3
  unfold maxLen at hk ht hs
  exact ⟨⟨k, t, n0, n1, n2, n3, s⟩, rfl, by show k.size ≤ _; omega, by show t.size ≤ _; omega, by show s.size ≤ _; omega, ⟨u0.1, by show n0 < _; omega⟩, ⟨u1.1, by show n1 < _; omega⟩, ⟨u2.1, by show n2 < _; omega⟩, ⟨u3.1, by show n3 < _; omega⟩⟩
end
end Go.Proofs.YthipclehhcfahaaGreatDoor
