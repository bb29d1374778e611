/-
  Frames: all frames from the front on are found, as the plain function has it; SameTexts of two slices that read the same texts returns true.
-/
import Derived.Test.YtllkkflolijpaaaDoorBod
import Derived.Deep.DeepAppendWide
namespace Go.Proofs.YtllkkflolijpaaaDoor
open Go.RowKit

/-- The frames from a place on: their bodies, the place behind the last one. -/
def frsF : Nat → List UInt8 → Nat → List (List UInt8) × Nat
  | 0, _, e => ([], e)
  | f + 1, l, e => if (bodyS (l.drop e)).2 ≠ 0 then ([], e) else ((bodyS (l.drop e)).1 :: (frsF f l (e + 10 + (bodyS (l.drop e)).1.length)).1, (frsF f l (e + 10 + (bodyS (l.drop e)).1.length)).2)
def frsS (l : List UInt8) : List (List UInt8) × Nat := frsF (l.length + 1) l 0
theorem info_string : (Tryd.prog.info? 9).map (fun i => (i.zero, i.size, i.bytes)) = some (some (.string ⟨#[]⟩), 1, 16) := by kernel_rfl
/-- A row of texts of the call's own. -/
def textC (l : List (List UInt8)) : List Value := l.map fun x => .string ⟨x.toArray⟩
def OwnsS (B : Nat) (w : World) (v : Value) (l : List (List UInt8)) : Prop := w.ownsRow B 9 1 v l.length (textC l)
theorem OwnsS.nil (B : Nat) (w : World) : OwnsS B w (.slice none 0 0) [] := World.ownsRow_nil _ _ _ _
theorem OwnsS.alloc {B : Nat} {w : World} {v : Value} {l : List (List UInt8)} (h : OwnsS B w v l) (o : Obj) : OwnsS B (w.alloc o) v l := World.ownsRow.alloc h o
theorem OwnsS.below {B B' : Nat} {w w' : World} {v : Value} {l : List (List UInt8)} (h : OwnsS B w v l) (hb : Below B' w w') (hB : w.heap.size ≤ B') : OwnsS B w' v l := by
  refine World.ownsRow.kept (row := none) h ⟨hb.os, hb.tape, hb.output, hb.size, fun k hk _ => hb.block k (by omega)⟩ ?_
  cases v.ownBlock
  · exact Or.inl rfl
  · exact Or.inr (by simp)
theorem textC_append (a b : List (List UInt8)) : textC (a ++ b) = textC a ++ textC b := by unfold textC; exact List.map_append
/-- Texts lie where a slice says. -/
def TextsAt (w : World) (ad : Option Addr) (l : List (List UInt8)) : Prop :=
  l ≠ [] → ∃ b off, ad = some ⟨b, off, none⟩ ∧ b < w.heap.size ∧ ∀ i (h : i < l.length), w.cell? ⟨b, off + i, none⟩ = some (.string ⟨(l[i]).toArray⟩)
theorem TextsAt.below {w w' : World} {B : Nat} {ad : Option Addr} {l : List (List UInt8)} (h : TextsAt w ad l) (hb : Below B w w') (hB : w.heap.size ≤ B) : TextsAt w' ad l := fun hl => by
  obtain ⟨b, off, e, hlt, hc⟩ := h hl
  exact ⟨b, off, e, Nat.lt_of_lt_of_le hlt hb.size, fun i hi => (hb.cell (p := ⟨b, off + i, none⟩) (Nat.lt_of_lt_of_le hlt hB)).trans (hc i hi)⟩
theorem OwnsS.texts {B : Nat} {w : World} {v : Value} {l : List (List UInt8)} (h : OwnsS B w v l) : ∃ ad cp, v = .slice ad l.length cp ∧ TextsAt w ad l := by
  obtain ⟨_, ⟨rfl, h0⟩ | ⟨g, cp, cur, rfl, r⟩⟩ := id h
  · refine ⟨none, 0, by rw [h0], fun hne => ?_⟩
    exact absurd (List.eq_nil_of_length_eq_zero h0) hne
  · have hl := World.ownsRow.lt h g rfl
    refine ⟨_, _, rfl, fun _ => ⟨g, 0, rfl, hl.2, fun i hi => ?_⟩⟩
    rw [Nat.zero_add, World.ownsRow.cellAt h i (by omega)]
    unfold textC
    rw [List.getElem?_map, List.getElem?_eq_getElem hi]
    rfl
set_option maxHeartbeats 2000000 in
theorem frames_any (b : ByteArray) (w : World) (hb : b.size ≤ 140737488351232) (hT : TabW w) :
    Calls Tryd.prog 39 #[.string b] w fun e w' => ∃ v, e = .returned (.tuple #[v, .int .i64 ((frsS b.data.toList).2 : Nat)]) ∧ OwnsS w.heap.size w' v (frsS b.data.toList).1 ∧ Below w.heap.size w w' := by
  generalize hR : frsS b.data.toList = R
  have hlen : b.data.toList.length = b.size := Array.length_toList
  unfold frsS at hR
  rw [hlen] at hR
  have h0 := hT.1
  have HT := hide hT
  have HR := hide hR
  have unf := fun p w hw => unframe_any b p w (by omega) hw
  have UNF := hide unf
  obtain ⟨i0, hi, hz0, hz1, hz2⟩ := info_parts info_string
  clear hT hR unf
  go_enter Tryd.func39, Tryd.ntmps39
  go_wp2_with fail
  go_loopw [2, 3] (fun v p wr => ∃ (e f : Nat) (acc : List (List UInt8)), e ≤ b.size ∧ p = .int .i64 (e : Int) ∧ OwnsS w.heap.size wr v acc ∧ Below w.heap.size w wr ∧ acc.length * 10 ≤ e ∧ b.size - e < f ∧ Hid (R = (acc ++ (frsF f b.data.toList e).1, (frsF f b.data.toList e).2))) (fun _ p _ => b.size - (intOf p).toNat)
  case atStart => exact ⟨0, b.size + 1, [], Nat.zero_le _, rfl, OwnsS.nil _ _, Below.refl _ _, by simp, by omega, hide (by rw [← unhide HR]; simp)⟩
  case round =>
    obtain ⟨p, f, acc, hp, rfl, hown, hbel, hacc, hf, HD⟩ := hrel
    obtain ⟨f, rfl⟩ : ∃ g, f = g + 1 := ⟨f - 1, by omega⟩
    have hd := unhide HD
    rw [frsF] at hd
    have hu := unhide UNF (p : Int) wr ((unhide HT).below hbel h0)
    unfold unfS at hu
    rw [if_neg (by rw [hlen]; omega), Int.toNat_natCast] at hu
    have hok := bodyS_ok (b.data.toList.drop p)
    rw [List.length_drop, hlen] at hok
    generalize bodyS (b.data.toList.drop p) = Q at *
    obtain ⟨body, code⟩ := Q
    dsimp only at hu hok hd
    clear HD
    by_cases hc : code = 0
    · subst hc
      rw [if_neg (by simp)] at hd hu
      have hk := hok rfl
      have hz := hbel.size
      have HU := hide hu
      have HD := hide hd
      clear hok hu hd
      go_wp2_with fail
      refine (unhide HU).mono ?_
      rintro e w1 ⟨rfl, hb1⟩
      dsimp only
      have hbel1 := hbel.trans (hb1.mono hz)
      have hown1 := hown.below hb1 (Nat.le_refl _)
      have hz1' := hbel1.size
      clear hown hbel hb1
      go_wp2_with (at_builtin; refine wpList_append_own_wide _ rfl _ _ 26 rfl w.heap.size 9 i0 (.string ⟨#[]⟩) 1 16 Tryd.underlying26 hi hz0 hz1 hz2 rfl (by decide) _ _ _ rfl ((hown1.alloc _).alloc _) ⟨w1.heap.size + 1, 0, none⟩ 1 1 [.string ⟨body.toArray⟩] rfl rfl ?c1 ?c2 ?c3 ?c4 ?c5 ?_)
      case c1 =>
        intro q u hq
        match q, hq with
        | 0, hq => simp at hq; subst hq; simp [Addr.add]
      case c2 => intro u hu; simp at hu; subst hu; rfl
      case c3 => unfold maxLen; omega
      case c4 => omega
      case c5 => simp; omega
      intro v' w2 hown2 hgrow _
      have hfr : Fr w.heap.size 9 w1 w2 := (((Fr.refl _ _ w1).alloc hz1' _).alloc (by simp; omega) _).grown ((hown1.alloc _).alloc _) hgrow (by simp; omega)
      have hown3 : OwnsS w.heap.size w2 v' (acc ++ [body]) := by
        unfold OwnsS
        rw [textC_append, List.length_append]
        exact hown2
      have hbel2 := hbel1.trans hfr.below
      clear hown2 hgrow hown1 hfr hbel1
      go_wp2
      go_roundw
      case rel => exact ⟨p + 10 + body.length, f, acc ++ [body], by omega, by go_num, hown3, hbel2, by simp; omega, by omega, hide (by rw [unhide HD]; simp)⟩
      case measure => simp [intOf]; omega
    · rw [if_pos hc] at hd hu
      subst hd
      have gc : (code != 0) = true := by rw [bne_iff_ne]; exact hc
      have hz := hbel.size
      have HU := hide hu
      clear hok hu hc HR
      go_wp2_with fail
      refine (unhide HU).mono ?_
      rintro e w1 ⟨rfl, hb1⟩
      dsimp only
      have hbel1 := hbel.trans (hb1.mono hz)
      have hown1 := hown.below hb1 (Nat.le_refl _)
      have hz1' := hbel1.size
      clear hown hbel hb1
      go_wp2
      go_ret2
      exact ⟨_, rfl, hown1.alloc _, hbel1.alloc hz1' _⟩
end Go.Proofs.YtllkkflolijpaaaDoor
