/-
  works: the chapter's example holds; a number from 0 to n - 1.
  A slice of numbers: they lie where it says.
  SnapRises: whatever the numbers, the law returns true.
-/
import Derived.Test.YtdmckgcbmbhmmaaGreatDoorRw18
import Derived.Test.YtdmckgcbmbhmmaaGreatDoorRw22
import Derived.Test.YtdmckgcbmbhmmaaGreatDoorChecked
import Derived.Test.YtdmckgcbmbhmmaaGreatDoorRw01
import Derived.WalkLawsBesides
namespace Go.Proofs.YtdmckgcbmbhmmaaGreatDoor
open Go.RowKit

set_option maxHeartbeats 400000 in
theorem among_any (x n : Int) (w : World) (hn : 0 < n) (hn1 : n ≤ 1099511627776) :
    Calls Tryz.prog 18 #[.int .i64 x, .int .i64 n] w fun e w' => e = .returned (.int .i64 (x % n)) ∧ w' = w := by
  have hne : (n == 0) = false := beq_eq_false_iff_ne.2 (by omega)
  have e1 := among_eq x n hn
  have b1 : -n < x.tmod n := Int.lt_tmod_of_pos x hn
  have b2 : x.tmod n < n := Int.tmod_lt_of_pos x hn
  go_enter Tryz.func18, Tryz.ntmps18
  go_wp2
  go_ret
  exact ⟨rfl, rfl⟩
def ba : ByteArray := ⟨#[97]⟩
def bb : ByteArray := ⟨#[98]⟩
def bc : ByteArray := ⟨#[99]⟩
def bz : ByteArray := ⟨#[122]⟩
def wA : List ByteArray := [mNm, mNew, sNm 1 0, sNm 1 1, sNm 2 0]
def wk1 : Dk := (Dk.new.put ((1 : Nat) : Int) ((0 : Nat) : Int) ba).2
def wk2 : Dk := (wk1.put ((1 : Nat) : Int) ((1 : Nat) : Int) bb).2
def wk3 : Dk := (wk2.commit ((1 : Nat) : Int) ((2 : Nat) : Int) bx).2
def wk4 : Dk := (wk3.put ((2 : Nat) : Int) ((0 : Nat) : Int) bc).2
theorem wkE : (Dk.new.put ((1 : Nat) : Int) ((0 : Nat) : Int) ba).1 = 0 ∧ (wk1.put ((1 : Nat) : Int) ((1 : Nat) : Int) bb).1 = 0 ∧ (wk2.commit ((1 : Nat) : Int) ((2 : Nat) : Int) bx).1 = 0 ∧ wk3.laE = 0 ∧ wk3.laM = ⟨((1 : Nat) : Int), ((2 : Nat) : Int), bx⟩ ∧ wk3.reE ((1 : Nat) : Int) ((1 : Nat) : Int) = 0 ∧ wk3.reS ((1 : Nat) : Int) ((1 : Nat) : Int) = bb ∧
    wk3.put ((1 : Nat) : Int) ((0 : Nat) : Int) bz = (220, wk3) ∧ (wk3.put ((2 : Nat) : Int) ((0 : Nat) : Int) bc).1 = 0 ∧ wk4.coll.1 = 1 ∧ wk4.coll.2.1 = 0 := by
  have hL : wA.length ≤ 63 := by decide
  have i10 : sNm 1 0 ≠ sNm 1 1 := fun e => absurd (sNm_inj (by decide) (by decide) (by decide) (by decide) (by decide) (by decide) e).2 (by decide)
  have i20 : sNm 2 0 ≠ sNm 1 0 := fun e => absurd (sNm_inj (by decide) (by decide) (by decide) (by decide) (by decide) (by decide) e).1 (by decide)
  have i21 : sNm 2 0 ≠ sNm 1 1 := fun e => absurd (sNm_inj (by decide) (by decide) (by decide) (by decide) (by decide) (by decide) e).1 (by decide)
  obtain ⟨e1, h1⟩ := (Gn.new (A := wA)).put (c := 1) (t := 0) (b := ba) (l := 0) (by decide) hL (Or.inl ⟨rfl, rfl⟩) ⟨by decide, by decide⟩ (by decide) (by decide) (by unfold wA; simp) (by decide)
  have m1 : gSet (sNm 1 0) (some (frS ba).data.toList) (fun _ => none) mNm = none := by rw [gSet_ne (sNm_ne_m _ _).symm]
  obtain ⟨e2, h2⟩ := h1.put (c := 1) (t := 1) (b := bb) (l := 0) (by decide) hL (Or.inl ⟨rfl, m1⟩) ⟨by decide, by decide⟩ (by decide) (by decide) (by unfold wA; simp) (by decide)
  have m2 : gSet (sNm 1 1) (some (frS bb).data.toList) (gSet (sNm 1 0) (some (frS ba).data.toList) (fun _ => none)) mNm = none := by rw [gSet_ne (sNm_ne_m _ _).symm, m1]
  have s0 : gSet (sNm 1 1) (some (frS bb).data.toList) (gSet (sNm 1 0) (some (frS ba).data.toList) (fun _ => none)) (sNm 1 0) = some (frS ba).data.toList := by rw [gSet_ne i10, gSet_eq]
  have s1 : gSet (sNm 1 1) (some (frS bb).data.toList) (gSet (sNm 1 0) (some (frS ba).data.toList) (fun _ => none)) (sNm 1 1) = some (frS bb).data.toList := gSet_eq _ _ _
  have sn : ∀ n, n ≠ sNm 1 0 → n ≠ sNm 1 1 → gSet (sNm 1 1) (some (frS bb).data.toList) (gSet (sNm 1 0) (some (frS ba).data.toList) (fun _ => none)) n = none := fun n a b => by rw [gSet_ne b, gSet_ne a]
  generalize gSet (sNm 1 1) (some (frS bb).data.toList) (gSet (sNm 1 0) (some (frS ba).data.toList) (fun _ => none)) = g2 at *
  obtain ⟨e3, h3⟩ := h2.commit (c := 1) (n := 2) (s := bx) (f := fun t => if t = 0 then ba else bb) (l := 0) (by decide) (by unfold wA; simp) (by unfold wA; simp) hL (Or.inl ⟨rfl, m2⟩) ⟨by decide, by decide⟩ (by decide) ⟨by decide, by decide⟩ (by decide) (fun t ht => by
    rcases (by omega : t = 0 ∨ t = 1) with rfl | rfl
    · exact ⟨s0, by decide⟩
    · exact ⟨s1, by decide⟩)
  have m3 : gSet mNm (some (mfB ((1 : Nat) : Int) ((2 : Nat) : Int) bx).data.toList) (gSet mNew none g2) mNm = some (mfB ((1 : Nat) : Int) ((2 : Nat) : Int) bx).data.toList := gSet_eq _ _ _
  have r3 : gSet mNm (some (mfB ((1 : Nat) : Int) ((2 : Nat) : Int) bx).data.toList) (gSet mNew none g2) (sNm 1 1) = some (frS bb).data.toList := by rw [gSet_ne (sNm_ne_m _ _), gSet_ne (sNm_ne_new _ _), s1]
  have n3 : ∀ n, n ≠ mNm → n ≠ sNm 1 0 → n ≠ sNm 1 1 → gSet mNm (some (mfB ((1 : Nat) : Int) ((2 : Nat) : Int) bx).data.toList) (gSet mNew none g2) n = none := fun n a b c => by
    rw [gSet_ne a]
    by_cases hn : n = mNew
    · rw [hn]; exact gSet_eq _ _ _
    · rw [gSet_ne hn, sn n b c]
  generalize gSet mNm (some (mfB ((1 : Nat) : Int) ((2 : Nat) : Int) bx).data.toList) (gSet mNew none g2) = g3 at *
  have l3 : LtN g3 1 := Or.inr ⟨⟨by decide, by decide⟩, 2, bx, ⟨by decide, by decide⟩, by decide, m3⟩
  obtain ⟨e4, e5⟩ := h3.la (l := 1) (t := 2) ⟨by decide, by decide⟩ ⟨by decide, by decide⟩ (by decide) m3
  obtain ⟨e6, e7⟩ := h3.re (c := 1) (t := 1) (b := bb) ⟨by decide, by decide⟩ (by decide) (by decide) r3
  have e8 := h3.put_not (c := 1) (t := 0) (b := bz) l3 ⟨by decide, by decide⟩ (Nat.le_refl _) (by decide) (by decide)
  obtain ⟨e9, h4⟩ := h3.put (c := 2) (t := 0) (b := bc) (by decide) hL l3 ⟨by decide, by decide⟩ (by decide) (by decide) (by unfold wA; simp) (by decide)
  have m4 : gSet (sNm 2 0) (some (frS bc).data.toList) g3 mNm = some (mfB ((1 : Nat) : Int) ((2 : Nat) : Int) bx).data.toList := by rw [gSet_ne (sNm_ne_m _ _).symm, m3]
  obtain ⟨ea, eb, _⟩ := h4.coll (l := 1) (t := 2) (s := bx) (L := [sNm 2 0]) (by decide) hL (fun n hn => by
    unfold wA at hn
    simp only [List.mem_cons, List.not_mem_nil, or_false] at hn
    rcases hn with rfl | rfl | rfl | rfl | rfl
    · exact dnm_m
    · exact dnm_new
    all_goals exact sNm_dnm _ _ (by decide) (by decide)) ⟨by decide, by decide⟩ ⟨by decide, by decide⟩ (by decide) m4 (by simp) (fun n => by
    rw [List.mem_singleton]
    constructor
    · rintro ⟨a, b⟩
      by_cases hn : n = sNm 2 0
      · exact hn
      · rw [gSet_ne hn] at a
        by_cases n1 : n = mNm
        · rw [n1, otB_m] at b; cases b
        · by_cases n2 : n = sNm 1 0
          · rw [n2, otB_nm ⟨by decide, by decide⟩ (by decide)] at b; simp at b
          · by_cases n4 : n = sNm 1 1
            · rw [n4, otB_nm ⟨by decide, by decide⟩ (by decide)] at b; simp at b
            · rw [n3 n n1 n2 n4] at a; cases a
    · rintro rfl
      exact ⟨by rw [gSet_eq]; rfl, by rw [otB_nm ⟨by decide, by decide⟩ (by decide)]; simp⟩)
  exact ⟨e1, e2, e3, e4, e5, e6, e7, e8, e9, eb, ea⟩
set_option maxHeartbeats 2000000 in
set_option maxRecDepth 100000 in
theorem works_any (w : World) (hT : TabW w) : Calls Tryz.prog 16 #[] w fun e w' => e = .returned (.bool true) ∧ Kp [] w w' := by
  obtain ⟨e1, e2, e3, e4, e5, e6, e7, e8, e9, ea, eb⟩ := wkE
  have S1 : Hid (∀ W p, OwnD w W p Dk.new → Calls Tryz.prog 12 #[.pointer (some ⟨p, 0, none⟩), .int .i64 1, .int .i64 0, .string ⟨#[97]⟩] W fun e w' => e = .returned (.int .i64 0) ∧ OwnD w w' p wk1) := hide (fun W p h => by
    have := put_any h hT 1 0 ba ⟨by decide, by decide⟩ (by decide) (by decide)
    rw [e1] at this
    exact this.mono fun _ _ ⟨a, b, _⟩ => ⟨a, b⟩)
  have S2 : Hid (∀ W p, OwnD w W p wk1 → Calls Tryz.prog 12 #[.pointer (some ⟨p, 0, none⟩), .int .i64 1, .int .i64 1, .string ⟨#[98]⟩] W fun e w' => e = .returned (.int .i64 0) ∧ OwnD w w' p wk2) := hide (fun W p h => by
    have := put_any h hT 1 1 bb ⟨by decide, by decide⟩ (by decide) (by decide)
    rw [e2] at this
    exact this.mono fun _ _ ⟨a, b, _⟩ => ⟨a, b⟩)
  have S3 : Hid (∀ W p, OwnD w W p wk2 → Calls Tryz.prog 13 #[.pointer (some ⟨p, 0, none⟩), .int .i64 1, .int .i64 2, .string ⟨#[120]⟩] W fun e w' => e = .returned (.int .i64 0) ∧ OwnD w w' p wk3) := hide (fun W p h => by
    have := commit_any h hT 1 2 bx ⟨by decide, by decide⟩ ⟨by decide, by decide⟩ (by decide)
    rw [e3] at this
    exact this.mono fun _ _ ⟨a, b, _⟩ => ⟨a, b⟩)
  have S4 : Hid (∀ W p, OwnD w W p wk3 → Calls Tryz.prog 9 #[.pointer (some ⟨p, 0, none⟩)] W fun e w' => e = .returned (.tuple #[.int .i64 1, .int .i64 2, .string ⟨#[120]⟩, .int .i64 0]) ∧ Kp [] W w') := hide (fun W p h => by
    have := latest_any h hT
    rw [e4, e5] at this
    exact this)
  have S5 : Hid (∀ W p, OwnD w W p wk3 → Calls Tryz.prog 10 #[.pointer (some ⟨p, 0, none⟩), .int .i64 1, .int .i64 1] W fun e w' => e = .returned (.tuple #[.string ⟨#[98]⟩, .int .i64 0]) ∧ Kp [] W w') := hide (fun W p h => by
    have := read_sn h hT 1 1 ⟨by decide, by decide⟩ (by decide)
    rw [e6, e7] at this
    exact this)
  have S6 : Hid (∀ W p, OwnD w W p wk3 → Calls Tryz.prog 12 #[.pointer (some ⟨p, 0, none⟩), .int .i64 1, .int .i64 0, .string ⟨#[122]⟩] W fun e w' => e = .returned (.int .i64 220) ∧ OwnD w w' p wk3) := hide (fun W p h => by
    have := put_any h hT 1 0 bz ⟨by decide, by decide⟩ (by decide) (by decide)
    rw [e8] at this
    exact this.mono fun _ _ ⟨a, b, _⟩ => ⟨a, b⟩)
  have S7 : Hid (∀ W p, OwnD w W p wk3 → Calls Tryz.prog 12 #[.pointer (some ⟨p, 0, none⟩), .int .i64 2, .int .i64 0, .string ⟨#[99]⟩] W fun e w' => e = .returned (.int .i64 0) ∧ OwnD w w' p wk4) := hide (fun W p h => by
    have := put_any h hT 2 0 bc ⟨by decide, by decide⟩ (by decide) (by decide)
    rw [e9] at this
    exact this.mono fun _ _ ⟨a, b, _⟩ => ⟨a, b⟩)
  have S8 : Hid (∀ W p, OwnD w W p wk4 → Calls Tryz.prog 11 #[.pointer (some ⟨p, 0, none⟩)] W fun e w' => e = .returned (.tuple #[.int .i64 1, .int .i64 0]) ∧ OwnD w w' p wk4.coll.2.2) := hide (fun W p h => by
    have := coll_any h hT
    rw [ea, eb] at this
    exact this.mono fun _ _ ⟨a, b, _⟩ => ⟨a, b⟩)
  clear e1 e2 e3 e4 e5 e6 e7 e8 e9 ea eb hT
  go_enter Tryz.func16, Tryz.ntmps16
  go_wp2_with fail
  refine (new_own w).mono ?_
  rintro e w1 ⟨p, rfl, o1⟩
  go_wp2_with fail
  refine (unhide S1 w1 p o1).mono ?_
  rintro e w2 ⟨rfl, o2⟩
  go_wp2_with fail
  refine (unhide S2 w2 p o2).mono ?_
  rintro e w3 ⟨rfl, o3⟩
  go_wp2_with fail
  refine (unhide S3 w3 p o3).mono ?_
  rintro e w4 ⟨rfl, o4⟩
  go_wp2_with fail
  refine (unhide S4 w4 p o4).mono ?_
  rintro e w5 ⟨rfl, k5⟩
  have o5 := o4.kp k5
  clear k5 o4 o3 o2 o1 S1 S2 S3 S4
  go_wp2_with fail
  refine (unhide S5 w5 p o5).mono ?_
  rintro e w6 ⟨rfl, k6⟩
  have o6 := o5.kp k6
  clear k6 o5 S5
  go_wp2_with fail
  refine (unhide S6 w6 p o6).mono ?_
  rintro e w7 ⟨rfl, o7⟩
  go_wp2_with fail
  refine (unhide S7 w7 p o7).mono ?_
  rintro e w8 ⟨rfl, o8⟩
  go_wp2_with fail
  refine (unhide S8 w8 p o8).mono ?_
  rintro e w9 ⟨rfl, o9⟩
  have HK := hide o9.bel
  clear o6 o7 o8 o9 S6 S7 S8
  go_wp2
  go_ret
  exact ⟨rfl, unhide HK⟩
end Go.Proofs.YtdmckgcbmbhmmaaGreatDoor
namespace Go.Proofs.YtdmckgcbmbhmmaaGreatDoor
open Go.RowKit

/-- Numbers lie where the slice says. -/
def IntsAt (w : World) (ad : Option Addr) (l : List Int) : Prop :=
  l ≠ [] → ∃ b off, ad = some ⟨b, off, none⟩ ∧ b < w.heap.size ∧ ∀ i (h : i < l.length), w.cell? ⟨b, off + i, none⟩ = some (.int .i64 l[i])
theorem IntsAt.below {w w' : World} {B : Nat} {ad : Option Addr} {l : List Int} (h : IntsAt w ad l) (hb : Below B w w') (hB : w.heap.size ≤ B) : IntsAt w' ad l := fun hl => by
  obtain ⟨b, off, e, hlt, hc⟩ := h hl
  exact ⟨b, off, e, Nat.lt_of_lt_of_le hlt hb.size, fun i hi => (hb.cell (p := ⟨b, off + i, none⟩) (Nat.lt_of_lt_of_le hlt hB)).trans (hc i hi)⟩
end Go.Proofs.YtdmckgcbmbhmmaaGreatDoor
namespace Go.Proofs.YtdmckgcbmbhmmaaGreatDoor
open Go.RowKit

theorem IntsAt.kp {w w' : World} {ad : Option Addr} {l : List Int} (h : IntsAt w ad l) (hk : Kp [] w w') : IntsAt w' ad l := fun hl => by
  obtain ⟨b, off, e, hlt, hc⟩ := h hl
  exact ⟨b, off, e, Nat.lt_of_lt_of_le hlt hk.size, fun i hi => hk.cell (hc i hi) (by simp)⟩
/-- So many names. -/
theorem OwnD.nlen {w0 w : World} {p n : Nat} {d : Dk} (h : OwnD w0 w p d) (h2 : (nmL d.now).length = n) (hn : 0 < n) :
    Calls Tryz.prog 21 #[.pointer (some ⟨p, 0, none⟩)] w fun e w' => (∃ g cap, e = .returned (.slice (some ⟨g, 0, none⟩) n cap)) ∧ OwnD w0 w' p d := by
  obtain ⟨F, hd, _⟩ := id h
  refine (names_any p d F w hd).mono fun e w' hh => ?_
  obtain ⟨v, rfl, ⟨_, h1 | ⟨g, cap, cur, rfl, _⟩⟩, hk, _⟩ := hh
  · have := h1.2; omega
  · exact ⟨⟨g, cap, by rw [h2]⟩, h.kp hk⟩
set_option maxHeartbeats 4000000 in
set_option maxRecDepth 100000 in
theorem srises_walk (ad : Option Addr) (cap : Nat) (l : List Int) (w : World) (_hl : l.length ≤ 9223372036854775807) (hI : IntsAt w ad l) (_hok : ∀ y ∈ l, -9223372036854775808 ≤ y ∧ y ≤ 9223372036854775807) (hT : TabW w) :
    Calls Tryz.prog 6 #[.slice ad l.length cap] w fun e w' => e = .returned (.bool true) ∧ Kp [] w w' := by
  have NW := hide (new_own w)
  have WK := hide (fun W (hk : Kp [] w W) => works_any W (hT.kp' hk))
  have II := hide (fun W (hk : Kp [] w W) => hI.kp hk)
  have PT := hide (fun W p d c (h : OwnD w W p d) (hc : 1 ≤ c ∧ c < 100) => put_any h hT c 0 bx hc (by decide) (by decide))
  have CM := hide (fun W p d c (h : OwnD w W p d) (hc : 1 ≤ c ∧ c < 100) => commit_any h hT c 1 bt hc (by decide) (by decide))
  have LA := hide (fun W p d (h : OwnD w W p d) => latest_any h hT)
  have CO := hide (fun W p d (h : OwnD w W p d) => coll_any h hT)
  clear hI hT
  go_enter Tryz.func6, Tryz.ntmps6
  go_wp2_with fail
  refine (unhide NW).mono ?_
  rintro e w1 ⟨p, rfl, o1⟩
  have O1 := hide o1
  clear o1
  go_wp2_with fail
  refine (unhide WK w1 (unhide O1).bel).mono ?_
  rintro e w2 ⟨rfl, k2⟩
  have HI : Hid (∃ d j, j ≤ 1 ∧ OwnD w w2 p d ∧ Gn rA j (gR 0) d) := hide ⟨_, 0, by decide, (unhide O1).kp k2, Gn.new⟩
  clear k2 O1 NW WK
  go_wp2
  go_loopw [5, 4, 6, 7, 8, 9, 10, 11, 12, 13, 14] (fun i la _ _ _ _ _ _ _ _ _ wr => ∃ k lst : Nat, k ≤ l.length ∧ k ≤ 40 ∧ lst ≤ 60 ∧ i = .int .i64 (k : Int) ∧ la = .int .i64 (lst : Int) ∧ Hid (∃ d j, j ≤ 1 ∧ OwnD w wr p d ∧ Gn rA j (gR lst) d)) (fun i _ _ _ _ _ _ _ _ _ _ _ => 40 - (intOf i).toNat)
  case atStart => exact ⟨0, 0, Nat.zero_le _, Nat.zero_le _, Nat.zero_le _, rfl, rfl, HI⟩
  case round =>
    obtain ⟨k, lst, hk, hk4, hls, rfl, rfl, HK⟩ := hrel
    clear HI
    by_cases hlt : k < l.length
    · have hli : (k : Int) < (l.length : Int) := by omega
      by_cases h40 : k < 40
      · have h40i : (k : Int) < 40 := by omega
        obtain ⟨d, j, hj, od, gd⟩ := unhide HK
        clear HK
        obtain ⟨b, off, rfl, _, hc⟩ := unhide II wr od.bel (by intro e; rw [e] at hlt; simp at hlt)
        have c1 := hc k hlt
        clear hc
        have AM := hide (among_any l[k] 60 wr (by decide) (by decide))
        have hm0 := Int.emod_nonneg l[k] (show (60 : Int) ≠ 0 by decide)
        have hm1 := Int.emod_lt_of_pos l[k] (show (0 : Int) < 60 by decide)
        generalize l[k] % 60 = m at *
        generalize l[k] = x at *
        obtain ⟨c, hc⟩ : ∃ c : Nat, (c : Int) = 1 + m := ⟨(1 + m).toNat, by omega⟩
        have hc1 : 1 ≤ c ∧ c < 100 := by omega
        have hc2 : c ≤ 60 := by omega
        have HC := hide hc
        clear hc
        by_cases hcl : c ≤ lst
        · have hgt : ¬ (lst : Int) < (c : Int) := by omega
          have hmx : max (lst : Int) (c : Int) = (lst : Int) := by omega
          have pu := unhide PT wr p d c od hc1
          rw [gd.put_not (gR_lt hls) ⟨hc1.1, by omega⟩ hcl (by decide) (by decide)] at pu
          have PU : Hid (Calls Tryz.prog _ _ _ _) := hide (pu.mono fun _ _ ⟨a, b, _⟩ => And.intro a b)
          have cm := fun W o => unhide CM W p d c o hc1
          rw [gd.commit_not (gR_lt hls) ⟨hc1.1, by omega⟩ hcl (by decide) (by decide)] at cm
          have CU : Hid (∀ W, OwnD w W p d → Calls Tryz.prog _ _ _ _) := hide (fun W o => (cm W o).mono fun _ _ ⟨a, b, _⟩ => And.intro a b)
          obtain ⟨⟨r1, r2⟩, r3, r4, r5, r6⟩ := rise_lo gd (by omega) (by omega) hls
          have la := fun W o => unhide LA W p d o
          rw [r1, r2] at la
          have LU : Hid (∀ W, OwnD w W p d → Calls Tryz.prog _ _ W fun e w' => e = .returned (.tuple #[.int .i64 (lst : Int), .int .i64 1, .string ⟨#[116]⟩, .int .i64 0]) ∧ Kp [] W w') := hide la
          have co := fun W o => unhide CO W p d o
          rw [r3] at co
          have KU : Hid (∀ W, OwnD w W p d → Calls Tryz.prog _ _ W fun e w' => (∃ y, e = .returned (.tuple #[.int .i64 y, .int .i64 0])) ∧ OwnD w w' p d.coll.2.2) := hide (fun W o => (co W o).mono fun _ _ ⟨a, b, _⟩ => ⟨⟨_, a⟩, b⟩)
          have NU : Hid (∀ W, OwnD w W p d.coll.2.2 → Calls Tryz.prog _ _ _ _) := hide (fun W o => o.nlen r6 (by decide))
          have GU : Hid (∀ W, OwnD w W p d.coll.2.2 → ∃ d j, j ≤ 1 ∧ OwnD w W p d ∧ Gn rA j (gR lst) d) := hide (fun W o => ⟨_, j, hj, o, r5⟩)
          clear pu cm la co r1 r2 r3 r4 r5 r6 PT CM LA CO gd od hj
          generalize d.coll.2.2 = d3 at *
          go_wp2_with fail
          refine (unhide AM).mono ?_
          rintro e w3 ⟨rfl, rfl⟩
          go_wp2_with fail
          rw [← unhide HC]
          refine (unhide PU).mono ?_
          rintro e w4 ⟨rfl, o4⟩
          have O4 := hide o4
          clear o4 PU AM c1
          go_wp2_with fail
          refine (unhide CU w4 (unhide O4)).mono ?_
          rintro e w5 ⟨rfl, o5⟩
          have O5 := hide o5
          clear o5 CU O4
          go_wp2_with fail
          refine (unhide LU w5 (unhide O5)).mono ?_
          rintro e w6 ⟨rfl, k6⟩
          have O6 := hide ((unhide O5).kp k6)
          clear k6 LU O5
          go_wp2_with fail
          refine (unhide KU w6 (unhide O6)).mono ?_
          rintro e w7 ⟨⟨y, rfl⟩, o7⟩
          have O7 := hide o7
          clear o7 KU O6
          go_wp2_with fail
          refine (unhide NU w7 (unhide O7)).mono ?_
          rintro e w8 ⟨⟨g, cp, rfl⟩, o8⟩
          have HN := hide (unhide GU w8 o8)
          clear o8 NU O7 GU
          go_wp2
          go_roundw
          case rel => exact ⟨k + 1, lst, by omega, by omega, by omega, by go_num, rfl, HN⟩
          case measure => simp [intOf]; omega
        · have hgt : (lst : Int) < (c : Int) := by omega
          have hmx : max (lst : Int) (c : Int) = (c : Int) := by omega
          obtain ⟨q1, q2, ⟨r1, r2⟩, r3, r4, r5, r6⟩ := rise_hi gd (by omega) (by omega : lst < c) hc2
          have pu := unhide PT wr p d c od hc1
          rw [q1] at pu
          have PU : Hid (Calls Tryz.prog _ _ _ _) := hide (pu.mono fun _ _ ⟨a, b, _⟩ => And.intro a b)
          have cm := fun W o => unhide CM W p (d.put c ((0 : Nat) : Int) bx).2 c o hc1
          rw [q2] at cm
          have CU : Hid (∀ W, OwnD w W p (d.put c ((0 : Nat) : Int) bx).2 → Calls Tryz.prog _ _ _ _) := hide (fun W o => (cm W o).mono fun _ _ ⟨a, b, _⟩ => And.intro a b)
          have la := fun W o => unhide LA W p ((d.put c ((0 : Nat) : Int) bx).2.commit c ((1 : Nat) : Int) bt).2 o
          rw [r1, r2] at la
          have LU : Hid (∀ W, OwnD w W p ((d.put c ((0 : Nat) : Int) bx).2.commit c ((1 : Nat) : Int) bt).2 → Calls Tryz.prog _ _ W fun e w' => e = .returned (.tuple #[.int .i64 (c : Int), .int .i64 1, .string ⟨#[116]⟩, .int .i64 0]) ∧ Kp [] W w') := hide la
          have co := fun W o => unhide CO W p ((d.put c ((0 : Nat) : Int) bx).2.commit c ((1 : Nat) : Int) bt).2 o
          rw [r3] at co
          have KU : Hid (∀ W, OwnD w W p ((d.put c ((0 : Nat) : Int) bx).2.commit c ((1 : Nat) : Int) bt).2 → Calls Tryz.prog _ _ W fun e w' => (∃ y, e = .returned (.tuple #[.int .i64 y, .int .i64 0])) ∧ OwnD w w' p ((d.put c ((0 : Nat) : Int) bx).2.commit c ((1 : Nat) : Int) bt).2.coll.2.2) := hide (fun W o => (co W o).mono fun _ _ ⟨a, b, _⟩ => ⟨⟨_, a⟩, b⟩)
          have NU : Hid (∀ W, OwnD w W p ((d.put c ((0 : Nat) : Int) bx).2.commit c ((1 : Nat) : Int) bt).2.coll.2.2 → Calls Tryz.prog _ _ _ _) := hide (fun W o => o.nlen r6 (by decide))
          have GU : Hid (∀ W, OwnD w W p ((d.put c ((0 : Nat) : Int) bx).2.commit c ((1 : Nat) : Int) bt).2.coll.2.2 → ∃ d j, j ≤ 1 ∧ OwnD w W p d ∧ Gn rA j (gR c) d) := hide (fun W o => ⟨_, 1, Nat.le_refl _, o, r5⟩)
          clear pu cm la co q1 q2 r1 r2 r3 r4 r5 r6 PT CM LA CO gd od hj
          generalize ((d.put c ((0 : Nat) : Int) bx).2.commit c ((1 : Nat) : Int) bt).2.coll.2.2 = d3 at *
          generalize ((d.put c ((0 : Nat) : Int) bx).2.commit c ((1 : Nat) : Int) bt).2 = d2 at *
          generalize (d.put c ((0 : Nat) : Int) bx).2 = d1 at *
          go_wp2_with fail
          refine (unhide AM).mono ?_
          rintro e w3 ⟨rfl, rfl⟩
          go_wp2_with fail
          rw [← unhide HC]
          refine (unhide PU).mono ?_
          rintro e w4 ⟨rfl, o4⟩
          have O4 := hide o4
          clear o4 PU AM c1
          go_wp2_with fail
          refine (unhide CU w4 (unhide O4)).mono ?_
          rintro e w5 ⟨rfl, o5⟩
          have O5 := hide o5
          clear o5 CU O4
          go_wp2_with fail
          refine (unhide LU w5 (unhide O5)).mono ?_
          rintro e w6 ⟨rfl, k6⟩
          have O6 := hide ((unhide O5).kp k6)
          clear k6 LU O5
          go_wp2_with fail
          refine (unhide KU w6 (unhide O6)).mono ?_
          rintro e w7 ⟨⟨y, rfl⟩, o7⟩
          have O7 := hide o7
          clear o7 KU O6
          go_wp2_with fail
          refine (unhide NU w7 (unhide O7)).mono ?_
          rintro e w8 ⟨⟨g, cp, rfl⟩, o8⟩
          have HN := hide (unhide GU w8 o8)
          clear o8 NU O7 GU
          go_wp2
          go_roundw
          case rel => exact ⟨k + 1, c, by omega, by omega, by omega, by go_num, rfl, HN⟩
          case measure => simp [intOf]; omega
      · obtain rfl : k = 40 := by omega
        have hk0 : ¬ ((40 : Nat) : Int) < 40 := by decide
        obtain ⟨d, j, hj, od, gd⟩ := unhide HK
        have HB := hide od.bel
        clear HK od gd
        go_wp2
        go_ret
        exact ⟨rfl, unhide HB⟩
    · have hli : ¬ (k : Int) < (l.length : Int) := by omega
      obtain ⟨d, j, hj, od, gd⟩ := unhide HK
      have HB := hide od.bel
      clear HK od gd
      go_wp2
      go_ret
      exact ⟨rfl, unhide HB⟩
end Go.Proofs.YtdmckgcbmbhmmaaGreatDoor
