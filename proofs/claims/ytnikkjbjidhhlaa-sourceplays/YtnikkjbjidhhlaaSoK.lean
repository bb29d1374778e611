/-
  A source that the call itself made; the chapter's example (works).
-/
import Derived.Test.YtnikkjbjidhhlaaSoE
import Derived.Test.YtnikkjbjidhhlaaSoJ
namespace Go.Proofs.Ytnikkjbjidhhlaa
open Go.RowKit

/-- A source of the call's own. -/
def OwnSo (w0 w : World) (g : Nat) (ps : List (List Ev)) : Prop := ∃ F, SrcAt w g F ps ∧ Kp [] w0 w ∧ ∀ k ∈ F, w0.heap.size ≤ k
theorem OwnSo.kp {w0 w w' : World} {g : Nat} {ps : List (List Ev)} (h : OwnSo w0 w g ps) (hk : Kp [] w w') : OwnSo w0 w' g ps := by
  obtain ⟨F, hd, h1, h2⟩ := h
  exact ⟨F, hd.kp hk (by simp), h1.trans hk (by simp), h2⟩
theorem OwnSo.bel {w0 w : World} {g : Nat} {ps : List (List Ev)} (h : OwnSo w0 w g ps) : Kp [] w0 w := let ⟨_, _, h1, _⟩ := h; h1
theorem OwnSo.src {w0 w : World} {g : Nat} {ps : List (List Ev)} (h : OwnSo w0 w g ps) : ∃ q vs, SrcV w g q vs ps := let ⟨_, ⟨q, vs, h1, _⟩, _⟩ := h; ⟨q, vs, h1⟩
theorem SDid.own {w0 w w' : World} {F : List Nat} {g : Nat} {ps : List (List Ev)} (hk : Kp [] w0 w) (hF : ∀ k ∈ F, w0.heap.size ≤ k) (h : SDid w F g ps w') : OwnSo w0 w' g ps := by
  obtain ⟨F', hd', h3, h4⟩ := h
  refine ⟨F', hd', hk.trans h3 (fun x hx => Or.inr (hF x hx)), fun k hk1 => ?_⟩
  rcases h4 k hk1 with h5 | h5
  · exact hF k h5
  · have := hk.size; omega
theorem sput_any (g : Nat) (F : List Nat) (ps : List (List Ev)) (e : Ev) (w : World) (h : SrcAt w g F ps) (hok : e.ok) :
    Calls Try.prog 16 #[.pointer (some ⟨g, 0, none⟩), .agg e.c] w fun r w' => r = .returned (.tuple #[.int .i64 (puA ps e), .int .i64 (puO ps e), .int .i64 (puE ps e)]) ∧ SDid w F g (puS ps e) w' := by
  obtain ⟨q, vs, hs, rfl⟩ := h
  have hi : puP ps e < ps.length := partOf_lt _ hs.pos _
  have hg : ps[puP ps e]?.getD [] = ps[puP ps e] := by rw [List.getElem?_eq_getElem hi]; rfl
  by_cases hm : e.may = true
  · by_cases hl : ps[puP ps e].length < 4096
    · have hE : puE ps e = 0 := by unfold puE; rw [if_pos hm, hg, if_pos hl]
      have h1 : puA ps e = (puP ps e : Int) := if_pos hE
      have h2 : puO ps e = (ps[puP ps e].length : Int) := by unfold puO; rw [if_pos hE, hg]
      have h3 : puS ps e = soAdd ps (puP ps e) e := if_pos hE
      rw [hE, h1, h2, h3]
      exact put_ok g q vs ps e w hs hok hm hi hl
    · have hE : puE ps e = 2 := by unfold puE; rw [if_pos hm, hg, if_neg hl]
      have h1 : puA ps e = 0 := if_neg (by rw [hE]; decide)
      have h2 : puO ps e = 0 := if_neg (by rw [hE]; decide)
      have h3 : puS ps e = ps := if_neg (by rw [hE]; decide)
      rw [hE, h1, h2, h3]
      exact (put_full g q vs ps e w hs hok hm hi hl).mono fun r w' hh => ⟨hh.1, SrcAt.did ⟨q, vs, hs, rfl⟩ hh.2⟩
  · have hE : puE ps e = 20 := by unfold puE; rw [if_neg hm]
    have h1 : puA ps e = 0 := if_neg (by rw [hE]; decide)
    have h2 : puO ps e = 0 := if_neg (by rw [hE]; decide)
    have h3 : puS ps e = ps := if_neg (by rw [hE]; decide)
    rw [hE, h1, h2, h3]
    exact (put_not g e w hok (by simpa using hm)).mono fun r w' hh => ⟨hh.1, SrcAt.did ⟨q, vs, hs, rfl⟩ hh.2⟩
section
variable {w0 w : World} {g : Nat} {ps : List (List Ev)}
theorem OwnSo.put (h : OwnSo w0 w g ps) (e : Ev) (hok : e.ok) : Calls Try.prog 16 #[.pointer (some ⟨g, 0, none⟩), .agg e.c] w fun r w' => r = .returned (.tuple #[.int .i64 (puA ps e), .int .i64 (puO ps e), .int .i64 (puE ps e)]) ∧ OwnSo w0 w' g (puS ps e) := by
  obtain ⟨F, hd, hk, hF⟩ := h
  exact (sput_any g F ps e w hd hok).mono fun r w' hh => ⟨hh.1, hh.2.own hk hF⟩
theorem OwnSo.part (h : OwnSo w0 w g ps) (s : ByteArray) (hs : s.size ≤ 9223372036854775807) : Calls Try.prog 25 #[.pointer (some ⟨g, 0, none⟩), .string s] w fun r w' => r = .returned (.int .i64 ((partOf ps.length s : Nat) : Int)) ∧ OwnSo w0 w' g ps := by
  obtain ⟨q, vs, h1⟩ := h.src
  exact (part_any g q vs ps s w h1 hs).mono fun r w' hh => ⟨hh.1, h.kp hh.2⟩
theorem OwnSo.below (h : OwnSo w0 w g ps) (key : ByteArray) (adO : Option Addr) (capO : Nat) (os : List Int) (hk : key.size ≤ 9223372036854775807) (ho : IntsAt w adO os) (hol : os.length ≤ 9223372036854775807) :
    Calls Try.prog 22 #[.pointer (some ⟨g, 0, none⟩), .string key, .slice adO os.length capO] w fun r w' => ∃ ad cap, r = .returned (.tuple #[.slice ad (bwL key ps os).length cap, .int .i64 (bwE ps os)]) ∧ EvNew w w' (.slice ad (bwL key ps os).length cap) (bwL key ps os) ∧ OwnSo w0 w' g ps := by
  obtain ⟨q, vs, h1⟩ := h.src
  refine (below_any g q vs ps key adO capO os w h1 hk ho hol).mono ?_
  rintro r w' ⟨v, rfl, hn, hkp⟩
  obtain ⟨ad, cap, rfl, _⟩ := hn.1.form
  exact ⟨ad, cap, rfl, hn, h.kp hkp⟩
end
theorem snew_own (n : Nat) (h1 : 1 ≤ n) (h2 : n ≤ 16) (w : World) : Calls Try.prog 13 #[.int .i64 (n : Int)] w fun r w' => ∃ g, r = .returned (.tuple #[.pointer (some ⟨g, 0, none⟩), .int .i64 0]) ∧ OwnSo w w' g (soNew n) := by
  refine (snew_ok n h1 h2 w).mono ?_
  rintro r w' ⟨rfl, hs, hk⟩
  refine ⟨_, rfl, _, ⟨_, _, hs, rfl⟩, hk, fun k hk1 => ?_⟩
  unfold soF at hk1
  rw [List.mem_cons, List.mem_cons] at hk1
  rcases hk1 with rfl | rfl | hk1
  · omega
  · exact Nat.le_refl _
  · obtain ⟨v, hv, hb⟩ := List.mem_filterMap.1 hk1
    rw [List.mem_replicate] at hv
    rw [hv.2] at hb
    simp [Value.ownBlock] at hb
def evA : Ev := ⟨⟨#[97]⟩, ⟨#[116]⟩, 0, 0, 0, 0, ⟨#[]⟩⟩
def evAB : Ev := ⟨⟨#[97, 98]⟩, ⟨#[116]⟩, 0, 0, 0, 0, ⟨#[]⟩⟩
theorem ints_two (w : World) (x : List Int) (X : Array Value) (t : TypeId) (hX : X = (x.map (Value.int .i64)).toArray) : IntsAt (w.alloc (.cells X t)) (some ⟨w.heap.size, 0, none⟩) x := fun _ => by
  refine ⟨w.heap.size, 0, rfl, by simp, fun i hi => ?_⟩
  have h := CBox.new w X t
  rw [Nat.zero_add]
  refine h.cell ?_
  rw [hX]
  simp [hi]
set_option maxHeartbeats 4000000 in
set_option maxRecDepth 100000 in
theorem soWorks_any (w : World) : Calls Try.prog 31 #[] w fun e w' => e = .returned (.bool true) ∧ Kp [] w w' := by
  have p1 : puA (soNew 2) evA = 1 ∧ puO (soNew 2) evA = 0 ∧ puE (soNew 2) evA = 0 := by decide +kernel
  have p2 : puA (puS (soNew 2) evA) evAB = 1 ∧ puO (puS (soNew 2) evA) evAB = 1 ∧ puE (puS (soNew 2) evA) evAB = 0 := by decide +kernel
  have p3 : (bwL ⟨#[97]⟩ (puS (puS (soNew 2) evA) evAB) [0, 1]).length = 1 ∧ bwE (puS (puS (soNew 2) evA) evAB) [0, 1] = 0 := by decide +kernel
  have p4 : partOf (puS (puS (soNew 2) evA) evAB).length ⟨#[98]⟩ = 0 := by decide +kernel
  have hok : evA.ok ∧ evAB.ok := by
    unfold Ev.ok inI evA evAB
    decide
  have NW := hide (snew_own 2 (by decide) (by decide) w)
  have P1 := hide (fun w' g (h : OwnSo w w' g (soNew 2)) => h.put evA hok.1)
  have P2 := hide (fun w' g (h : OwnSo w w' g (puS (soNew 2) evA)) => h.put evAB hok.2)
  rw [p1.1, p1.2.1, p1.2.2] at P1
  rw [p2.1, p2.2.1, p2.2.2] at P2
  have P3 : Hid (∀ w' g, OwnSo w w' g (puS (puS (soNew 2) evA) evAB) → Calls Try.prog 22 #[.pointer (some ⟨g, 0, none⟩), .string ⟨#[97]⟩, .slice (some ⟨w'.heap.size, 0, none⟩) 2 2] (w'.alloc (.cells #[.int .i64 0, .int .i64 1] 3)) fun r w'' => ∃ ad cap, r = .returned (.tuple #[.slice ad 1 cap, .int .i64 0]) ∧ OwnSo w w'' g (puS (puS (soNew 2) evA) evAB)) := hide (fun w' g h => by
    have := (h.kp (Kp.alloc w' (.cells #[.int .i64 0, .int .i64 1] 3))).below ⟨#[97]⟩ (some ⟨w'.heap.size, 0, none⟩) 2 [0, 1] (by decide) (ints_two w' [0, 1] _ _ rfl) (by decide)
    rw [p3.1, p3.2] at this
    exact this.mono fun r w'' ⟨ad, cap, hr, _, ho⟩ => ⟨ad, cap, hr, ho⟩)
  have P4 := hide (fun w' g (h : OwnSo w w' g (puS (puS (soNew 2) evA) evAB)) => h.part ⟨#[98]⟩ (by decide))
  rw [p4] at P4
  clear p1 p2 p3 p4 hok
  generalize hS2 : puS (puS (soNew 2) evA) evAB = S2 at *
  generalize hS1 : puS (soNew 2) evA = S1 at *
  clear hS1 hS2
  unfold Ev.c evA at P1
  unfold Ev.c evAB at P2
  dsimp only at P1 P2
  go_enter Try.func31, Try.ntmps31
  go_wp2_with fail
  refine (unhide NW).mono ?_
  rintro r w1 ⟨g, rfl, o1⟩
  have O1 := hide o1
  clear o1 NW
  go_wp2_with fail
  refine (unhide P1 w1 g (unhide O1)).mono ?_
  rintro r w2 ⟨rfl, o2⟩
  have O2 := hide o2
  clear o2 O1 P1
  go_wp2_with fail
  refine (unhide P2 w2 g (unhide O2)).mono ?_
  rintro r w3 ⟨rfl, o3⟩
  have O3 := hide o3
  clear o3 O2 P2
  go_wp2_with fail
  refine (unhide P3 w3 g (unhide O3)).mono ?_
  rintro r w4 ⟨ad, cap, rfl, o4⟩
  have O4 := hide o4
  clear o4 O3 P3
  go_wp2_with fail
  refine (unhide P4 w4 g (unhide O4)).mono ?_
  rintro r w5 ⟨rfl, o5⟩
  have K5 := hide o5.bel
  clear o5 O4 P4
  go_wp2
  go_ret
  exact ⟨rfl, unhide K5⟩
end Go.Proofs.Ytnikkjbjidhhlaa
