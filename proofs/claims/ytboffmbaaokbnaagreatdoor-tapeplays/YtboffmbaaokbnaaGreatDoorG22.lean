/-
  The document's disk: a crash.
  The document's disk: a crash, walked.
  The document's disk: a crash, where changes wait.
  The library's contracts at this program, laid by the guide's own tools: a map's keys, sorted.
-/
import Derived.Test.YtboffmbaaokbnaaGreatDoorG21
import Derived.Test.YtboffmbaaokbnaaGreatDoorG08
import Derived.Shelf.SlIter.Nil
import Derived.Shelf.SortM.Plain
import Derived.Shelf.SortM.SortNone
import Derived.Ground.GgzProg
import Derived.Ground.SlgmProg
import Derived.Test.YtboffmbaaokbnaaGreatDoorProg
namespace Go.Proofs.YtboffmbaaokbnaaGreatDoor
open Go.RowKit

theorem crash_fin {w : World} {p : Nat} {d : Dk} {vs vw vn : Value} (h : RfW w p d vs vw vn) {LL : Fs} {W : World} {l : Value} (hk : Kp [] w W) (hl : FlRow W l LL) (hb : ∀ j, l.ownBlock = some j → vs.ownBlock = some j ∨ w.heap.size ≤ j) :
    RDid w (rfF p vs vw vn) p ⟨LL, LL, [], -1, false⟩ (((((W.setCell ⟨p, 0, none⟩ l).setCell ⟨p, 2, none⟩ l).setCell ⟨p, 1, none⟩ (.slice none 0 0)).setCell ⟨p, 3, none⟩ (.int .i64 (-1))).setCell ⟨p, 4, none⟩ (.bool false)) := by
  have hpl : p < w.heap.size := (Array.getElem?_eq_some_iff.1 h.box).1
  have b5 := (((((h.box.kp hk (by simp)).set 0 l).set 2 l).set 1 (.slice none 0 0)).set 3 (.int .i64 (-1))).set 4 (.bool false)
  have k5 : Kp [p] W (((((W.setCell ⟨p, 0, none⟩ l).setCell ⟨p, 2, none⟩ l).setCell ⟨p, 1, none⟩ (.slice none 0 0)).setCell ⟨p, 3, none⟩ (.int .i64 (-1))).setCell ⟨p, 4, none⟩ (.bool false)) :=
    ((((Kp.set _ _ _ _).trans (Kp.set _ _ _ _) (fun _ hx => Or.inl hx)).trans (Kp.set _ _ _ _) (fun _ hx => Or.inl hx)).trans (Kp.set _ _ _ _) (fun _ hx => Or.inl hx)).trans (Kp.set _ _ _ _) (fun _ hx => Or.inl hx)
  have ne : ∀ j, l.ownBlock = some j → j ≠ p := fun j hj => by
    rcases hb j hj with h1 | h1
    · exact h.nes j h1
    · omega
  have hl5 := hl.kp k5 (fun k hj hm => ne k hj (by simpa using hm))
  refine ⟨_, ⟨l, .slice none 0 0, l, ⟨b5, hl5, ChRow.nil _, hl5, ne, fun k hj => by simp [Value.ownBlock] at hj, ne⟩, rfl⟩, (hk.mono (by simp)).trans k5 (fun x hx => Or.inl (by simp at hx; subst hx; exact rfF_p _ _ _ _)), fun k hm => ?_⟩
  rcases rfF_mem hm with rfl | hm | hm | hm
  · exact Or.inl (rfF_p _ _ _ _)
  · rcases hb k hm with h1 | h1
    · exact Or.inl (rfF_s h1)
    · exact Or.inr h1
  · simp [Value.ownBlock] at hm
  · rcases hb k hm with h1 | h1
    · exact Or.inl (rfF_s h1)
    · exact Or.inr h1
end Go.Proofs.YtboffmbaaokbnaaGreatDoor
namespace Go.Proofs.YtboffmbaaokbnaaGreatDoor
open Go.RowKit

/-- What the five stores of a crash find. -/
theorem crash_cells {W : World} {p : Nat} {vs vw vn : Value} {L : Int} {D : Bool} (h : CBox p (rfC vs vw vn L D) 50 W) (l : Value) :
    (W.cell? ⟨p, 0, none⟩ = some vs ∧ W.frozen? ⟨p, 0, none⟩ = false) ∧ ((W.setCell ⟨p, 0, none⟩ l).cell? ⟨p, 2, none⟩ = some vn ∧ (W.setCell ⟨p, 0, none⟩ l).frozen? ⟨p, 2, none⟩ = false) ∧
    (((W.setCell ⟨p, 0, none⟩ l).setCell ⟨p, 2, none⟩ l).cell? ⟨p, 1, none⟩ = some vw ∧ ((W.setCell ⟨p, 0, none⟩ l).setCell ⟨p, 2, none⟩ l).frozen? ⟨p, 1, none⟩ = false) ∧
    ((((W.setCell ⟨p, 0, none⟩ l).setCell ⟨p, 2, none⟩ l).setCell ⟨p, 1, none⟩ (.slice none 0 0)).cell? ⟨p, 3, none⟩ = some (.int .i64 L) ∧ (((W.setCell ⟨p, 0, none⟩ l).setCell ⟨p, 2, none⟩ l).setCell ⟨p, 1, none⟩ (.slice none 0 0)).frozen? ⟨p, 3, none⟩ = false) ∧
    (((((W.setCell ⟨p, 0, none⟩ l).setCell ⟨p, 2, none⟩ l).setCell ⟨p, 1, none⟩ (.slice none 0 0)).setCell ⟨p, 3, none⟩ (.int .i64 (-1))).cell? ⟨p, 4, none⟩ = some (.bool D) ∧ ((((W.setCell ⟨p, 0, none⟩ l).setCell ⟨p, 2, none⟩ l).setCell ⟨p, 1, none⟩ (.slice none 0 0)).setCell ⟨p, 3, none⟩ (.int .i64 (-1))).frozen? ⟨p, 4, none⟩ = false) := by
  have b1 := h.set 0 l
  have b2 := b1.set 2 l
  have b3 := b2.set 1 (.slice none 0 0)
  have b4 := b3.set 3 (.int .i64 (-1))
  exact ⟨⟨h.cell rfl, h.froz 0⟩, ⟨b1.cell rfl, b1.froz 2⟩, ⟨b2.cell rfl, b2.froz 1⟩, ⟨b3.cell rfl, b3.froz 3⟩, ⟨b4.cell rfl, b4.froz 4⟩⟩
set_option maxHeartbeats 2000000 in
set_option maxRecDepth 100000 in
/-- Where no change waits. -/
theorem rcrash_nil (keep t : Int) (p : Nat) (d : Dk) (F : List Nat) (w : World) (h : RDk w p d F) (h0 : d.wait = []) :
    Calls Tryz.prog 27 #[.pointer (some ⟨p, 0, none⟩), .int .i64 keep, .int .i64 t] w fun e w' => e = .returned (.tuple #[]) ∧ RDid w F p (d.crash keep t) w' := by
  obtain ⟨vs, vw, vn, h, rfl⟩ := h
  obtain ⟨a9, ns, cs, hvs⟩ : ∃ a9 ns cs, vs = .slice a9 ns cs := by
    rcases h.safe.shape with ⟨e, _⟩ | ⟨_, _, e, _⟩ <;> exact ⟨_, _, _, e⟩
  subst hvs
  obtain ⟨aw, cw, hvw⟩ : ∃ aw cw, vw = .slice aw 0 cw := by
    rcases h.wait.shape with ⟨e, _⟩ | ⟨_, _, e, _⟩
    · exact ⟨_, _, e⟩
    · rw [h0] at e; exact ⟨_, _, e⟩
  subst hvw
  have hcr : d.crash keep t = ⟨d.safe, d.safe, [], -1, false⟩ := by
    have : d.left' keep t = d.safe := by
      unfold Dk.left'
      rw [h0]
      simp [playAll]
    unfold Dk.crash
    rw [this]
  rw [hcr]
  have FIN := hide (crash_fin h (Kp.refl _ _) h.safe (fun j hj => Or.inl hj))
  obtain ⟨⟨c0, f0⟩, ⟨c1, f1⟩, ⟨c2, f2⟩, ⟨c3, f3⟩, ⟨c4, f4⟩⟩ := crash_cells h.box (.slice a9 ns cs)
  have cw1 : w.cell? ⟨p, 1, none⟩ = some (.slice aw 0 cw) := h.box.cell rfl
  have hke : max 0 (min keep 0) = 0 := by omega
  clear h h0 hcr
  go_enter Tryz.func27, Tryz.ntmps27
  go_wp2
  go_loopw [6, 7] (fun l i wr => l = .slice a9 ns cs ∧ i = .int .i64 0 ∧ wr = w) (fun _ _ _ => 0)
  case atStart => exact ⟨rfl, rfl, rfl⟩
  case round =>
    obtain ⟨rfl, rfl, rfl⟩ := hrel
    go_wp2
    go_end0
    exact ⟨rfl, unhide FIN⟩
end Go.Proofs.YtboffmbaaokbnaaGreatDoor
namespace Go.Proofs.YtboffmbaaokbnaaGreatDoor
open Go.RowKit

theorem chA_kind (c : Chg) : (∃ n pos s, c = .wr n pos s) ∨ ((∀ fs t, torn fs t c = fs) ∧ ∃ (a x : Int) (n m s : ByteArray), chA c = #[.int .i64 a, .string n, .string m, .int .i64 x, .string s] ∧ (a == 0) = false) := by
  cases c with
  | wr n pos s => exact Or.inl ⟨_, _, _, rfl⟩
  | ct n len => exact Or.inr ⟨fun _ _ => rfl, _, _, _, _, _, rfl, rfl⟩
  | rn a b => exact Or.inr ⟨fun _ _ => rfl, _, _, _, _, _, rfl, rfl⟩
  | rm n => exact Or.inr ⟨fun _ _ => rfl, _, _, _, _, _, rfl, rfl⟩
theorem cut_bytes (s : ByteArray) (t : Int) : (⟨(s.data.toList.take t.toNat).toArray⟩ : ByteArray) = s.extract 0 (min t.toNat s.size) := by
  apply ByteArray.ext
  apply Array.ext'
  simp [ByteArray.data_extract]
set_option maxHeartbeats 800000 in
set_option maxRecDepth 100000 in
/-- A crash, whatever waits. -/
theorem rcrash_any (keep t : Int) (p : Nat) (d : Dk) (F : List Nat) (w : World) (h : RDk w p d F) (hi : Inv d) :
    Calls Tryz.prog 27 #[.pointer (some ⟨p, 0, none⟩), .int .i64 keep, .int .i64 t] w fun e w' => e = .returned (.tuple #[]) ∧ RDid w F p (d.crash keep t) w' := by
  by_cases h0 : d.wait = []
  · exact rcrash_nil keep t p d F w h h0
  obtain ⟨hkl, hke⟩ := kept_le d keep
  have hke2 : max 0 (min keep (d.wait.length : Int)) = (d.kept keep : Int) := by omega
  obtain ⟨vs, vw, vn, h, rfl⟩ := h
  obtain ⟨rfl, h1⟩ | ⟨g, cap, rfl, hcp, hm⟩ := h.wait.shape
  · exact absurd h1 h0
  have cv : ∀ {W : World} {v : Value} {fs : Fs}, FlRow W v fs → ∃ a9 ns cs, v = .slice a9 ns cs := fun hf => by
    rcases hf.shape with ⟨e, _⟩ | ⟨_, _, e, _⟩ <;> exact ⟨_, _, _, e⟩
  obtain ⟨av, nv, cv', hvs⟩ := cv h.safe
  have hleft : d.left' keep t = match d.wait[d.kept keep]? with
    | some c => torn (playAll d.safe (d.wait.take (d.kept keep))) t c
    | none => playAll d.safe (d.wait.take (d.kept keep)) := rfl
  have hcr : d.crash keep t = ⟨d.left' keep t, d.left' keep t, [], -1, false⟩ := rfl
  rw [hcr]
  generalize d.left' keep t = LL at *
  generalize d.kept keep = K at *
  have FIN : Hid (∀ W l, Kp [] w W → FlRow W l LL → (∀ j, l.ownBlock = some j → vs.ownBlock = some j ∨ w.heap.size ≤ j) → RDid w (rfF p vs (.slice (some ⟨g, 0, none⟩) d.wait.length cap) vn) p ⟨LL, LL, [], -1, false⟩ (((((W.setCell ⟨p, 0, none⟩ l).setCell ⟨p, 2, none⟩ l).setCell ⟨p, 1, none⟩ (.slice none 0 0)).setCell ⟨p, 3, none⟩ (.int .i64 (-1))).setCell ⟨p, 4, none⟩ (.bool false))) := hide (fun W l hk hl hb => crash_fin h hk hl hb)
  have CC := hide (fun W (hk : Kp [] w W) l => crash_cells (h.box.kp hk (by simp)) l)
  have CW := hide (fun W (hk : Kp [] w W) => (show W.cell? ⟨p, 1, none⟩ = some (.slice (some ⟨g, 0, none⟩) d.wait.length cap) from (h.box.kp hk (by simp)).cell rfl))
  have CE := hide (fun W (hk : Kp [] w W) => h.wait.kp hk (by simp))
  have c0 : w.cell? ⟨p, 0, none⟩ = some vs := h.box.cell rfl
  have c1 : w.cell? ⟨p, 1, none⟩ = some (.slice (some ⟨g, 0, none⟩) d.wait.length cap) := h.box.cell rfl
  have HSF := hide h.safe
  have HI := hide hi
  have HLEFT := hide hleft
  have hlw : d.wait.length ≤ 1024 := hi.few
  have HFIT := hide (fun k (hk : k < d.wait.length) => (canAll_get k hk hi.can).1)
  have HLN := hide (fun k => show (playAll d.safe (d.wait.take k)).length ≤ 1000000 by have := (canAll_room hi.room (canAll_take k hi.can)).1.2; omega)
  subst hvs
  clear h hi hleft hcr hke h0
  go_enter Tryz.func27, Tryz.ntmps27
  go_wp2
  go_loopw [6, 7] (fun l i wr => ∃ (k : Nat) (lv : Value), k ≤ K ∧ i = .int .i64 (k : Int) ∧ lv = l ∧ Hid (Kp [] w wr) ∧ Hid (FlRow wr lv (playAll d.safe (d.wait.take k))) ∧ Hid (∀ j, lv.ownBlock = some j → (Value.slice av nv cv').ownBlock = some j ∨ w.heap.size ≤ j)) (fun _ i _ => K - (intOf i).toNat)
  case atStart => exact ⟨0, _, Nat.zero_le _, rfl, rfl, hide (Kp.refl _ _), hide (unhide HSF), hide (fun j hj => Or.inl hj)⟩
  case round =>
    clear c0 c1
    obtain ⟨k, lv, hk, rfl, rfl, HK, HR, HB⟩ := hrel
    have c1 := unhide CW wr (unhide HK)
    obtain ⟨a9, n9, s9, hlv⟩ := cv (unhide HR)
    subst hlv
    clear hke2
    by_cases hlt : k < K
    · have hkw : k < d.wait.length := by omega
      have hli : (k : Int) < (K : Int) := by omega
      have hlj : (k : Int) < (d.wait.length : Int) := by omega
      have MD := hide (made_any (.slice a9 n9 s9) _ _ (unhide HFIT k hkw) (unhide HLN k) wr (unhide HR))
      have NX := hide (play_next d.safe d.wait k hkw)
      obtain ⟨a, x, n, m, s, e⟩ := chA_form d.wait[k]
      have CL := (unhide CE wr (unhide HK)).cell k hkw
      rw [e] at CL MD
      have e0 : wr.cell? ⟨g, k * 5, none⟩ = some (.int .i64 a) := CL 0 _ rfl
      have e1 := CL 1 _ rfl
      have e2 := CL 2 _ rfl
      have e3 := CL 3 _ rfl
      have e4 := CL 4 _ rfl
      generalize d.wait[k] = c at *
      clear CL e
      go_wp2_with fail
      refine (unhide MD).mono ?_
      rintro r w2 ⟨v2, rfl, f2, k2, o2⟩
      have HK2 := hide ((unhide HK).trans k2 (by simp))
      have HR2 : Hid (FlRow w2 v2 (playAll d.safe (d.wait.take (k + 1)))) := hide (by rw [unhide NX]; exact f2)
      have HB2 : Hid (∀ j, v2.ownBlock = some j → (Value.slice av nv cv').ownBlock = some j ∨ w.heap.size ≤ j) := hide (fun j hj => Or.inr (by have := o2 j hj; have := (unhide HK).size; omega))
      clear f2 k2 o2 MD NX
      go_wp2
      go_roundw
      case rel => exact ⟨k + 1, _, by omega, by go_num, rfl, HK2, HR2, HB2⟩
      case measure => simp [intOf]; omega
    · have hli : ¬ ((k : Int) < (K : Int)) := by omega
      obtain rfl : k = K := by omega
      by_cases hkw : k < d.wait.length
      · have hlj : (k : Int) < (d.wait.length : Int) := by omega
        have hL := unhide HLEFT
        rw [List.getElem?_eq_getElem hkw] at hL
        dsimp only at hL
        have CL := (unhide CE wr (unhide HK)).cell k hkw
        rcases chA_kind d.wait[k] with ⟨n, pos, s, e⟩ | ⟨e5, a, x, n, m, s, e, ha⟩
        · rw [e] at CL
          have e0 : wr.cell? ⟨g, k * 5, none⟩ = some (.int .i64 0) := CL 0 _ rfl
          by_cases htn : t < 0
          · have hlf : torn (playAll d.safe (d.wait.take k)) t (.wr n pos s) = playAll d.safe (d.wait.take k) := if_pos htn
            rw [e, hlf] at hL
            subst hL
            have FF := hide (unhide FIN wr (.slice a9 n9 s9) (unhide HK) (unhide HR) (unhide HB))
            obtain ⟨⟨q0, f0⟩, ⟨q1, f1⟩, ⟨q2, f2⟩, ⟨q3, f3⟩, ⟨q4, f4⟩⟩ := unhide CC wr (unhide HK) (.slice a9 n9 s9)
            clear CL e hlf
            go_wp2
            go_end0
            exact ⟨rfl, unhide FF⟩
          · have hlf : torn (playAll d.safe (d.wait.take k)) t (.wr n pos s) = made (playAll d.safe (d.wait.take k)) (.wr n pos ⟨(s.data.toList.take t.toNat).toArray⟩) := if_neg htn
            rw [e, hlf] at hL
            have hfit := unhide HFIT k hkw
            rw [e] at hfit
            have e1 : wr.cell? ⟨g, k * 5 + 1, none⟩ = some (.string n) := CL 1 _ rfl
            have e2 : wr.cell? ⟨g, k * 5 + 2, none⟩ = some (.string ⟨#[]⟩) := CL 2 _ rfl
            have e3 : wr.cell? ⟨g, k * 5 + 3, none⟩ = some (.int .i64 (pos : Int)) := CL 3 _ rfl
            have e4 : wr.cell? ⟨g, k * 5 + 4, none⟩ = some (.string s) := CL 4 _ rfl
            obtain ⟨T, hT1, hT2, hT3⟩ : ∃ T : Nat, min t (s.size : Int) = (T : Int) ∧ T ≤ s.size ∧ Hid ((⟨(s.data.toList.take t.toNat).toArray⟩ : ByteArray) = s.extract 0 T) := ⟨min t.toNat s.size, by omega, by omega, hide (cut_bytes s t)⟩
            have hT4 : (T : Int) ≤ (s.size : Int) := by omega
            have ht0 : (0 : Int) ≤ t := by omega
            rw [unhide hT3] at hL
            have hfit2 : Fit (playAll d.safe (d.wait.take k)) (.wr n pos (s.extract 0 T)) := ⟨hfit.1, by have := hfit.2; rw [ByteArray.size_extract]; omega⟩
            have kA := Kp.alloc wr (.cells #[.int .i64 0, .string n, .string ⟨#[]⟩, .int .i64 (pos : Int), .string (s.extract 0 T)] 96)
            have MD := hide (made_any (.slice a9 n9 s9) _ _ hfit2 (unhide HLN k) _ ((unhide HR).kp kA (by simp)))
            have HA := hide kA
            subst hL
            clear CL e hlf hfit hfit2 hT3 kA
            go_wp2_with fail
            refine (unhide MD).mono ?_
            rintro r w2 ⟨v2, rfl, f2, k2, o2⟩
            have k3 : Kp [] w w2 := ((unhide HK).trans (unhide HA) (by simp)).trans k2 (by simp)
            obtain ⟨a7, n7, s7, hv2⟩ := cv f2
            subst hv2
            have FF := hide (unhide FIN w2 _ k3 f2 (fun j hj => Or.inr (by have := o2 j hj; have := (unhide HK).size; simp at *; omega)))
            obtain ⟨⟨q0, f0⟩, ⟨q1, f1⟩, ⟨q2, f2⟩, ⟨q3, f3⟩, ⟨q4, f4⟩⟩ := unhide CC w2 k3 (.slice a7 n7 s7)
            clear MD k2 o2 k3 HA e0 e1 e2 e3 e4
            go_wp2
            go_end0
            exact ⟨rfl, unhide FF⟩
        · rw [e5] at hL
          rw [e] at CL
          have e0 : wr.cell? ⟨g, k * 5, none⟩ = some (.int .i64 a) := CL 0 _ rfl
          subst hL
          have FF := hide (unhide FIN wr (.slice a9 n9 s9) (unhide HK) (unhide HR) (unhide HB))
          obtain ⟨⟨q0, f0⟩, ⟨q1, f1⟩, ⟨q2, f2⟩, ⟨q3, f3⟩, ⟨q4, f4⟩⟩ := unhide CC wr (unhide HK) (.slice a9 n9 s9)
          clear CL e e5
          go_wp2
          go_end0
          exact ⟨rfl, unhide FF⟩
      · have hlj : ¬ ((k : Int) < (d.wait.length : Int)) := by omega
        have hL := unhide HLEFT
        rw [List.getElem?_eq_none (by omega)] at hL
        dsimp only at hL
        subst hL
        have FF := hide (unhide FIN wr (.slice a9 n9 s9) (unhide HK) (unhide HR) (unhide HB))
        obtain ⟨⟨q0, f0⟩, ⟨q1, f1⟩, ⟨q2, f2⟩, ⟨q3, f3⟩, ⟨q4, f4⟩⟩ := unhide CC wr (unhide HK) (.slice a9 n9 s9)
        go_wp2
        go_end0
        exact ⟨rfl, unhide FF⟩
end Go.Proofs.YtboffmbaaokbnaaGreatDoor
namespace Go.Proofs
open Go.Shelf
def Tryz.keys83_ren : Go.Shelf.Ren := ⟨fun | 7 => 83 | 10 => 90 | n => n, fun | 23 => 43 | 26 => 9 | 3 => 98 | 28 => 120 | 0 => 0 | 27 => 119 | 33 => 97 | 4 => 4 | n => n, fun | n => n⟩
theorem Tryz.keys83 : Go.Proofs.SlLaysZ.n7 Tryz.prog Tryz.keys83_ren := {
  mixed := by kernel_rfl
  f7 := ⟨Tryz.f83.name, by decide, Tryz.func83.trans (congrArg some (by kernel_rfl))⟩
  f10 := ⟨Tryz.f90.name, by decide, Tryz.func90.trans (congrArg some (by kernel_rfl))⟩
  t0 := Tryz.underlying0
  a0 := Tryz.isAgg0
  z0 := Tryz.sizeOf0
  v0 := Tryz.zeroValue0
  t4 := Tryz.underlying4
  a4 := Tryz.isAgg4
  z4 := Tryz.sizeOf4
  v4 := Tryz.zeroValue4
  t23 := Tryz.underlying43
  a23 := Tryz.isAgg43
  z23 := Tryz.sizeOf43
  v23 := Tryz.zeroValue43
  t26 := Tryz.underlying9
  a26 := Tryz.isAgg9
  z26 := Tryz.sizeOf9
  v26 := Tryz.zeroValue9
  t27 := Tryz.underlying119
  a27 := Tryz.isAgg119
  z27 := Tryz.sizeOf119
  v27 := Tryz.zeroValue119
  t28 := Tryz.underlying120
  a28 := Tryz.isAgg120
  z28 := Tryz.sizeOf120
  v28 := Tryz.zeroValue120
  t33 := Tryz.underlying97
  a33 := Tryz.isAgg97
  z33 := Tryz.sizeOf97
  v33 := Tryz.zeroValue97 }
def Tryz.sorted82_ren : Go.Shelf.Ren := ⟨fun | 6 => 82 | 8 => 88 | 9 => 89 | 11 => 94 | 13 => 96 | 12 => 95 | 23 => 107 | 24 => 108 | 14 => 98 | 15 => 99 | 16 => 100 | 17 => 101 | 18 => 102 | 19 => 103 | 20 => 104 | 21 => 105 | 22 => 106 | 25 => 109 | 26 => 110 | 27 => 111 | 28 => 112 | 29 => 113 | 30 => 114 | 31 => 115 | n => n, fun | 26 => 9 | 28 => 120 | 24 => 62 | 0 => 0 | 3 => 3 | 37 => 123 | 48 => 111 | 50 => 148 | 4 => 4 | 40 => 140 | 39 => 139 | 45 => 144 | 5 => 5 | 9 => 9 | 51 => 149 | 55 => 153 | 57 => 155 | 58 => 156 | 33 => 97 | n => n, fun | n => n⟩
theorem Tryz.sorted82 : Go.Proofs.SlLaysZ.n6 Tryz.prog Tryz.sorted82_ren := {
  mixed := by kernel_rfl
  f6 := ⟨Tryz.f82.name, by decide, Tryz.func82.trans (congrArg some (by kernel_rfl))⟩
  f8 := ⟨Tryz.f88.name, by decide, Tryz.func88.trans (congrArg some (by kernel_rfl))⟩
  f11 := ⟨Tryz.f94.name, by decide, Tryz.func94.trans (congrArg some (by kernel_rfl))⟩
  t0 := Tryz.underlying0
  a0 := Tryz.isAgg0
  z0 := Tryz.sizeOf0
  v0 := Tryz.zeroValue0
  t24 := Tryz.underlying62
  a24 := Tryz.isAgg62
  z24 := Tryz.sizeOf62
  v24 := Tryz.zeroValue62
  t26 := Tryz.underlying9
  a26 := Tryz.isAgg9
  z26 := Tryz.sizeOf9
  v26 := Tryz.zeroValue9
  t28 := Tryz.underlying120
  a28 := Tryz.isAgg120
  z28 := Tryz.sizeOf120
  v28 := Tryz.zeroValue120
  i26 := by kernel_rfl }
def Tryz.sort89_ren : Go.Shelf.Ren := ⟨fun | 6 => 89 | 8 => 96 | 9 => 95 | 19 => 107 | 20 => 108 | 21 => 98 | 22 => 99 | 23 => 100 | 24 => 101 | 25 => 102 | 26 => 103 | 27 => 104 | 28 => 105 | 29 => 106 | 36 => 109 | 31 => 110 | 32 => 111 | 37 => 112 | 38 => 113 | 39 => 114 | 41 => 115 | n => n, fun | 27 => 62 | 29 => 9 | 3 => 3 | 32 => 123 | 26 => 62 | 0 => 0 | 44 => 111 | 46 => 148 | 4 => 4 | 36 => 140 | 35 => 139 | 41 => 144 | 5 => 5 | 9 => 9 | 53 => 149 | 57 => 153 | 63 => 155 | 64 => 156 | n => n, fun | n => n⟩
theorem Tryz.sort89 : Go.Proofs.SlLaysM.n6 Tryz.prog Tryz.sort89_ren := {
  mixed := by kernel_rfl
  f6 := ⟨Tryz.f89.name, by decide, Tryz.func89.trans (congrArg some (by kernel_rfl))⟩
  f8 := Tryz.func96.trans (congrArg some (by kernel_rfl))
  f9 := ⟨Tryz.f95.name, by decide, Tryz.func95.trans (congrArg some (by kernel_rfl))⟩
  f19 := Tryz.func107.trans (congrArg some (by kernel_rfl))
  f20 := Tryz.func108.trans (congrArg some (by kernel_rfl))
  f21 := ⟨Tryz.f98.name, by decide, Tryz.func98.trans (congrArg some (by kernel_rfl))⟩
  f22 := ⟨Tryz.f99.name, by decide, Tryz.func99.trans (congrArg some (by kernel_rfl))⟩
  f23 := ⟨Tryz.f100.name, by decide, Tryz.func100.trans (congrArg some (by kernel_rfl))⟩
  f24 := ⟨Tryz.f101.name, by decide, Tryz.func101.trans (congrArg some (by kernel_rfl))⟩
  f25 := ⟨Tryz.f102.name, by decide, Tryz.func102.trans (congrArg some (by kernel_rfl))⟩
  f26 := ⟨Tryz.f103.name, by decide, Tryz.func103.trans (congrArg some (by kernel_rfl))⟩
  f27 := ⟨Tryz.f104.name, by decide, Tryz.func104.trans (congrArg some (by kernel_rfl))⟩
  f28 := ⟨Tryz.f105.name, by decide, Tryz.func105.trans (congrArg some (by kernel_rfl))⟩
  f29 := ⟨Tryz.f106.name, by decide, Tryz.func106.trans (congrArg some (by kernel_rfl))⟩
  f31 := Tryz.func110.trans (congrArg some (by kernel_rfl))
  f32 := Tryz.func111.trans (congrArg some (by kernel_rfl))
  f36 := ⟨Tryz.f109.name, by decide, Tryz.func109.trans (congrArg some (by kernel_rfl))⟩
  f37 := ⟨Tryz.f112.name, by decide, Tryz.func112.trans (congrArg some (by kernel_rfl))⟩
  f38 := ⟨Tryz.f113.name, by decide, Tryz.func113.trans (congrArg some (by kernel_rfl))⟩
  f39 := ⟨Tryz.f114.name, by decide, Tryz.func114.trans (congrArg some (by kernel_rfl))⟩
  f41 := ⟨Tryz.f115.name, by decide, Tryz.func115.trans (congrArg some (by kernel_rfl))⟩
  t0 := Tryz.underlying0
  a0 := Tryz.isAgg0
  z0 := Tryz.sizeOf0
  v0 := Tryz.zeroValue0
  t3 := Tryz.underlying3
  a3 := Tryz.isAgg3
  z3 := Tryz.sizeOf3
  v3 := Tryz.zeroValue3
  t4 := Tryz.underlying4
  a4 := Tryz.isAgg4
  z4 := Tryz.sizeOf4
  v4 := Tryz.zeroValue4
  t5 := Tryz.underlying5
  a5 := Tryz.isAgg5
  z5 := Tryz.sizeOf5
  v5 := Tryz.zeroValue5
  t9 := Tryz.underlying9
  a9 := Tryz.isAgg9
  z9 := Tryz.sizeOf9
  v9 := Tryz.zeroValue9
  t26 := Tryz.underlying62
  a26 := Tryz.isAgg62
  z26 := Tryz.sizeOf62
  v26 := Tryz.zeroValue62
  t27 := Tryz.underlying62
  a27 := Tryz.isAgg62
  z27 := Tryz.sizeOf62
  v27 := Tryz.zeroValue62
  t29 := Tryz.underlying9
  a29 := Tryz.isAgg9
  z29 := Tryz.sizeOf9
  v29 := Tryz.zeroValue9
  t32 := Tryz.underlying123
  a32 := Tryz.isAgg123
  z32 := Tryz.sizeOf123
  v32 := Tryz.zeroValue123
  t35 := Tryz.underlying139
  a35 := Tryz.isAgg139
  z35 := Tryz.sizeOf139
  v35 := Tryz.zeroValue139
  t36 := Tryz.underlying140
  a36 := Tryz.isAgg140
  z36 := Tryz.sizeOf140
  v36 := Tryz.zeroValue140
  t41 := Tryz.underlying144
  a41 := Tryz.isAgg144
  z41 := Tryz.sizeOf144
  v41 := Tryz.zeroValue144
  t44 := Tryz.underlying111
  a44 := Tryz.isAgg111
  z44 := Tryz.sizeOf111
  v44 := Tryz.zeroValue111
  t46 := Tryz.underlying148
  a46 := Tryz.isAgg148
  z46 := Tryz.sizeOf148
  v46 := Tryz.zeroValue148
  t53 := Tryz.underlying149
  a53 := Tryz.isAgg149
  z53 := Tryz.sizeOf149
  v53 := Tryz.zeroValue149
  t57 := Tryz.underlying153
  a57 := Tryz.isAgg153
  z57 := Tryz.sizeOf153
  v57 := Tryz.zeroValue153
  t63 := Tryz.underlying155
  a63 := Tryz.isAgg155
  z63 := Tryz.sizeOf155
  v63 := Tryz.zeroValue155
  t64 := Tryz.underlying156
  a64 := Tryz.isAgg156
  z64 := Tryz.sizeOf156
  v64 := Tryz.zeroValue156 }
open Go.RowKit Go.Maps Go.Sort Go.Shelf
theorem Tryz.sorts82 (m : Nat) : AnyZ.SortsIn Tryz.prog Tryz.sorted82_ren Fence.wide m :=
  ⟨fun blk off cap ss W hH hblk hsz => callsIn_wide.2 (AnyM.slices_Sort_string Tryz.sort89 blk off cap ss W hH hblk hsz),
   fun p cap W => callsIn_wide.2 (AnyM.slices_Sort_string_none Tryz.sort89 p cap W)⟩

theorem Tryz.maps_Keys_83 (mb : Option Nat) (W : World) : CallsIn Fence.wide 5 Tryz.prog 83 #[.map mb] W fun e w' => e = .returned (.func (.func 90) #[] #[.pointer (some ⟨W.heap.size, 0, none⟩)]) ∧ w' = W.alloc (.cells #[.map mb] 43) :=
  AnyZ.keys_in Tryz.keys83 Fence.wide 5 trivial rfl mb W

set_option maxHeartbeats 1000000 in
theorem Tryz.slices_Sorted_keys_82_83 {H : Type} (b nn : Nat) (D0 : DataW H) (R : Value → Option (DataW H × List MemPlace)) (w : World) (hown : w.ownsMap Tryz.prog 9 R b nn D0) (hmax : Maps.size D0 ≤ maxLen) (hbytes : Maps.size D0 * 16 ≤ 140737488355328) :
    CallsIn Fence.wide 5 Tryz.prog 82 #[.func (.func 90) #[] #[.pointer (some ⟨w.heap.size, 0, none⟩)]] (w.alloc (.cells #[.map (some b)] 43)) fun e w' => ∃ (v : Value) (ss : List (List UInt8)), e = .returned v ∧ ss.Perm (strKeys D0) ∧
      w'.ownsRow (w.alloc (.cells #[.map (some b)] 43)).heap.size 9 1 v ss.length ((ss.mergeSort (fun x y => decide (x ≤ y))).map encStr) ∧ (v = .slice none 0 0 ↔ ss = []) ∧ Below (w.alloc (.cells #[.map (some b)] 43)).heap.size (w.alloc (.cells #[.map (some b)] 43)) w' := by
  have hbl := hown.lt
  have hseq : SeqGives Fence.wide 2 Tryz.prog 90 #[.pointer (some ⟨w.heap.size, 0, none⟩)] encStr (fun ss => ss.Perm (strKeys D0)) (Maps.size D0) (w.alloc (.cells #[.map (some b)] 43)) :=
    AnyZ.keys_gives (ρ := Tryz.keys83_ren) { Tryz.keys83 with } Fence.wide _ trivial rfl (by omega) w.heap.size b nn D0 _ (by simp) (by simp) (by
      obtain ⟨es, clock, hb, Ft, hs, hD⟩ := hown
      exact ⟨es, clock, (Below.heap_alloc _ _ b hbl).trans hb, Ft, hs, hD⟩)
  exact AnyZ.sorted_in Tryz.sorted82 Fence.wide 5 trivial trivial trivial trivial rfl (by omega) (Tryz.sorts82 _) (enters_of Tryz.func89 (by kernel_rfl) rfl) 90 #[.pointer (some ⟨w.heap.size, 0, none⟩)] trivial (enters_of Tryz.func90 (by kernel_rfl) rfl) _ _ hmax hbytes _ hseq

set_option maxHeartbeats 1000000 in
theorem Tryz.slices_Sorted_keys_nil_82_83 (w : World) :
    CallsIn Fence.wide 5 Tryz.prog 82 #[.func (.func 90) #[] #[.pointer (some ⟨w.heap.size, 0, none⟩)]] (w.alloc (.cells #[.map none] 43)) fun e w' => ∃ (v : Value) (ss : List (List UInt8)), e = .returned v ∧ ss = [] ∧
      w'.ownsRow (w.alloc (.cells #[.map none] 43)).heap.size 9 1 v ss.length ((ss.mergeSort (fun x y => decide (x ≤ y))).map encStr) ∧ (v = .slice none 0 0 ↔ ss = []) ∧ Below (w.alloc (.cells #[.map none] 43)).heap.size (w.alloc (.cells #[.map none] 43)) w' := by
  have hseq : SeqGives Fence.wide 2 Tryz.prog 90 #[.pointer (some ⟨w.heap.size, 0, none⟩)] encStr (fun ss : List (List UInt8) => ss = []) 0 (w.alloc (.cells #[.map none] 43)) :=
    AnyZ.keys_gives_nil (ρ := Tryz.keys83_ren) { Tryz.keys83 with } Fence.wide _ trivial rfl w.heap.size _ (by simp) (by simp)
  exact AnyZ.sorted_in Tryz.sorted82 Fence.wide 5 trivial trivial trivial trivial rfl (by omega) (Tryz.sorts82 _) (enters_of Tryz.func89 (by kernel_rfl) rfl) 90 #[.pointer (some ⟨w.heap.size, 0, none⟩)] trivial (enters_of Tryz.func90 (by kernel_rfl) rfl) _ 0 (Nat.zero_le _) (by omega) _ hseq



end Go.Proofs
