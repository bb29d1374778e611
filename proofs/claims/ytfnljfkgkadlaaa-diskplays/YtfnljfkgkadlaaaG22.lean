/-
  The document's disk: a crash, where changes wait.
  The library's contracts at this program, laid by the guide's own tools: a map's keys, sorted.
-/
import Derived.Test.YtfnljfkgkadlaaaG21
import Derived.Shelf.SlIter.Nil
import Derived.Shelf.SortM.Plain
import Derived.Shelf.SortM.SortNone
import Derived.Ground.GgzProg
import Derived.Ground.SlgmProg
import Derived.Test.YtfnljfkgkadlaaaProg
namespace Go.Proofs.Ytfnljfkgkadlaaa
open Go.RowKit

theorem chA_kind (c : Chg) : (∃ n pos s, c = .wr n pos s) ∨ ((∀ fs t, torn fs t c = fs) ∧ ∃ (a x : Int) (n m s : ByteArray), chA c = #[.int .i64 a, .string n, .string m, .int .i64 x, .string s] ∧ (a == 0) = false) := by
  cases c with
  | wr n pos s => exact Or.inl ⟨_, _, _, rfl⟩
  | ct n len => exact Or.inr ⟨fun _ _ => rfl, _, _, _, _, _, rfl, rfl⟩
  | rn a b => exact Or.inr ⟨fun _ _ => rfl, _, _, _, _, _, rfl, rfl⟩
  | rm n => exact Or.inr ⟨fun _ _ => rfl, _, _, _, _, _, rfl, rfl⟩
theorem cut_bytes (s : ByteArray) (t : Int) : (⟨(s.data.toList.take t.toNat).toArray⟩ : ByteArray) = s.extract 0 (min t.toNat s.size) := by
  apply ByteArray.ext
  apply Array.ext'
  simp [ByteArray.data_extract]
set_option maxHeartbeats 800000 in
set_option maxRecDepth 100000 in
/-- A crash, whatever waits. -/
theorem rcrash_any (keep t : Int) (p : Nat) (d : Dk) (F : List Nat) (w : World) (h : RDk w p d F) (hi : Inv d) :
    Calls Try.prog 25 #[.pointer (some ⟨p, 0, none⟩), .int .i64 keep, .int .i64 t] w fun e w' => e = .returned (.tuple #[]) ∧ RDid w F p (d.crash keep t) w' := by
  by_cases h0 : d.wait = []
  · exact rcrash_nil keep t p d F w h h0
  obtain ⟨hkl, hke⟩ := kept_le d keep
  have hke2 : max 0 (min keep (d.wait.length : Int)) = (d.kept keep : Int) := by omega
  obtain ⟨vs, vw, vn, h, rfl⟩ := h
  obtain ⟨rfl, h1⟩ | ⟨g, cap, rfl, hcp, hm⟩ := h.wait.shape
  · exact absurd h1 h0
  have cv : ∀ {W : World} {v : Value} {fs : Fs}, FlRow W v fs → ∃ a9 ns cs, v = .slice a9 ns cs := fun hf => by
    rcases hf.shape with ⟨e, _⟩ | ⟨_, _, e, _⟩ <;> exact ⟨_, _, _, e⟩
  obtain ⟨av, nv, cv', hvs⟩ := cv h.safe
  have hleft : d.left' keep t = match d.wait[d.kept keep]? with
    | some c => torn (playAll d.safe (d.wait.take (d.kept keep))) t c
    | none => playAll d.safe (d.wait.take (d.kept keep)) := rfl
  have hcr : d.crash keep t = ⟨d.left' keep t, d.left' keep t, [], -1, false⟩ := rfl
  rw [hcr]
  generalize d.left' keep t = LL at *
  generalize d.kept keep = K at *
  have FIN : Hid (∀ W l, Kp [] w W → FlRow W l LL → (∀ j, l.ownBlock = some j → vs.ownBlock = some j ∨ w.heap.size ≤ j) → RDid w (rfF p vs (.slice (some ⟨g, 0, none⟩) d.wait.length cap) vn) p ⟨LL, LL, [], -1, false⟩ (((((W.setCell ⟨p, 0, none⟩ l).setCell ⟨p, 2, none⟩ l).setCell ⟨p, 1, none⟩ (.slice none 0 0)).setCell ⟨p, 3, none⟩ (.int .i64 (-1))).setCell ⟨p, 4, none⟩ (.bool false))) := hide (fun W l hk hl hb => crash_fin h hk hl hb)
  have CC := hide (fun W (hk : Kp [] w W) l => crash_cells (h.box.kp hk (by simp)) l)
  have CW := hide (fun W (hk : Kp [] w W) => (show W.cell? ⟨p, 1, none⟩ = some (.slice (some ⟨g, 0, none⟩) d.wait.length cap) from (h.box.kp hk (by simp)).cell rfl))
  have CE := hide (fun W (hk : Kp [] w W) => h.wait.kp hk (by simp))
  have c0 : w.cell? ⟨p, 0, none⟩ = some vs := h.box.cell rfl
  have c1 : w.cell? ⟨p, 1, none⟩ = some (.slice (some ⟨g, 0, none⟩) d.wait.length cap) := h.box.cell rfl
  have HSF := hide h.safe
  have HI := hide hi
  have HLEFT := hide hleft
  have hlw : d.wait.length ≤ 1024 := hi.few
  have HFIT := hide (fun k (hk : k < d.wait.length) => (canAll_get k hk hi.can).1)
  have HLN := hide (fun k => show (playAll d.safe (d.wait.take k)).length ≤ 1000000 by have := (canAll_room hi.room (canAll_take k hi.can)).1.2; omega)
  subst hvs
  clear h hi hleft hcr hke h0
  go_enter Try.func25, Try.ntmps25
  go_wp2
  go_loopw [6, 7] (fun l i wr => ∃ (k : Nat) (lv : Value), k ≤ K ∧ i = .int .i64 (k : Int) ∧ lv = l ∧ Hid (Kp [] w wr) ∧ Hid (FlRow wr lv (playAll d.safe (d.wait.take k))) ∧ Hid (∀ j, lv.ownBlock = some j → (Value.slice av nv cv').ownBlock = some j ∨ w.heap.size ≤ j)) (fun _ i _ => K - (intOf i).toNat)
  case atStart => exact ⟨0, _, Nat.zero_le _, rfl, rfl, hide (Kp.refl _ _), hide (unhide HSF), hide (fun j hj => Or.inl hj)⟩
  case round =>
    clear c0 c1
    obtain ⟨k, lv, hk, rfl, rfl, HK, HR, HB⟩ := hrel
    have c1 := unhide CW wr (unhide HK)
    obtain ⟨a9, n9, s9, hlv⟩ := cv (unhide HR)
    subst hlv
    clear hke2
    by_cases hlt : k < K
    · have hkw : k < d.wait.length := by omega
      have hli : (k : Int) < (K : Int) := by omega
      have hlj : (k : Int) < (d.wait.length : Int) := by omega
      have MD := hide (made_any (.slice a9 n9 s9) _ _ (unhide HFIT k hkw) (unhide HLN k) wr (unhide HR))
      have NX := hide (play_next d.safe d.wait k hkw)
      obtain ⟨a, x, n, m, s, e⟩ := chA_form d.wait[k]
      have CL := (unhide CE wr (unhide HK)).cell k hkw
      rw [e] at CL MD
      have e0 : wr.cell? ⟨g, k * 5, none⟩ = some (.int .i64 a) := CL 0 _ rfl
      have e1 := CL 1 _ rfl
      have e2 := CL 2 _ rfl
      have e3 := CL 3 _ rfl
      have e4 := CL 4 _ rfl
      generalize d.wait[k] = c at *
      clear CL e
      go_wp2_with fail
      refine (unhide MD).mono ?_
      rintro r w2 ⟨v2, rfl, f2, k2, o2⟩
      have HK2 := hide ((unhide HK).trans k2 (by simp))
      have HR2 : Hid (FlRow w2 v2 (playAll d.safe (d.wait.take (k + 1)))) := hide (by rw [unhide NX]; exact f2)
      have HB2 : Hid (∀ j, v2.ownBlock = some j → (Value.slice av nv cv').ownBlock = some j ∨ w.heap.size ≤ j) := hide (fun j hj => Or.inr (by have := o2 j hj; have := (unhide HK).size; omega))
      clear f2 k2 o2 MD NX
      go_wp2
      go_roundw
      case rel => exact ⟨k + 1, _, by omega, by go_num, rfl, HK2, HR2, HB2⟩
      case measure => simp [intOf]; omega
    · have hli : ¬ ((k : Int) < (K : Int)) := by omega
      obtain rfl : k = K := by omega
      by_cases hkw : k < d.wait.length
      · have hlj : (k : Int) < (d.wait.length : Int) := by omega
        have hL := unhide HLEFT
        rw [List.getElem?_eq_getElem hkw] at hL
        dsimp only at hL
        have CL := (unhide CE wr (unhide HK)).cell k hkw
        rcases chA_kind d.wait[k] with ⟨n, pos, s, e⟩ | ⟨e5, a, x, n, m, s, e, ha⟩
        · rw [e] at CL
          have e0 : wr.cell? ⟨g, k * 5, none⟩ = some (.int .i64 0) := CL 0 _ rfl
          by_cases htn : t < 0
          · have hlf : torn (playAll d.safe (d.wait.take k)) t (.wr n pos s) = playAll d.safe (d.wait.take k) := if_pos htn
            rw [e, hlf] at hL
            subst hL
            have FF := hide (unhide FIN wr (.slice a9 n9 s9) (unhide HK) (unhide HR) (unhide HB))
            obtain ⟨⟨q0, f0⟩, ⟨q1, f1⟩, ⟨q2, f2⟩, ⟨q3, f3⟩, ⟨q4, f4⟩⟩ := unhide CC wr (unhide HK) (.slice a9 n9 s9)
            clear CL e hlf
            go_wp2
            go_end0
            exact ⟨rfl, unhide FF⟩
          · have hlf : torn (playAll d.safe (d.wait.take k)) t (.wr n pos s) = made (playAll d.safe (d.wait.take k)) (.wr n pos ⟨(s.data.toList.take t.toNat).toArray⟩) := if_neg htn
            rw [e, hlf] at hL
            have hfit := unhide HFIT k hkw
            rw [e] at hfit
            have e1 : wr.cell? ⟨g, k * 5 + 1, none⟩ = some (.string n) := CL 1 _ rfl
            have e2 : wr.cell? ⟨g, k * 5 + 2, none⟩ = some (.string ⟨#[]⟩) := CL 2 _ rfl
            have e3 : wr.cell? ⟨g, k * 5 + 3, none⟩ = some (.int .i64 (pos : Int)) := CL 3 _ rfl
            have e4 : wr.cell? ⟨g, k * 5 + 4, none⟩ = some (.string s) := CL 4 _ rfl
            obtain ⟨T, hT1, hT2, hT3⟩ : ∃ T : Nat, min t (s.size : Int) = (T : Int) ∧ T ≤ s.size ∧ Hid ((⟨(s.data.toList.take t.toNat).toArray⟩ : ByteArray) = s.extract 0 T) := ⟨min t.toNat s.size, by omega, by omega, hide (cut_bytes s t)⟩
            have hT4 : (T : Int) ≤ (s.size : Int) := by omega
            have ht0 : (0 : Int) ≤ t := by omega
            rw [unhide hT3] at hL
            have hfit2 : Fit (playAll d.safe (d.wait.take k)) (.wr n pos (s.extract 0 T)) := ⟨hfit.1, by have := hfit.2; rw [ByteArray.size_extract]; omega⟩
            have kA := Kp.alloc wr (.cells #[.int .i64 0, .string n, .string ⟨#[]⟩, .int .i64 (pos : Int), .string (s.extract 0 T)] 70)
            have MD := hide (made_any (.slice a9 n9 s9) _ _ hfit2 (unhide HLN k) _ ((unhide HR).kp kA (by simp)))
            have HA := hide kA
            subst hL
            clear CL e hlf hfit hfit2 hT3 kA
            go_wp2_with fail
            refine (unhide MD).mono ?_
            rintro r w2 ⟨v2, rfl, f2, k2, o2⟩
            have k3 : Kp [] w w2 := ((unhide HK).trans (unhide HA) (by simp)).trans k2 (by simp)
            obtain ⟨a7, n7, s7, hv2⟩ := cv f2
            subst hv2
            have FF := hide (unhide FIN w2 _ k3 f2 (fun j hj => Or.inr (by have := o2 j hj; have := (unhide HK).size; simp at *; omega)))
            obtain ⟨⟨q0, f0⟩, ⟨q1, f1⟩, ⟨q2, f2⟩, ⟨q3, f3⟩, ⟨q4, f4⟩⟩ := unhide CC w2 k3 (.slice a7 n7 s7)
            clear MD k2 o2 k3 HA e0 e1 e2 e3 e4
            go_wp2
            go_end0
            exact ⟨rfl, unhide FF⟩
        · rw [e5] at hL
          rw [e] at CL
          have e0 : wr.cell? ⟨g, k * 5, none⟩ = some (.int .i64 a) := CL 0 _ rfl
          subst hL
          have FF := hide (unhide FIN wr (.slice a9 n9 s9) (unhide HK) (unhide HR) (unhide HB))
          obtain ⟨⟨q0, f0⟩, ⟨q1, f1⟩, ⟨q2, f2⟩, ⟨q3, f3⟩, ⟨q4, f4⟩⟩ := unhide CC wr (unhide HK) (.slice a9 n9 s9)
          clear CL e e5
          go_wp2
          go_end0
          exact ⟨rfl, unhide FF⟩
      · have hlj : ¬ ((k : Int) < (d.wait.length : Int)) := by omega
        have hL := unhide HLEFT
        rw [List.getElem?_eq_none (by omega)] at hL
        dsimp only at hL
        subst hL
        have FF := hide (unhide FIN wr (.slice a9 n9 s9) (unhide HK) (unhide HR) (unhide HB))
        obtain ⟨⟨q0, f0⟩, ⟨q1, f1⟩, ⟨q2, f2⟩, ⟨q3, f3⟩, ⟨q4, f4⟩⟩ := unhide CC wr (unhide HK) (.slice a9 n9 s9)
        go_wp2
        go_end0
        exact ⟨rfl, unhide FF⟩
end Go.Proofs.Ytfnljfkgkadlaaa
namespace Go.Proofs
open Go.Shelf
def Try.keys53_ren : Go.Shelf.Ren := ⟨fun | 7 => 53 | 10 => 56 | n => n, fun | 23 => 34 | 26 => 9 | 3 => 60 | 28 => 92 | 0 => 0 | 27 => 91 | 33 => 59 | 4 => 4 | n => n, fun | n => n⟩
theorem Try.keys53 : Go.Proofs.SlLaysZ.n7 Try.prog Try.keys53_ren := {
  mixed := by kernel_rfl
  f7 := ⟨Try.f53.name, by decide, Try.func53.trans (congrArg some (by kernel_rfl))⟩
  f10 := ⟨Try.f56.name, by decide, Try.func56.trans (congrArg some (by kernel_rfl))⟩
  t0 := Try.underlying0
  a0 := Try.isAgg0
  z0 := Try.sizeOf0
  v0 := Try.zeroValue0
  t4 := Try.underlying4
  a4 := Try.isAgg4
  z4 := Try.sizeOf4
  v4 := Try.zeroValue4
  t23 := Try.underlying34
  a23 := Try.isAgg34
  z23 := Try.sizeOf34
  v23 := Try.zeroValue34
  t26 := Try.underlying9
  a26 := Try.isAgg9
  z26 := Try.sizeOf9
  v26 := Try.zeroValue9
  t27 := Try.underlying91
  a27 := Try.isAgg91
  z27 := Try.sizeOf91
  v27 := Try.zeroValue91
  t28 := Try.underlying92
  a28 := Try.isAgg92
  z28 := Try.sizeOf92
  v28 := Try.zeroValue92
  t33 := Try.underlying59
  a33 := Try.isAgg59
  z33 := Try.sizeOf59
  v33 := Try.zeroValue59 }
def Try.sorted52_ren : Go.Shelf.Ren := ⟨fun | 6 => 52 | 8 => 54 | 9 => 55 | 11 => 57 | 13 => 59 | 12 => 58 | 23 => 69 | 24 => 70 | 14 => 60 | 15 => 61 | 16 => 62 | 17 => 63 | 18 => 64 | 19 => 65 | 20 => 66 | 21 => 67 | 22 => 68 | 25 => 71 | 26 => 72 | 27 => 73 | 28 => 74 | 29 => 75 | 30 => 76 | 31 => 77 | n => n, fun | 26 => 9 | 28 => 92 | 24 => 53 | 0 => 0 | 3 => 3 | 37 => 99 | 48 => 110 | 50 => 112 | 4 => 4 | 40 => 102 | 39 => 101 | 45 => 107 | 5 => 5 | 9 => 9 | 51 => 113 | 55 => 117 | 57 => 119 | 58 => 120 | 33 => 59 | n => n, fun | n => n⟩
theorem Try.sorted52 : Go.Proofs.SlLaysZ.n6 Try.prog Try.sorted52_ren := {
  mixed := by kernel_rfl
  f6 := ⟨Try.f52.name, by decide, Try.func52.trans (congrArg some (by kernel_rfl))⟩
  f8 := ⟨Try.f54.name, by decide, Try.func54.trans (congrArg some (by kernel_rfl))⟩
  f11 := ⟨Try.f57.name, by decide, Try.func57.trans (congrArg some (by kernel_rfl))⟩
  t0 := Try.underlying0
  a0 := Try.isAgg0
  z0 := Try.sizeOf0
  v0 := Try.zeroValue0
  t24 := Try.underlying53
  a24 := Try.isAgg53
  z24 := Try.sizeOf53
  v24 := Try.zeroValue53
  t26 := Try.underlying9
  a26 := Try.isAgg9
  z26 := Try.sizeOf9
  v26 := Try.zeroValue9
  t28 := Try.underlying92
  a28 := Try.isAgg92
  z28 := Try.sizeOf92
  v28 := Try.zeroValue92
  i26 := by kernel_rfl }
def Try.sort55_ren : Go.Shelf.Ren := ⟨fun | 6 => 55 | 8 => 59 | 9 => 58 | 19 => 69 | 20 => 70 | 21 => 60 | 22 => 61 | 23 => 62 | 24 => 63 | 25 => 64 | 26 => 65 | 27 => 66 | 28 => 67 | 29 => 68 | 36 => 71 | 31 => 72 | 32 => 73 | 37 => 74 | 38 => 75 | 39 => 76 | 41 => 77 | n => n, fun | 27 => 53 | 29 => 9 | 3 => 3 | 32 => 99 | 26 => 53 | 0 => 0 | 44 => 110 | 46 => 112 | 4 => 4 | 36 => 102 | 35 => 101 | 41 => 107 | 5 => 5 | 9 => 9 | 53 => 113 | 57 => 117 | 63 => 119 | 64 => 120 | n => n, fun | n => n⟩
theorem Try.sort55 : Go.Proofs.SlLaysM.n6 Try.prog Try.sort55_ren := {
  mixed := by kernel_rfl
  f6 := ⟨Try.f55.name, by decide, Try.func55.trans (congrArg some (by kernel_rfl))⟩
  f8 := Try.func59.trans (congrArg some (by kernel_rfl))
  f9 := ⟨Try.f58.name, by decide, Try.func58.trans (congrArg some (by kernel_rfl))⟩
  f19 := Try.func69.trans (congrArg some (by kernel_rfl))
  f20 := Try.func70.trans (congrArg some (by kernel_rfl))
  f21 := ⟨Try.f60.name, by decide, Try.func60.trans (congrArg some (by kernel_rfl))⟩
  f22 := ⟨Try.f61.name, by decide, Try.func61.trans (congrArg some (by kernel_rfl))⟩
  f23 := ⟨Try.f62.name, by decide, Try.func62.trans (congrArg some (by kernel_rfl))⟩
  f24 := ⟨Try.f63.name, by decide, Try.func63.trans (congrArg some (by kernel_rfl))⟩
  f25 := ⟨Try.f64.name, by decide, Try.func64.trans (congrArg some (by kernel_rfl))⟩
  f26 := ⟨Try.f65.name, by decide, Try.func65.trans (congrArg some (by kernel_rfl))⟩
  f27 := ⟨Try.f66.name, by decide, Try.func66.trans (congrArg some (by kernel_rfl))⟩
  f28 := ⟨Try.f67.name, by decide, Try.func67.trans (congrArg some (by kernel_rfl))⟩
  f29 := ⟨Try.f68.name, by decide, Try.func68.trans (congrArg some (by kernel_rfl))⟩
  f31 := Try.func72.trans (congrArg some (by kernel_rfl))
  f32 := Try.func73.trans (congrArg some (by kernel_rfl))
  f36 := ⟨Try.f71.name, by decide, Try.func71.trans (congrArg some (by kernel_rfl))⟩
  f37 := ⟨Try.f74.name, by decide, Try.func74.trans (congrArg some (by kernel_rfl))⟩
  f38 := ⟨Try.f75.name, by decide, Try.func75.trans (congrArg some (by kernel_rfl))⟩
  f39 := ⟨Try.f76.name, by decide, Try.func76.trans (congrArg some (by kernel_rfl))⟩
  f41 := ⟨Try.f77.name, by decide, Try.func77.trans (congrArg some (by kernel_rfl))⟩
  t0 := Try.underlying0
  a0 := Try.isAgg0
  z0 := Try.sizeOf0
  v0 := Try.zeroValue0
  t3 := Try.underlying3
  a3 := Try.isAgg3
  z3 := Try.sizeOf3
  v3 := Try.zeroValue3
  t4 := Try.underlying4
  a4 := Try.isAgg4
  z4 := Try.sizeOf4
  v4 := Try.zeroValue4
  t5 := Try.underlying5
  a5 := Try.isAgg5
  z5 := Try.sizeOf5
  v5 := Try.zeroValue5
  t9 := Try.underlying9
  a9 := Try.isAgg9
  z9 := Try.sizeOf9
  v9 := Try.zeroValue9
  t26 := Try.underlying53
  a26 := Try.isAgg53
  z26 := Try.sizeOf53
  v26 := Try.zeroValue53
  t27 := Try.underlying53
  a27 := Try.isAgg53
  z27 := Try.sizeOf53
  v27 := Try.zeroValue53
  t29 := Try.underlying9
  a29 := Try.isAgg9
  z29 := Try.sizeOf9
  v29 := Try.zeroValue9
  t32 := Try.underlying99
  a32 := Try.isAgg99
  z32 := Try.sizeOf99
  v32 := Try.zeroValue99
  t35 := Try.underlying101
  a35 := Try.isAgg101
  z35 := Try.sizeOf101
  v35 := Try.zeroValue101
  t36 := Try.underlying102
  a36 := Try.isAgg102
  z36 := Try.sizeOf102
  v36 := Try.zeroValue102
  t41 := Try.underlying107
  a41 := Try.isAgg107
  z41 := Try.sizeOf107
  v41 := Try.zeroValue107
  t44 := Try.underlying110
  a44 := Try.isAgg110
  z44 := Try.sizeOf110
  v44 := Try.zeroValue110
  t46 := Try.underlying112
  a46 := Try.isAgg112
  z46 := Try.sizeOf112
  v46 := Try.zeroValue112
  t53 := Try.underlying113
  a53 := Try.isAgg113
  z53 := Try.sizeOf113
  v53 := Try.zeroValue113
  t57 := Try.underlying117
  a57 := Try.isAgg117
  z57 := Try.sizeOf117
  v57 := Try.zeroValue117
  t63 := Try.underlying119
  a63 := Try.isAgg119
  z63 := Try.sizeOf119
  v63 := Try.zeroValue119
  t64 := Try.underlying120
  a64 := Try.isAgg120
  z64 := Try.sizeOf120
  v64 := Try.zeroValue120 }
open Go.RowKit Go.Maps Go.Sort Go.Shelf
theorem Try.sorts52 (m : Nat) : AnyZ.SortsIn Try.prog Try.sorted52_ren Fence.wide m :=
  ⟨fun blk off cap ss W hH hblk hsz => callsIn_wide.2 (AnyM.slices_Sort_string Try.sort55 blk off cap ss W hH hblk hsz),
   fun p cap W => callsIn_wide.2 (AnyM.slices_Sort_string_none Try.sort55 p cap W)⟩

theorem Try.maps_Keys_53 (mb : Option Nat) (W : World) : CallsIn Fence.wide 5 Try.prog 53 #[.map mb] W fun e w' => e = .returned (.func (.func 56) #[] #[.pointer (some ⟨W.heap.size, 0, none⟩)]) ∧ w' = W.alloc (.cells #[.map mb] 34) :=
  AnyZ.keys_in Try.keys53 Fence.wide 5 trivial rfl mb W

set_option maxHeartbeats 1000000 in
theorem Try.slices_Sorted_keys_52_53 {H : Type} (b nn : Nat) (D0 : DataW H) (R : Value → Option (DataW H × List MemPlace)) (w : World) (hown : w.ownsMap Try.prog 9 R b nn D0) (hmax : Maps.size D0 ≤ maxLen) (hbytes : Maps.size D0 * 16 ≤ 140737488355328) :
    CallsIn Fence.wide 5 Try.prog 52 #[.func (.func 56) #[] #[.pointer (some ⟨w.heap.size, 0, none⟩)]] (w.alloc (.cells #[.map (some b)] 34)) fun e w' => ∃ (v : Value) (ss : List (List UInt8)), e = .returned v ∧ ss.Perm (strKeys D0) ∧
      w'.ownsRow (w.alloc (.cells #[.map (some b)] 34)).heap.size 9 1 v ss.length ((ss.mergeSort (fun x y => decide (x ≤ y))).map encStr) ∧ (v = .slice none 0 0 ↔ ss = []) ∧ Below (w.alloc (.cells #[.map (some b)] 34)).heap.size (w.alloc (.cells #[.map (some b)] 34)) w' := by
  have hbl := hown.lt
  have hseq : SeqGives Fence.wide 2 Try.prog 56 #[.pointer (some ⟨w.heap.size, 0, none⟩)] encStr (fun ss => ss.Perm (strKeys D0)) (Maps.size D0) (w.alloc (.cells #[.map (some b)] 34)) :=
    AnyZ.keys_gives (ρ := Try.keys53_ren) { Try.keys53 with } Fence.wide _ trivial rfl (by omega) w.heap.size b nn D0 _ (by simp) (by simp) (by
      obtain ⟨es, clock, hb, Ft, hs, hD⟩ := hown
      exact ⟨es, clock, (Below.heap_alloc _ _ b hbl).trans hb, Ft, hs, hD⟩)
  exact AnyZ.sorted_in Try.sorted52 Fence.wide 5 trivial trivial trivial trivial rfl (by omega) (Try.sorts52 _) (enters_of Try.func55 (by kernel_rfl) rfl) 56 #[.pointer (some ⟨w.heap.size, 0, none⟩)] trivial (enters_of Try.func56 (by kernel_rfl) rfl) _ _ hmax hbytes _ hseq

set_option maxHeartbeats 1000000 in
theorem Try.slices_Sorted_keys_nil_52_53 (w : World) :
    CallsIn Fence.wide 5 Try.prog 52 #[.func (.func 56) #[] #[.pointer (some ⟨w.heap.size, 0, none⟩)]] (w.alloc (.cells #[.map none] 34)) fun e w' => ∃ (v : Value) (ss : List (List UInt8)), e = .returned v ∧ ss = [] ∧
      w'.ownsRow (w.alloc (.cells #[.map none] 34)).heap.size 9 1 v ss.length ((ss.mergeSort (fun x y => decide (x ≤ y))).map encStr) ∧ (v = .slice none 0 0 ↔ ss = []) ∧ Below (w.alloc (.cells #[.map none] 34)).heap.size (w.alloc (.cells #[.map none] 34)) w' := by
  have hseq : SeqGives Fence.wide 2 Try.prog 56 #[.pointer (some ⟨w.heap.size, 0, none⟩)] encStr (fun ss : List (List UInt8) => ss = []) 0 (w.alloc (.cells #[.map none] 34)) :=
    AnyZ.keys_gives_nil (ρ := Try.keys53_ren) { Try.keys53 with } Fence.wide _ trivial rfl w.heap.size _ (by simp) (by simp)
  exact AnyZ.sorted_in Try.sorted52 Fence.wide 5 trivial trivial trivial trivial rfl (by omega) (Try.sorts52 _) (enters_of Try.func55 (by kernel_rfl) rfl) 56 #[.pointer (some ⟨w.heap.size, 0, none⟩)] trivial (enters_of Try.func56 (by kernel_rfl) rfl) _ 0 (Nat.zero_le _) (by omega) _ hseq



end Go.Proofs
