/-
  EventSorts: a match is put in its place.
-/
import Derived.Test.YtnikkjbjidhhlaaEsA
import Derived.Deep.RegionHeld3
import Derived.Deep.RegionLaw
namespace Go.Proofs.Ytnikkjbjidhhlaa
open Go.RowKit

/-- What lies in a row of matches, wherever its world goes. -/
theorem HRow.src {wx : World} {g n cp : Nat} {l : List Hd} (h : HRow wx (.slice (some ⟨g, 0, none⟩) n cp) l) (p : Nat) (W : World) (hk : Kp [] wx W) :
    (∀ a, some (⟨g, 0, none⟩ : Addr) = some a → ∀ j u, (hdC (l.take p))[j]? = some u → W.cell? (a.add j) = some u) ∧ (∀ a, some (⟨g, p * 2, none⟩ : Addr) = some a → ∀ j u, (hdC (l.drop p))[j]? = some u → W.cell? (a.add j) = some u) := by
  have h' := h.kp hk (by simp)
  have e : hdC l = hdC (l.take p) ++ hdC (l.drop p) := by rw [← hdC_append, List.take_append_drop]
  constructor
  · intro a ha j u hu
    injection ha with ha
    subst ha
    rw [Go.WideShapes.add_plain, Nat.zero_add]
    refine h'.cells j u ?_
    rw [e, List.getElem?_append_left (List.getElem?_eq_some_iff.1 hu).1]
    exact hu
  · intro a ha j u hu
    injection ha with ha
    subst ha
    rw [Go.WideShapes.add_plain]
    refine h'.cells _ u ?_
    by_cases hp : p ≤ l.length
    · have hl : (hdC (l.take p)).length = p * 2 := by rw [hdC_length, List.length_take]; congr 1; omega
      rw [e, List.getElem?_append_right (by omega), hl, Nat.add_sub_cancel_left]
      exact hu
    · rw [List.drop_of_length_le (by omega)] at hu
      cases hu
/-- The cells of a match, just laid. -/
theorem mt_new (W : World) (n : Nat) (hn : W.heap.size = n) (x y : Value) (t : TypeId) : ∀ a, some (⟨n, 0, none⟩ : Addr) = some a → ∀ (j : Nat) (u : Value), [x, y][j]? = some u → (W.alloc (.cells #[x, y] t)).cell? (a.add j) = some u := fun a ha j u hj => by
  subst hn
  injection ha with ha
  subst ha
  match j, hj with
  | 0, hj => simp at hj; subst hj; exact (CBox.new W #[x, y] t).cell rfl
  | 1, hj => simp at hj; subst hj; exact (CBox.new W #[x, y] t).cell rfl
theorem mt_box {W : World} {b : Nat} {x y : Value} {t : TypeId} (h : CBox b #[x, y] t W) : ∀ a, some (⟨b, 0, none⟩ : Addr) = some a → ∀ (j : Nat) (u : Value), [x, y][j]? = some u → W.cell? (a.add j) = some u := fun a ha j u hj => by
  injection ha with ha
  subst ha
  match j, hj with
  | 0, hj => simp at hj; subst hj; exact h.cell rfl
  | 1, hj => simp at hj; subst hj; exact h.cell rfl
theorem CBox.gr {b g2 : Nat} {cs : Array Value} {t : TypeId} {W w5 : World} (h : CBox b cs t W) (hg : W.grownBy w5 (some g2)) (hne : b ≠ g2) : CBox b cs t w5 := h.kp (Kp.of hg) (by simpa using hne)
theorem put_fin {l : List Hd} {m : Hd} {k : Nat} (hk : k = atH m l) {w7 : World} {g7 cap7 : Nat} (h : w7.ownsRow 0 28 2 (.slice (some ⟨g7, 0, none⟩) (l.length + 1) cap7) (l.length + 1) (hdC [] ++ hdC (l.take k) ++ [.string m.k, .slice m.a m.s.length m.c] ++ hdC (l.drop k))) : HRow w7 (.slice (some ⟨g7, 0, none⟩) (l.length + 1) cap7) (insH m l) := by
  unfold HRow
  rw [insH_len]
  have e : hdC (insH m l) = hdC [] ++ hdC (l.take k) ++ [.string m.k, .slice m.a m.s.length m.c] ++ hdC (l.drop k) := by
    subst hk
    unfold insH hdC Hd.c2
    simp
  rw [e]
  exact h
set_option maxHeartbeats 4000000 in
set_option maxRecDepth 100000 in
theorem put1_any (l : List Hd) (m : Hd) (ad : Option Addr) (cp : Nat) (w : World) (hv : HRow w (.slice ad l.length cp) l) (hnil : l = [] → ad = none ∧ cp = 0) (hl : l.length ≤ 20) (hok : ∀ x ∈ l, x.ok w) (hm : m.ok w) :
    Calls Try.prog 11 #[.slice ad l.length cp, .agg #[.string m.k, .slice m.a m.s.length m.c]] w fun e w' => ∃ g cap, e = .returned (.slice (some ⟨g, 0, none⟩) (l.length + 1) cap) ∧ HRow w' (.slice (some ⟨g, 0, none⟩) (l.length + 1) cap) (insH m l) ∧ w.heap.size ≤ g ∧ Kp [] w w' := by
  have hat := atH_le m l
  have HAH := hide (atH_ahead m l)
  have HAT := hide (atH_at m l)
  have CMP := hide (fun x (hx : x ∈ l) W (hk : Kp [] w W) => compareH ((hok x hx).kp hk) (hm.kp hk))
  have hbx := CBox.new w #[.string m.k, .slice m.a m.s.length m.c] 28
  have hk0 := Kp.alloc w (.cells #[.string m.k, .slice m.a m.s.length m.c] 28)
  go_enter Try.func11, Try.ntmps11
  go_wp2_with fail
  generalize w.alloc (.cells #[.string m.k, .slice m.a m.s.length m.c] 28) = W0 at *
  have HV := hide hv
  have HBX := hide hbx
  have HK0 := hide hk0
  clear hv hok hm hbx hk0
  go_loopw [5] (fun i wr => ∃ k : Nat, k ≤ atH m l ∧ i = .int .i64 (k : Int) ∧ Kp [] W0 wr) (fun i _ => l.length - (intOf i).toNat)
  case atStart => exact ⟨0, Nat.zero_le _, rfl, Kp.refl _ _⟩
  case round =>
    obtain ⟨k, hk, rfl, kp⟩ := hrel
    by_cases hlt : k < l.length
    · obtain ⟨g, cp', e, hg, _, _, hc⟩ := ((unhide HV).kp ((unhide HK0).trans kp (by simp)) (by simp)).at (by omega)
      simp only [Value.slice.injEq, true_and] at e
      obtain ⟨rfl, rfl⟩ := e
      obtain ⟨c0, c1⟩ := hc k hlt
      have b := (unhide HBX).kp kp (by simp)
      have b0 : wr.cell? ⟨w.heap.size, 0, none⟩ = some (.string m.k) := b.cell rfl
      have b1 : wr.cell? ⟨w.heap.size, 1, none⟩ = some (.slice m.a m.s.length m.c) := b.cell rfl
      have hli : (k : Int) < (l.length : Int) := by omega
      have CM := hide (fun W hk => unhide CMP l[k] (List.getElem_mem _) W hk)
      have cS : wr.drew.cell? ⟨g, k * 2, none⟩ = some (.string l[k].k) ∧ wr.drew.cell? ⟨g, k * 2 + 1, none⟩ = some (.slice l[k].a l[k].s.length l[k].c) ∧ wr.drew.cell? ⟨w.heap.size, 0, none⟩ = some (.string m.k) ∧ wr.drew.cell? ⟨w.heap.size, 1, none⟩ = some (.slice m.a m.s.length m.c) := ⟨c0, c1, b0, b1⟩
      have KD := hide (((unhide HK0).trans kp (by simp)).trans (Kp.drew wr) (by simp))
      have HX : Hid (k < atH m l → cH l[k] m ≤ 0) := hide (fun h => unhide HAH k h hlt)
      have HY : Hid (k = atH m l → 0 < cH l[k] m) := hide (fun h => by subst h; exact unhide HAT hlt)
      clear hc b b0 b1 c0 c1 HAH HAT CMP
      generalize l[k] = y at *
      generalize cH y m = c at *
      go_wp2
      go_region_held3 (fun W => W.cell? ⟨g, k * 2, none⟩ = some (.string y.k) ∧ W.cell? ⟨g, k * 2 + 1, none⟩ = some (.slice y.a y.s.length y.c) ∧ W.cell? ⟨w.heap.size, 0, none⟩ = some (.string m.k) ∧ W.cell? ⟨w.heap.size, 1, none⟩ = some (.slice m.a m.s.length m.c))
        (first | with_reducible exact cS2 | with_reducible exact cS)
        (first
          | (go_at_call 12; refine (unhide CM _ (unhide KD)).mono ?_; rintro r w2 ⟨rfl, hk2⟩; have cS2 : w2.cell? ⟨g, k * 2, none⟩ = some (.string y.k) ∧ w2.cell? ⟨g, k * 2 + 1, none⟩ = some (.slice y.a y.s.length y.c) ∧ w2.cell? ⟨w.heap.size, 0, none⟩ = some (.string m.k) ∧ w2.cell? ⟨w.heap.size, 1, none⟩ = some (.slice m.a m.s.length m.c) := ⟨hk2.cell cS.1 (by simp), hk2.cell cS.2.1 (by simp), hk2.cell cS.2.2.1 (by simp), hk2.cell cS.2.2.2 (by simp)⟩))
      have K2 := hide ((kp.trans (Kp.drew wr) (by simp)).trans hk2 (by simp))
      by_cases hka : k < atH m l
      · have hc0 := unhide HX hka
        have hc1 : ¬ 0 < c := by omega
        go_wp2
        go_roundw
        case rel => exact ⟨k + 1, by omega, by go_num, unhide K2⟩
        case measure => simp [intOf]; omega
      · have hke : k = atH m l := by omega
        have hc0 := unhide HY hke
        have hck : ¬ cp = k := by have := (unhide HV).lt; omega
        have HKE := hide hke
        have hkl : k ≤ l.length := by omega
        clear hke
        go_wp2
        have kx : Kp [] w w2 := (unhide HK0).trans (unhide K2) (by simp)
        have hvx : HRow w2 (.slice (some ⟨g, 0, none⟩) l.length cp) l := (unhide HV).kp kx (by simp)
        obtain ⟨_, hcap, hcm, _⟩ := hvx.lt
        have bx : CBox w.heap.size #[.string m.k, .slice m.a m.s.length m.c] 28 w2 := (unhide HBX).kp (unhide K2) (by simp)
        have SRC := hide (fun W hk => hvx.src k W hk)
        have hsz : w.heap.size < w2.heap.size := (Array.getElem?_eq_some_iff.1 bx).1
        have kE1 : Kp [] w2 (w2.alloc (.cells #[] 28)).drew := (Kp.alloc _ _).trans (Kp.drew _) (by simp)
        have kE2 : Kp [] w2 ((w2.alloc (.cells #[] 28)).alloc (.cells #[.string m.k, .slice m.a m.s.length m.c] 28)).drew := ((Kp.alloc _ _).trans (Kp.alloc _ _) (by simp)).trans (Kp.drew _) (by simp)
        have kE3 : Kp [] w2 ((w2.alloc (.cells #[.string m.k, .slice m.a m.s.length m.c] 28)).alloc (.cells #[] 28)).drew := ((Kp.alloc _ _).trans (Kp.alloc _ _) (by simp)).trans (Kp.drew _) (by simp)
        have oE1 : (w2.alloc (.cells #[] 28)).drew.ownsRow 0 28 2 (.slice (some ⟨w2.heap.size, 0, none⟩) 0 0) 0 (hdC []) := HRow.empty w2
        have oE2 : ((w2.alloc (.cells #[] 28)).alloc (.cells #[.string m.k, .slice m.a m.s.length m.c] 28)).drew.ownsRow 0 28 2 (.slice (some ⟨w2.heap.size, 0, none⟩) 0 0) 0 (hdC []) := (HRow.empty w2).kp ((Kp.alloc _ _).trans (Kp.drew _) (by simp)) (by simp)
        have oE3 : ((w2.alloc (.cells #[.string m.k, .slice m.a m.s.length m.c] 28)).alloc (.cells #[] 28)).drew.ownsRow 0 28 2 (.slice (some ⟨w2.heap.size + 1, 0, none⟩) 0 0) 0 (hdC []) := by
          have h := HRow.empty (w2.alloc (.cells #[.string m.k, .slice m.a m.s.length m.c] 28))
          rw [show (w2.alloc (.cells #[.string m.k, .slice m.a m.s.length m.c] 28)).heap.size = w2.heap.size + 1 by simp] at h
          exact h
        have mE2 : CBox (w2.heap.size + 1) #[.string m.k, .slice m.a m.s.length m.c] 28 ((w2.alloc (.cells #[] 28)).alloc (.cells #[.string m.k, .slice m.a m.s.length m.c] 28)).drew := by
          have h := CBox.new (w2.alloc (.cells #[] 28)) #[.string m.k, .slice m.a m.s.length m.c] 28
          rw [show (w2.alloc (.cells #[] 28)).heap.size = w2.heap.size + 1 by simp] at h
          exact h
        have mE3 : CBox w2.heap.size #[.string m.k, .slice m.a m.s.length m.c] 28 ((w2.alloc (.cells #[.string m.k, .slice m.a m.s.length m.c] 28)).alloc (.cells #[] 28)).drew := (CBox.new w2 _ _).kp ((Kp.alloc _ _).trans (Kp.drew _) (by simp)) (by simp)
        have x0 : w2.drew.cell? ⟨w.heap.size, 0, none⟩ = some (.string m.k) ∧ w2.drew.cell? ⟨w.heap.size, 1, none⟩ = some (.slice m.a m.s.length m.c) := ⟨bx.cell rfl, bx.cell rfl⟩
        have bx1 := bx.kp kE1 (by simp)
        have x1 : (w2.alloc (.cells #[] 28)).drew.cell? ⟨w.heap.size, 0, none⟩ = some (.string m.k) ∧ (w2.alloc (.cells #[] 28)).drew.cell? ⟨w.heap.size, 1, none⟩ = some (.slice m.a m.s.length m.c) := ⟨bx1.cell rfl, bx1.cell rfl⟩
        have BX := hide bx
        have HT1 : Hid ((hdC (l.take k)).length = k * 2) := hide (by rw [hdC_length, List.length_take]; congr 1; omega)
        have HT2 : Hid ((hdC (l.drop k)).length = (l.length - k) * 2) := hide (by rw [hdC_length, List.length_drop])
        have HFIN : Hid (∀ w7 g7 cap7, w7.ownsRow 0 28 2 (.slice (some ⟨g7, 0, none⟩) (l.length + 1) cap7) (l.length + 1) (hdC [] ++ hdC (l.take k) ++ [.string m.k, .slice m.a m.s.length m.c] ++ hdC (l.drop k)) → HRow w7 (.slice (some ⟨g7, 0, none⟩) (l.length + 1) cap7) (insH m l)) := hide (fun w7 g7 cap7 h => put_fin (unhide HKE) h)
        have hki : (k : Int) ≤ (l.length : Int) := by omega
        have hkc : (k : Int) ≤ (cp : Int) := by omega
        have hlc : (l.length : Int) ≤ (cp : Int) := by omega
        have KX := hide kx
        have HSZ := hide hsz
        have HCM := hide hcm
        obtain ⟨i0, hi0, hz0, hz1, hz2⟩ := info_parts info_match
        clear bx bx1 hvx kx hsz hcm
        go_wp2_with fail
        go_region_law
          (first
            | (refine step_app_any rfl (.tmp 32) (.tmp 35) 22 rfl 28 i0 (.agg #[.string ⟨#[]⟩, .slice none 0 0]) 2 40 Try.underlying22 hi0 hz0 hz1 hz2 rfl (by decide) rfl own6 _ _ _ (hdC (l.drop k)) rfl (unhide HT2) (fun h => by cases h) (fun a ha => by injection ha with ha; subst ha; rfl) (by first | exact (unhide SRC _ k6).2 | exact fun a ha j u hu => absurd hu (by rw [unhide HD]; simp)) (hdC_one _) (by unfold maxLen; omega) (by omega) (l.length + 1) (by omega) ?_; intro g7 cap7 w7 own7 gr7 at7; have k7 := kp_gr k6 gr7 hg6; have HG7 : Hid (w.heap.size ≤ g7) := hide (by have := unhide HSZ; have := k6.size; rcases at7 with rfl | rfl <;> omega); have OWN7 := hide own7; have K7 := hide k7; clear own7 gr7 at7 k7)
            | (refine step_app_any rfl (.tmp 29) (.tmp 31) 22 rfl 28 i0 (.agg #[.string ⟨#[]⟩, .slice none 0 0]) 2 40 Try.underlying22 hi0 hz0 hz1 hz2 rfl (by decide) rfl (by first | with_reducible exact own5 | with_reducible exact own5.alloc _) _ _ _ [.string m.k, .slice m.a m.s.length m.c] rfl rfl (fun h => by cases h) (fun a ha => by injection ha with ha; subst ha; rfl) (by first | exact mt_box m5 | exact mt_new w5 _ rfl _ _ _) (by intro u hu; simp at hu; rcases hu with rfl | rfl <;> rfl) (by unfold maxLen; omega) (by omega) (k + 1) rfl ?_; intro g6 cap6 w6 own6 gr6 at6; have k6 : Kp [] w2 w6 := kp_gr (by first | exact k5 | exact k5.trans (Kp.alloc _ _) (by simp)) gr6 hg5; have hg6 : w2.heap.size ≤ g6 := (by have := k5.size; rcases at6 with rfl | rfl <;> (try simp) <;> omega); clear gr6 at6)
            | (refine step_app_any rfl (.tmp 25) (.tmp 28) 22 rfl 28 i0 (.agg #[.string ⟨#[]⟩, .slice none 0 0]) 2 40 Try.underlying22 hi0 hz0 hz1 hz2 rfl (by decide) rfl (by first | with_reducible exact oE1 | with_reducible exact oE2 | with_reducible exact oE3) _ _ _ (hdC (l.take k)) rfl (unhide HT1) (fun h => by cases h) (fun a ha => by injection ha with ha; subst ha; rfl) (unhide SRC _ (by first | with_reducible exact kE1 | with_reducible exact kE2 | with_reducible exact kE3)).1 (hdC_one _) (by unfold maxLen; omega) (by omega) k (Nat.zero_add _) ?_; intro g5 cap5 w5 own5 gr5 at5; have k5 : Kp [] w2 w5 := kp_gr (by first | with_reducible exact kE1 | with_reducible exact kE2 | with_reducible exact kE3) gr5 (by omega); have hg5 : w2.heap.size ≤ g5 := (by rcases at5 with rfl | rfl <;> (try simp) <;> omega); have bx5 := (unhide BX).kp k5 (by simp); have x5 : w5.cell? ⟨w.heap.size, 0, none⟩ = some (.string m.k) ∧ w5.cell? ⟨w.heap.size, 1, none⟩ = some (.slice m.a m.s.length m.c) := ⟨bx5.cell rfl, bx5.cell rfl⟩; first | (have m5 := mE2.gr gr5 (by omega)) | (have m5 := mE3.gr gr5 (by omega)) | skip; clear gr5 at5 bx5))
        all_goals
          go_wp2
          go_ret
          exact ⟨g7, cap7, rfl, unhide HFIN _ _ _ (unhide OWN7), unhide HG7, (unhide KX).trans (unhide K7) (by simp)⟩
    · have hke : k = atH m l := by omega
      have hli : ¬ ((k : Int) < (l.length : Int)) := by omega
      have HKE := hide hke
      have hkl : k ≤ l.length := by omega
      have hkl2 : l.length ≤ k := by omega
      clear hke hk hat
      by_cases hl0 : l = []
      · subst hl0
        obtain ⟨rfl, rfl⟩ := hnil rfl
        obtain rfl : k = 0 := by simpa using hkl
        have K2 := hide kp
        go_wp2
        clear hli hlt hkl2
        have kx : Kp [] w wr := (unhide HK0).trans (unhide K2) (by simp)
        have bx : CBox w.heap.size #[.string m.k, .slice m.a m.s.length m.c] 28 wr := (unhide HBX).kp (unhide K2) (by simp)
        have hsz : w.heap.size < wr.heap.size := (Array.getElem?_eq_some_iff.1 bx).1
        have kE1 : Kp [] wr (wr.alloc (.cells #[] 28)).drew := (Kp.alloc _ _).trans (Kp.drew _) (by simp)
        have kE2 : Kp [] wr ((wr.alloc (.cells #[] 28)).alloc (.cells #[.string m.k, .slice m.a m.s.length m.c] 28)).drew := ((Kp.alloc _ _).trans (Kp.alloc _ _) (by simp)).trans (Kp.drew _) (by simp)
        have kE3 : Kp [] wr ((wr.alloc (.cells #[.string m.k, .slice m.a m.s.length m.c] 28)).alloc (.cells #[] 28)).drew := ((Kp.alloc _ _).trans (Kp.alloc _ _) (by simp)).trans (Kp.drew _) (by simp)
        have oE1 : (wr.alloc (.cells #[] 28)).drew.ownsRow 0 28 2 (.slice (some ⟨wr.heap.size, 0, none⟩) 0 0) 0 (hdC []) := HRow.empty wr
        have oE2 : ((wr.alloc (.cells #[] 28)).alloc (.cells #[.string m.k, .slice m.a m.s.length m.c] 28)).drew.ownsRow 0 28 2 (.slice (some ⟨wr.heap.size, 0, none⟩) 0 0) 0 (hdC []) := (HRow.empty wr).kp ((Kp.alloc _ _).trans (Kp.drew _) (by simp)) (by simp)
        have oE3 : ((wr.alloc (.cells #[.string m.k, .slice m.a m.s.length m.c] 28)).alloc (.cells #[] 28)).drew.ownsRow 0 28 2 (.slice (some ⟨wr.heap.size + 1, 0, none⟩) 0 0) 0 (hdC []) := by
          have h := HRow.empty (wr.alloc (.cells #[.string m.k, .slice m.a m.s.length m.c] 28))
          rw [show (wr.alloc (.cells #[.string m.k, .slice m.a m.s.length m.c] 28)).heap.size = wr.heap.size + 1 by simp] at h
          exact h
        have mE2 : CBox (wr.heap.size + 1) #[.string m.k, .slice m.a m.s.length m.c] 28 ((wr.alloc (.cells #[] 28)).alloc (.cells #[.string m.k, .slice m.a m.s.length m.c] 28)).drew := by
          have h := CBox.new (wr.alloc (.cells #[] 28)) #[.string m.k, .slice m.a m.s.length m.c] 28
          rw [show (wr.alloc (.cells #[] 28)).heap.size = wr.heap.size + 1 by simp] at h
          exact h
        have mE3 : CBox wr.heap.size #[.string m.k, .slice m.a m.s.length m.c] 28 ((wr.alloc (.cells #[.string m.k, .slice m.a m.s.length m.c] 28)).alloc (.cells #[] 28)).drew := (CBox.new wr _ _).kp ((Kp.alloc _ _).trans (Kp.drew _) (by simp)) (by simp)
        have x0 : wr.drew.cell? ⟨w.heap.size, 0, none⟩ = some (.string m.k) ∧ wr.drew.cell? ⟨w.heap.size, 1, none⟩ = some (.slice m.a m.s.length m.c) := ⟨bx.cell rfl, bx.cell rfl⟩
        have bx1 := bx.kp kE1 (by simp)
        have x1 : (wr.alloc (.cells #[] 28)).drew.cell? ⟨w.heap.size, 0, none⟩ = some (.string m.k) ∧ (wr.alloc (.cells #[] 28)).drew.cell? ⟨w.heap.size, 1, none⟩ = some (.slice m.a m.s.length m.c) := ⟨bx1.cell rfl, bx1.cell rfl⟩
        have BX := hide bx
        have HT1 : Hid ((hdC []).length = 0 * 2) := hide rfl
        have HT2 : Hid ((hdC []).length = (0 - 0) * 2) := hide rfl
        have HFIN : Hid (∀ w7 g7 cap7, w7.ownsRow 0 28 2 (.slice (some ⟨g7, 0, none⟩) (0 + 1) cap7) (0 + 1) (hdC [] ++ hdC [] ++ [.string m.k, .slice m.a m.s.length m.c] ++ hdC []) → HRow w7 (.slice (some ⟨g7, 0, none⟩) (0 + 1) cap7) (insH m [])) := hide (fun w7 g7 cap7 h => put_fin (l := []) (k := 0) (unhide HKE) h)
        have KX := hide kx
        have HSZ := hide hsz
        obtain ⟨i0, hi0, hz0, hz1, hz2⟩ := info_parts info_match
        clear bx bx1 kx hsz
        go_wp2_with fail
        go_region_law
          (first
            | (refine step_app_any rfl (.tmp 32) (.tmp 35) 22 rfl 28 i0 (.agg #[.string ⟨#[]⟩, .slice none 0 0]) 2 40 Try.underlying22 hi0 hz0 hz1 hz2 rfl (by decide) rfl own6 _ _ _ (hdC []) rfl (unhide HT2) (fun _ => ⟨rfl, rfl⟩) (fun a ha => by cases ha) (fun a ha => by cases ha) (hdC_one _) (by unfold maxLen; omega) (by omega) (0 + 1) (by omega) ?_; intro g7 cap7 w7 own7 gr7 at7; have k7 := kp_gr k6 gr7 hg6; have HG7 : Hid (w.heap.size ≤ g7) := hide (by have := unhide HSZ; have := k6.size; rcases at7 with rfl | rfl <;> omega); have OWN7 := hide own7; have K7 := hide k7; clear own7 gr7 at7 k7)
            | (refine step_app_any rfl (.tmp 29) (.tmp 31) 22 rfl 28 i0 (.agg #[.string ⟨#[]⟩, .slice none 0 0]) 2 40 Try.underlying22 hi0 hz0 hz1 hz2 rfl (by decide) rfl (by first | with_reducible exact own5 | with_reducible exact own5.alloc _) _ _ _ [.string m.k, .slice m.a m.s.length m.c] rfl rfl (fun h => by cases h) (fun a ha => by injection ha with ha; subst ha; rfl) (by first | exact mt_box m5 | exact mt_new w5 _ rfl _ _ _) (by intro u hu; simp at hu; rcases hu with rfl | rfl <;> rfl) (by unfold maxLen; omega) (by omega) (0 + 1) rfl ?_; intro g6 cap6 w6 own6 gr6 at6; have k6 : Kp [] wr w6 := kp_gr (by first | exact k5 | exact k5.trans (Kp.alloc _ _) (by simp)) gr6 hg5; have hg6 : wr.heap.size ≤ g6 := (by have := k5.size; rcases at6 with rfl | rfl <;> (try simp) <;> omega); clear gr6 at6)
            | (refine step_app_any rfl (.tmp 25) (.tmp 28) 22 rfl 28 i0 (.agg #[.string ⟨#[]⟩, .slice none 0 0]) 2 40 Try.underlying22 hi0 hz0 hz1 hz2 rfl (by decide) rfl (by first | with_reducible exact oE1 | with_reducible exact oE2 | with_reducible exact oE3) _ _ _ (hdC []) rfl (unhide HT1) (fun _ => ⟨rfl, rfl⟩) (fun a ha => by cases ha) (fun a ha => by cases ha) (hdC_one _) (by unfold maxLen; omega) (by omega) 0 (Nat.zero_add _) ?_; intro g5 cap5 w5 own5 gr5 at5; have k5 : Kp [] wr w5 := kp_gr (by first | with_reducible exact kE1 | with_reducible exact kE2 | with_reducible exact kE3) gr5 (by omega); have hg5 : wr.heap.size ≤ g5 := (by rcases at5 with rfl | rfl <;> (try simp) <;> omega); have bx5 := (unhide BX).kp k5 (by simp); have x5 : w5.cell? ⟨w.heap.size, 0, none⟩ = some (.string m.k) ∧ w5.cell? ⟨w.heap.size, 1, none⟩ = some (.slice m.a m.s.length m.c) := ⟨bx5.cell rfl, bx5.cell rfl⟩; first | (have m5 := mE2.gr gr5 (by omega)) | (have m5 := mE3.gr gr5 (by omega)) | skip; clear gr5 at5 bx5))
        all_goals
          go_wp2
          go_ret
          exact ⟨g7, cap7, rfl, unhide HFIN _ _ _ (unhide OWN7), unhide HG7, (unhide KX).trans (unhide K7) (by simp)⟩
      · obtain ⟨g, cp', e, hg, hcl, _, _⟩ := (unhide HV).at (List.length_pos_iff.2 hl0)
        simp only [Value.slice.injEq, true_and] at e
        obtain ⟨rfl, rfl⟩ := e
        have K2 := hide kp
        by_cases hck : k = cp
        · subst hck
          have HD : Hid (hdC (l.drop k) = []) := hide (by rw [List.drop_of_length_le (by omega)]; rfl)
          go_wp2
          clear hli hlt hkl2
          have kx : Kp [] w wr := (unhide HK0).trans (unhide K2) (by simp)
          have hvx : HRow wr (.slice (some ⟨g, 0, none⟩) l.length k) l := (unhide HV).kp kx (by simp)
          obtain ⟨_, hcap, hcm, _⟩ := hvx.lt
          have bx : CBox w.heap.size #[.string m.k, .slice m.a m.s.length m.c] 28 wr := (unhide HBX).kp (unhide K2) (by simp)
          have SRC := hide (fun W hk => hvx.src k W hk)
          have hsz : w.heap.size < wr.heap.size := (Array.getElem?_eq_some_iff.1 bx).1
          have kE1 : Kp [] wr (wr.alloc (.cells #[] 28)).drew := (Kp.alloc _ _).trans (Kp.drew _) (by simp)
          have kE2 : Kp [] wr ((wr.alloc (.cells #[] 28)).alloc (.cells #[.string m.k, .slice m.a m.s.length m.c] 28)).drew := ((Kp.alloc _ _).trans (Kp.alloc _ _) (by simp)).trans (Kp.drew _) (by simp)
          have kE3 : Kp [] wr ((wr.alloc (.cells #[.string m.k, .slice m.a m.s.length m.c] 28)).alloc (.cells #[] 28)).drew := ((Kp.alloc _ _).trans (Kp.alloc _ _) (by simp)).trans (Kp.drew _) (by simp)
          have oE1 : (wr.alloc (.cells #[] 28)).drew.ownsRow 0 28 2 (.slice (some ⟨wr.heap.size, 0, none⟩) 0 0) 0 (hdC []) := HRow.empty wr
          have oE2 : ((wr.alloc (.cells #[] 28)).alloc (.cells #[.string m.k, .slice m.a m.s.length m.c] 28)).drew.ownsRow 0 28 2 (.slice (some ⟨wr.heap.size, 0, none⟩) 0 0) 0 (hdC []) := (HRow.empty wr).kp ((Kp.alloc _ _).trans (Kp.drew _) (by simp)) (by simp)
          have oE3 : ((wr.alloc (.cells #[.string m.k, .slice m.a m.s.length m.c] 28)).alloc (.cells #[] 28)).drew.ownsRow 0 28 2 (.slice (some ⟨wr.heap.size + 1, 0, none⟩) 0 0) 0 (hdC []) := by
            have h := HRow.empty (wr.alloc (.cells #[.string m.k, .slice m.a m.s.length m.c] 28))
            rw [show (wr.alloc (.cells #[.string m.k, .slice m.a m.s.length m.c] 28)).heap.size = wr.heap.size + 1 by simp] at h
            exact h
          have mE2 : CBox (wr.heap.size + 1) #[.string m.k, .slice m.a m.s.length m.c] 28 ((wr.alloc (.cells #[] 28)).alloc (.cells #[.string m.k, .slice m.a m.s.length m.c] 28)).drew := by
            have h := CBox.new (wr.alloc (.cells #[] 28)) #[.string m.k, .slice m.a m.s.length m.c] 28
            rw [show (wr.alloc (.cells #[] 28)).heap.size = wr.heap.size + 1 by simp] at h
            exact h
          have mE3 : CBox wr.heap.size #[.string m.k, .slice m.a m.s.length m.c] 28 ((wr.alloc (.cells #[.string m.k, .slice m.a m.s.length m.c] 28)).alloc (.cells #[] 28)).drew := (CBox.new wr _ _).kp ((Kp.alloc _ _).trans (Kp.drew _) (by simp)) (by simp)
          have x0 : wr.drew.cell? ⟨w.heap.size, 0, none⟩ = some (.string m.k) ∧ wr.drew.cell? ⟨w.heap.size, 1, none⟩ = some (.slice m.a m.s.length m.c) := ⟨bx.cell rfl, bx.cell rfl⟩
          have bx1 := bx.kp kE1 (by simp)
          have x1 : (wr.alloc (.cells #[] 28)).drew.cell? ⟨w.heap.size, 0, none⟩ = some (.string m.k) ∧ (wr.alloc (.cells #[] 28)).drew.cell? ⟨w.heap.size, 1, none⟩ = some (.slice m.a m.s.length m.c) := ⟨bx1.cell rfl, bx1.cell rfl⟩
          have BX := hide bx
          have HT1 : Hid ((hdC (l.take k)).length = k * 2) := hide (by rw [hdC_length, List.length_take]; congr 1; omega)
          have HT2 : Hid ((hdC (l.drop k)).length = (l.length - k) * 2) := hide (by rw [hdC_length, List.length_drop])
          have HFIN : Hid (∀ w7 g7 cap7, w7.ownsRow 0 28 2 (.slice (some ⟨g7, 0, none⟩) (l.length + 1) cap7) (l.length + 1) (hdC [] ++ hdC (l.take k) ++ [.string m.k, .slice m.a m.s.length m.c] ++ hdC (l.drop k)) → HRow w7 (.slice (some ⟨g7, 0, none⟩) (l.length + 1) cap7) (insH m l)) := hide (fun w7 g7 cap7 h => put_fin (unhide HKE) h)
          have hki : (k : Int) ≤ (l.length : Int) := by omega
          have hkc : (k : Int) ≤ (k : Int) := by omega
          clear hcap hcl
          have KX := hide kx
          have HSZ := hide hsz
          have HCM := hide hcm
          obtain ⟨i0, hi0, hz0, hz1, hz2⟩ := info_parts info_match
          clear bx bx1 hvx kx hsz hcm
          go_wp2_with fail
          go_region_law
            (first
              | (refine step_app_any rfl (.tmp 32) (.tmp 35) 22 rfl 28 i0 (.agg #[.string ⟨#[]⟩, .slice none 0 0]) 2 40 Try.underlying22 hi0 hz0 hz1 hz2 rfl (by decide) rfl own6 _ _ _ (hdC (l.drop k)) rfl (unhide HT2) (fun h => by cases h) (fun a ha => by injection ha with ha; subst ha; rfl) (by first | exact (unhide SRC _ k6).2 | exact fun a ha j u hu => absurd hu (by rw [unhide HD]; simp)) (hdC_one _) (by unfold maxLen; omega) (by omega) (l.length + 1) (by omega) ?_; intro g7 cap7 w7 own7 gr7 at7; have k7 := kp_gr k6 gr7 hg6; have HG7 : Hid (w.heap.size ≤ g7) := hide (by have := unhide HSZ; have := k6.size; rcases at7 with rfl | rfl <;> omega); have OWN7 := hide own7; have K7 := hide k7; clear own7 gr7 at7 k7)
              | (refine step_app_any rfl (.tmp 29) (.tmp 31) 22 rfl 28 i0 (.agg #[.string ⟨#[]⟩, .slice none 0 0]) 2 40 Try.underlying22 hi0 hz0 hz1 hz2 rfl (by decide) rfl (by first | with_reducible exact own5 | with_reducible exact own5.alloc _) _ _ _ [.string m.k, .slice m.a m.s.length m.c] rfl rfl (fun h => by cases h) (fun a ha => by injection ha with ha; subst ha; rfl) (by first | exact mt_box m5 | exact mt_new w5 _ rfl _ _ _) (by intro u hu; simp at hu; rcases hu with rfl | rfl <;> rfl) (by unfold maxLen; omega) (by omega) (k + 1) rfl ?_; intro g6 cap6 w6 own6 gr6 at6; have k6 : Kp [] wr w6 := kp_gr (by first | exact k5 | exact k5.trans (Kp.alloc _ _) (by simp)) gr6 hg5; have hg6 : wr.heap.size ≤ g6 := (by have := k5.size; rcases at6 with rfl | rfl <;> (try simp) <;> omega); clear gr6 at6)
              | (refine step_app_any rfl (.tmp 25) (.tmp 28) 22 rfl 28 i0 (.agg #[.string ⟨#[]⟩, .slice none 0 0]) 2 40 Try.underlying22 hi0 hz0 hz1 hz2 rfl (by decide) rfl (by first | with_reducible exact oE1 | with_reducible exact oE2 | with_reducible exact oE3) _ _ _ (hdC (l.take k)) rfl (unhide HT1) (fun h => by cases h) (fun a ha => by injection ha with ha; subst ha; rfl) (unhide SRC _ (by first | with_reducible exact kE1 | with_reducible exact kE2 | with_reducible exact kE3)).1 (hdC_one _) (by unfold maxLen; omega) (by omega) k (Nat.zero_add _) ?_; intro g5 cap5 w5 own5 gr5 at5; have k5 : Kp [] wr w5 := kp_gr (by first | with_reducible exact kE1 | with_reducible exact kE2 | with_reducible exact kE3) gr5 (by omega); have hg5 : wr.heap.size ≤ g5 := (by rcases at5 with rfl | rfl <;> (try simp) <;> omega); have bx5 := (unhide BX).kp k5 (by simp); have x5 : w5.cell? ⟨w.heap.size, 0, none⟩ = some (.string m.k) ∧ w5.cell? ⟨w.heap.size, 1, none⟩ = some (.slice m.a m.s.length m.c) := ⟨bx5.cell rfl, bx5.cell rfl⟩; first | (have m5 := mE2.gr gr5 (by omega)) | (have m5 := mE3.gr gr5 (by omega)) | skip; clear gr5 at5 bx5))
          all_goals
            go_wp2
            go_ret
            exact ⟨g7, cap7, rfl, unhide HFIN _ _ _ (unhide OWN7), unhide HG7, (unhide KX).trans (unhide K7) (by simp)⟩
        · have hck2 : ¬ cp = k := fun h => hck h.symm
          go_wp2
          clear hli hlt hkl2
          have kx : Kp [] w wr := (unhide HK0).trans (unhide K2) (by simp)
          have hvx : HRow wr (.slice (some ⟨g, 0, none⟩) l.length cp) l := (unhide HV).kp kx (by simp)
          obtain ⟨_, hcap, hcm, _⟩ := hvx.lt
          have bx : CBox w.heap.size #[.string m.k, .slice m.a m.s.length m.c] 28 wr := (unhide HBX).kp (unhide K2) (by simp)
          have SRC := hide (fun W hk => hvx.src k W hk)
          have hsz : w.heap.size < wr.heap.size := (Array.getElem?_eq_some_iff.1 bx).1
          have kE1 : Kp [] wr (wr.alloc (.cells #[] 28)).drew := (Kp.alloc _ _).trans (Kp.drew _) (by simp)
          have kE2 : Kp [] wr ((wr.alloc (.cells #[] 28)).alloc (.cells #[.string m.k, .slice m.a m.s.length m.c] 28)).drew := ((Kp.alloc _ _).trans (Kp.alloc _ _) (by simp)).trans (Kp.drew _) (by simp)
          have kE3 : Kp [] wr ((wr.alloc (.cells #[.string m.k, .slice m.a m.s.length m.c] 28)).alloc (.cells #[] 28)).drew := ((Kp.alloc _ _).trans (Kp.alloc _ _) (by simp)).trans (Kp.drew _) (by simp)
          have oE1 : (wr.alloc (.cells #[] 28)).drew.ownsRow 0 28 2 (.slice (some ⟨wr.heap.size, 0, none⟩) 0 0) 0 (hdC []) := HRow.empty wr
          have oE2 : ((wr.alloc (.cells #[] 28)).alloc (.cells #[.string m.k, .slice m.a m.s.length m.c] 28)).drew.ownsRow 0 28 2 (.slice (some ⟨wr.heap.size, 0, none⟩) 0 0) 0 (hdC []) := (HRow.empty wr).kp ((Kp.alloc _ _).trans (Kp.drew _) (by simp)) (by simp)
          have oE3 : ((wr.alloc (.cells #[.string m.k, .slice m.a m.s.length m.c] 28)).alloc (.cells #[] 28)).drew.ownsRow 0 28 2 (.slice (some ⟨wr.heap.size + 1, 0, none⟩) 0 0) 0 (hdC []) := by
            have h := HRow.empty (wr.alloc (.cells #[.string m.k, .slice m.a m.s.length m.c] 28))
            rw [show (wr.alloc (.cells #[.string m.k, .slice m.a m.s.length m.c] 28)).heap.size = wr.heap.size + 1 by simp] at h
            exact h
          have mE2 : CBox (wr.heap.size + 1) #[.string m.k, .slice m.a m.s.length m.c] 28 ((wr.alloc (.cells #[] 28)).alloc (.cells #[.string m.k, .slice m.a m.s.length m.c] 28)).drew := by
            have h := CBox.new (wr.alloc (.cells #[] 28)) #[.string m.k, .slice m.a m.s.length m.c] 28
            rw [show (wr.alloc (.cells #[] 28)).heap.size = wr.heap.size + 1 by simp] at h
            exact h
          have mE3 : CBox wr.heap.size #[.string m.k, .slice m.a m.s.length m.c] 28 ((wr.alloc (.cells #[.string m.k, .slice m.a m.s.length m.c] 28)).alloc (.cells #[] 28)).drew := (CBox.new wr _ _).kp ((Kp.alloc _ _).trans (Kp.drew _) (by simp)) (by simp)
          have x0 : wr.drew.cell? ⟨w.heap.size, 0, none⟩ = some (.string m.k) ∧ wr.drew.cell? ⟨w.heap.size, 1, none⟩ = some (.slice m.a m.s.length m.c) := ⟨bx.cell rfl, bx.cell rfl⟩
          have bx1 := bx.kp kE1 (by simp)
          have x1 : (wr.alloc (.cells #[] 28)).drew.cell? ⟨w.heap.size, 0, none⟩ = some (.string m.k) ∧ (wr.alloc (.cells #[] 28)).drew.cell? ⟨w.heap.size, 1, none⟩ = some (.slice m.a m.s.length m.c) := ⟨bx1.cell rfl, bx1.cell rfl⟩
          have BX := hide bx
          have HT1 : Hid ((hdC (l.take k)).length = k * 2) := hide (by rw [hdC_length, List.length_take]; congr 1; omega)
          have HT2 : Hid ((hdC (l.drop k)).length = (l.length - k) * 2) := hide (by rw [hdC_length, List.length_drop])
          have HFIN : Hid (∀ w7 g7 cap7, w7.ownsRow 0 28 2 (.slice (some ⟨g7, 0, none⟩) (l.length + 1) cap7) (l.length + 1) (hdC [] ++ hdC (l.take k) ++ [.string m.k, .slice m.a m.s.length m.c] ++ hdC (l.drop k)) → HRow w7 (.slice (some ⟨g7, 0, none⟩) (l.length + 1) cap7) (insH m l)) := hide (fun w7 g7 cap7 h => put_fin (unhide HKE) h)
          have hki : (k : Int) ≤ (l.length : Int) := by omega
          have hkc : (k : Int) ≤ (cp : Int) := by omega
          have hlc : (l.length : Int) ≤ (cp : Int) := by omega
          have KX := hide kx
          have HSZ := hide hsz
          have HCM := hide hcm
          obtain ⟨i0, hi0, hz0, hz1, hz2⟩ := info_parts info_match
          clear bx bx1 hvx kx hsz hcm
          go_wp2_with fail
          go_region_law
            (first
              | (refine step_app_any rfl (.tmp 32) (.tmp 35) 22 rfl 28 i0 (.agg #[.string ⟨#[]⟩, .slice none 0 0]) 2 40 Try.underlying22 hi0 hz0 hz1 hz2 rfl (by decide) rfl own6 _ _ _ (hdC (l.drop k)) rfl (unhide HT2) (fun h => by cases h) (fun a ha => by injection ha with ha; subst ha; rfl) (by first | exact (unhide SRC _ k6).2 | exact fun a ha j u hu => absurd hu (by rw [unhide HD]; simp)) (hdC_one _) (by unfold maxLen; omega) (by omega) (l.length + 1) (by omega) ?_; intro g7 cap7 w7 own7 gr7 at7; have k7 := kp_gr k6 gr7 hg6; have HG7 : Hid (w.heap.size ≤ g7) := hide (by have := unhide HSZ; have := k6.size; rcases at7 with rfl | rfl <;> omega); have OWN7 := hide own7; have K7 := hide k7; clear own7 gr7 at7 k7)
              | (refine step_app_any rfl (.tmp 29) (.tmp 31) 22 rfl 28 i0 (.agg #[.string ⟨#[]⟩, .slice none 0 0]) 2 40 Try.underlying22 hi0 hz0 hz1 hz2 rfl (by decide) rfl (by first | with_reducible exact own5 | with_reducible exact own5.alloc _) _ _ _ [.string m.k, .slice m.a m.s.length m.c] rfl rfl (fun h => by cases h) (fun a ha => by injection ha with ha; subst ha; rfl) (by first | exact mt_box m5 | exact mt_new w5 _ rfl _ _ _) (by intro u hu; simp at hu; rcases hu with rfl | rfl <;> rfl) (by unfold maxLen; omega) (by omega) (k + 1) rfl ?_; intro g6 cap6 w6 own6 gr6 at6; have k6 : Kp [] wr w6 := kp_gr (by first | exact k5 | exact k5.trans (Kp.alloc _ _) (by simp)) gr6 hg5; have hg6 : wr.heap.size ≤ g6 := (by have := k5.size; rcases at6 with rfl | rfl <;> (try simp) <;> omega); clear gr6 at6)
              | (refine step_app_any rfl (.tmp 25) (.tmp 28) 22 rfl 28 i0 (.agg #[.string ⟨#[]⟩, .slice none 0 0]) 2 40 Try.underlying22 hi0 hz0 hz1 hz2 rfl (by decide) rfl (by first | with_reducible exact oE1 | with_reducible exact oE2 | with_reducible exact oE3) _ _ _ (hdC (l.take k)) rfl (unhide HT1) (fun h => by cases h) (fun a ha => by injection ha with ha; subst ha; rfl) (unhide SRC _ (by first | with_reducible exact kE1 | with_reducible exact kE2 | with_reducible exact kE3)).1 (hdC_one _) (by unfold maxLen; omega) (by omega) k (Nat.zero_add _) ?_; intro g5 cap5 w5 own5 gr5 at5; have k5 : Kp [] wr w5 := kp_gr (by first | with_reducible exact kE1 | with_reducible exact kE2 | with_reducible exact kE3) gr5 (by omega); have hg5 : wr.heap.size ≤ g5 := (by rcases at5 with rfl | rfl <;> (try simp) <;> omega); have bx5 := (unhide BX).kp k5 (by simp); have x5 : w5.cell? ⟨w.heap.size, 0, none⟩ = some (.string m.k) ∧ w5.cell? ⟨w.heap.size, 1, none⟩ = some (.slice m.a m.s.length m.c) := ⟨bx5.cell rfl, bx5.cell rfl⟩; first | (have m5 := mE2.gr gr5 (by omega)) | (have m5 := mE3.gr gr5 (by omega)) | skip; clear gr5 at5 bx5))
          all_goals
            go_wp2
            go_ret
            exact ⟨g7, cap7, rfl, unhide HFIN _ _ _ (unhide OWN7), unhide HG7, (unhide KX).trans (unhide K7) (by simp)⟩
end Go.Proofs.Ytnikkjbjidhhlaa
