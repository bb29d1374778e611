/-
  itemsOf and eventOf: what bytes are as items, and what items are as an event.
-/
import Derived.Test.YtpfcoaimciojjaaG14
import Derived.Test.YtpfcoaimciojjaaG16
namespace Go.Proofs.Ytpfcoaimciojjaa
open Go.RowKit

theorem decF_at (f : Nat) (b : List UInt8) (at_ : Nat) (acc : List It) : (decF f b at_ acc).2.2 = 0 → (decF f b at_ acc).2.1 = 0 := by
  induction f generalizing b at_ acc with
  | zero => intro _; rfl
  | succ f ih =>
    rw [decF]
    split
    · intro _; rfl
    · split
      · intro h; simp at h
      · split
        · intro h; exact absurd h (by assumption)
        · exact ih _ _ _
theorem decS_at (b : List UInt8) (h : (decS b).2.2 = 0) : (decS b).2.1 = 0 := by
  unfold decS at *
  split at h
  · simp at h
  · rename_i hb
    rw [if_neg hb]
    exact decF_at _ _ _ _ h
def itC (b : ByteArray) : Int := if 262144 < b.size then 2 else if (decS b.data.toList).2.2 ≠ 0 then 20 else 0
def itL (b : ByteArray) : List It := if itC b = 0 then (decS b.data.toList).1 else []
set_option maxHeartbeats 1000000 in
set_option maxRecDepth 100000 in
theorem itemsOf_any (b : ByteArray) (w : World) (hb : b.size ≤ 9223372036854775807) :
    Calls Try.prog 26 #[.string b] w fun r w' => ∃ v, r = .returned (.tuple #[v, .int .i64 (itC b)]) ∧ OwnsI w.heap.size w' v (itL b) ∧ Below w.heap.size w w' := by
  by_cases hbig : 262144 < b.size
  · have h1 : itC b = 2 := if_pos hbig
    have h2 : itL b = [] := by unfold itL; rw [h1]; rfl
    rw [h1, h2]
    clear h1 h2
    go_enter Try.func26, Try.ntmps26
    go_wp2
    go_ret2
    exact ⟨_, rfl, OwnsI.nil _ _, Below.refl _ _⟩
  · have h1 : itC b = if (decS b.data.toList).2.2 ≠ 0 then 20 else 0 := if_neg hbig
    have h2 : itL b = if (decS b.data.toList).2.2 ≠ 0 then [] else (decS b.data.toList).1 := by
      unfold itL; rw [h1]; split <;> simp
    rw [h1, h2]
    clear h1 h2
    have d := decode_any b w hb
    have hat := decS_at b.data.toList
    generalize decS b.data.toList = X at *
    obtain ⟨L, p, c⟩ := X
    dsimp only at d hat ⊢
    have D := hide d
    clear d
    by_cases hc : c = 0
    · obtain rfl := hat hc
      subst hc
      rw [if_neg (by simp), if_neg (by simp)]
      clear hat
      go_enter Try.func26, Try.ntmps26
      go_wp2_with fail
      refine (unhide D).mono ?_
      rintro r w1 ⟨v1, rfl, ow, hb1⟩
      go_wp2
      go_ret2
      exact ⟨_, rfl, ow.alloc _, hb1.alloc hb1.size _⟩
    · rw [if_pos hc, if_pos hc]
      have gc : (c == 0) = false := beq_eq_false_iff_ne.2 hc
      clear hat hc
      go_enter Try.func26, Try.ntmps26
      go_wp2_with fail
      refine (unhide D).mono ?_
      rintro r w1 ⟨v1, rfl, ow, hb1⟩
      go_wp2
      go_ret2
      exact ⟨_, rfl, OwnsI.nil _ _, hb1.alloc hb1.size _⟩
def Ev.zero : Ev := ⟨⟨#[]⟩, ⟨#[]⟩, 0, 0, 0, 0, ⟨#[]⟩⟩
/-- Of which kind the items of an event are. -/
def kinds : List Bool := [true, true, false, false, false, false, true]
def evOf (l : List It) : Ev := if l.map It.t = kinds then ⟨(l.getD 0 It.zero).s, (l.getD 1 It.zero).s, (l.getD 2 It.zero).n, (l.getD 3 It.zero).n, (l.getD 4 It.zero).n, (l.getD 5 It.zero).n, (l.getD 6 It.zero).s⟩ else Ev.zero
theorem kind_of (i : Nat) (h : i < 7) : kinds[i]'h = decide ((i : Int) < 2 ∨ (i : Int) = 6) := by
  rcases (by omega : i = 0 ∨ i = 1 ∨ i = 2 ∨ i = 3 ∨ i = 4 ∨ i = 5 ∨ i = 6) with rfl | rfl | rfl | rfl | rfl | rfl | rfl <;> rfl
theorem EBox.set {g : Nat} {e : Ev} {w : World} (h : EBox g e w) (j : Nat) (y : Int) (hj : j < 4) : EBox g (if j = 0 then { e with n0 := y } else if j = 1 then { e with n1 := y } else if j = 2 then { e with n2 := y } else { e with n3 := y }) (w.setCell ⟨g, 2 + j, none⟩ (.int .i64 y)) := by
  have hl := h.lt
  unfold EBox at *
  rcases (by omega : j = 0 ∨ j = 1 ∨ j = 2 ∨ j = 3) with rfl | rfl | rfl | rfl
  all_goals
    unfold World.setCell
    simp [h, Ev.c, Array.getElem?_modify]
theorem EBox.froz {g : Nat} {e : Ev} {w : World} (h : EBox g e w) : w.frozen? ⟨g, 0, none⟩ = false ∧ w.frozen? ⟨g, 1, none⟩ = false ∧ w.frozen? ⟨g, 2, none⟩ = false ∧ w.frozen? ⟨g, 3, none⟩ = false ∧ w.frozen? ⟨g, 4, none⟩ = false ∧ w.frozen? ⟨g, 5, none⟩ = false ∧ w.frozen? ⟨g, 6, none⟩ = false := by
  unfold EBox at h
  simp [World.frozen?, h]
theorem EncS.setCell {w : World} {e : Ev} {W : World} (h : EncS w e W) {g i : Nat} (hg : w.heap.size < g) (v : Value) : EncS w e (W.setCell ⟨g, i, none⟩ v) :=
  ⟨h.bel.setCell (Nat.le_of_lt hg) _, by unfold EBox; rw [Below.heap_setCell _ _ _ _ (by dsimp only; omega)]; exact h.bx⟩
/-- A whole event stored. -/
def put7 (g : Nat) (e : Ev) (w : World) : World := ((((((w.setCell ⟨g, 0, none⟩ (.string e.k)).setCell ⟨g, 1, none⟩ (.string e.t)).setCell ⟨g, 2, none⟩ (.int .i64 e.n0)).setCell ⟨g, 3, none⟩ (.int .i64 e.n1)).setCell ⟨g, 4, none⟩ (.int .i64 e.n2)).setCell ⟨g, 5, none⟩ (.int .i64 e.n3)).setCell ⟨g, 6, none⟩ (.string e.x)
theorem put7_below {B g : Nat} {a w : World} (h : Below B a w) (hg : B ≤ g) (e : Ev) : Below B a (put7 g e w) :=
  ((((((h.setCell hg _).setCell hg _).setCell hg _).setCell hg _).setCell hg _).setCell hg _).setCell hg _
theorem put7_box {g : Nat} {e' : Ev} {w : World} (h : EBox g e' w) (e : Ev) : EBox g e (put7 g e w) := by
  have hl := h.lt
  unfold EBox at *
  unfold put7 World.setCell
  simp [h, Ev.c, Array.getElem?_modify]
set_option maxHeartbeats 4000000 in
set_option maxRecDepth 100000 in
theorem eventOf_any (ad : Option Addr) (cap : Nat) (l : List It) (w : World) (_hl : l.length ≤ 9223372036854775807) (hA : ItemsAt w ad l) :
    Calls Try.prog 27 #[.slice ad l.length cap] w fun r w' => r = .returned (.agg (evOf l).c) ∧ Below w.heap.size w w' := by
  by_cases h7 : l.length = 7
  · have s0 : EncS w Ev.zero (w.alloc (.cells Ev.zero.c 24)) := ⟨(Below.refl _ _).alloc (Nat.le_refl _) _, heap_alloc_new w _⟩
    rw [h7]
    generalize hV : evOf l = V
    have HV := hide hV
    have HA := hide hA
    have H7 := hide h7
    clear hA h7 hV
    unfold Ev.zero Ev.c at s0
    go_enter Try.func27, Try.ntmps27
    go_wp2_with fail
    generalize w.alloc (.cells #[.string ⟨#[]⟩, .string ⟨#[]⟩, .int .i64 0, .int .i64 0, .int .i64 0, .int .i64 0, .string ⟨#[]⟩] 24) = W0 at *
    go_loopw [14] (fun i wr => ∃ j : Nat, j ≤ 7 ∧ i = .int .i64 (j : Int) ∧ EncS w ⟨⟨#[]⟩, ⟨#[]⟩, 0, 0, 0, 0, ⟨#[]⟩⟩ wr ∧ Hid (∀ m (h : m < l.length) (h' : m < 7), m < j → l[m].t = kinds[m]'h')) (fun i _ => 7 - (intOf i).toNat)
    case atStart => exact ⟨0, by omega, rfl, s0, hide (fun m _ _ h => absurd h (by omega))⟩
    case round =>
      clear s0
      obtain ⟨j, hj, rfl, s4, HK⟩ := hrel
      by_cases hlt : j < 7
      · have hlt' : j < l.length := by have := unhide H7; omega
        obtain ⟨b, off, rfl, hbw, hc⟩ := (unhide HA).below s4.bel (Nat.le_refl _) (fun e => by rw [e] at hlt'; simp at hlt')
        obtain ⟨c0, c1, c2⟩ := hc j hlt'
        have hcont : l[j].t = kinds[j]'hlt → Hid (∀ m (h : m < l.length) (h' : m < 7), m < j + 1 → l[m].t = kinds[m]'h') := fun e => hide (fun m h h' hm => by
          rcases Nat.lt_or_ge m j with g | g
          · exact unhide HK m h h' g
          · obtain rfl : m = j := by omega
            exact e)
        have hfail : l[j].t ≠ kinds[j]'hlt → evOf l = Ev.zero := fun hne => if_neg (fun h => hne (by
          have e1 : (l.map It.t)[j]? = kinds[j]? := by rw [h]
          rw [List.getElem?_map, List.getElem?_eq_getElem hlt', List.getElem?_eq_getElem hlt] at e1
          simpa using e1))
        rw [kind_of j hlt] at hcont hfail
        have HC := hide hcont
        have HF := hide hfail
        clear hc HK hcont hfail
        generalize l[j] = y at *
        obtain ⟨yt, yn, ys⟩ := y
        dsimp only at c0 c1 c2 HC HF
        have hz4 := s4.bel.size
        rcases (by omega : (j : Int) < 2 ∨ (¬ (j : Int) < 2 ∧ j = 6) ∨ (¬ (j : Int) < 2 ∧ ¬ j = 6)) with k1 | ⟨k1, rfl⟩ | ⟨k1, k2⟩
        · have hd : decide ((j : Int) < 2 ∨ (j : Int) = 6) = true := decide_eq_true (Or.inl k1)
          cases yt
          · have hz := unhide HF (by rw [hd]; simp)
            rw [unhide HV] at hz
            subst hz
            have s5 := s4.alloc (.cells #[.bool false, .int .i64 yn, .string ys] 47)
            have f5 := s5.bx.cells
            have r5 := s5.bx.froz
            dsimp only at f5
            clear HC HF hd H7 HV
            go_wp2
            exact bodyPost_ret (v := .agg Ev.zero.c) (by simp [results, Try.results27, go_sem, f5, Ev.c, Ev.zero]) rfl ⟨rfl, put7_below s5.bel (Nat.le_refl _) Ev.zero⟩
          · have HN := unhide HC hd.symm
            clear HC HF hd
            go_wp2
            go_roundw
            case rel => exact ⟨j + 1, by omega, by go_num, s4.alloc _, HN⟩
            case measure => simp [intOf]; omega
        · have hd : decide (((6 : Nat) : Int) < 2 ∨ ((6 : Nat) : Int) = 6) = true := rfl
          cases yt
          · have hz := unhide HF (by rw [hd]; simp)
            rw [unhide HV] at hz
            subst hz
            have s5 := s4.alloc (.cells #[.bool false, .int .i64 yn, .string ys] 47)
            have f5 := s5.bx.cells
            have r5 := s5.bx.froz
            dsimp only at f5
            clear HC HF hd H7 HV
            go_wp2
            exact bodyPost_ret (v := .agg Ev.zero.c) (by simp [results, Try.results27, go_sem, f5, Ev.c, Ev.zero]) rfl ⟨rfl, put7_below s5.bel (Nat.le_refl _) Ev.zero⟩
          · have HN := unhide HC hd.symm
            clear HC HF hd
            go_wp2
            go_roundw
            case rel => exact ⟨7, by omega, by go_num, s4.alloc _, HN⟩
            case measure => simp [intOf]
        · have hd : decide ((j : Int) < 2 ∨ (j : Int) = 6) = false := decide_eq_false (by omega)
          have g6 : ((j : Int) == 6) = false := beq_eq_false_iff_ne.2 (by omega)
          cases yt
          · have HN := unhide HC hd.symm
            clear HC HF hd
            go_wp2
            go_roundw
            case rel => exact ⟨j + 1, by omega, by go_num, s4.alloc _, HN⟩
            case measure => simp [intOf]; omega
          · have hz := unhide HF (by rw [hd]; simp)
            rw [unhide HV] at hz
            subst hz
            have s5 := s4.alloc (.cells #[.bool true, .int .i64 yn, .string ys] 47)
            have f5 := s5.bx.cells
            have r5 := s5.bx.froz
            dsimp only at f5
            clear HC HF hd H7 HV
            go_wp2
            exact bodyPost_ret (v := .agg Ev.zero.c) (by simp [results, Try.results27, go_sem, f5, Ev.c, Ev.zero]) rfl ⟨rfl, put7_below s5.bel (Nat.le_refl _) Ev.zero⟩
      · obtain rfl : j = 7 := by omega
        obtain ⟨y0, y1, y2, y3, y4, y5, y6, rfl⟩ : ∃ y0 y1 y2 y3 y4 y5 y6, l = [y0, y1, y2, y3, y4, y5, y6] := by
          have h7 := unhide H7
          match l, h7 with
          | [y0, y1, y2, y3, y4, y5, y6], _ => exact ⟨y0, y1, y2, y3, y4, y5, y6, rfl⟩
        have hV : V = ⟨y0.s, y1.s, y2.n, y3.n, y4.n, y5.n, y6.s⟩ := by
          rw [← unhide HV]
          refine if_pos ?_
          have hk := unhide HK
          have e0 := hk 0 (by simp) (by omega) (by omega)
          have e1 := hk 1 (by simp) (by omega) (by omega)
          have e2 := hk 2 (by simp) (by omega) (by omega)
          have e3 := hk 3 (by simp) (by omega) (by omega)
          have e4 := hk 4 (by simp) (by omega) (by omega)
          have e5 := hk 5 (by simp) (by omega) (by omega)
          have e6 := hk 6 (by simp) (by omega) (by omega)
          simp only [List.getElem_cons_zero, List.getElem_cons_succ, kinds] at e0 e1 e2 e3 e4 e5 e6
          simp only [List.map_cons, List.map_nil, e0, e1, e2, e3, e4, e5, e6, kinds]
        obtain ⟨b, off, rfl, hbw, hc⟩ := (unhide HA) (by simp)
        have hcs : ∀ W, Below w.heap.size w W → W.cell? ⟨b, off + 2, none⟩ = some (.string y0.s) ∧ W.cell? ⟨b, off + 5, none⟩ = some (.string y1.s) ∧ W.cell? ⟨b, off + 7, none⟩ = some (.int .i64 y2.n) ∧ W.cell? ⟨b, off + 10, none⟩ = some (.int .i64 y3.n) ∧ W.cell? ⟨b, off + 13, none⟩ = some (.int .i64 y4.n) ∧ W.cell? ⟨b, off + 16, none⟩ = some (.int .i64 y5.n) ∧ W.cell? ⟨b, off + 20, none⟩ = some (.string y6.s) := fun W hW => by
          have hk := fun o => hW.cell (p := ⟨b, o, none⟩) hbw
          exact ⟨(hk _).trans (hc 0 (by simp)).2.2, (hk _).trans (hc 1 (by simp)).2.2, (hk _).trans (hc 2 (by simp)).2.1, (hk _).trans (hc 3 (by simp)).2.1, (hk _).trans (hc 4 (by simp)).2.1, (hk _).trans (hc 5 (by simp)).2.1, (hk _).trans (hc 6 (by simp)).2.2⟩
        have HCS := hide hcs
        subst hV
        clear HV hc HK HA H7 hcs
        obtain ⟨_, _, k⟩ := y0
        obtain ⟨_, _, t⟩ := y1
        obtain ⟨_, n0, _⟩ := y2
        obtain ⟨_, n1, _⟩ := y3
        obtain ⟨_, n2, _⟩ := y4
        obtain ⟨_, n3, _⟩ := y5
        obtain ⟨_, _, x⟩ := y6
        dsimp only at HCS
        have fc := unhide HCS wr s4.bel
        go_wp2_with fail
        have s5 := s4.drew.alloc (.cells #[.string k, .string t, .int .i64 0, .int .i64 0, .int .i64 0, .int .i64 0, .string x] 24)
        go_region_held3 (fun W => EncS w ⟨⟨#[]⟩, ⟨#[]⟩, 0, 0, 0, 0, ⟨#[]⟩⟩ W ∧ W.cell? ⟨b, off + 2, none⟩ = some (.string k) ∧ W.cell? ⟨b, off + 5, none⟩ = some (.string t) ∧ W.cell? ⟨b, off + 20, none⟩ = some (.string x)) (first | exact ⟨s4.drew, fc.1, fc.2.1, fc.2.2.2.2.2.2⟩ | exact ⟨s4, fc.1, fc.2.1, fc.2.2.2.2.2.2⟩ | exact ⟨s5, (unhide HCS _ s5.bel).1, (unhide HCS _ s5.bel).2.1, (unhide HCS _ s5.bel).2.2.2.2.2.2⟩ | exact ⟨s4.drew.alloc _, (unhide HCS _ (s4.drew.alloc _).bel).1, (unhide HCS _ (s4.drew.alloc _).bel).2.1, (unhide HCS _ (s4.drew.alloc _).bel).2.2.2.2.2.2⟩ | exact ⟨s4.alloc _, (unhide HCS _ (s4.alloc _).bel).1, (unhide HCS _ (s4.alloc _).bel).2.1, (unhide HCS _ (s4.alloc _).bel).2.2.2.2.2.2⟩)
          (fail)
        have s6 := (s4.alloc (.cells #[.string k, .string t, .int .i64 0, .int .i64 0, .int .i64 0, .int .i64 0, .string x] 24)).drew
        have b6 : EBox wr.heap.size ⟨k, t, 0, 0, 0, 0, x⟩ (wr.alloc (.cells #[.string k, .string t, .int .i64 0, .int .i64 0, .int .i64 0, .int .i64 0, .string x] 24)).drew := heap_alloc_new wr _
        have hg6 := s4.bx.lt
        clear s5 fc
        go_wp2_with fail
        generalize (wr.alloc (.cells #[.string k, .string t, .int .i64 0, .int .i64 0, .int .i64 0, .int .i64 0, .string x] 24)).drew = W6 at *
        generalize wr.heap.size = g6 at *
        clear s4
        go_loopw [45] (fun i wr => ∃ j : Nat, j ≤ 4 ∧ i = .int .i64 (j : Int) ∧ EncS w ⟨⟨#[]⟩, ⟨#[]⟩, 0, 0, 0, 0, ⟨#[]⟩⟩ wr ∧ EBox g6 ⟨k, t, if 0 < j then n0 else 0, if 1 < j then n1 else 0, if 2 < j then n2 else 0, if 3 < j then n3 else 0, x⟩ wr) (fun i _ => 4 - (intOf i).toNat)
        case atStart => exact ⟨0, by omega, rfl, s6, b6⟩
        case round =>
          clear s6 b6
          obtain ⟨j, hj, rfl, s6, b6⟩ := hrel
          have fc := unhide HCS _ s6.bel
          have f6 := b6.cells
          have r6 := b6.froz
          rcases (by omega : j = 0 ∨ j = 1 ∨ j = 2 ∨ j = 3 ∨ j = 4) with rfl | rfl | rfl | rfl | rfl
          · have b7 := b6.set 0 n0 (by omega)
            have s7 := s6.setCell (i := 2) hg6 (.int .i64 n0)
            simp at f6 b7
            go_wp2
            go_roundw
            case rel => exact ⟨1, by omega, by go_num, s7, by simpa using b7⟩
            case measure => simp [intOf]
          · have b7 := b6.set 1 n1 (by omega)
            have s7 := s6.setCell (i := 3) hg6 (.int .i64 n1)
            simp at f6 b7
            go_wp2
            go_roundw
            case rel => exact ⟨2, by omega, by go_num, s7, by simpa using b7⟩
            case measure => simp [intOf]
          · have b7 := b6.set 2 n2 (by omega)
            have s7 := s6.setCell (i := 4) hg6 (.int .i64 n2)
            simp at f6 b7
            go_wp2
            go_roundw
            case rel => exact ⟨3, by omega, by go_num, s7, by simpa using b7⟩
            case measure => simp [intOf]
          · have b7 := b6.set 3 n3 (by omega)
            have s7 := s6.setCell (i := 5) hg6 (.int .i64 n3)
            simp at f6 b7
            go_wp2
            go_roundw
            case rel => exact ⟨4, by omega, by go_num, s7, by simpa using b7⟩
            case measure => simp [intOf]
          · have f0 := s6.bx.cells
            have r0 := s6.bx.froz
            have hb7 := put7_below s6.bel (Nat.le_refl _) ⟨k, t, n0, n1, n2, n3, x⟩
            simp at f6
            dsimp only at f0
            clear b6
            go_wp2
            exact bodyPost_ret (v := .agg #[.string k, .string t, .int .i64 n0, .int .i64 n1, .int .i64 n2, .int .i64 n3, .string x]) (by simp [results, Try.results27, go_sem, f0]) rfl ⟨rfl, hb7⟩
  · have hz : evOf l = Ev.zero := if_neg (fun h => h7 (by have := congrArg List.length h; simpa [kinds] using this))
    rw [hz]
    have g : ((l.length : Int) != 7) = true := by rw [bne_iff_ne]; omega
    clear hz h7 hA
    generalize l.length = n at *
    unfold Ev.zero Ev.c
    go_enter Try.func27, Try.ntmps27
    go_wp2
    exact bodyPost_ret (v := .agg #[.string ⟨#[]⟩, .string ⟨#[]⟩, .int .i64 0, .int .i64 0, .int .i64 0, .int .i64 0, .string ⟨#[]⟩]) (by simp [results, Try.results27, go_sem]) rfl ⟨rfl, (Below.refl _ _).alloc (Nat.le_refl _) _⟩
end Go.Proofs.Ytpfcoaimciojjaa
