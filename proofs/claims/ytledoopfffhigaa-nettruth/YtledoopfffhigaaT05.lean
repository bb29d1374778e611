/-
  A net: packets of one sender taken away: the closure, slices.IndexFunc and slices.DeleteFunc at packets, clearOf.
  The library's contracts at this program, laid by the guide's own tools: how many bits a number has, and a copy of a string.
  Rows of bytes of the call's own; such a row as a string; strings.Clone returns the same bytes.
  A net: clearOf; a step of a net; Send.
-/
import Derived.Test.YtledoopfffhigaaT04
import Derived.Shelf.LaysM
import Derived.Shelf.Strconv.Clone
import Derived.Test.YtledoopfffhigaaProg
import Derived.Test.YtledoopfffhigaaChecked
import Derived.Test.YtledoopfffhigaaT01
import Derived.WalkLawsBesides
import Derived.Laws.DeepNot64
import Derived.SliceStrings
namespace Go.Proofs.Ytledoopfffhigaa
open Go.RowKit Nt

/-- Does a packet stay? -/
def stays (x : Int) (p : Pk) : Bool := decide (p.fr ≠ x)
theorem clos_any (bx : Nat) (x : Int) (p : Pk) (w : World) (hc : w.cell? ⟨bx, 0, none⟩ = some (.int .i64 x)) :
    Calls Try.prog 43 #[.agg (pkA p), .pointer (some ⟨bx, 0, none⟩)] w fun e w' => e = .returned (.bool (!stays x p)) ∧ Kp [] w w' := by
  have hlt := World.block_lt_of_cell? w ⟨bx, 0, none⟩ hc
  have HS : Hid (stays x p = true ↔ p.fr ≠ x) := hide (by unfold stays; simp)
  generalize stays x p = B at *
  obtain ⟨fr, b⟩ := p
  unfold pkA
  dsimp only at *
  go_enter Try.func43, Try.ntmps43
  go_wp2
  go_ret
  refine ⟨ret_bool (Bool.eq_iff_iff.2 ?_), Kp.alloc _ _⟩
  have := unhide HS
  cases B
  · simp at this ⊢; exact this
  · simp at this ⊢; exact this
set_option maxHeartbeats 1000000 in
set_option maxRecDepth 100000 in
theorem pidx_any (ad : Option Addr) (cap bx : Nat) (x : Int) (l : List Pk) (w : World) (h : PkRow w (.slice ad l.length cap) l) (hc : w.cell? ⟨bx, 0, none⟩ = some (.int .i64 x)) :
    Calls Try.prog 47 #[.slice ad l.length cap, .func (.func 43) #[] #[.pointer (some ⟨bx, 0, none⟩)]] w fun e w' => ((e = .returned (.int .i64 (-1)) ∧ ∀ p ∈ l, stays x p = true) ∨ ∃ k : Nat, ∃ hk : k < l.length, e = .returned (.int .i64 (k : Int)) ∧ stays x l[k] = false ∧ ∀ p ∈ l.take k, stays x p = true) ∧ Kp [] w w' := by
  have CL := hide (fun (p : Pk) (W : World) (hk : Kp [] w W) => clos_any bx x p W (hk.cell hc (by simp)))
  have HR := hide h
  have hlen : l.length ≤ 9223372036854775807 := by
    rcases h.form with ⟨_, e⟩ | ⟨g, c, e, h1, h2⟩
    · rw [e]; simp
    · omega
  clear h hc
  go_enter Try.func47, Try.ntmps47
  go_wp2_with fail
  go_loopw [8] (fun i wr => ∃ k : Nat, k ≤ l.length ∧ i = .int .i64 (k : Int) ∧ Hid (∀ p ∈ l.take k, stays x p = true) ∧ Hid (Kp [] w wr)) (fun i _ => l.length - (intOf i).toNat)
  case atStart => exact ⟨0, Nat.zero_le _, rfl, hide (fun p hp => by simp at hp), hide (Kp.refl _ _)⟩
  case round =>
    obtain ⟨k, hk, rfl, HA, HK⟩ := hrel
    by_cases hlt : k < l.length
    · have hki : (k : Int) < (l.length : Int) := by omega
      have hr2 := (unhide HR).kp (unhide HK) (by simp)
      obtain ⟨g, rfl⟩ : ∃ g, ad = some ⟨g, 0, none⟩ := by
        rcases hr2.form with ⟨_, e⟩ | ⟨g, c, e, _⟩
        · rw [e] at hlt; cases hlt
        · injection e with e1; exact ⟨g, e1⟩
      obtain ⟨c1, c2⟩ := hr2.cell k hlt
      have C1 := hide (unhide CL l[k] wr (unhide HK))
      have HN : Hid (stays x l[k] = true → ∀ p ∈ l.take (k + 1), stays x p = true) := hide (fun hs p hp => by
        rw [List.take_succ_eq_append_getElem hlt] at hp
        rcases List.mem_append.1 hp with hp | hp
        · exact unhide HA p hp
        · rw [List.mem_singleton] at hp
          subst hp
          exact hs)
      have HL : Hid (stays x l[k] = false → ∃ k' : Nat, ∃ hk' : k' < l.length, (k : Int) = (k' : Int) ∧ stays x l[k'] = false ∧ ∀ p ∈ l.take k', stays x p = true) := hide (fun hs => ⟨k, hlt, rfl, hs, unhide HA⟩)
      clear hr2 CL
      generalize l[k] = p at *
      obtain ⟨fr, b⟩ := p
      unfold pkA at C1
      dsimp only at *
      generalize stays x ⟨fr, b⟩ = B at *
      go_wp2_with fail
      refine (unhide C1).mono ?_
      rintro r w3 ⟨rfl, hk3⟩
      have HK3 := hide (kp_tr (unhide HK) hk3)
      clear C1 hk3
      cases B with
      | true =>
        have HN2 := hide (unhide HN rfl)
        clear HN HL
        go_wp2
        go_roundw
        case rel => exact ⟨k + 1, by omega, by go_num, HN2, HK3⟩
        case measure => simp [intOf]; omega
      | false =>
        have HL2 := hide (unhide HL rfl)
        clear HN HL
        go_wp2
        go_ret
        obtain ⟨k', hk', e, r1, r2⟩ := unhide HL2
        exact ⟨Or.inr ⟨k', hk', by rw [← e]; rfl, r1, r2⟩, unhide HK3⟩
    · have hke : k = l.length := by omega
      have HA2 : Hid (∀ p ∈ l, stays x p = true) := hide (by have := unhide HA; rw [hke, List.take_length] at this; exact this)
      have hki : ¬ (k : Int) < (l.length : Int) := by omega
      clear HA CL HR hke
      go_wp2
      go_ret
      exact ⟨Or.inl ⟨rfl, unhide HA2⟩, unhide HK⟩
/-- An element of a row written over. -/
theorem PkRow.set {w : World} {g cap : Nat} {L : List Pk} (h : PkRow w (.slice (some ⟨g, 0, none⟩) L.length cap) L) (i : Nat) (hi : i < L.length) (p : Pk) :
    PkRow ((w.setCell ⟨g, i * 2, none⟩ (.int .i64 p.fr)).setCell ⟨g, i * 2 + 1, none⟩ (.string p.b)) (.slice (some ⟨g, 0, none⟩) L.length cap) (L.set i p) := by
  obtain ⟨_, hl, hm, rest, hr, hb⟩ := h.box
  have h1 := (hb.set (i * 2) (.int .i64 p.fr)).set (i * 2 + 1) (.string p.b)
  have hlen := pkC_len L
  rw [show ((pkC L ++ rest).toArray.setIfInBounds (i * 2) (.int .i64 p.fr)).setIfInBounds (i * 2 + 1) (.string p.b) = (pkC (L.set i p) ++ rest).toArray by
    rw [pkC_set L i p hi, List.setIfInBounds_toArray, List.setIfInBounds_toArray, List.set_append_left _ _ (by omega), List.set_append_left _ _ (by rw [List.length_set]; omega)]] at h1
  have := PkRow.ofBox (l := L.set i p) (cap := cap) h1 (by rw [List.length_set]; exact hl) hm (by rw [List.length_set]; exact hr)
  rwa [List.length_set] at this
/-- The state of a row of which some are being taken away. -/
structure Dl (w : World) (g cap : Nat) (x : Int) (l : List Pk) (i j : Nat) (L : List Pk) (wr : World) : Prop where
  row : PkRow wr (.slice (some ⟨g, 0, none⟩) l.length cap) L
  len : L.length = l.length
  tk : L.take i = (l.take j).filter (stays x)
  dr : L.drop j = l.drop j
  kp : Kp [g] w wr
theorem Dl.at {w : World} {g cap : Nat} {x : Int} {l L : List Pk} {i j : Nat} {wr : World} (h : Dl w g cap x l i j L wr) (hj : j < l.length) : wr.cell? ⟨g, j * 2, none⟩ = some (.int .i64 (l[j]).fr) ∧ wr.cell? ⟨g, j * 2 + 1, none⟩ = some (.string (l[j]).b) := by
  have hjL : j < L.length := by rw [h.len]; exact hj
  have := h.row.cell j hjL
  have e : L[j] = l[j] := by
    have h1 : (L.drop j)[0]? = (l.drop j)[0]? := by rw [h.dr]
    rw [List.getElem?_drop, List.getElem?_drop, Nat.add_zero, List.getElem?_eq_getElem hjL, List.getElem?_eq_getElem hj] at h1
    injection h1
  rwa [e] at this
theorem Dl.al {w : World} {g cap : Nat} {x : Int} {l L : List Pk} {i j : Nat} {wr wr' : World} (h : Dl w g cap x l i j L wr) (hk : Kp [] wr wr') : Dl w g cap x l i j L wr' := ⟨h.row.kp hk (by simp), h.len, h.tk, h.dr, h.kp.trans hk (by simp)⟩
theorem Dl.drop {w : World} {g cap : Nat} {x : Int} {l L : List Pk} {i j : Nat} {wr : World} (h : Dl w g cap x l i j L wr) (hj : j < l.length) (hs : stays x l[j] = false) : Dl w g cap x l i (j + 1) L wr :=
  ⟨h.row, h.len, by rw [List.take_succ_eq_append_getElem hj, List.filter_append, h.tk]; simp [hs], by rw [← List.tail_drop, h.dr, List.tail_drop], h.kp⟩
theorem Dl.keep {w : World} {g cap : Nat} {x : Int} {l L : List Pk} {i j : Nat} {wr : World} (h : Dl w g cap x l i j L wr) (hij : i < j) (hj : j < l.length) (hs : stays x l[j] = true) :
    Dl w g cap x l (i + 1) (j + 1) (L.set i l[j]) ((wr.setCell ⟨g, i * 2, none⟩ (.int .i64 (l[j]).fr)).setCell ⟨g, i * 2 + 1, none⟩ (.string (l[j]).b)) := by
  have hr := h.row
  rw [← h.len] at hr
  have hi : i < L.length := by rw [h.len]; omega
  have h1 := hr.set i hi l[j]
  rw [h.len] at h1
  refine ⟨h1, by rw [List.length_set]; exact h.len, ?_, ?_, h.kp.trans ((Kp.set _ _ _ _).trans (Kp.set _ _ _ _) (fun _ hx => Or.inl hx)) (fun _ hx => Or.inl hx)⟩
  · rw [List.take_succ_eq_append_getElem hj, List.filter_append, ← h.tk]
    have e : [l[j]].filter (stays x) = [l[j]] := by simp [hs]
    rw [e, List.take_succ_eq_append_getElem (by rw [List.length_set]; exact hi), List.getElem_set_self, List.take_set, List.set_eq_of_length_le (by rw [List.length_take]; omega)]
  · rw [List.drop_set, if_pos (by omega), ← List.tail_drop, h.dr, List.tail_drop]
theorem Dl.fin {w : World} {g cap : Nat} {x : Int} {l L : List Pk} {i : Nat} {wr : World} (h : Dl w g cap x l i l.length L wr) (hi : i < l.length) :
    i = (l.filter (stays x)).length ∧ PkRow (wr.setCells g (i * 2) (pkZ (l.length - i))) (.slice (some ⟨g, 0, none⟩) i cap) (l.filter (stays x)) ∧ Kp [g] w (wr.setCells g (i * 2) (pkZ (l.length - i))) ∧ (∀ j, j < (l.length - i) * 2 → (wr.cell? ⟨g, i * 2 + j, none⟩).isSome = true ∧ wr.frozen? ⟨g, i * 2 + j, none⟩ = false) ∧ i < cap := by
  have hr := h.row
  rw [← h.len] at hr
  obtain ⟨_, hl, hm, rest, hre, hb⟩ := hr.box
  have htk := h.tk
  rw [List.take_length] at htk
  have hlt : (L.take i).length = i := by rw [List.length_take, h.len]; omega
  have e1 : i = (l.filter (stays x)).length := by rw [← htk, hlt]
  have hsp : pkC L ++ rest = pkC (L.take i) ++ pkC (L.drop i) ++ rest := by rw [← pkC_append, List.take_append_drop]
  have hsz := pkC_len L
  have hsome : ∀ j, j < (l.length - i) * 2 → (wr.cell? ⟨g, i * 2 + j, none⟩).isSome = true ∧ wr.frozen? ⟨g, i * 2 + j, none⟩ = false := fun j hj => by
    have hlt : i * 2 + j < (pkC L ++ rest).toArray.size := by rw [List.size_toArray, List.length_append, hsz, h.len]; omega
    exact ⟨by rw [hb.cell (Array.getElem?_eq_getElem hlt)]; rfl, hb.froz _⟩
  have hb2 := hb
  rw [hsp] at hb2
  have h1 := CBox.put (pkZ (l.length - i)) _ _ _ wr (by rw [pkC_len, pkZ_len, List.length_drop, h.len]) hb2
  rw [pkC_len, hlt, htk] at h1
  refine ⟨e1, ?_, h.kp.trans (Kp.sets g _ _ wr) (fun _ hx => Or.inl hx), hsome, by have := h.len; omega⟩
  have h2 := PkRow.ofBox (l := l.filter (stays x)) (cap := cap) (rest := pkZ (l.length - i) ++ rest) (by rw [← List.append_assoc]; exact h1) (by rw [← e1]; have := h.len; omega) hm (by rw [List.length_append, pkZ_len, hre, ← e1, h.len]; have := h.len; omega)
  rwa [← e1] at h2
theorem filter_all {x : Int} {l : List Pk} (h : ∀ p ∈ l, stays x p = true) : l.filter (stays x) = l := List.filter_eq_self.2 h
set_option maxHeartbeats 4000000 in
set_option maxRecDepth 100000 in
theorem pdf_any (v : Value) (bx : Nat) (x : Int) (l : List Pk) (w : World) (h : PkRow w v l) (hc : w.cell? ⟨bx, 0, none⟩ = some (.int .i64 x)) (hbx : v.ownBlock ≠ some bx) :
    Calls Try.prog 42 #[v, .func (.func 43) #[] #[.pointer (some ⟨bx, 0, none⟩)]] w fun e w' => ∃ v', e = .returned v' ∧ PkRow w' v' (l.filter (stays x)) ∧ v'.ownBlock = v.ownBlock ∧ Kp v.ownBlock.toList w w' := by
  obtain ⟨ad, cap, rfl⟩ := h.slice
  have IX := hide (pidx_any ad cap bx x l w h hc)
  have HR := hide h
  have HC := hide hc
  have hbox : ∀ g, ad = some ⟨g, 0, none⟩ → cap ≤ 9223372036854775807 ∧ l.length ≤ cap := fun g e => by
    rcases h.form with ⟨e1, _⟩ | ⟨g', c', e1, h1, h2⟩
    · injection e1 with e2; rw [e] at e2; cases e2
    · injection e1 with _ _ e3; subst e3; exact ⟨h2, h1⟩
  clear h hc
  go_enter Try.func42, Try.ntmps42
  go_wp2_with fail
  refine (unhide IX).mono ?_
  rintro r w1 ⟨hres, hk1⟩
  clear IX
  rcases hres with ⟨rfl, hall⟩ | ⟨k, hk, rfl, hs, hall⟩
  · have hf := filter_all hall
    have H1 := hide ((unhide HR).kp hk1 (by simp))
    have HK1 := hide hk1
    have HF := hide hf
    clear hall hk1 hf HR
    go_wp2
    go_ret
    exact ⟨_, rfl, by rw [unhide HF]; exact unhide H1, rfl, (unhide HK1).mono (by simp)⟩
  · obtain ⟨g, rfl⟩ : ∃ g, ad = some ⟨g, 0, none⟩ := by
      rcases (unhide HR).form with ⟨_, e⟩ | ⟨g, c, e, _⟩
      · rw [e] at hk; cases hk
      · injection e with e1; exact ⟨g, e1⟩
    obtain ⟨hcm, hlc⟩ := hbox g rfl
    clear hbox
    have hbg : bx ≠ g := fun e => hbx (by rw [e]; rfl)
    have hC1 := (unhide HC).symm ▸ (hk1.cell (unhide HC) (by simp))
    have HC1 := hide (hk1.cell (unhide HC) (by simp))
    have D0 : Hid (Dl w g cap x l k (k + 1) l w1) := hide ⟨(unhide HR).kp hk1 (by simp), rfl, by rw [List.take_succ_eq_append_getElem hk, List.filter_append, filter_all hall]; simp [hs], rfl, hk1.mono (by simp)⟩
    have CL := hide (fun (p : Pk) (W : World) (hW : Kp [g] w W) => clos_any bx x p W (hW.cell (unhide HC) (by simpa using hbg)))
    clear hs hall hk1 HR hC1 HC HC1 hbx
    have hlm : l.length ≤ 9223372036854775807 := by omega
    have hne1 : ((k : Int) == -1) = false := beq_eq_false_iff_ne.2 (by omega)
    go_wp2_with fail
    go_loopw [5, 6] (fun s5 s6 wr => ∃ (i j : Nat) (L : List Pk), s5 = .int .i64 (i : Int) ∧ s6 = .int .i64 (j : Int) ∧ i < j ∧ j ≤ l.length ∧ Hid (Dl w g cap x l i j L wr)) (fun _ s6 _ => l.length - (intOf s6).toNat)
    case atStart => exact ⟨k, k + 1, l, rfl, by go_num, by omega, by omega, D0⟩
    case round =>
      clear D0
      obtain ⟨i, j, L, rfl, rfl, hij, hj, HD⟩ := hrel
      by_cases hlt : j < l.length
      · have hji : (j : Int) < (l.length : Int) := by omega
        obtain ⟨c1, c2⟩ := (unhide HD).at hlt
        have DR : Hid (stays x l[j] = false → ∀ wr', Kp [] wr wr' → Dl w g cap x l i (j + 1) L wr') := hide (fun hs wr' hk => ((unhide HD).al hk).drop hlt hs)
        have KE : Hid (stays x l[j] = true → ∀ wr', Kp [] wr wr' → Dl w g cap x l (i + 1) (j + 1) (L.set i l[j]) ((wr'.setCell ⟨g, i * 2, none⟩ (.int .i64 (l[j]).fr)).setCell ⟨g, i * 2 + 1, none⟩ (.string (l[j]).b)) ∧ wr'.frozen? ⟨g, i * 2, none⟩ = false ∧ wr'.frozen? ⟨g, i * 2 + 1, none⟩ = false ∧ (∃ u, wr'.cell? ⟨g, i * 2, none⟩ = some u) ∧ ∃ u, wr'.cell? ⟨g, i * 2 + 1, none⟩ = some u) := hide (fun hs wr' hk => by
          have hd := (unhide HD).al hk
          have hr := hd.row
          rw [← hd.len] at hr
          obtain ⟨_, _, _, rest, _, hb⟩ := hr.box
          obtain ⟨u1, u2⟩ := hr.cell i (by rw [hd.len]; omega)
          exact ⟨hd.keep hij hlt hs, hb.froz _, hb.froz _, ⟨_, u1⟩, ⟨_, u2⟩⟩)
        have KPW : Hid (Kp [g] w wr) := hide (unhide HD).kp
        have lg : g < wr.heap.size := World.block_lt_of_cell? wr ⟨g, j * 2, none⟩ c1
        clear HD
        have hii : (i : Int) < (l.length : Int) := by omega
        generalize L.set i l[j] = L2 at *
        generalize l[j] = p at *
        obtain ⟨fr, b⟩ := p
        dsimp only at *
        have C1 := hide (fun W hW => unhide CL ⟨fr, b⟩ W hW)
        unfold pkA at C1
        dsimp only at C1
        generalize stays x ⟨fr, b⟩ = B at *
        obtain ⟨V, hV⟩ : ∃ V, V = wr.alloc (.cells #[.int .i64 fr, .string b] 72) := ⟨_, rfl⟩
        have kV : Kp [] wr V := by rw [hV]; exact Kp.alloc _ _
        have bV : CBox wr.heap.size #[.int .i64 fr, .string b] 72 V := by rw [hV]; exact CBox.new _ _ _
        have v0 := bV.cell (i := 0) rfl
        have v1 := bV.cell (i := 1) rfl
        have CV := hide (unhide C1 V ((unhide KPW).trans kV (by simp)))
        have BV := hide bV
        have KV := hide kV
        clear bV kV C1
        go_upto_region 8 with fail
        rw [← hV]
        clear hV c1 c2
        go_wp2_with fail
        refine (unhide CV).mono ?_
        rintro r w3 ⟨rfl, hk3⟩
        have b3 := (unhide BV).kp hk3 (by simp)
        have k3 := kp_tr (unhide KV) hk3
        cases B with
        | true =>
          obtain ⟨e1, e2, e3, ⟨u1, e4⟩, ⟨u2, e5⟩⟩ := unhide KE rfl w3 k3
          have d0 := b3.cell (i := 0) rfl
          have d1 := b3.cell (i := 1) rfl
          have E1 := hide e1
          clear e1 KE DR b3 k3 hk3 v0 v1 BV KV CV
          go_wp2
          go_roundw
          case rel => exact ⟨i + 1, j + 1, L2, by go_num, by go_num, by omega, by omega, E1⟩
          case measure => simp [intOf]; omega
        | false =>
          have E1 := hide (unhide DR rfl w3 k3)
          clear KE DR b3 k3 hk3 v0 v1 BV KV CV
          go_wp2
          go_roundw
          case rel => exact ⟨i, j + 1, L, rfl, by go_num, by omega, by omega, E1⟩
          case measure => simp [intOf]; omega
      · obtain rfl : j = l.length := by omega
        have hji : ¬ (l.length : Int) < (l.length : Int) := by omega
        obtain ⟨f1, f2, f3, f4, f5⟩ := (unhide HD).fin hij
        have hcl := fun ty => run_clear_pk wr ty g (i * 2) (l.length - i) (cap - i) (by omega) (fun j hj => (f4 j hj).1) (fun j hj => (f4 j hj).2)
        have F2 := hide f2
        have F3 := hide f3
        have hci : (cap = i) = False := eq_false (by omega)
        have hil : i ≤ l.length := by omega
        clear f1 f2 f3 f4 CL HD
        go_wp2
        go_ret
        exact ⟨_, rfl, unhide F2, rfl, unhide F3⟩
end Go.Proofs.Ytledoopfffhigaa
namespace Go.Proofs
open Go.Shelf
def Try.laysM316_ren : Go.Shelf.Ren := ⟨fun | 316 => 39 | n => n, fun | 9 => 9 | 3 => 3 | 4 => 4 | 37 => 42 | 0 => 0 | 127 => 93 | 5 => 5 | n => n, fun | n => n⟩
theorem Try.laysM316 : Go.Proofs.LaysM.n316 Try.prog Try.laysM316_ren := {
  mixed := by kernel_rfl
  f316 := Try.func39.trans (congrArg some (by kernel_rfl))
  t0 := Try.underlying0
  a0 := Try.isAgg0
  z0 := Try.sizeOf0
  v0 := Try.zeroValue0
  t3 := Try.underlying3
  a3 := Try.isAgg3
  z3 := Try.sizeOf3
  v3 := Try.zeroValue3
  t4 := Try.underlying4
  a4 := Try.isAgg4
  z4 := Try.sizeOf4
  v4 := Try.zeroValue4
  t9 := Try.underlying9
  a9 := Try.isAgg9
  z9 := Try.sizeOf9
  v9 := Try.zeroValue9
  t37 := Try.underlying42
  a37 := Try.isAgg42
  z37 := Try.sizeOf42
  v37 := Try.zeroValue42
  t127 := Try.underlying93
  a127 := Try.isAgg93
  z127 := Try.sizeOf93
  v127 := Try.zeroValue93
  t5 := Try.underlying5
  a5 := Try.isAgg5
  z5 := Try.sizeOf5
  v5 := Try.zeroValue5
  i0 := by kernel_rfl
  i3 := by kernel_rfl
  i4 := by kernel_rfl
  i5 := by kernel_rfl
  i9 := by kernel_rfl
  i37 := by kernel_rfl
  i127 := by kernel_rfl }
open Go.RowKit in
theorem Try.stringslite_Clone (s : ByteArray) (w : World) (hlim : s.size ≤ 281474976710656) :
    Calls Try.prog 39 #[.string s] w fun e w' => e = .returned (.string s) ∧ Below w.heap.size w w' := Any.stringslite_Clone Try.laysM316 s w hlim
end Go.Proofs
namespace Go.Proofs.Ytledoopfffhigaa
open Go.RowKit

theorem info_u8 : (Try.prog.info? 5).map (fun i => (i.zero, i.size, i.bytes)) = some (some (.int .u8 0), 1, 1) := by kernel_rfl
/-- A row of bytes of the call's own. -/
def Owns (B : Nat) (w : World) (v : Value) (l : List UInt8) : Prop := w.ownsRow B 5 1 v l.length (byteC l)
theorem Owns.nil (B : Nat) (w : World) : Owns B w (.slice none 0 0) [] := World.ownsRow_nil _ _ _ _
theorem Owns.alloc {B : Nat} {w : World} {v : Value} {l : List UInt8} (h : Owns B w v l) (o : Obj) : Owns B (w.alloc o) v l := World.ownsRow.alloc h o
theorem Owns.drew {B : Nat} {w : World} {v : Value} {l : List UInt8} (h : Owns B w v l) : Owns B w.drew v l := h
theorem Owns.form {B : Nat} {w : World} {v : Value} {l : List UInt8} (h : Owns B w v l) : ∃ ad cp, v = .slice ad l.length cp := by
  obtain ⟨_, ⟨rfl, h0⟩ | ⟨g, cp, cur, rfl, _⟩⟩ := h
  · exact ⟨_, _, by rw [h0]⟩
  · exact ⟨_, _, rfl⟩
theorem strOf_bytes (l : List UInt8) : strOfNums (l.map fun b => (b.toNat : Int)) = ⟨l.toArray⟩ := by
  unfold strOfNums; congr 1; simp [List.map_map, Function.comp_def]
/-- The row's bytes as a string. -/
theorem Owns.string {B : Nat} {w : World} {v : Value} {l : List UInt8} (h : Owns B w v l) : (convert 42 9 v).run Try.prog w = .ok (.string ⟨l.toArray⟩) w := by
  obtain ⟨hl, ⟨rfl, h0⟩ | ⟨g, cp, cur, rfl, hb, hh, r⟩⟩ := id h
  · obtain rfl : l = [] := List.eq_nil_of_length_eq_zero h0
    exact run_convert_bytes_nil w 42 5 Try.underlying42 Try.underlying5 0 0 9 Try.underlying9
  · have := run_convert_bytes_arg (P := Try.prog) w 42 5 Try.underlying42 Try.underlying5 g 0 l.length cp (l.map fun b => (b.toNat : Int)) (by simp) (fun i hi => by
      rw [Nat.zero_add]
      have c := World.ownsRow.cellAt h i (by omega)
      rw [c]
      unfold byteC
      simp [List.getElem?_eq_getElem hi, List.getD]) 9 Try.underlying9
    rw [strOf_bytes] at this
    exact this
theorem drop_get (b : ByteArray) (i : Nat) (h : i < b.size) : b.data.toList.drop i = b[i] :: b.data.toList.drop (i + 1) := by
  rw [List.drop_eq_getElem_cons (by simpa using h)]; rfl
theorem take_snoc (s : ByteArray) (k : Nat) (h : k < s.size) : s.data.toList.take (k + 1) = s.data.toList.take k ++ [s[k]] := by
  rw [List.take_succ_eq_append_getElem (by simpa using h)]; rfl
set_option maxHeartbeats 400000 in
theorem clone_any (b : ByteArray) (w : World) (hb : b.size ≤ 281474976710656) :
    Calls Try.prog 29 #[.string b] w fun e w' => e = .returned (.string b) ∧ Below w.heap.size w w' := by
  go_enter Try.func29, Try.ntmps29
  go_wp2_with fail
  refine (Try.stringslite_Clone b _ hb).mono ?_
  rintro e w' ⟨rfl, h⟩
  go_wp2
  go_ret
  exact ⟨rfl, h⟩
end Go.Proofs.Ytledoopfffhigaa
namespace Go.Proofs.Ytledoopfffhigaa
open Go.RowKit Nt

set_option maxHeartbeats 1000000 in
set_option maxRecDepth 100000 in
theorem wclearOf_any (q t : Nat) (cs : Array Value) (v : Value) (l : List Pk) (x : Int) (w : World) (hrow : CBox q cs 68 w) (hct : cs[t]? = some v) (hr : PkRow w v l) :
    Calls Try.prog 33 #[.pointer (some ⟨q, t, none⟩), .int .i64 x] w fun e w' => e = .returned (.int .i64 ((l.length : Int) - ((l.filter (stays x)).length : Int))) ∧ WayTo w q t v (l.filter (stays x)) w' := by
  have hqv := hr.apart hrow (by decide)
  obtain ⟨ad, cap, rfl⟩ := hr.slice
  have lq : q < w.heap.size := (Array.getElem?_eq_some_iff.1 hrow).1
  obtain ⟨V, hV⟩ : ∃ V, V = w.alloc (.cells #[.int .i64 x] 3) := ⟨_, rfl⟩
  have kV : Kp [] w V := by rw [hV]; exact Kp.alloc _ _
  have bV : CBox w.heap.size #[.int .i64 x] 3 V := by rw [hV]; exact CBox.new _ _ _
  have rV := hrow.kp kV (by simp)
  have c1 := rV.cell hct
  have hq : q ∉ (Value.slice ad l.length cap).ownBlock.toList := fun hm => hqv q (by simpa using hm) rfl
  have DF := hide (pdf_any (.slice ad l.length cap) w.heap.size x l V (hr.kp kV (by simp)) (bV.cell rfl) (fun e => by have := hr.lt e; omega))
  have HP : Hid (∀ w3 v', Kp (Value.slice ad l.length cap).ownBlock.toList V w3 → PkRow w3 v' (l.filter (stays x)) → v'.ownBlock = (Value.slice ad l.length cap).ownBlock → w3.cell? ⟨q, t, none⟩ = some (.slice ad l.length cap) ∧ w3.frozen? ⟨q, t, none⟩ = false ∧ (w3.setCell ⟨q, t, none⟩ v').cell? ⟨q, t, none⟩ = some v' ∧ WayTo w q t (.slice ad l.length cap) (l.filter (stays x)) (w3.setCell ⟨q, t, none⟩ v')) := hide (fun w3 v' hk hr3 he => by
    have r3 := rV.kp hk hq
    have hts : t < cs.size := (Array.getElem?_eq_some_iff.1 hct).1
    exact ⟨r3.cell hct, r3.froz t, (r3.set t v').cell (by simp [hts]), w3, v', (kV.mono (by simp)).trans hk (fun _ hx => Or.inl hx), hr3, Or.inl he, [], (fun _ hx => by cases hx), Kp.refl _ _⟩)
  have hlm : l.length ≤ 9223372036854775807 := by
    rcases hr.form with ⟨_, e⟩ | ⟨g, c, e, h1, h2⟩
    · rw [e]; simp
    · omega
  have hfl : (l.filter (stays x)).length ≤ l.length := List.length_filter_le _ _
  clear hrow hct hr rV bV kV hqv hq
  generalize l.filter (stays x) = L at *
  go_enter Try.func33, Try.ntmps33
  go_upto_region 1 with fail
  rw [← hV]
  clear hV
  go_wp2_with fail
  refine (unhide DF).mono ?_
  rintro r w3 ⟨v', rfl, hr3, he, hk3⟩
  obtain ⟨ad', cap', rfl⟩ := hr3.slice
  obtain ⟨e1, e2, e3, e4⟩ := unhide HP w3 _ hk3 hr3 he
  have E4 := hide e4
  clear e4 HP hr3 he hk3 DF
  go_wp2
  go_ret
  exact ⟨rfl, unhide E4⟩
/-- A step of a net: where it lies, and what stays. -/
theorem nt_step {B : Nat} {w w' : World} {b q : Nat} {vs vs' : List Value} {s s' : St} {F : List Nat} (h : NtV w b q vs s) (hB : ∀ k ∈ ntF b q vs, B ≤ k) (h' : NtV w' b q vs' s') (hk : Kp F w w') (hF : ∀ k ∈ F, k ∈ ntF b q vs ∨ w.heap.size ≤ k) (hn : ∀ k ∈ ntF b q vs', k ∈ ntF b q vs ∨ w.heap.size ≤ k) : NtAt B w' b s' ∧ Ks B ntT w w' := by
  have hbs : B ≤ w.heap.size := by
    have h1 := hB b (mem_ntF.2 (Or.inl rfl))
    have h2 := h.lt b (mem_ntF.2 (Or.inl rfl))
    omega
  refine ⟨⟨q, vs', h', fun k hk1 => ?_⟩, Ks.of hk (fun k hk1 hlt => ?_)⟩
  · rcases hn k hk1 with h1 | h1
    · exact hB k h1
    · omega
  · rcases hF k hk1 with h1 | h1
    · exact ⟨hB k h1, h.ty k h1⟩
    · omega
theorem nt_same {B : Nat} {w w' : World} {b q : Nat} {vs : List Value} {s : St} (h : NtV w b q vs s) (hB : ∀ k ∈ ntF b q vs, B ≤ k) (hk : Kp [] w w') : NtAt B w' b s ∧ Ks B ntT w w' :=
  nt_step h hB (h.kp hk (by simp)) hk (by simp) (fun _ hx => Or.inl hx)
/-- A way changed, then a count raised. -/
theorem nt_put {B : Nat} {w w3 w5 : World} {b q m : Nat} {vs vs' : List Value} {s : St} {v : Value} {l' : List Pk} {k : Nat} {n : Int} (h : NtV w b q vs s) (hB : ∀ k ∈ ntF b q vs, B ≤ k) (hv : vs[m]? = some v) (hk3 : Kp (q :: v.ownBlock.toList) w w3) (hn : ∀ k ∈ ntF b q vs', k ∈ ntF b q vs ∨ w.heap.size ≤ k) (h5 : NtV w5 b q vs' ⟨s.ws.set m l', up s.c k (s.c k + n)⟩) (hk5 : Kp [b] w3 w5) : NtAt B w5 b (put s (m : Int) l' k n) ∧ Ks B ntT w w5 := by
  have e : put s (m : Int) l' k n = ⟨s.ws.set m l', up s.c k (s.c k + n)⟩ := by unfold put; rw [Int.toNat_natCast]
  rw [e]
  refine nt_step h hB h5 (F := b :: q :: v.ownBlock.toList) ((hk3.mono (fun x hx => List.mem_cons_of_mem _ hx)).trans (hk5.mono (G := b :: q :: v.ownBlock.toList) (fun x hx => by simp at hx; subst hx; exact List.mem_cons_self ..)) (fun _ hx => Or.inl hx)) (fun k hk => ?_) hn
  rcases List.mem_cons.1 hk with rfl | hk
  · exact Or.inl (mem_ntF.2 (Or.inl rfl))
  · rcases List.mem_cons.1 hk with rfl | hk
    · exact Or.inl (mem_ntF.2 (Or.inr (Or.inl rfl)))
    · exact Or.inl (mem_ntF.2 (Or.inr (Or.inr ⟨v, List.mem_of_getElem? hv, by simpa using hk⟩)))
end Go.Proofs.Ytledoopfffhigaa
