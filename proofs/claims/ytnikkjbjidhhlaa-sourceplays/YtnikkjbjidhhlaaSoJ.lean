/-
  A source: Below.
-/
import Derived.Test.YtnikkjbjidhhlaaSoI
namespace Go.Proofs.Ytnikkjbjidhhlaa
open Go.RowKit

def offsB (ps : List (List Ev)) (os : List Int) : Bool := (ps.zip os).all fun x => offB x.1.length x.2
/-- The plain Below. -/
def bwE (ps : List (List Ev)) (os : List Int) : Int := if os.length = ps.length then (if offsB ps os = true then 0 else 50) else 1
def bwL (key : ByteArray) (ps : List (List Ev)) (os : List Int) : List Ev := if bwE ps os = 0 then keyL key ((ps[partOf ps.length key]?.getD []).take (os[partOf ps.length key]?.getD 0).toNat) else []
theorem offsB_all {ps : List (List Ev)} {os : List Int} (hl : os.length = ps.length) (h : ∀ j (h1 : j < ps.length) (h2 : j < os.length), offB ps[j].length os[j] = true) : offsB ps os = true := by
  unfold offsB
  rw [List.all_eq_true]
  intro x hx
  obtain ⟨j, hj, rfl⟩ := List.mem_iff_getElem.1 hx
  rw [List.getElem_zip]
  have hz : (ps.zip os).length = ps.length := by rw [List.length_zip]; omega
  exact h j (by omega) (by omega)
theorem offsB_none {ps : List (List Ev)} {os : List Int} (j : Nat) (h1 : j < ps.length) (h2 : j < os.length) (h : offB ps[j].length os[j] = false) : offsB ps os = false := by
  unfold offsB
  rw [List.all_eq_false]
  refine ⟨(ps[j], os[j]), ?_, by simp [h]⟩
  rw [List.mem_iff_getElem]
  exact ⟨j, by rw [List.length_zip]; omega, by rw [List.getElem_zip]⟩
theorem keyL_sub {key : ByteArray} {l : List Ev} {e : Ev} (h : e ∈ keyL key l) : e ∈ l := (List.mem_filter.1 h).1
theorem EvRow.evsTo {w : World} {ad : Option Addr} {n cap : Nat} {l : List Ev} (h : EvRow w (.slice ad n cap) l) (t : Nat) (ht : t ≤ l.length) : EvsAt w ad (l.take t) := by
  have := h.evs.sub 0 t (by omega)
  simp only [Nat.zero_mul, List.drop_zero] at this
  have e : ad.map (·.add 0) = ad := by cases ad <;> simp [Addr.add]
  rw [e] at this
  exact this
theorem EvRow.of {w : World} {B : Nat} {v : Value} {l : List Ev} (h : w.ownsRow B 45 7 v l.length (evC l)) : EvRow w v l := by
  obtain ⟨h1, h2 | ⟨g, cp, cur, rfl, _, hh, r⟩⟩ := h
  · exact ⟨h1, Or.inl h2⟩
  · exact ⟨h1, Or.inr ⟨g, cp, cur, rfl, Nat.zero_le _, hh, r⟩⟩
set_option maxHeartbeats 2000000 in
set_option maxRecDepth 100000 in
theorem below_any (g q : Nat) (vs : List Value) (ps : List (List Ev)) (key : ByteArray) (adO : Option Addr) (capO : Nat) (os : List Int) (w : World) (h : SrcV w g q vs ps) (hk : key.size ≤ 9223372036854775807) (ho : IntsAt w adO os) (hol : os.length ≤ 9223372036854775807) :
    Calls Try.prog 22 #[.pointer (some ⟨g, 0, none⟩), .string key, .slice adO os.length capO] w fun r w' => ∃ v, r = .returned (.tuple #[v, .int .i64 (bwE ps os)]) ∧ EvNew w w' v (bwL key ps os) ∧ Kp [] w w' := by
  have c0 := h.cells
  have h2 := h.few
  have h1 := h.pos
  by_cases hl : os.length = ps.length
  · have hne : os ≠ [] := by rintro rfl; simp at hl; omega
    obtain ⟨bo, oo, rfl, hbo, hco⟩ := ho hne
    have HCO := hide hco
    have HBO := hide hbo
    have IO := hide (fun j hj (o : Int) => isOffset_any g q vs ps j hj o w h)
    have PA := hide (part_any g q vs ps key w h hk)
    have HH := hide h
    clear ho hco hne hbo
    go_enter Try.func22, Try.ntmps22
    rw [hl]
    go_wp2_with fail
    go_loopw [23] (fun i wr => ∃ k : Nat, k ≤ ps.length ∧ i = .int .i64 (k : Int) ∧ wr = w ∧ Hid (∀ j (h1 : j < ps.length) (h2 : j < os.length), j < k → offB ps[j].length os[j] = true)) (fun i _ => ps.length - (intOf i).toNat)
    case atStart => exact ⟨0, Nat.zero_le _, rfl, rfl, hide (fun j _ _ hj => absurd hj (by omega))⟩
    case round =>
      obtain ⟨k, hkk, rfl, rfl, HK⟩ := hrel
      by_cases hlt : k < ps.length
      · have hli : (k : Int) < (ps.length : Int) := by omega
        have hko : k < os.length := by omega
        have cc := unhide HCO k hko
        have io := unhide IO k hlt os[k]
        by_cases hb : offB ps[k].length os[k] = true
        · have HK2 : Hid (∀ j (h1 : j < ps.length) (h2 : j < os.length), j < k + 1 → offB ps[j].length os[j] = true) := hide (fun j h1 h2 hj => by
            by_cases hjk : j < k
            · exact unhide HK j h1 h2 hjk
            · obtain rfl : j = k := by omega
              exact hb)
          rw [hb] at io
          have IO1 := hide io
          clear io HK IO PA HCO HH hb
          generalize os[k] = o at *
          go_wp2_with fail
          refine (unhide IO1).mono ?_
          rintro r w2 ⟨rfl, rfl⟩
          go_wp2
          go_roundw
          case rel => exact ⟨k + 1, by omega, by go_num, by trivial, HK2⟩
          case measure => simp [intOf]; omega
        · have hb' : offB ps[k].length os[k] = false := by simpa using hb
          have hE : bwE ps os = 50 := by unfold bwE; rw [if_pos hl, offsB_none k hlt hko hb']; rfl
          have hLL : bwL key ps os = [] := by unfold bwL; rw [hE]; rfl
          rw [hb'] at io
          have IO1 := hide io
          have HN := hide (And.intro hE hLL)
          clear io HK IO PA HCO HH hb hb' hE hLL
          generalize os[k] = o at *
          go_wp2_with fail
          refine (unhide IO1).mono ?_
          rintro r w2 ⟨rfl, rfl⟩
          go_wp2
          go_ret2
          rw [(unhide HN).1, (unhide HN).2]
          exact ⟨_, rfl, EvNew.nil _ _, Kp.refl _ _⟩
      · have hb : offsB ps os = true := offsB_all hl (fun j h1 h2 => unhide HK j h1 h2 (by omega))
        have hE : bwE ps os = 0 := by unfold bwE; rw [if_pos hl, if_pos hb]
        generalize hp : partOf ps.length key = p at *
        have hpl : p < ps.length := by rw [← hp]; exact partOf_lt _ (by omega) _
        have hpo : p < os.length := by omega
        have hof := unhide HK p hpl hpo (by omega)
        have hLL : bwL key ps os = keyL key (ps[p].take os[p].toNat) := by unfold bwL; rw [if_pos hE, hp, List.getElem?_eq_getElem hpl, List.getElem?_eq_getElem hpo]; rfl
        have hof' : 0 ≤ os[p] ∧ os[p] ≤ (ps[p].length : Int) := by unfold offB at hof; rw [Bool.and_eq_true, decide_eq_true_eq, decide_eq_true_eq] at hof; exact hof
        obtain ⟨t, ht⟩ : ∃ t : Nat, os[p] = (t : Int) := ⟨os[p].toNat, by omega⟩
        rw [ht, Int.toNat_natCast] at hLL
        rw [ht] at hof'
        have htl : t ≤ ps[p].length := by omega
        have hN : ps[p].length ≤ 4096 := (unhide HH).lim _ (List.getElem_mem _)
        have cO := unhide HCO p hpo
        rw [ht] at cO
        obtain ⟨ad, cap, hx1, hv0, hr0⟩ := (unhide HH).at p hpl
        obtain ⟨adx, capx, ex, hlc, hcm, hxx⟩ := hr0.form
        injection ex with ex1 ex2 ex3
        subst ex3
        have hpi : (p : Int) < (ps.length : Int) := by omega
        have hsm := (unhide HH).sm _ (List.getElem_mem hpl)
        have HW : Hid (∀ w1, Kp [] wr w1 → (w1.drew.cell? ⟨g, 0, none⟩ = some (.slice (some ⟨q, 0, none⟩) ps.length ps.length) ∧ w1.drew.cell? ⟨q, p, none⟩ = some (.slice ad ps[p].length cap) ∧ w1.drew.cell? ⟨bo, oo + p, none⟩ = some (.int .i64 (t : Int))) ∧
            Calls Try.prog 46 #[.slice ad t cap, .string key] w1.drew fun r w6 => ∃ ad2 cap2, r = .returned (.slice ad2 (keyL key (ps[p].take t)).length cap2) ∧ (w6.cell? ⟨g, 0, none⟩ = some (.slice (some ⟨q, 0, none⟩) ps.length ps.length) ∧ w6.cell? ⟨q, p, none⟩ = some (.slice ad ps[p].length cap) ∧ w6.cell? ⟨bo, oo + p, none⟩ = some (.int .i64 (t : Int))) ∧
              Calls Try.prog 45 #[.slice ad2 (keyL key (ps[p].take t)).length cap2] w6 fun r w7 => ∃ v, r = .returned v ∧ (∃ b c, v = .slice (some b) c c) ∧ EvNew wr w7 v (keyL key (ps[p].take t)) ∧ Kp [] wr w7 ∧ (w7.cell? ⟨g, 0, none⟩ = some (.slice (some ⟨q, 0, none⟩) ps.length ps.length) ∧ w7.cell? ⟨q, p, none⟩ = some (.slice ad ps[p].length cap) ∧ w7.cell? ⟨bo, oo + p, none⟩ = some (.int .i64 (t : Int)))) := hide (fun w1 hk1 => by
          have hk5 := hk1.trans (Kp.drew w1) (by simp)
          have hS : ∀ W, Kp [] wr W → (W.cell? ⟨g, 0, none⟩ = some (.slice (some ⟨q, 0, none⟩) ps.length ps.length) ∧ W.cell? ⟨q, p, none⟩ = some (.slice ad ps[p].length cap) ∧ W.cell? ⟨bo, oo + p, none⟩ = some (.int .i64 (t : Int))) := fun W hW => ⟨hW.cell (p := ⟨g, 0, none⟩) c0 (by simp), hW.cell (p := ⟨q, p, none⟩) hx1 (by simp), hW.cell (p := ⟨bo, oo + p, none⟩) cO (by simp)⟩
          have hlen : (ps[p].take t).length = t := by rw [List.length_take]; omega
          have hkl : (keyL key (ps[p].take t)).length ≤ 4096 := by
            have := keyL_len key ps[p] t
            omega
          refine ⟨hS _ hk5, ?_⟩
          have hwk := withKey_any key ad cap (ps[p].take t) w1.drew (by omega) ((hr0.evsTo t htl).kp hk5 (by simp))
          rw [hlen] at hwk
          refine hwk.mono ?_
          rintro r w6 ⟨v, rfl, hown, hk6⟩
          have hr6 := EvRow.of hown
          obtain ⟨ad2, cap2, rfl, _⟩ := hr6.form
          have hk6' := hk5.trans hk6 (by simp)
          refine ⟨ad2, cap2, rfl, hS _ hk6', ?_⟩
          refine (clonesOf_any ad2 cap2 _ w6 hkl hr6.evs (fun e he => hsm e (List.mem_of_mem_take (keyL_sub he)))).mono ?_
          rintro r w7 ⟨rfl, hbx, hk7⟩
          have hk7' := hk6'.trans hk7 (by simp)
          exact ⟨_, rfl, ⟨_, _, rfl⟩, EvNew.box hbx hk6'.size hkl, hk7', hS _ hk7'⟩)
        have HEL := hide (And.intro hE hLL)
        have hta : (t : Int) ≤ (cap : Int) := by omega
        clear HK HCO HBO IO HH hof hof' hLL hE hb hp hx1 hv0 hr0 hxx ex1 ex2 hsm cO ht hpo
        generalize keyL key (ps[p].take t) = L at *
        generalize ps[p].length = N at *
        clear hpl
        go_wp2_with fail
        refine (unhide PA).mono ?_
        rintro r w1 ⟨rfl, hk1⟩
        obtain ⟨cS, wk⟩ := unhide HW w1 hk1
        have WK := hide wk
        clear wk HW hk1 PA
        go_wp2_with fail
        go_region_held3 (fun W => W.cell? ⟨g, 0, none⟩ = some (.slice (some ⟨q, 0, none⟩) ps.length ps.length) ∧ W.cell? ⟨q, p, none⟩ = some (.slice ad N cap) ∧ W.cell? ⟨bo, oo + p, none⟩ = some (.int .i64 (t : Int)))
          (first | with_reducible exact cS | with_reducible exact cT | with_reducible exact cU)
          (first
            | (go_at_call 45; refine (unhide CL).mono ?_; rintro r w7 ⟨v7, rfl, ⟨b7, c7, rfl⟩, hN7, hK7, cU⟩; have HN7 := hide hN7; have HK7 := hide hK7; clear hN7 hK7)
            | (go_at_call 46; refine (unhide WK).mono ?_; rintro r w6 ⟨ad2, cap2, rfl, cT, cl⟩; have CL := hide cl; clear cl))
        go_wp2
        go_ret2
        rw [(unhide HEL).1, (unhide HEL).2]
        exact ⟨_, rfl, unhide HN7, unhide HK7⟩
  · have hE : bwE ps os = 1 := by unfold bwE; rw [if_neg hl]
    have hLL : bwL key ps os = [] := by unfold bwL; rw [hE]; rfl
    rw [hE, hLL]
    have hl' : ¬ (os.length : Int) = (ps.length : Int) := by omega
    have HNN := hide (EvNew.nil w w)
    clear hE hLL h ho hl
    generalize ps.length = P at *
    generalize os.length = O at *
    go_enter Try.func22, Try.ntmps22
    go_wp2
    go_ret2
    exact ⟨_, rfl, unhide HNN, Kp.refl _ _⟩
end Go.Proofs.Ytnikkjbjidhhlaa
