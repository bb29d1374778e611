/-
  What reading a text leaves: rows of tokens, of parts, and faults.
  couldBeTold: a tail of what Tokens told could be told; Parse of such a tail.
  couldBeTold itself, and Parse.
  Parse of a tail of what was told.
-/
import Derived.Test.YtjijhefmbmdbeaaGreatDoorD22
import Derived.Test.YtjijhefmbmdbeaaGreatDoorD25
import Derived.Test.YtjijhefmbmdbeaaGreatDoorD26
import Derived.Test.YtjijhefmbmdbeaaGreatDoorD12
import Derived.BigQuiet
import Derived.Deep.RegionWith
import Derived.Deep.RegionHeld3
namespace Go.Proofs.YtjijhefmbmdbeaaGreatDoor
open Go.RowKit Go.Shelf

theorem OwnsK.low {B : Nat} {w : World} {v : Value} {l : List Tk} (h : OwnsK B w v l) (hl : l ≠ []) : TksLow w.heap.size w v l := by
  obtain ⟨ad, cp, rfl, ha, _⟩ := h.at
  obtain ⟨b, off, rfl, hlt, hc⟩ := ha hl
  exact ⟨b, off, cp, rfl, hlt, hc⟩
/-- What Read tells. -/
def RdT (B : Nat) (o : RO) (e : Ending) (w' : World) : Prop := ∃ v, e = .returned (.tuple #[v, .agg #[.int .i64 o.at_, .int .i64 o.c]]) ∧ OwnsP B w' v o.x
theorem RdT.nil {B : Nat} {o : RO} {a c : Int} {w' : World} (h : o = ⟨[], a, c⟩) : RdT B o (.returned (.tuple #[.slice none 0 0, .agg #[.int .i64 a, .int .i64 c]])) w' := by
  subst h
  exact ⟨_, rfl, OwnsP.nil _ _⟩
theorem RdT.parts {B : Nat} {o : RO} {x : List Pt} {v : Value} {w' : World} (h : o = ⟨x, 0, 0⟩) (ho : OwnsP B w' v x) : RdT B o (.returned (.tuple #[v, .agg #[.int .i64 0, .int .i64 0]])) w' := by
  subst h
  exact ⟨v, rfl, ho⟩
end Go.Proofs.YtjijhefmbmdbeaaGreatDoor
namespace Go.Proofs.YtjijhefmbmdbeaaGreatDoor
open Go.RowKit Go.Shelf

theorem tkEq_self (t : Tk) : tkEq t t = true := (tkEq_iff t t).2 rfl
set_option maxHeartbeats 1000000 in
set_option maxRecDepth 100000 in
theorem equalTks_any (a1 a2 : Option Addr) (c1 c2 : Nat) (l : List Tk) (w : World) (h1 : TksAt w a1 l) (h2 : TksAt w a2 l) (hl : l.length ≤ 9223372036854775807) :
    Calls Tryz.prog 156 #[.slice a1 l.length c1, .slice a2 l.length c2] w fun e w' => e = .returned (.bool true) ∧ Kp [] w w' := by
  have H1 := hide h1
  have H2 := hide h2
  clear h1 h2
  go_enter Tryz.func156, Tryz.ntmps156
  go_wp2_with fail
  go_loopw [13] (fun i wr => ∃ k : Nat, k ≤ l.length ∧ i = .int .i64 (k : Int) ∧ Kp [] w wr) (fun i _ => l.length - (intOf i).toNat)
  case atStart => exact ⟨0, Nat.zero_le _, rfl, Kp.refl _ _⟩
  case round =>
    obtain ⟨k, hk, rfl, kp⟩ := hrel
    by_cases hlt : k < l.length
    · have kp2 := kp.trans (Kp.drew wr) (by simp)
      obtain ⟨b1, o1, rfl, _, x0, x1, x2, x3⟩ := ((unhide H1).kp kp2).at k hlt
      obtain ⟨b2, o2, rfl, _, y0, y1, y2, y3⟩ := ((unhide H2).kp kp2).at k hlt
      obtain ⟨_, _, e1, _, u0, u1, u2, u3⟩ := ((unhide H1).kp kp).at k hlt
      obtain ⟨_, _, e2, _, v0, v1, v2, v3⟩ := ((unhide H2).kp kp).at k hlt
      cases e1
      cases e2
      have hli : (k : Int) < (l.length : Int) := by omega
      have KP := hide kp
      have KP2 := hide kp2
      have HEQ := fun d W => eqT d l[k] l[k] W
      clear H1 H2 kp kp2
      generalize l[k] = e at *
      rw [tkEq_self] at HEQ
      obtain ⟨ek, es, en, ep⟩ := e
      unfold Tk.v at HEQ
      dsimp only at x0 x1 x2 x3 y0 y1 y2 y3 u0 u1 u2 u3 v0 v1 v2 v3 HEQ
      go_wp2_with fail
      first
        | (go_roundw
           case rel => exact ⟨k + 1, by omega, by go_num, unhide KP⟩
           case measure => simp [intOf]; omega)
        | (have cS := And.intro x0 (And.intro x1 (And.intro x2 (And.intro x3 (And.intro y0 (And.intro y1 (And.intro y2 y3))))))
           go_region_held3 (fun W => W.cell? ⟨b1, o1 + k * 4, none⟩ = some (.int .i64 ek) ∧ W.cell? ⟨b1, o1 + k * 4 + 1, none⟩ = some (.string es) ∧ W.cell? ⟨b1, o1 + k * 4 + 2, none⟩ = some (.int .i64 en) ∧ W.cell? ⟨b1, o1 + k * 4 + 3, none⟩ = some (.int .i64 ep) ∧ W.cell? ⟨b2, o2 + k * 4, none⟩ = some (.int .i64 ek) ∧ W.cell? ⟨b2, o2 + k * 4 + 1, none⟩ = some (.string es) ∧ W.cell? ⟨b2, o2 + k * 4 + 2, none⟩ = some (.int .i64 en) ∧ W.cell? ⟨b2, o2 + k * 4 + 3, none⟩ = some (.int .i64 ep))
             (first | with_reducible exact cS)
             (first | fail)
           go_wp2
           go_roundw
           case rel => exact ⟨k + 1, by omega, by go_num, unhide KP2⟩
           case measure => simp [intOf]; omega)
    · go_wp2
      go_ret
      exact ⟨rfl, kp⟩
theorem rep32 (n : Nat) : Lib.repeatL [32] n = List.replicate n 32 := by
  induction n with
  | zero => rfl
  | succ n ih => rw [Lib.repeatL, ih, List.replicate_succ]; rfl
theorem repeat32_any (n : Nat) (w : World) (hn : n ≤ 262144) : Calls Tryz.prog 155 #[.string ⟨#[32]⟩, .int .i64 (n : Int)] w fun e w' => e = .returned (.string (txt (List.replicate n 32))) ∧ Below w.heap.size w w' := by
  have := Tryz.strings_Repeat ⟨#[32]⟩ n w (by omega) (by show 1 * n ≤ _; omega)
  have e : (⟨#[32]⟩ : ByteArray).data.toList = [32] := rfl
  rw [e, rep32] at this
  exact this
theorem joR_tok {t : Tk} (h : wrOk t = true ∨ ∃ n, t = endZ n) : joR [t] = (spell t, 0) := by
  rcases h with h | ⟨n, rfl⟩
  · obtain ⟨h0, _, _, _, h4⟩ := wr_facts h
    have e : isEnd [t] = false := by unfold isEnd; simpa using h0
    have e1 : cutL [t] = [t] := by unfold cutL; rw [e]; rfl
    have e2 : endT [t] = ⟨0, ⟨#[]⟩, 0, 0⟩ := by unfold endT; rw [e]; rfl
    have e3 : joinB [t] = spell t := by unfold joinB tailB; simp
    unfold joR
    rw [e1, e2, e3, if_neg (by simp), if_neg (not_not_intro (by simpa using h)), if_neg (not_not_intro ⟨rfl, rfl⟩), if_neg (by omega)]
  · have e : isEnd [endZ n] = true := rfl
    have e1 : cutL [endZ n] = [] := by unfold cutL; rw [e]; rfl
    have e2 : endT [endZ n] = endZ n := by unfold endT; rw [e]; rfl
    unfold joR
    rw [e1, e2, if_neg (by simp), if_neg (not_not_intro (by simp)), if_neg (not_not_intro ⟨rfl, rfl⟩), if_neg (by simp [joinB]), spell_end]
    rfl
end Go.Proofs.YtjijhefmbmdbeaaGreatDoor
namespace Go.Proofs.YtjijhefmbmdbeaaGreatDoor
open Go.RowKit Go.Shelf

/-- A tail of what was told of a text of so many bytes. -/
structure Tail (l : List Tk) (n : Nat) : Prop where
  ex : ∃ (s : List UInt8) (a r : List Tk), s.length = n ∧ toks s 0 0 = .good (a ++ r) ∧ l = r ++ [endZ n]
  le : n ≤ 262144
theorem Tail.fit {l : List Tk} {n : Nat} (h : Tail l n) (k : Nat) (hk : k < l.length) : 0 ≤ l[k].pl ∧ (lay (l.take k)).length ≤ l[k].pl.toNat ∧ l[k].pl.toNat ≤ n := by
  obtain ⟨s, a, r, h1, h2, rfl⟩ := h.ex
  obtain ⟨f, _, _⟩ := told_again h2
  rw [h1] at f
  exact fit_at f rfl k hk
theorem Tail.wr {l : List Tk} {n : Nat} (h : Tail l n) (k : Nat) (hk : k < l.length) : wrOk l[k] = true ∨ ∃ m, l[k] = endZ m := by
  obtain ⟨s, a, r, h1, h2, rfl⟩ := h.ex
  have hw := (toks_ok s 0 0 _ h2 (by omega)).2
  by_cases hr : k < r.length
  · left
    rw [List.getElem_append_left hr]
    exact hw _ (by rw [List.mem_append]; exact Or.inr (List.getElem_mem hr))
  · right
    exact ⟨n, by rw [List.getElem_append_right (by omega)]; simp⟩
theorem Tail.again {l : List Tk} {n : Nat} (h : Tail l n) : (lay l).length = n ∧ tsL (txt (lay l)).size (tsR (txt (lay l))) = l ∧ tsC (tsR (txt (lay l))) = 0 ∧ tsA (tsR (txt (lay l))) = 0 := by
  obtain ⟨s, a, r, h1, h2, rfl⟩ := h.ex
  obtain ⟨_, f2, f3⟩ := told_again h2
  rw [h1] at f2 f3
  have hle := h.le
  rw [lay_all]
  have e : tsR (txt (layF 0 r n)) = .good r := by
    unfold tsR
    rw [if_neg (by rw [txt_size]; omega), txt_list]
    exact f3
  rw [e]
  refine ⟨f2, ?_, rfl, rfl⟩
  rw [tsL, txt_size, f2]
  rfl
theorem Tail.len {l : List Tk} {n : Nat} (h : Tail l n) : l.length ≤ 4097 := by
  obtain ⟨s, a, r, h1, h2, rfl⟩ := h.ex
  have := (toks_ok s 0 0 _ h2 (by omega)).1
  rw [List.length_append] at this
  rw [List.length_append, List.length_singleton]
  omega
theorem Tail.ok {l : List Tk} {n : Nat} (h : Tail l n) : ∀ t ∈ l, t.ok := by
  obtain ⟨s, a, r, h1, h2, rfl⟩ := h.ex
  have := toks_fit s 0 0 _ h2 (by have := h.le; omega)
  intro t ht
  rcases List.mem_append.1 ht with ht | ht
  · exact this t (by simp [ht])
  · simp only [List.mem_singleton] at ht
    subst ht
    have := h.le
    exact ⟨⟨by show (-9223372036854775808 : Int) ≤ 0; omega, by show (0 : Int) ≤ 9223372036854775807; omega⟩, by show (0 : Nat) ≤ _; omega, ⟨by show (-9223372036854775808 : Int) ≤ 0; omega, by show (0 : Int) ≤ 9223372036854775807; omega⟩, by show (-9223372036854775808 : Int) ≤ (n : Int); omega, by show (n : Int) ≤ _; omega⟩
theorem Tail.endd {l : List Tk} {n : Nat} (h : Tail l n) : Endd l := by
  obtain ⟨s, a, r, h1, h2, rfl⟩ := h.ex
  exact endd_snoc r n
theorem Tail.drop {l : List Tk} {n : Nat} (h : Tail l n) (k : Nat) (hk : k < l.length) : Tail (l.drop k) n := by
  obtain ⟨s, a, r, h1, h2, rfl⟩ := h.ex
  rw [List.length_append, List.length_singleton] at hk
  refine ⟨⟨s, a ++ r.take k, r.drop k, h1, ?_, ?_⟩, h.le⟩
  · rw [List.append_assoc, List.take_append_drop]; exact h2
  · rw [List.drop_append_of_le_length (by omega)]
theorem Tail.lens {l : List Tk} {n : Nat} (h : Tail l n) (k : Nat) (hk : k ≤ l.length) : (lay (l.take k)).length ≤ 300000 := by
  have hle := h.le
  by_cases hl : k < l.length
  · have := h.fit k hl; omega
  · obtain rfl : k = l.length := by omega
    rw [List.take_length, h.again.1]
    omega
theorem Bld.kp {B b : Nat} {l : List UInt8} {w w' : World} (h : Bld B b l w) (hk : Kp [] w w') : Bld B b l w' := h.below (hk.below (Nat.le_refl _) (by simp))
theorem TksAt.piece {w : World} {b off : Nat} {l : List Tk} {j : Nat} (h : TksAt w (some ⟨b, off, none⟩) l) (hj : j < l.length) : TksAt w (some ⟨b, off + j * 4, none⟩) [l[j]] := fun _ => by
  obtain ⟨b', off', e, hlt, hc⟩ := h (fun e => by rw [e] at hj; simp at hj)
  cases e
  refine ⟨b, off + j * 4, rfl, hlt, fun i hi => ?_⟩
  obtain rfl : i = 0 := by simp at hi; omega
  simpa using hc j hj
set_option maxHeartbeats 4000000 in
set_option maxRecDepth 100000 in
theorem could_any (b off cap : Nat) (l : List Tk) (n : Nat) (hL : Tail l n) (w : World) (hT : TbE w) (hcap : l.length ≤ cap) (hcp : cap ≤ 9223372036854775807) (hA : TksAt w (some ⟨b, off, none⟩) l) :
    Calls Tryz.prog 130 #[.slice (some ⟨b, off, none⟩) l.length cap] w fun e w' => e = .returned (.bool true) ∧ Below w.heap.size w w' := by
  have hlen := hL.len
  have hle := hL.le
  have b0 := Bld.new w
  have HAT := hide hA
  have HTB := hide hT
  have HFT := hide (fun k hk => hL.fit k hk)
  have HWR := hide (fun k hk => joR_tok (hL.wr k hk))
  have HOK := hide (hL.ok)
  have HNX := hide (fun k (hk : k < l.length) => lay_next hk)
  have HLS := hide (fun k hk => hL.lens k hk)
  have HAG := hide hL.again
  have HLL : Hid (lay (l.take l.length) = lay l) := hide (by rw [List.take_length])
  have HB0 := hide b0
  have HBW0 : Hid (Below w.heap.size w (w.alloc (.cells #[.pointer none, .slice none 0 0] 108))) := hide ((Below.refl _ _).alloc (Nat.le_refl _) _)
  clear hA hT b0
  obtain ⟨m, hm⟩ : ∃ m, l.length = m := ⟨_, rfl⟩
  have HM := hide hm
  rw [hm] at hlen hcap HLL ⊢
  clear hm
  go_enter Tryz.func130, Tryz.ntmps130
  go_wp2_with fail
  go_loopw [12] (fun i wr => ∃ k : Nat, k ≤ m ∧ i = .int .i64 (k : Int) ∧ Hid (Bld w.heap.size w.heap.size (lay (l.take k)) wr) ∧ Hid (Below w.heap.size w wr)) (fun i _ => m - (intOf i).toNat)
  case atStart => exact ⟨0, Nat.zero_le _, rfl, HB0, HBW0⟩
  case round =>
    obtain ⟨k, hk, rfl, HBL, HBW⟩ := hrel
    by_cases hlt : k < m
    · have hkl : k < l.length := by rw [unhide HM]; exact hlt
      have hli : (k : Int) < (m : Int) := by omega
      have kw := Kp.ofBelow (unhide HBW)
      obtain ⟨_, _, e, hbl, x0, x1, x2, x3⟩ := ((unhide HAT).kp kw).at k hkl
      cases e
      have hp1 := ((unhide HAT).kp kw).piece hkl
      obtain ⟨f0, f1, f2⟩ := unhide HFT k hkl
      obtain ⟨P, hP⟩ := Int.eq_ofNat_of_zero_le f0
      have hjr := unhide HWR k hkl
      have hokk := unhide HOK _ (List.getElem_mem hkl)
      have HNX2 := hide (unhide HNX k hkl)
      have hl3 := unhide HLS k (by omega)
      unfold layA at HNX2
      rw [hP, Int.toNat_natCast] at f1 f2 HNX2
      rw [hP] at x3
      have hsp : (spell l[k]).length ≤ 300 := by
        rcases hL.wr k hkl with h | ⟨q, h⟩
        · have := (wr_facts h).2.2.2.2; omega
        · rw [h, spell_end]; simp
      generalize hK : l[k] = t at *
      generalize lay (l.take k) = LB at *
      obtain ⟨tk, ts, tn, tp⟩ := t
      dsimp only at hP x0 x1 x2 x3
      subst hP
      have ktk := Kp.alloc wr (.cells #[.int .i64 tk, .string ts, .int .i64 tn, .int .i64 (P : Int)] 74)
      have JN := join_any (some ⟨b, off + k * 4, none⟩) (cap - k) [⟨tk, ts, tn, (P : Int)⟩] _ ((((unhide HTB).kp kw (by simp)).kp ktk (by simp)).tok) (by simp) (by simp; omega) (hp1.kp ktk) (by simpa using hokk)
      rw [hjr, List.length_singleton] at JN
      dsimp only at JN
      have HJN := hide JN
      have bx := CBox.new wr #[.int .i64 tk, .string ts, .int .i64 tn, .int .i64 (P : Int)] 74
      have HBX := hide bx
      have HKT := hide ktk
      generalize spell ⟨tk, ts, tn, (P : Int)⟩ = SP at *
      have hck : ((cap : Int) - (k : Int)) = ((cap - k : Nat) : Int) := by omega
      have hsl1 : ¬ ((cap : Int) < (k : Int) + 1) := by omega
      clear JN bx ktk hp1 kw hokk hjr hK f0 HFT HWR HOK HNX HLS HAG HLL
      go_wp2_with fail
      refine (unhide HJN).mono ?_
      rintro e w2 ⟨rfl, hb2⟩
      have k2 := (unhide HKT).trans (Kp.ofBelow hb2) (by simp)
      have bx2 := (unhide HBX).kp (Kp.ofBelow hb2) (by simp)
      have c3 : w2.drew.cell? ⟨wr.heap.size, 3, none⟩ = some (.int .i64 (P : Int)) := bx2.cell rfl
      have hlt2 : wr.heap.size < w2.heap.size := (Array.getElem?_eq_some_iff.1 bx2).1
      have BL2 := ((unhide HBL).kp k2).kp (Kp.drew w2)
      have LN := hide (bLen_any _ _ _ w2.drew BL2)
      have HBX2 := hide bx2
      have HBL2 := hide ((unhide HBL).kp k2)
      have HBW2 := hide ((unhide HBW).trans (k2.below (unhide HBW).size (by simp)))
      have gd1 : ¬ ((P : Int) < (LB.length : Int)) := by omega
      have gd2 : ¬ ((262144 : Int) < (P : Int)) := by omega
      have gp1 : ((P : Int) < (LB.length : Int)) = False := by simp; omega
      have gp2 : ((262144 : Int) < (P : Int)) = False := by simp; omega
      have gp3 : (P < LB.length) = False := by simp; omega
      clear HJN hb2 k2 bx2 HKT HBX HBL HBW BL2 x0 x1 x2 x3
      generalize wr.heap.size = G at *
      go_wp2_with fail
      go_region_held3 (fun W => W.cell? ⟨G, 3, none⟩ = some (.int .i64 (P : Int)))
        (first | with_reducible exact c3)
        (first | (go_at_call 66; refine (unhide LN).mono ?_; rintro e w3 ⟨rfl, rfl⟩))
      clear LN gd1 gd2
      have HBX3 : Hid (CBox G #[.int .i64 tk, .string ts, .int .i64 tn, .int .i64 (P : Int)] 74 w2.drew) := hide (unhide HBX2)
      have HBL3 := hide ((unhide HBL2).kp (Kp.drew w2))
      have HBW3 := hide (unhide HBW2).drew
      have hlt3 : G < w2.drew.heap.size := hlt2
      clear HBX2 HBL2 HBW2 c3 hlt2
      generalize w2.drew = W3 at *
      have d3 : W3.drew.cell? ⟨G, 3, none⟩ = some (.int .i64 (P : Int)) := (unhide HBX3).cell rfl
      have LN := hide (bLen_any _ _ _ W3.drew ((unhide HBL3).kp (Kp.drew W3)))
      have hsub : ((P : Int) - (LB.length : Int)) = ((P - LB.length : Nat) : Int) := by omega
      have RP := hide (repeat32_any (P - LB.length) W3.drew (by omega))
      have HWS : Hid (∀ W, Below W3.drew.heap.size W3.drew W → Calls Tryz.prog 65 #[.pointer (some ⟨w.heap.size, 0, none⟩), .string (txt (List.replicate (P - LB.length) 32))] W fun e w' => e = .returned (.tuple #[.int .i64 (P - LB.length : Nat), .nilIface]) ∧ Bld w.heap.size w.heap.size (LB ++ List.replicate (P - LB.length) 32) w' ∧ Below w.heap.size W w') := hide (fun W hb => by
        have := writeString_any w.heap.size w.heap.size LB (txt (List.replicate (P - LB.length) 32)) W (((unhide HBL3).kp (Kp.drew W3)).below hb) (by rw [txt_size, List.length_replicate]; omega) (by have h1 := (unhide HBW3).size; have h2 := hb.size; have h3 : W3.drew.heap.size = W3.heap.size := rfl; omega)
        rw [txt_size, List.length_replicate, txt_list] at this
        exact this)
      have HNX3 : Hid (lay (l.take (k + 1)) = (LB ++ List.replicate (P - LB.length) 32) ++ SP) := hide (by rw [unhide HNX2, List.append_assoc])
      have hLL : (LB ++ List.replicate (P - LB.length) 32).length ≤ 700000 := by rw [List.length_append, List.length_replicate]; omega
      clear HNX2
      generalize LB ++ List.replicate (P - LB.length) 32 = LB2 at *
      generalize txt (List.replicate (P - LB.length) 32) = RS at *
      obtain ⟨PD, hPD⟩ : ∃ q, P - LB.length = q := ⟨_, rfl⟩
      rw [hPD] at RP HWS hsub
      have hPDb : PD ≤ 262144 := by omega
      have hPDw : IntKind.i64.wrap (PD : Int) = (PD : Int) := by rw [IntKind.wrap_i64]; omega
      clear hPD
      generalize LB.length = LBN at *
      go_wp2_with fail
      go_region_with (first | (go_at_call 65; refine (unhide WS4).mono ?_; rintro e w5 ⟨rfl, hbl5, hb5⟩) | (go_at_call 155; refine (unhide RP).mono ?_; rintro e w4 ⟨rfl, hb4⟩; have WS4 := hide (unhide HWS w4 hb4)) | (go_at_call 66; refine (unhide LN).mono ?_; rintro e w3 ⟨rfl, rfl⟩))
      all_goals
        have HB5 := hide (((unhide HBW3).drew.trans (hb4.mono (unhide HBW3).size)).trans hb5)
        have HL5 := hide hbl5
        have W6 := hide (writeString_any w.heap.size w.heap.size LB2 (txt SP) w5 hbl5 (by rw [txt_size]; omega) (unhide HB5).size)
        rw [txt_size, txt_list, ← unhide HNX3] at W6
        clear hbl5 hb5 hb4 WS4 RP LN HWS d3
        go_wp2_with fail
        refine (unhide W6).mono ?_
        rintro e w7 ⟨rfl, hbl7, hb7⟩
        have HB7 := hide ((unhide HB5).trans hb7)
        have HL7 := hide hbl7
        clear hbl7 hb7 W6 HB5 HL5
        go_wp2
        go_roundw
        case rel => exact ⟨k + 1, by omega, by go_num, HL7, HB7⟩
        case measure => simp [intOf]; omega
    · obtain rfl : k = m := by omega
      rw [unhide HLL] at HBL
      obtain ⟨a1, a2, a3, a4⟩ := unhide HAG
      have ST := hide (bString_any _ _ _ wr (unhide HBL) (unhide HBW).size)
      have hTr := (unhide HTB).below (unhide HBW) (unhide HTB).low
      have HTK : Hid (∀ W, Below w.heap.size wr W → Calls Tryz.prog 49 #[.string (txt (lay l))] W fun e w' => ∃ v, e = .returned (.tuple #[v, .agg #[.int .i64 0, .int .i64 0]]) ∧ OwnsK W.heap.size w' v l ∧ Below W.heap.size W w') := hide (fun W hb => by
        have := tokens_any (txt (lay l)) W (hTr.below hb (unhide HTB).low).tok (by rw [txt_size]; omega)
        rw [a2, a3, a4] at this
        exact this)
      have HEL : Hid (l.length = k) := HM
      clear a1 a2 a3 a4 HAG HLS HNX HWR HFT HOK HLL hTr HBL
      have es : (⟨(lay l).toArray⟩ : ByteArray) = txt (lay l) := rfl
      rw [es] at ST
      generalize txt (lay l) = SS at *
      clear es
      go_wp2_with fail
      refine (unhide ST).mono ?_
      rintro e w3 ⟨rfl, hb3⟩
      have TK := hide (unhide HTK w3 hb3)
      have HB3 := hide ((unhide HBW).trans hb3)
      clear ST hb3 HTK
      dsimp only
      go_wp2_with fail
      refine (unhide TK).mono ?_
      rintro e w4 ⟨v, rfl, ho, hb4⟩
      obtain ⟨av, cv, rfl, hav, _⟩ := ho.at
      have HB4 := hide ((unhide HB3).trans (hb4.mono (unhide HB3).size))
      have kf := Kp.alloc w4 (.cells #[.int .i64 0, .int .i64 0] 61)
      have HB5 := hide ((unhide HB4).trans (kf.below (unhide HB4).size (by simp)))
      have EQ := equalTks_any av (some ⟨b, off, none⟩) cv cap l _ (hav.kp kf) ((((unhide HAT).kp (Kp.ofBelow (unhide HB4)))).kp kf) (by rw [unhide HEL]; omega)
      rw [unhide HEL] at EQ
      have HEQ := hide EQ
      clear TK hb4 ho hav EQ HB3 kf
      rw [unhide HEL]
      go_wp2_with fail
      refine (unhide HEQ).mono ?_
      rintro e w6 ⟨rfl, hk6⟩
      have HB6 := hide ((unhide HB5).trans (hk6.below (unhide HB5).size (by simp)))
      clear HEQ hk6 HB5 HB4
      go_wp2
      go_ret
      exact ⟨rfl, unhide HB6⟩
end Go.Proofs.YtjijhefmbmdbeaaGreatDoor
namespace Go.Proofs.YtjijhefmbmdbeaaGreatDoor
open Go.RowKit Go.Shelf

/-- What Parse tells of tokens: parts, how many tokens, a fault. -/
def PsF (l : List Tk) (x : List Pt) (k : Nat) (A C : Int) : Prop :=
  (C = 0 ∧ A = 0 ∧ k ≤ l.length ∧ psR l = .good x (l.drop k) ∧ ckK x ≠ 0) ∨ (C = 110 ∧ k = 0 ∧ x = [] ∧ ((∃ q, psR l = .bad q ∧ A = hdPl q) ∨ (∃ y q, psR l = .good y q ∧ ckK y = 0 ∧ A = 0)))
theorem PsT.told {l : List Tk} {B : Nat} {e : Ending} {w' : World} (h : PsT l B (psR l) e w') : ∃ ad cp k A C x, e = .returned (.tuple #[.slice ad x.length cp, .int .i64 ((k : Nat) : Int), .agg #[.int .i64 A, .int .i64 C]]) ∧ OwnsP B w' (.slice ad x.length cp) x ∧ PsF l x k A C := by
  unfold PsT at h
  cases hP : psR l with
  | bad q =>
    rw [hP] at h
    exact ⟨none, 0, 0, _, _, [], h, OwnsP.nil _ _, Or.inr ⟨rfl, rfl, rfl, Or.inl ⟨q, hP, rfl⟩⟩⟩
  | good x q =>
    rw [hP] at h
    dsimp only at h
    split at h
    · rename_i h0
      exact ⟨none, 0, 0, _, _, [], h, OwnsP.nil _ _, Or.inr ⟨rfl, rfl, rfl, Or.inr ⟨x, q, hP, h0, rfl⟩⟩⟩
    · rename_i h0
      obtain ⟨v, k, h1, h2, h3, h4⟩ := h
      obtain ⟨ad, cp, rfl, _, _⟩ := h4.at
      exact ⟨ad, cp, k, 0, 0, x, h1, h4, Or.inl ⟨rfl, rfl, h2, by rw [hP, h3], h0⟩⟩
theorem TksAt.low {w : World} {b off cap : Nat} {l : List Tk} (h : TksAt w (some ⟨b, off, none⟩) l) (hl : l ≠ []) : TksLow w.heap.size w (.slice (some ⟨b, off, none⟩) l.length cap) l := by
  obtain ⟨b', off', e, hlt, hc⟩ := h hl
  cases e
  exact ⟨b, off, cap, rfl, hlt, hc⟩
set_option maxHeartbeats 2000000 in
set_option maxRecDepth 100000 in
theorem eparse_any (b off cap : Nat) (l : List Tk) (n : Nat) (hL : Tail l n) (w : World) (hT : TbE w) (hcap : l.length ≤ cap) (hcp : cap ≤ 9223372036854775807) (hA : TksAt w (some ⟨b, off, none⟩) l) :
    Calls Tryz.prog 119 #[.slice (some ⟨b, off, none⟩) l.length cap] w fun e w' => ∃ ad cp k A C x, e = .returned (.tuple #[.slice ad x.length cp, .int .i64 ((k : Nat) : Int), .agg #[.int .i64 A, .int .i64 C]]) ∧ OwnsP w.heap.size w' (.slice ad x.length cp) x ∧ PsF l x k A C ∧ Below w.heap.size w w' := by
  have kf := Kp.alloc w (.cells #[.int .i64 0, .int .i64 0] 61)
  have fb : FBox w.heap.size (w.alloc (.cells #[.int .i64 0, .int .i64 0] 61)) := CBox.new w _ _
  have CB := hide (could_any b off cap l n hL _ (hT.kp kf (by simp)) hcap hcp (hA.kp kf))
  have hlen := hL.len
  have PA := hide (fun W (hk : Kp [] w W) => parse_any (.slice (some ⟨b, off, none⟩) l.length cap) l W ((hA.kp hk).low hL.endd.ne) (hT.kp hk (by simp)) (by omega) (fun t ht => by
    obtain ⟨i, hi, rfl⟩ := List.mem_iff_getElem.1 ht
    rcases hL.wr i hi with h | ⟨q, h⟩
    · have := (wr_facts h).2.1; omega
    · rw [h]; show (0 : Nat) ≤ _; omega) hL.endd hL.ok)
  have HKF := hide kf
  have HFB := hide fb
  clear hA hT kf fb
  generalize l.length = LN at *
  go_enter Tryz.func119, Tryz.ntmps119
  go_wp2_with fail
  refine (unhide CB).mono ?_
  rintro e w1 ⟨rfl, hb1⟩
  have k1 := (unhide HKF).trans (Kp.ofBelow hb1) (by simp)
  have PA1 := hide (unhide PA w1 k1)
  have HFB1 : Hid (FBox w.heap.size w1) := hide (CBox.kp (unhide HFB) (Kp.ofBelow hb1) (by simp))
  have HB1 := hide (k1.below (Nat.le_refl _) (by simp))
  clear CB PA hb1 k1 HFB HKF
  go_wp2_with fail
  refine (unhide PA1).mono ?_
  rintro e w2 ⟨ht, hb2⟩
  obtain ⟨ad, cp, k, A, C, x, rfl, ho, hf⟩ := ht.told
  have fb2 : FBox w.heap.size w2 := CBox.kp (unhide HFB1) (Kp.ofBelow hb2) (by simp)
  obtain ⟨f0, f1, fz0, fz1⟩ := FBox.cells fb2
  have HB2 := hide ((unhide HB1).trans (hb2.mono (unhide HB1).size))
  have hs1 := (unhide HB1).size
  have HO2 : Hid (OwnsP w.heap.size ((w2.setCell ⟨w.heap.size, 0, none⟩ (.int .i64 A)).setCell ⟨w.heap.size, 1, none⟩ (.int .i64 C)) (.slice ad x.length cp) x) := hide (row_kp (F := [w.heap.size]) (ho.mono hs1) ((Kp.set w2 w.heap.size 0 (.int .i64 A)).trans (Kp.set (w2.setCell ⟨w.heap.size, 0, none⟩ (.int .i64 A)) w.heap.size 1 (.int .i64 C)) (by simp)) (fun g hg => by have := row_ne ho fb2 (by decide); rw [hg] at this; simp at this ⊢; exact this))
  have HFB2 := hide fb2
  have HPF := hide hf
  have HB3 := hide (two_below (unhide HB2) (Nat.le_refl _) (.int .i64 A) (.int .i64 C))
  clear PA1 hb2 ho hf fb2 ht HFB1 HB2 HB1
  dsimp only
  obtain ⟨XL, hXL⟩ : ∃ q, x.length = q := ⟨_, rfl⟩
  have HXL := hide hXL
  rw [hXL] at HO2 ⊢
  clear hXL
  go_wp2
  have q2 : CBox w.heap.size #[.int .i64 A, .int .i64 C] 61 ((w2.setCell ⟨w.heap.size, 0, none⟩ (.int .i64 A)).setCell ⟨w.heap.size, 1, none⟩ (.int .i64 C)) := (unhide HFB2).two _ _
  obtain ⟨z0, z1⟩ := two_cells q2
  exact bodyPost_ret (v := .tuple #[.slice ad XL cp, .int .i64 (k : Int), .agg #[.int .i64 A, .int .i64 C]]) (by simp [results, Tryz.results119, go_sem, z0, z1]) rfl ⟨ad, cp, k, A, C, x, by rw [unhide HXL], by rw [unhide HXL]; exact unhide HO2, unhide HPF, unhide HB3⟩
end Go.Proofs.YtjijhefmbmdbeaaGreatDoor
