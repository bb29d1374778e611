/-
  A row of parts that lies anywhere, copied; texts that are the same.
  Two rows of parts held against one another, plainly and by the law's own function.
  Read: any text is read as the plain function has it.
-/
import Derived.Test.YthipclehhcfahaaGreatDoorHC41
import Derived.Test.YthipclehhcfahaaGreatDoorHC33
import Derived.Test.YthipclehhcfahaaGreatDoorHC17
import Derived.Test.YthipclehhcfahaaGreatDoorHC20
import Derived.Deep.RegionHeld3
namespace Go.Proofs.YthipclehhcfahaaGreatDoor
open Go.RowKit Go.Shelf

theorem OwnsP.empty (w : World) : OwnsP w.heap.size (w.alloc (.cells #[] 53)) (.slice (some ⟨w.heap.size, 0, none⟩) 0 0) [] :=
  ⟨rfl, Or.inr ⟨w.heap.size, 0, #[], rfl, Nat.le_refl _, CBox.new w _ _, Nat.le_refl _, by unfold maxLen; omega, rfl, rfl⟩⟩
/-- append([]Part{}, x...). -/
theorem run_copy_parts {w : World} {ad : Option Addr} {c : Nat} {x : List Pt} (h : PtsAt w ad x) (ha : ad = none → c = 0) (hl : x.length * 56 ≤ 140737488351232) (ty : TypeId) :
    ∃ g cap w', (Builtin.append_ #[22, 22] ty #[.slice (some ⟨w.heap.size, 0, none⟩) 0 0, .slice ad x.length c]).run Tryz.prog (w.alloc (.cells #[] 53)) = .ok (.slice (some ⟨g, 0, none⟩) x.length cap) w' ∧ OwnsP w.heap.size w' (.slice (some ⟨g, 0, none⟩) x.length cap) x ∧ Kp [] w w' := by
  obtain ⟨i0, hi, hz0, hz1, hz2⟩ := info_parts info_Pt
  have ho := OwnsP.empty w
  have k0 := Kp.alloc w (.cells #[] 53)
  have hz : (w.alloc (.cells #[] 53)).heap.size = w.heap.size + 1 := by simp
  cases ad with
  | none =>
    obtain rfl := ha rfl
    obtain rfl : x = [] := by
      rcases x with _ | ⟨p, r⟩
      · rfl
      · obtain ⟨b, off, e, _⟩ := h (by simp)
        cases e
    exact ⟨w.heap.size, 0, _, by simpa using run_append_owned_none (P := Tryz.prog) (w := w.alloc (.cells #[] 53)) w.heap.size _ ty 53 i0 5 Tryz.underlying22 hi _ _ _ ho, ho, k0⟩
  | some a =>
    by_cases h0 : x = []
    · subst h0
      have := run_append_room_cells (P := Tryz.prog) (w := w.alloc (.cells #[] 53)) 22 ty 53 i0 Tryz.underlying22 hi w.heap.size 0 0 0 a 0 c [] (by simp) (fun j u hj => by simp at hj) (fun u hu => by cases hu) (by omega) (fun j hj => absurd hj (by simp)) (fun j hj => absurd hj (by simp))
      exact ⟨w.heap.size, 0, _, by simpa [World.setCells] using this, ho, k0⟩
    · obtain ⟨b, off, e, _⟩ := id (h h0)
      cases e
      have h' := h.kp k0
      have ho0 : (w.alloc (.cells #[] 53)).ownsRow 0 53 5 (.slice (some ⟨w.heap.size, 0, none⟩) 0 0) 0 [] := ho.mono (Nat.zero_le _)
      obtain ⟨g, cap, w', hr, r1, r2, r3⟩ := run_app_any (P := Tryz.prog) (w := w.alloc (.cells #[] 53)) 22 ty 53 i0 (.agg #[.int .i64 0, .int .i64 0, .string ⟨#[]⟩, .string ⟨#[]⟩, .int .i64 0]) 5 56 Tryz.underlying22 hi hz0 hz1 hz2 rfl (by decide) ho0 (some ⟨b, off, none⟩) x.length c (x.flatMap ptE) (flat_len ptE 5 ptE_len x) (fun h => by cases h) (fun a h => by cases h; rfl) (fun a h => by cases h; exact pts_cells h') (ptE_one x) (by unfold maxLen; omega) (by omega)
      rw [Nat.zero_add] at hr r1
      have hg : w.heap.size ≤ g := by rcases r3 with e | e <;> omega
      refine ⟨g, cap, w', hr, OwnsP.base (n := x.length) ?_ hg, k0.trans (Kp.of r2) (fun y hy => Or.inr (by simp at hy; omega))⟩
      simpa [OwnsP] using r1
set_option maxHeartbeats 1000000 in
theorem sameTx_true (a1 a2 : Option Addr) (c1 c2 : Nat) (l : List ByteArray) (w : World) (h1 : NmsAt w a1 l) (h2 : NmsAt w a2 l) (hl : l.length ≤ 9223372036854775807) :
    Calls Tryz.prog 15 #[.slice a1 l.length c1, .slice a2 l.length c2] w fun e w' => e = .returned (.bool true) ∧ Kp [] w w' := by
  have H1 := hide h1
  have H2 := hide h2
  clear h1 h2
  go_enter Tryz.func15, Tryz.ntmps15
  go_wp2
  go_loopw [5] (fun i wr => ∃ k n : Nat, k ≤ l.length ∧ i = .int .i64 (k : Int) ∧ wr = w.drewN n) (fun i _ => l.length - (intOf i).toNat)
  case atStart => exact ⟨0, 0, Nat.zero_le _, rfl, rfl⟩
  case round =>
    obtain ⟨k, n, hk, rfl, rfl⟩ := hrel
    by_cases hlt : k < l.length
    · have hne : l ≠ [] := fun e => by rw [e] at hlt; simp at hlt
      obtain ⟨b1, o1, rfl, _, q1⟩ := unhide H1 hne
      obtain ⟨b2, o2, rfl, _, q2⟩ := unhide H2 hne
      have x0 := q1 k hlt
      have y0 := q2 k hlt
      have hli : (k : Int) < (l.length : Int) := by omega
      clear q1 q2 hne H1 H2
      generalize l[k] = x at *
      go_wp2
      go_quiet (fail)
      go_wp2
      go_roundw
      case rel => exact ⟨k + 1, _, by omega, by go_num, rfl⟩
      case measure => simp [intOf]; omega
    · go_wp2
      go_ret
      exact ⟨rfl, Kp.drewQ _ _⟩
end Go.Proofs.YthipclehhcfahaaGreatDoor
namespace Go.Proofs.YthipclehhcfahaaGreatDoor
open Go.RowKit

/-- The same parts? -/
def ptsEq : List Pt → List Pt → Bool
  | [], [] => true
  | a :: x, b :: y => ptEq a b && ptsEq x y
  | _, _ => false
theorem ptsEq_iff (x y : List Pt) : ptsEq x y = true ↔ x = y := by
  induction x generalizing y with
  | nil => cases y <;> simp [ptsEq]
  | cons a x ih =>
    cases y with
    | nil => simp [ptsEq]
    | cons b y => rw [ptsEq, Bool.and_eq_true, ptEq_iff, ih]; simp
theorem ptsEq_self (x : List Pt) : ptsEq x x = true := (ptsEq_iff x x).2 rfl
theorem ptsEq_no {x y : List Pt} (h : x ≠ y) : ptsEq x y = false := by
  cases hb : ptsEq x y with
  | false => rfl
  | true => exact absurd ((ptsEq_iff x y).1 hb) h
theorem take_same {x y : List Pt} {k : Nat} (hx : k < x.length) (hy : k < y.length) (h : x.take k = y.take k) (he : x[k] = y[k]) : x.take (k + 1) = y.take (k + 1) := by
  rw [List.take_succ_eq_append_getElem hx, List.take_succ_eq_append_getElem hy, h, he]
set_option maxHeartbeats 2000000 in
set_option maxRecDepth 100000 in
theorem same_any (a1 a2 : Option Addr) (c1 c2 : Nat) (x y : List Pt) (w : World) (hlx : x.length ≤ 9223372036854775807) (h1 : PtsAt w a1 x) (h2 : PtsAt w a2 y) :
    Calls Tryz.prog 16 #[.slice a1 x.length c1, .slice a2 y.length c2] w fun e w' => e = .returned (.bool (ptsEq x y)) ∧ Kp [] w w' := by
  have HR : Hid (∀ b, ptsEq x y = b → ptsEq x y = b) := hide (fun b h => h)
  by_cases hl : x.length = y.length
  · have HN : Hid (∀ k (hx : k < x.length) (hy : k < y.length), x[k] ≠ y[k] → ptsEq x y = false) := hide (fun k hx hy hne => ptsEq_no (fun e => hne (by subst e; rfl)))
    have HY : Hid (x.take x.length = y.take x.length → ptsEq x y = true) := hide (fun h => by
      rw [List.take_length, hl, List.take_length] at h
      rw [h]
      exact ptsEq_self y)
    have HT : Hid (∀ k (hx : k < x.length) (hy : k < y.length), x.take k = y.take k → x[k] = y[k] → x.take (k + 1) = y.take (k + 1)) := hide (fun k hx hy h he => take_same hx hy h he)
    have H1 := hide h1
    have H2 := hide h2
    clear h1 h2 HR
    obtain ⟨n, hn⟩ : ∃ n, x.length = n := ⟨_, rfl⟩
    have hn2 : y.length = n := by omega
    have HL1 := hide hn
    have HL2 := hide hn2
    rw [hn] at HY hlx
    rw [hn, hn2]
    clear hl hn hn2
    generalize ptsEq x y = R at *
    go_enter Tryz.func16, Tryz.ntmps16
    go_wp2
    go_loopw [5] (fun i wr => ∃ k : Nat, k ≤ n ∧ i = .int .i64 (k : Int) ∧ Kp [] w wr ∧ Hid (x.take k = y.take k)) (fun i _ => n - (intOf i).toNat)
    case atStart => exact ⟨0, Nat.zero_le _, rfl, Kp.refl _ _, hide rfl⟩
    case round =>
      obtain ⟨k, hk, rfl, kp, HK⟩ := hrel
      by_cases hlt : k < n
      · have hkx : k < x.length := by rw [unhide HL1]; exact hlt
        have hky : k < y.length := by rw [unhide HL2]; exact hlt
        have kp2 := kp.trans (Kp.drew wr) (by simp)
        obtain ⟨b1, o1, rfl, _, x0, x1, x2, x3, x4⟩ := ((unhide H1).kp kp2).at k hkx
        obtain ⟨b2, o2, rfl, _, y0, y1, y2, y3, y4⟩ := ((unhide H2).kp kp2).at k hky
        have hli : (k : Int) < (n : Int) := by omega
        have EQ := fun W => eqP 9998 x[k] y[k] W
        have NX : Hid (ptEq x[k] y[k] = true → x.take (k + 1) = y.take (k + 1)) := hide (fun h => unhide HT k hkx hky (unhide HK) ((ptEq_iff _ _).1 h))
        have NO : Hid (ptEq x[k] y[k] = false → R = false) := hide (fun h => unhide HN k hkx hky (fun e => by rw [(ptEq_iff _ _).2 e] at h; cases h))
        have KP := hide kp2
        clear H1 H2 kp kp2 HK HN HT HY
        unfold Pt.v at EQ
        generalize ptEq x[k] y[k] = B at *
        generalize x[k] = p at *
        generalize y[k] = q at *
        clear hkx hky
        obtain ⟨pk, pn, ps, pt, pf⟩ := p
        obtain ⟨qk, qn, qs, qt, qf⟩ := q
        dsimp only at x0 x1 x2 x3 x4 y0 y1 y2 y3 y4 EQ
        have cS := And.intro x0 (And.intro x1 (And.intro x2 (And.intro x3 (And.intro x4 (And.intro y0 (And.intro y1 (And.intro y2 (And.intro y3 y4))))))))
        clear x0 x1 x2 x3 x4 y0 y1 y2 y3 y4
        go_wp2_with fail
        go_region_held3 (fun W => W.cell? ⟨b1, o1 + k * 5, none⟩ = some (.int .i64 pk) ∧ W.cell? ⟨b1, o1 + k * 5 + 1, none⟩ = some (.int .i64 pn) ∧ W.cell? ⟨b1, o1 + k * 5 + 2, none⟩ = some (.string ps) ∧ W.cell? ⟨b1, o1 + k * 5 + 3, none⟩ = some (.string pt) ∧ W.cell? ⟨b1, o1 + k * 5 + 4, none⟩ = some (.int .i64 pf) ∧ W.cell? ⟨b2, o2 + k * 5, none⟩ = some (.int .i64 qk) ∧ W.cell? ⟨b2, o2 + k * 5 + 1, none⟩ = some (.int .i64 qn) ∧ W.cell? ⟨b2, o2 + k * 5 + 2, none⟩ = some (.string qs) ∧ W.cell? ⟨b2, o2 + k * 5 + 3, none⟩ = some (.string qt) ∧ W.cell? ⟨b2, o2 + k * 5 + 4, none⟩ = some (.int .i64 qf))
          (first | with_reducible exact cS)
          (first | fail)
        clear EQ cS
        cases B with
        | true =>
          have NX2 := hide (unhide NX rfl)
          clear NX NO
          go_wp2
          go_roundw
          case rel => exact ⟨k + 1, by omega, by go_num, unhide KP, NX2⟩
          case measure => simp [intOf]; omega
        | false =>
          obtain rfl := unhide NO rfl
          clear NX NO
          go_wp2
          go_ret
          exact ⟨rfl, unhide KP⟩
      · obtain rfl : k = n := by omega
        obtain rfl := unhide HY (unhide HK)
        clear HY HN
        go_wp2
        go_ret
        exact ⟨rfl, kp⟩
  · have hR : ptsEq x y = false := ptsEq_no (fun e => hl (by rw [e]))
    rw [hR]
    have g : ((x.length : Int) == (y.length : Int)) = false := beq_eq_false_iff_ne.2 (by omega)
    clear hR h1 h2 HR
    go_enter Tryz.func16, Tryz.ntmps16
    go_wp2
    go_ret
    exact ⟨rfl, Kp.refl _ _⟩
end Go.Proofs.YthipclehhcfahaaGreatDoor
namespace Go.Proofs.YthipclehhcfahaaGreatDoor
open Go.RowKit Go.Shelf

theorem OwnsK.low {B : Nat} {w : World} {v : Value} {l : List Tk} (h : OwnsK B w v l) (hl : l ≠ []) : TksLow w.heap.size w v l := by
  obtain ⟨ad, cp, rfl, ha, _⟩ := h.at
  obtain ⟨b, off, rfl, hlt, hc⟩ := ha hl
  exact ⟨b, off, cp, rfl, hlt, hc⟩
/-- What Read tells. -/
def RdT (B : Nat) (o : RO) (e : Ending) (w' : World) : Prop := ∃ v, e = .returned (.tuple #[v, .agg #[.int .i64 o.at_, .int .i64 o.c]]) ∧ OwnsP B w' v o.x
theorem RdT.nil {B : Nat} {o : RO} {a c : Int} {w' : World} (h : o = ⟨[], a, c⟩) : RdT B o (.returned (.tuple #[.slice none 0 0, .agg #[.int .i64 a, .int .i64 c]])) w' := by
  subst h
  exact ⟨_, rfl, OwnsP.nil _ _⟩
theorem RdT.parts {B : Nat} {o : RO} {x : List Pt} {v : Value} {w' : World} (h : o = ⟨x, 0, 0⟩) (ho : OwnsP B w' v x) : RdT B o (.returned (.tuple #[v, .agg #[.int .i64 0, .int .i64 0]])) w' := by
  subst h
  exact ⟨v, rfl, ho⟩
theorem tk_sz (s : ByteArray) (ts : List Tk) (h : tsR s = .good ts) : ∀ t ∈ ts ++ [endZ s.size], t.s.size ≤ 140737488351232 := by
  rcases tsR_code s with ⟨ts', h1, h2, _⟩ | ⟨_, hc⟩
  · rw [h] at h1
    cases h1
    intro t ht
    rcases List.mem_append.1 ht with h1 | h1
    · have := ((wrOk_iff t).1 ((toks_ok _ 0 0 ts h2 (by omega)).2 t h1)).1
      omega
    · simp only [List.mem_singleton] at h1
      subst h1
      have : (endZ s.size).s.size = 0 := rfl
      omega
  · rw [h] at hc
    exact absurd rfl hc
/-- Two faults beside one another: one is written. -/
theorem rd_flt {a b : Nat} {w : World} (ha : FBox a w) (hb : FBox b w) (hne : a ≠ b) (x y : Value) : (((w.setCell ⟨b, 0, none⟩ x).setCell ⟨b, 1, none⟩ y).cell? ⟨b, 0, none⟩ = some x ∧ ((w.setCell ⟨b, 0, none⟩ x).setCell ⟨b, 1, none⟩ y).cell? ⟨b, 1, none⟩ = some y) ∧ FBox a ((w.setCell ⟨b, 0, none⟩ x).setCell ⟨b, 1, none⟩ y) :=
  ⟨two_cells (hb.two x y), CBox.kp (CBox.kp ha (Kp.set _ _ _ _) (by simpa using hne)) (Kp.set _ _ _ _) (by simpa using hne)⟩
/-- Writing a fault touches no row of parts. -/
theorem OwnsP.flt {B b : Nat} {w : World} {v : Value} {l : List Pt} (h : OwnsP B w v l) (hb : FBox b w) (x y : Value) : OwnsP B ((w.setCell ⟨b, 0, none⟩ x).setCell ⟨b, 1, none⟩ y) v l := by
  refine row_kp (F := [b]) h ((Kp.set w b 0 x).trans (Kp.set (w.setCell ⟨b, 0, none⟩ x) b 1 y) (by simp)) (fun g hg => ?_)
  have := row_ne h hb (by decide)
  rw [hg] at this
  simpa using this
set_option maxHeartbeats 4000000 in
set_option maxRecDepth 100000 in
theorem eread_any (s : ByteArray) (w : World) (hT : TbE w) (hs : s.size ≤ 9223372036854775807) :
    Calls Tryz.prog 22 #[.string s] w fun e w' => RdT w.heap.size (rdO s) e w' ∧ Below w.heap.size w w' := by
  have TK := tokens_any s (w.alloc (.cells #[.int .i64 0, .int .i64 0] 47)) (hT.alloc _).tok hs
  have hf0 : FBox w.heap.size (w.alloc (.cells #[.int .i64 0, .int .i64 0] 47)) := CBox.new w _ _
  have hl0 := hf0.lt
  have hb0 : Below w.heap.size w (w.alloc (.cells #[.int .i64 0, .int .i64 0] 47)) := (Below.refl _ _).alloc (Nat.le_refl _) _
  cases hR : tsR s with
  | bad k c =>
    have hc : (c == 0) = false := by
      rcases tsR_code s with ⟨ts, h1, _, _⟩ | ⟨_, h2⟩
      · rw [hR] at h1; cases h1
      · rw [hR] at h2; simpa [tsC] using h2
    have HPB : Hid (∀ W, RdT w.heap.size (rdO s) (.returned (.tuple #[.slice none 0 0, .agg #[.int .i64 (k : Int), .int .i64 c]])) W) := hide (fun W => RdT.nil (by unfold rdO; rw [hR]))
    rw [hR] at TK
    have HTK : Hid (Calls Tryz.prog 38 #[.string s] (w.alloc (.cells #[.int .i64 0, .int .i64 0] 47)) fun e w' => ∃ ad n cp, e = .returned (.tuple #[.slice ad n cp, .agg #[.int .i64 (k : Int), .int .i64 c]]) ∧ FBox w.heap.size w' ∧ Below w.heap.size w w') := hide (TK.mono fun e w' ⟨v, h1, h2, h3⟩ => by
      obtain ⟨ad, cp, rfl, _⟩ := h2.at
      exact ⟨ad, _, cp, h1, hf0.below h3 hl0, hb0.trans (h3.mono (by simp))⟩)
    clear TK hR hf0 hb0 hT hl0
    go_enter Tryz.func22, Tryz.ntmps22
    go_wp2_with fail
    refine (unhide HTK).mono ?_
    rintro e w1 ⟨ad, n, cp, rfl, fb1, hb1⟩
    have q1 : CBox w1.heap.size #[.int .i64 (k : Int), .int .i64 c] 47 (w1.alloc (.cells #[.int .i64 (k : Int), .int .i64 c] 47)) := CBox.new w1 _ _
    have fb2 : FBox w.heap.size (w1.alloc (.cells #[.int .i64 (k : Int), .int .i64 c] 47)) := CBox.kp fb1 (Kp.alloc _ _) (by simp)
    have hl1 := fb1.lt
    obtain ⟨c0, c1⟩ := two_cells q1
    obtain ⟨f0, f1, fz0, fz1⟩ := fb2.cells
    have HF := hide fb2
    have HB := hide (hb1.alloc (by omega) (.cells #[.int .i64 (k : Int), .int .i64 c] 47))
    clear fb1 fb2 hb1 q1 HTK
    go_wp2_with fail
    generalize w1.alloc (.cells #[.int .i64 (k : Int), .int .i64 c] 47) = W at *
    generalize w1.heap.size = G at *
    go_region
    go_wp2
    have q2 : CBox w.heap.size #[.int .i64 (k : Int), .int .i64 c] 47 (((W.setCell ⟨w.heap.size, 0, none⟩ (.int .i64 (k : Int))).setCell ⟨w.heap.size, 1, none⟩ (.int .i64 c)).drew) := (unhide HF).two _ _
    obtain ⟨z0, z1⟩ := two_cells q2
    exact bodyPost_ret (v := .tuple #[.slice none 0 0, .agg #[.int .i64 (k : Int), .int .i64 c]]) (by simp [results, Tryz.results22, go_sem, z0, z1]) rfl ⟨unhide HPB _, (two_below (unhide HB) (Nat.le_refl _) _ _).drew⟩
  | good ts =>
    have hne : ts ++ [endZ s.size] ≠ [] := by simp
    have hsz := tk_sz s ts hR
    have hok := tsL_ok s
    have hlen := tsL_len s
    have hRO : rdO s = rdG s.size ts := by unfold rdO; rw [hR]
    rw [hR] at TK hok hlen
    have e1 : tsL s.size (.good ts) = ts ++ [endZ s.size] := rfl
    have e2 : tsA (.good ts) = 0 := rfl
    have e3 : tsC (.good ts) = 0 := rfl
    rw [e1, e2, e3] at TK
    rw [e1] at hok hlen
    clear e1 e2 e3
    have hE := endd_snoc ts s.size
    have hRG : rdG s.size ts = match psR (ts ++ [endZ s.size]) with
      | .bad q => ⟨[], hdPl q, 110⟩
      | .good x q => if ckK x = 0 then ⟨[], 0, 110⟩ else if hdKd q = 0 then ⟨x, 0, 0⟩ else ⟨[], hdPl q, 110⟩ := rfl
    have HRO := hide (hRO.trans hRG)
    clear hRO hRG hR
    generalize ts ++ [endZ s.size] = L at *
    have HTK : Hid (Calls Tryz.prog 38 #[.string s] (w.alloc (.cells #[.int .i64 0, .int .i64 0] 47)) fun e w' => ∃ b off cp, e = .returned (.tuple #[.slice (some ⟨b, off, none⟩) L.length cp, .agg #[.int .i64 0, .int .i64 0]]) ∧ FBox w.heap.size w' ∧ Below w.heap.size w w' ∧ TksLow w'.heap.size w' (.slice (some ⟨b, off, none⟩) L.length cp) L) := hide (TK.mono fun e w' ⟨v, h1, h2, h3⟩ => by
      obtain ⟨b, off, cp, rfl, hlt, hc⟩ := h2.low hne
      exact ⟨b, off, cp, h1, hf0.below h3 hl0, hb0.trans (h3.mono (by simp)), ⟨b, off, cp, rfl, hlt, hc⟩⟩)
    have HTb := hide hT
    have HSZ := hide hsz
    have HOK := hide hok
    have HE := hide hE
    clear TK hf0 hb0 hT hl0 hsz hok hE hne
    go_enter Tryz.func22, Tryz.ntmps22
    go_wp2_with fail
    refine (unhide HTK).mono ?_
    rintro e w1 ⟨b, off, cp, rfl, fb1, hb1, ht1⟩
    have q1 : CBox w1.heap.size #[.int .i64 0, .int .i64 0] 47 (w1.alloc (.cells #[.int .i64 0, .int .i64 0] 47)) := CBox.new w1 _ _
    have fb2 : FBox w.heap.size (w1.alloc (.cells #[.int .i64 0, .int .i64 0] 47)) := CBox.kp fb1 (Kp.alloc _ _) (by simp)
    have hl1 := fb1.lt
    have hb2 := hb1.alloc (by omega) (.cells #[.int .i64 0, .int .i64 0] 47)
    have ht2 : TksLow (w1.alloc (.cells #[.int .i64 0, .int .i64 0] 47)).heap.size (w1.alloc (.cells #[.int .i64 0, .int .i64 0] 47)) (.slice (some ⟨b, off, none⟩) L.length cp) L := (ht1.below ((Below.refl _ _).alloc (Nat.le_refl _) _)).mono (by simp)
    have hT2 := (unhide HTb).below hb2 (unhide HTb).low
    have PA := parse_any (.slice (some ⟨b, off, none⟩) L.length cp) L _ ht2 hT2 (by omega) (unhide HSZ) (unhide HE) (unhide HOK)
    have hl2 : w1.heap.size < (w1.alloc (.cells #[.int .i64 0, .int .i64 0] 47)).heap.size := by simp
    obtain ⟨c0, c1⟩ := two_cells q1
    have hlW := hb2.size
    have HL : Hid (∀ w3, Below (w1.alloc (.cells #[.int .i64 0, .int .i64 0] 47)).heap.size (w1.alloc (.cells #[.int .i64 0, .int .i64 0] 47)) w3 → FBox w.heap.size w3 ∧ FBox w1.heap.size w3 ∧ Hid (Below w.heap.size w w3) ∧ Hid (TksLow w1.heap.size w3 (.slice (some ⟨b, off, none⟩) L.length cp) L)) := hide (fun w3 hb3 => ⟨fb2.below hb3 fb2.lt, FBox.below q1 hb3 hl2, hide (hb2.trans (hb3.mono hlW)), hide (ht1.below (((Below.refl _ _).alloc (Nat.le_refl _) _).trans (hb3.mono (by simp))))⟩)
    have HPA := hide PA
    have hend := (pRd_ok (mRd 0 L) 0 0 [] L (unhide HE)).1
    have hP0 : psR L = pRd (mRd 0 L) 0 0 [] L := rfl
    rw [← hP0] at hend
    clear fb1 hb1 ht1 HTK HTb HSZ HOK fb2 hb2 ht2 hT2 PA q1 hP0 HE
    go_wp2_with fail
    refine (unhide HPA).mono ?_
    rintro e w3 ⟨hPs, hb3⟩
    obtain ⟨fb3, fd3, HB, HT3⟩ := unhide HL w3 hb3
    have hl3 : w1.heap.size < w3.heap.size := fd3.lt
    clear HPA HL hb3 c0 c1
    cases hP : psR L with
    | bad q =>
      cases q with
      | nil => rw [hP] at hend; exact absurd rfl hend.1.ne
      | cons t r =>
        rw [hP] at hPs
        obtain rfl := hPs
        have HPB : Hid (∀ W, RdT w.heap.size (rdO s) (.returned (.tuple #[.slice none 0 0, .agg #[.int .i64 t.pl, .int .i64 110]])) W) := hide (fun W => RdT.nil (by rw [unhide HRO, hP]; rfl))
        obtain ⟨f0, f1, fz0, fz1⟩ := fd3.cells
        obtain ⟨A, hA⟩ : ∃ A, t.pl = A := ⟨_, rfl⟩
        rw [hA] at HPB
        have hret : Ending.returned (.tuple #[.slice none 0 0, .int .i64 0, .agg #[.int .i64 (hdPl (t :: r)), .int .i64 110]]) = .returned (.tuple #[.slice none 0 0, .int .i64 0, .agg #[.int .i64 A, .int .i64 110]]) := by rw [← hA]; rfl
        rw [hret]
        have HF := hide (rd_flt fb3 fd3 (by omega) (.int .i64 A) (.int .i64 110))
        have HB5 := hide (two_below (unhide HB) (show w.heap.size ≤ w1.heap.size by omega) (.int .i64 A) (.int .i64 110))
        clear hret hA hP hend HT3 fb3 fd3 HB
        go_wp2_with fail
        generalize (w3.setCell ⟨w1.heap.size, 0, none⟩ (.int .i64 A)).setCell ⟨w1.heap.size, 1, none⟩ (.int .i64 110) = W at *
        obtain ⟨⟨c0, c1⟩, fbW⟩ := unhide HF
        obtain ⟨g0, g1, gz0, gz1⟩ := fbW.cells
        have hlt := fbW.lt
        have HFW := hide fbW
        clear fbW HF f0 f1 fz0 fz1
        generalize w1.heap.size = G at *
        go_region
        go_wp2
        have q2 : CBox w.heap.size #[.int .i64 A, .int .i64 110] 47 (((W.setCell ⟨w.heap.size, 0, none⟩ (.int .i64 A)).setCell ⟨w.heap.size, 1, none⟩ (.int .i64 110)).drew) := (unhide HFW).two _ _
        obtain ⟨z0, z1⟩ := two_cells q2
        exact bodyPost_ret (v := .tuple #[.slice none 0 0, .agg #[.int .i64 A, .int .i64 110]]) (by simp [results, Tryz.results22, go_sem, z0, z1]) rfl ⟨unhide HPB _, (two_below (unhide HB5) (Nat.le_refl _) _ _).drew⟩
    | good x q =>
      rw [hP] at hPs hend
      unfold PsT at hPs
      dsimp only at hPs
      by_cases h0 : ckK x = 0
      · rw [if_pos h0] at hPs
        obtain rfl := hPs
        have HPB : Hid (∀ W, RdT w.heap.size (rdO s) (.returned (.tuple #[.slice none 0 0, .agg #[.int .i64 0, .int .i64 110]])) W) := hide (fun W => RdT.nil (by rw [unhide HRO, hP]; dsimp only; rw [if_pos h0]))
        obtain ⟨f0, f1, fz0, fz1⟩ := fd3.cells
        have HF := hide (rd_flt fb3 fd3 (by omega) (.int .i64 0) (.int .i64 110))
        have HB5 := hide (two_below (unhide HB) (show w.heap.size ≤ w1.heap.size by omega) (.int .i64 0) (.int .i64 110))
        clear hP hend HT3 fb3 fd3 HB h0
        go_wp2_with fail
        generalize (w3.setCell ⟨w1.heap.size, 0, none⟩ (.int .i64 0)).setCell ⟨w1.heap.size, 1, none⟩ (.int .i64 110) = W at *
        obtain ⟨⟨c0, c1⟩, fbW⟩ := unhide HF
        obtain ⟨g0, g1, gz0, gz1⟩ := fbW.cells
        have hlt := fbW.lt
        have HFW := hide fbW
        clear fbW HF f0 f1 fz0 fz1
        generalize w1.heap.size = G at *
        go_region
        go_wp2
        have q2 : CBox w.heap.size #[.int .i64 0, .int .i64 110] 47 (((W.setCell ⟨w.heap.size, 0, none⟩ (.int .i64 0)).setCell ⟨w.heap.size, 1, none⟩ (.int .i64 110)).drew) := (unhide HFW).two _ _
        obtain ⟨z0, z1⟩ := two_cells q2
        exact bodyPost_ret (v := .tuple #[.slice none 0 0, .agg #[.int .i64 0, .int .i64 110]]) (by simp [results, Tryz.results22, go_sem, z0, z1]) rfl ⟨unhide HPB _, (two_below (unhide HB5) (Nat.le_refl _) _ _).drew⟩
      · rw [if_neg h0] at hPs
        obtain ⟨v, k, rfl, hkl, hq, ho⟩ := hPs
        obtain ⟨ad, cx, rfl, _, _⟩ := ho.at
        obtain ⟨f0, f1, fz0, fz1⟩ := fd3.cells
        have HF := hide (rd_flt fb3 fd3 (by omega) (.int .i64 0) (.int .i64 0))
        have HB5 := hide (two_below (unhide HB) (show w.heap.size ≤ w1.heap.size by omega) (.int .i64 0) (.int .i64 0))
        have HO5 : Hid (OwnsP w.heap.size ((w3.setCell ⟨w1.heap.size, 0, none⟩ (.int .i64 0)).setCell ⟨w1.heap.size, 1, none⟩ (.int .i64 0)) (.slice ad x.length cx) x) := hide ((ho.mono hlW).flt fd3 _ _)
        cases q with
        | nil => exact absurd rfl hend.1.ne
        | cons t r =>
          obtain ⟨hk, hlt, _⟩ := drop_at hq
          obtain ⟨b', off', cap', e1, hlt2, hc⟩ := (unhide HT3).below (two_below (Below.refl _ _) (Nat.le_refl w1.heap.size) (.int .i64 0) (.int .i64 0))
          cases e1
          obtain ⟨d0, _, _, d3⟩ := hc k hk
          rw [hlt] at d0 d3
          have HPB : Hid (∀ W, OwnsP w.heap.size W (.slice ad x.length cx) x → t.kd = 0 → RdT w.heap.size (rdO s) (.returned (.tuple #[.slice ad x.length cx, .agg #[.int .i64 0, .int .i64 0]])) W) := hide (fun W hoW hk => RdT.parts (by rw [unhide HRO, hP]; dsimp only; rw [if_neg h0, if_pos (show hdKd (t :: r) = 0 from hk)]) hoW)
          have HPN : Hid (∀ W, t.kd ≠ 0 → RdT w.heap.size (rdO s) (.returned (.tuple #[.slice none 0 0, .agg #[.int .i64 t.pl, .int .i64 110]])) W) := hide (fun W hk => RdT.nil (by rw [unhide HRO, hP]; dsimp only; rw [if_neg h0, if_neg (show ¬ hdKd (t :: r) = 0 from hk)]; rfl))
          obtain ⟨tkd, ts, tn, tpl⟩ := t
          dsimp only at d0 d3 HPB HPN
          have hkL : (k : Int) < (L.length : Int) := by omega
          have HD := hide (And.intro d0 d3)
          clear hc hlt hq hP hend HT3 fb3 fd3 HB h0 ho d0 d3
          by_cases hz : tkd = 0
          · subst hz
            have HPB2 : Hid (∀ W, OwnsP w.heap.size W (.slice ad x.length cx) x → RdT w.heap.size (rdO s) (.returned (.tuple #[.slice ad x.length cx, .agg #[.int .i64 0, .int .i64 0]])) W) := hide (fun W h => unhide HPB W h rfl)
            clear HPB HPN
            obtain ⟨d0, d3⟩ := unhide HD
            obtain ⟨⟨c0, c1⟩, fbW⟩ := unhide HF
            obtain ⟨g0, g1, gz0, gz1⟩ := fbW.cells
            have hltW := fbW.lt
            have HFW := hide fbW
            clear fbW HF HD
            go_wp2
            have q2 : CBox w.heap.size #[.int .i64 0, .int .i64 0] 47 ((((w3.setCell ⟨w1.heap.size, 0, none⟩ (.int .i64 0)).setCell ⟨w1.heap.size, 1, none⟩ (.int .i64 0)).setCell ⟨w.heap.size, 0, none⟩ (.int .i64 0)).setCell ⟨w.heap.size, 1, none⟩ (.int .i64 0)) := (unhide HFW).two _ _
            obtain ⟨z0, z1⟩ := two_cells q2
            exact bodyPost_ret (v := .tuple #[.slice ad x.length cx, .agg #[.int .i64 0, .int .i64 0]]) (by simp [results, Tryz.results22, go_sem, z0, z1]) rfl ⟨unhide HPB2 _ ((unhide HO5).flt (unhide HFW) _ _), two_below (unhide HB5) (Nat.le_refl _) _ _⟩
          · have hz2 : (tkd == 0) = false := beq_eq_false_iff_ne.2 hz
            have HPN2 : Hid (∀ W, RdT w.heap.size (rdO s) (.returned (.tuple #[.slice none 0 0, .agg #[.int .i64 tpl, .int .i64 110]])) W) := hide (fun W => unhide HPN W hz)
            clear HPB HPN
            obtain ⟨d0, d3⟩ := unhide HD
            obtain ⟨⟨c0, c1⟩, fbW⟩ := unhide HF
            obtain ⟨g0, g1, gz0, gz1⟩ := fbW.cells
            have hltW := fbW.lt
            have HFW := hide fbW
            clear fbW HF HD
            go_wp2_with fail
            generalize (w3.setCell ⟨w1.heap.size, 0, none⟩ (.int .i64 0)).setCell ⟨w1.heap.size, 1, none⟩ (.int .i64 0) = W at *
            clear f0 f1 fz0 fz1
            generalize w1.heap.size = G at *
            go_region
            go_wp2
            have q2 : CBox w.heap.size #[.int .i64 tpl, .int .i64 110] 47 (((W.setCell ⟨w.heap.size, 0, none⟩ (.int .i64 tpl)).setCell ⟨w.heap.size, 1, none⟩ (.int .i64 110)).drew) := (unhide HFW).two _ _
            obtain ⟨z0, z1⟩ := two_cells q2
            exact bodyPost_ret (v := .tuple #[.slice none 0 0, .agg #[.int .i64 tpl, .int .i64 110]]) (by simp [results, Tryz.results22, go_sem, z0, z1]) rfl ⟨unhide HPN2 _, (two_below (unhide HB5) (Nat.le_refl _) _ _).drew⟩
end Go.Proofs.YthipclehhcfahaaGreatDoor
