/-
  behind: the nodes that one event can lead to.
  What the row's list of package variables gives, with the two that a road can be.
  The document's answers: the words of fields, which words name no stage, the signs, the kind of an operation.
-/
import Derived.Test.YtjijhefmbmdbeaaGreatDoorD35
import Derived.Test.YtjijhefmbmdbeaaGreatDoorD06
import Derived.Test.YtjijhefmbmdbeaaGreatDoorD05
namespace Go.Proofs.YtjijhefmbmdbeaaGreatDoor
open Go.RowKit Go.Shelf

/-- The two that a road can be, as the package lays them. -/
def Both (w : World) : Prop := w.cell? ⟨0, 0, none⟩ = some (.bool true) ∧ w.cell? ⟨0, 1, none⟩ = some (.bool false)
def bv (k : Nat) : Bool := k == 0
theorem Both.cells {w : World} (h : Both w) : w.cell? ⟨0, 0, none⟩ = some (.bool true) ∧ w.cell? ⟨0, 1, none⟩ = some (.bool false) := h
theorem Both.kp {w w' : World} {F : List Nat} (h : Both w) (hk : Kp F w w') (hF : 0 ∉ F) : Both w' := ⟨hk.cell h.1 hF, hk.cell h.2 hF⟩
theorem index2 (k : Nat) (hk : k < 2) (w : World) : (Instr.index 90 (.agg #[.bool true, .bool false]) (.int .i64 (k : Int))).run Tryz.prog w = .ok (.bool (bv k)) w := by
  match k, hk with
  | 0, _ => simp [Instr.index, run_underlying Tryz.underlying90, part, Tryz.sizeOf4, go_sem, bv]
  | 1, _ => simp [Instr.index, run_underlying Tryz.underlying90, part, Tryz.sizeOf4, go_sem, bv]
def rI (l : List Stg) (n : Nd) (k m : Nat) : List Nd := if m = 0 then [] else if m = 1 then outs (stpN l n (bv k) true) else outs (stpN l n (bv k) true) ++ outs (stpN l n (bv k) false)
def rO (l : List Stg) (n : Nd) (k : Nat) : List Nd := if k = 0 then [] else if k = 1 then rI l n 0 2 else rI l n 0 2 ++ rI l n 1 2
theorem rO_beh (l : List Stg) (n : Nd) : rO l n 2 = beh l n := by
  unfold rO rI beh bv
  simp
theorem rI_next (l : List Stg) (n : Nd) {k m : Nat} (hm : m < 2) : rI l n k (m + 1) = rI l n k m ++ outs (stpN l n (bv k) (bv m)) := by
  match m, hm with
  | 0, _ => simp [rI, bv]
  | 1, _ => simp [rI, bv]
theorem rO_next (l : List Stg) (n : Nd) {k : Nat} (hk : k < 2) : rO l n (k + 1) = rO l n k ++ rI l n k 2 := by
  match k, hk with
  | 0, _ => simp [rO]
  | 1, _ => simp [rO]
theorem rI_len (l : List Stg) (n : Nd) (k m : Nat) : (rI l n k m).length ≤ 6 := by
  have h1 := outs_len (stpN l n (bv k) true)
  have h2 := outs_len (stpN l n (bv k) false)
  unfold rI
  split
  · simp
  · split
    · omega
    · rw [List.length_append]; omega
theorem rO_len (l : List Stg) (n : Nd) (k : Nat) : (rO l n k).length ≤ 12 := by
  have h1 := rI_len l n 0 2
  have h2 := rI_len l n 1 2
  unfold rO
  split
  · simp
  · split
    · omega
    · rw [List.length_append]; omega
/-- A pattern's box, a node's, and a row of nodes beside them. -/
structure BhS (w W : World) (pc : Array Value) (n : Nd) (v : Value) (L : List Nd) : Prop where
  b : PnB w W pc n
  r : OwnsD (w.heap.size + 2) W v L
theorem BhS.kp {w W W' : World} {pc : Array Value} {n : Nd} {v : Value} {L : List Nd} (h : BhS w W pc n v L) (hk : Kp [] W W') : BhS w W' pc n v L := ⟨h.b.kp hk, h.r.kp hk⟩
theorem BhS.len {w W : World} {pc : Array Value} {n : Nd} {v : Value} {L : List Nd} (h : BhS w W pc n v L) : ∃ ad cp, v = .slice ad L.length cp := by
  rcases h.r.at with ⟨rfl, rfl⟩ | ⟨g, cap, rfl, _⟩
  · exact ⟨none, 0, rfl⟩
  · exact ⟨_, _, rfl⟩
theorem BhS.put {w W : World} {pc : Array Value} {n : Nd} {v : Value} {L : List Nd} (h : BhS w W pc n v L) (x : Nd) (hl : L.length ≤ 1000) (ty : TypeId) :
    ∃ g cap w', (Builtin.append_ #[41, 41] ty #[v, .slice (some ⟨W.heap.size, 0, none⟩) 1 1]).run Tryz.prog (W.alloc (.cells #[.int .i64 x.st, .bool x.lp, .bool x.tk] 26)) = .ok (.slice (some ⟨g, 0, none⟩) (L.length + 1) cap) w' ∧ BhS w w' pc n (.slice (some ⟨g, 0, none⟩) (L.length + 1) cap) (L ++ [x]) ∧ ∀ (gx : Nat) (cs : Array Value) (t : TypeId), CBox gx cs t W → t ≠ 26 → CBox gx cs t w' := by
  have k1 := Kp.alloc W (.cells #[.int .i64 x.st, .bool x.lp, .bool x.tk] 26)
  have h1 := h.kp k1
  have hlt := h.b.lt
  obtain ⟨g, cap, w', hr, ho, hb, hg⟩ := h1.r.app (by have := k1.size; omega) x (g := W.heap.size) (c := 1) (CBox.new W _ _) (by omega) ty
  have hkp := Kp.of hg
  have hlow : ∀ q ∈ v.ownBlock.toList, w.heap.size + 2 ≤ q := fun q hq => (World.ownsRow.lt h1.r q (by simpa using hq)).1
  refine ⟨g, cap, w', hr, ⟨⟨h1.b.p.kp hkp (fun hm => by have := hlow _ hm; omega), h1.b.n.kp hkp (fun hm => by have := hlow _ hm; omega), h1.b.k.trans hkp (fun q hq => Or.inr (by have := hlow _ hq; omega))⟩, ho⟩, fun gx cs t hc ht => ?_⟩
  exact (hc.kp k1 (by simp)).kp hkp (fun hm => row_ne h1.r (hc.kp k1 (by simp)) ht (by simpa using hm))
set_option maxHeartbeats 4000000 in
set_option maxRecDepth 100000 in
theorem behind_any (sa : Option Addr) (sc : Nat) (l : List SR) (wi : Int) (n : Nd) (w : World) (h : StsAt w sa l) (hl : l.length ≤ 9223372036854775807) (hm : mayN (stgs l) n = true) (hb : Both w) :
    Calls Tryz.prog 52 #[.agg #[.slice sa l.length sc, .int .i64 wi], .agg n.c] w fun e w' => ∃ v, e = .returned v ∧ OwnsD (w.heap.size + 2) w' v (beh (stgs l) n) ∧ Kp [] w w' := by
  have B0 := PnB.new w #[.slice sa l.length sc, .int .i64 wi] n
  have ST := hide (fun (lo ta : Bool) W (hk : Kp [] w W) => step_any sa sc l wi n lo ta W (h.kp hk) hl hm)
  have HBO := hide hb
  rw [← rO_beh]
  obtain ⟨L, hL⟩ : ∃ L, stgs l = L := ⟨_, rfl⟩
  rw [hL] at ST ⊢
  clear h hl hm hb hL
  generalize l.length = nn at *
  have S0 : BhS w _ _ n (.slice none 0 0) [] := ⟨B0, OwnsD.nil _ _⟩
  have HS0 := hide S0
  have HNC : Hid (n.c = #[.int .i64 n.st, .bool n.lp, .bool n.tk]) := hide rfl
  obtain ⟨b0, b1⟩ := ((unhide HBO).kp B0.k (by simp)).cells
  rw [unhide HNC] at HS0 ST b0 b1 ⊢
  clear B0 S0
  go_enter Tryz.func52, Tryz.ntmps52
  go_wp2_with fail
  go_loopw [5, 12] (fun v i wr => ∃ (k : Nat) (a : Option Addr) (c NL : Nat), k ≤ 2 ∧ i = .int .i64 (k : Int) ∧ v = .slice a NL c ∧ NL = (rO L n k).length ∧ Hid (BhS w wr #[.slice sa nn sc, .int .i64 wi] n (.slice a NL c) (rO L n k))) (fun _ i _ => 2 - (intOf i).toNat)
  case atStart => exact ⟨0, none, 0, 0, by omega, rfl, rfl, rfl, HS0⟩
  case round =>
    obtain ⟨k, a, c, NL, hk, rfl, rfl, hNL, HB⟩ := hrel
    clear HS0 b0 b1
    by_cases hlt : k < 2
    · have hli : (k : Int) < 2 := by omega
      have hix := fun W => index2 k hlt W
      obtain ⟨b0, b1⟩ := ((unhide HBO).kp (unhide HB).b.k (by simp)).cells
      have HNL := hide hNL
      clear hNL
      go_wp2_with fail
      go_loopw [5, 16] (fun v i wr => ∃ (m : Nat) (a : Option Addr) (c NL : Nat), m ≤ 2 ∧ i = .int .i64 (m : Int) ∧ v = .slice a NL c ∧ NL = (rO L n k ++ rI L n k m).length ∧ Hid (BhS w wr #[.slice sa nn sc, .int .i64 wi] n (.slice a NL c) (rO L n k ++ rI L n k m))) (fun _ i _ => 2 - (intOf i).toNat)
      case atStart => exact ⟨0, a, c, NL, by omega, rfl, rfl, by rw [unhide HNL]; simp [rI], by simpa [rI] using HB⟩
      case round =>
        obtain ⟨m, a, c, NL, hm, rfl, rfl, hNL, HB⟩ := hrel
        clear b0 b1
        by_cases hlt2 : m < 2
        · have hli2 : (m : Int) < 2 := by omega
          have hix2 := fun W => index2 m hlt2 W
          have ST1 := hide (unhide ST (bv k) (bv m) wr (unhide HB).b.k)
          have HNX : Hid (rI L n k (m + 1) = rI L n k m ++ outs (stpN L n (bv k) (bv m))) := hide (rI_next L n hlt2)
          have HRL : Hid ((rO L n k).length ≤ 12 ∧ (rI L n k m).length ≤ 6) := hide ⟨rO_len _ _ _, rI_len _ _ _ _⟩
          obtain ⟨⟨d0, d1⟩, d2, d3, d4⟩ := (unhide HB).b.cells
          generalize stpN L n (bv k) (bv m) = Y at *
          generalize rO L n k = RO at *
          generalize hRI : rI L n k m = RI at *
          clear hRI
          have HC : Hid (Y.c = #[.int .i64 Y.lp.st, .bool Y.lp.lp, .bool Y.lp.tk, .int .i64 Y.tk.st, .bool Y.tk.lp, .bool Y.tk.tk, .int .i64 Y.wt.st, .bool Y.wt.lp, .bool Y.wt.tk, .bool Y.cl, .bool Y.ct, .bool Y.cw]) := hide rfl
          have HNL0 := hide hNL
          clear hNL
          go_wp2_with fail
          refine (unhide ST1).mono ?_
          rintro e w3 ⟨rfl, hk3⟩
          obtain ⟨gx, hgx⟩ : ∃ gx, w3.heap.size = gx := ⟨_, rfl⟩
          have HS := hide (And.intro (((unhide HB).kp hk3).kp (Kp.alloc w3 (.cells Y.c 29))) (CBox.new w3 Y.c 29))
          rw [hgx] at HS
          have c9 := (unhide HS).2.cell (i := 9) (v := .bool Y.cl) rfl
          rw [unhide HC] at HS c9 ⊢
          clear ST1 HB hk3 d0 d1 d2 d3 d4 HNL
          go_upto_if 25 with fail
          generalize w3.alloc (.cells #[.int .i64 Y.lp.st, .bool Y.lp.lp, .bool Y.lp.tk, .int .i64 Y.tk.st, .bool Y.tk.lp, .bool Y.tk.tk, .int .i64 Y.wt.st, .bool Y.wt.lp, .bool Y.wt.tk, .bool Y.cl, .bool Y.ct, .bool Y.cw] 29) = V at *
          rw [← unhide HC] at HS
          have HNLa := HNL0
          clear hgx HNL0
          go_cut [5] (fun v wc => ∃ (a : Option Addr) (c NL : Nat), v = .slice a NL c ∧ NL = ((RO ++ RI) ++ (if Y.cl = true then [Y.lp] else [])).length ∧ Hid (BhS w wc #[.slice sa nn sc, .int .i64 wi] n (.slice a NL c) ((RO ++ RI) ++ (if Y.cl = true then [Y.lp] else [])) ∧ CBox gx Y.c 29 wc))
          case first =>
            cases hfl : Y.cl with
            | true =>
              rw [hfl] at c9
              obtain ⟨hbs, hyb⟩ := unhide HS
              obtain ⟨g', cap', w4, hrun, hbs4, hot⟩ := hbs.put Y.lp (by rw [List.length_append]; have := outs_len Y; obtain ⟨q1, q2⟩ := unhide HRL; omega) 41
              have HF := hide (And.intro hbs4 (hot _ _ _ hyb (by decide)))
              rw [← unhide HNLa] at hrun HF
              have HRUN := hide hrun
              have y0 := hyb.cell (i := 0) (v := .int .i64 Y.lp.st) rfl
              have y1 := hyb.cell (i := 1) (v := .bool Y.lp.lp) rfl
              have y2 := hyb.cell (i := 2) (v := .bool Y.lp.tk) rfl
              clear hbs hyb hrun hbs4 hot HS ST HBO hix hix2
              go_wp2_with (at_builtin; refine wpList_app_run rfl _ _ _ rfl rfl rfl (unhide HRUN) ?_)
              go_meet
              exact ⟨_, _, _, rfl, by rw [unhide HNLa]; simp [hfl, Nat.add_assoc], by simpa [hfl] using HF⟩
            | false =>
              rw [hfl] at c9
              clear ST HBO hix hix2
              go_wp2
              go_meet
              exact ⟨_, _, _, rfl, by rw [unhide HNLa]; simp [hfl], by simpa [hfl] using HS⟩
          case rest =>
          obtain ⟨a1, c1, NL1, rfl, hNL1, HS1⟩ := hcut
          have HNL1 := hide hNL1
          clear HS c9 hNL1 HNLa
          have c10 := (unhide HS1).2.cell (i := 10) (v := .bool Y.ct) rfl
          go_upto_if 32 with fail
          go_cut [5] (fun v wc => ∃ (a : Option Addr) (c NL : Nat), v = .slice a NL c ∧ NL = (((RO ++ RI) ++ (if Y.cl = true then [Y.lp] else [])) ++ (if Y.ct = true then [Y.tk] else [])).length ∧ Hid (BhS w wc #[.slice sa nn sc, .int .i64 wi] n (.slice a NL c) (((RO ++ RI) ++ (if Y.cl = true then [Y.lp] else [])) ++ (if Y.ct = true then [Y.tk] else [])) ∧ CBox gx Y.c 29 wc))
          case first =>
            cases hfl : Y.ct with
            | true =>
              rw [hfl] at c10
              obtain ⟨hbs, hyb⟩ := unhide HS1
              obtain ⟨g', cap', w4, hrun, hbs4, hot⟩ := hbs.put Y.tk (by rw [List.length_append]; have := outs_len Y; obtain ⟨q1, q2⟩ := unhide HRL; rw [List.length_append]; have : (if Y.cl = true then [Y.lp] else []).length ≤ 1 := by { split <;> simp }; omega) 41
              have HF := hide (And.intro hbs4 (hot _ _ _ hyb (by decide)))
              rw [← unhide HNL1] at hrun HF
              have HRUN := hide hrun
              have y0 := hyb.cell (i := 3) (v := .int .i64 Y.tk.st) rfl
              have y1 := hyb.cell (i := 4) (v := .bool Y.tk.lp) rfl
              have y2 := hyb.cell (i := 5) (v := .bool Y.tk.tk) rfl
              clear hbs hyb hrun hbs4 hot HS1 ST HBO hix hix2
              go_wp2_with (at_builtin; refine wpList_app_run rfl _ _ _ rfl rfl rfl (unhide HRUN) ?_)
              go_meet
              exact ⟨_, _, _, rfl, by rw [unhide HNL1]; simp [hfl, Nat.add_assoc], by simpa [hfl] using HF⟩
            | false =>
              rw [hfl] at c10
              clear ST HBO hix hix2
              go_wp2
              go_meet
              exact ⟨_, _, _, rfl, by rw [unhide HNL1]; simp [hfl], by simpa [hfl] using HS1⟩
          case rest =>
          obtain ⟨a2, c2, NL2, rfl, hNL2, HS2⟩ := hcut
          have HNL2 := hide hNL2
          clear HS1 c10 hNL2 HNL1
          have c11 := (unhide HS2).2.cell (i := 11) (v := .bool Y.cw) rfl
          have hfin : RO ++ rI L n k (m + 1) = (((RO ++ RI) ++ (if Y.cl = true then [Y.lp] else [])) ++ (if Y.ct = true then [Y.tk] else [])) ++ (if Y.cw = true then [Y.wt] else []) := by
            rw [unhide HNX]
            unfold outs
            simp only [List.append_assoc]
          have HFIN := hide hfin
          have hlen : (((RO ++ RI) ++ (if Y.cl = true then [Y.lp] else [])) ++ (if Y.ct = true then [Y.tk] else [])).length ≤ 1000 := by
            obtain ⟨q1, q2⟩ := unhide HRL
            have h1 : (if Y.cl = true then [Y.lp] else []).length ≤ 1 := by split <;> simp
            have h2 : (if Y.ct = true then [Y.tk] else []).length ≤ 1 := by split <;> simp
            simp only [List.length_append]
            omega
          clear hfin HNX HRL HC ST HBO hix hix2
          generalize ((RO ++ RI) ++ (if Y.cl = true then [Y.lp] else [])) ++ (if Y.ct = true then [Y.tk] else []) = R2 at *
          cases hfl : Y.cw with
          | true =>
            rw [hfl] at c11
            obtain ⟨hbs, hyb⟩ := unhide HS2
            obtain ⟨g', cap', w4, hrun, hbs4, hot⟩ := hbs.put Y.wt hlen 41
            have hfn := unhide HFIN
            rw [hfl, if_pos rfl] at hfn
            rw [← hfn, ← unhide HNL2] at hbs4
            rw [← unhide HNL2] at hrun
            have HNF : Hid (NL2 + 1 = (RO ++ rI L n k (m + 1)).length) := hide (by rw [hfn, List.length_append, unhide HNL2]; rfl)
            have HF := hide hbs4
            have HRUN := hide hrun
            have y0 := hyb.cell (i := 6) (v := .int .i64 Y.wt.st) rfl
            have y1 := hyb.cell (i := 7) (v := .bool Y.wt.lp) rfl
            have y2 := hyb.cell (i := 8) (v := .bool Y.wt.tk) rfl
            clear hbs hyb hrun hbs4 hot HS2 hfl hfn hlen HFIN HNL2
            go_wp2_with (at_builtin; refine wpList_app_run rfl _ _ _ rfl rfl rfl (unhide HRUN) ?_)
            go_roundw
            case rel => exact ⟨m + 1, _, _, _, by omega, by go_num, rfl, unhide HNF, HF⟩
            case measure => simp [intOf]; omega
          | false =>
            rw [hfl] at c11
            have hfn := unhide HFIN
            rw [hfl, if_neg (by simp), List.append_nil] at hfn
            have HNF : Hid (NL2 = (RO ++ rI L n k (m + 1)).length) := hide (by rw [hfn]; exact unhide HNL2)
            have HF := hide (unhide HS2).1
            rw [← hfn] at HF
            clear HS2 hfl hfn hlen HFIN HNL2
            go_wp2_with fail
            go_roundw
            case rel => exact ⟨m + 1, _, _, _, by omega, by go_num, rfl, unhide HNF, HF⟩
            case measure => simp [intOf]; omega
        · obtain rfl : m = 2 := by omega
          have HN3 := hide hNL
          clear hNL
          have hnx : rO L n (k + 1) = rO L n k ++ rI L n k 2 := rO_next L n hlt
          rw [← hnx] at HN3 HB
          have HB3 := HB
          clear hnx HB ST HBO HNL
          go_wp2_with fail
          go_roundw
          case rel => exact ⟨k + 1, a, c, NL, by omega, by go_num, rfl, unhide HN3, HB3⟩
          case measure => simp [intOf]; omega
    · obtain rfl : k = 2 := by omega
      have HF := hide (unhide HB)
      clear ST HBO HB hNL
      go_wp2
      go_ret
      exact ⟨_, rfl, (unhide HF).r, (unhide HF).b.k⟩
end Go.Proofs.YtjijhefmbmdbeaaGreatDoor
namespace Go.Proofs.YtjijhefmbmdbeaaGreatDoor
open Go.RowKit Go

def boolData {H : Type} (zs : List Bool) : DataW H := .agg (zs.map fun z => .lit (.bool z))
theorem cells_of_bools {H : Type} {enc : TypeId × Value → H} {P : Program} {w : World} {base : Nat} {sp : Nat → Bool} {held : Bool} {fuel : Nat} {t e : TypeId} {n : Nat} {cs : List Value} {zs : List Bool} {p : List MemPlace}
    (ht : P.underlying t = some (.array n e)) (he : P.underlying e = some .bool) (hce : P.cellsOf e = 1) (hct : P.cellsOf t = n)
    (h : DataW.trod enc P w base sp held fuel t cs = some (boolData zs, p)) : cs = zs.map fun z => Value.bool z := by
  cases fuel with
  | zero => simp [DataW.trod] at h
  | succ fuel =>
    simp only [DataW.trod, ht, hce, hct, Nat.mul_one] at h
    split at h
    · rename_i hl
      obtain ⟨xs, hm, hx⟩ := Option.map_eq_some_iff.1 h
      have hxs : xs.map (·.1) = zs.map fun z => (DataW.lit (.bool z) : DataW H) := by
        have := congrArg Prod.fst hx
        simpa [boolData] using this
      have hxl : xs.length = n := by simpa using Lib.mapM_length hm
      have hzl : zs.length = n := by
        have := congrArg List.length hxs
        simp at this
        omega
      apply List.ext_getElem?
      intro i
      by_cases hi : i < n
      · obtain ⟨b, hb, hf⟩ := Lib.mapM_at hm i i (by simp [hi])
        obtain ⟨s, hc, rfl⟩ := DataW.trod_bool he hf
        have h1 : cs[i]? = some (.bool s) := by
          have := congrArg (·[0]?) hc
          simpa [List.getElem?_take, List.getElem?_drop] using this
        have h2 : (xs.map (·.1))[i]? = some (DataW.lit (.bool s) : DataW H) := by simp [hb]
        rw [hxs] at h2
        simp only [List.getElem?_map, Option.map_eq_some_iff, DataW.lit.injEq, Lit.bool.injEq] at h2
        obtain ⟨z', hz', rfl⟩ := h2
        simp [h1, hz']
      · rw [List.getElem?_eq_none (by omega), List.getElem?_eq_none (by simp; omega)]
    · cases h
/-- The table of strings stands first on the list. -/
theorem bools_of_head {P : Program} {W : World} {name : String} {zs : List Bool} {rest : List (String × DataW Unit)} {g : Nat} {t e : TypeId} {n : Nat}
    (hg : P.globalNamed name = some g) (hty : (P.globals[g]?).map (·.type) = some t) (ht : P.underlying t = some (.array n e)) (he : P.underlying e = some .bool) (hce : P.cellsOf e = 1) (hct : P.cellsOf t = n)
    (h : laidMet P ((name, boolData zs) :: rest) W) (i : Nat) : W.cell? ⟨g, i, none⟩ = (zs.map fun z => Value.bool z)[i]? := by
  obtain ⟨ps, ⟨g', t', cs, fuel, p, q, hg', ht', hvar, hd, _, _⟩, _⟩ := h
  obtain rfl := Option.some.inj (hg.symm.trans hg')
  obtain rfl := Option.some.inj (hty.symm.trans ht')
  rw [World.var?_cell hg hvar i, ← cells_of_bools ht he hce hct hd]
  simp
theorem gBo : Tryz.prog.globalNamed "weaver/nfa.both" = some 0 := by kernel_rfl
theorem gBoT : (Tryz.prog.globals[0]?).map (·.type) = some 90 := by kernel_rfl
theorem cells2B : Tryz.prog.cellsOf 90 = 2 := by kernel_rfl
theorem cellsBoN : Tryz.prog.cellsOf 4 = 1 := by kernel_rfl
/-- The row's list. -/
def laidN : List (String × DataW Unit) := [("math/bits.deBruijn32tab", Rows.laid_math_bits_deBruijn32tab), ("math/bits.deBruijn64tab", Rows.laid_math_bits_deBruijn64tab), ("internal/strconv.uint64pow10", Rows.laid_internal_strconv_uint64pow10), ("strconv.ErrRange", Rows.laid_strconv_ErrRange), ("strconv.ErrSyntax", Rows.laid_strconv_ErrSyntax), ("weaver/token.sets", Rows.laid_weaver_token_sets), ("weaver/expr.fields", Rows.laid_weaver_expr_fields), ("weaver/nfa.both", Rows.laid_weaver_nfa_both)]
theorem tbN {W : World} (h0 : laidMetH Tryz.prog laidN W) : TbE W ∧ Both W := by
  have h : laidMet Tryz.prog laidN W := h0
  have t1 := h.tail
  have hdb : Lib.TabIs Tryz.prog W "math/bits.deBruijn64tab" .u8 dbI := Lib.tabIs_of_head gDb gDbT Tryz.underlying237 Tryz.underlying5 cellsU8 cells64 t1
  have hlow : 9 ≤ W.heap.size := World.block_lt_of_cell? _ _ (hdb.cell gDb 0 (by decide))
  have t2 := t1.tail
  have t3 := t2.tail
  have t5 := t3.tail.tail
  have t6 := t5.tail
  have t7 := t6.tail
  have hpow : Lib.TabIs Tryz.prog W "internal/strconv.uint64pow10" .u64 Lib.pow10Tab := Lib.tabIs_of_head gPow gPowT Tryz.underlying208 Tryz.underlying155 cellsU64 cells20 t2
  have hset : Lib.TabIs Tryz.prog W "weaver/token.sets" .u8 setsI := Lib.tabIs_of_head gSets gSetsT Tryz.underlying156 Tryz.underlying5 cellsU8 cells128 t5
  obtain ⟨a, s, hv, _⟩ := laid_sentinel t3 gRng gRngT Tryz.underlying110 errRow Tryz.underlying224 Tryz.underlying226 rfl rfl Tryz.underlying9 cellsErr cellsStr
  have fd := fun i => strs_of_head (zs := fldW) gFds gFdsT Tryz.underlying188 Tryz.underlying9 cellsStr cells6 t6 i
  have fo := fun i => bools_of_head (zs := [true, false]) gBo gBoT Tryz.underlying90 Tryz.underlying4 cellsBoN cells2B t7 i
  refine ⟨⟨⟨hlow, fun i hi => ?_, hpow, ⟨_, _, by simpa using World.var?_cell gRng hv 0⟩⟩, fd 0, fd 1, fd 2, fd 3, fd 4, fd 5⟩, fo 0, fo 1⟩
  rw [hset.cell gSets i (by simpa [setsI] using hi), setsI_get ⟨i, hi⟩]
def putN (h : Array Obj) : Array Obj := (putL h).modify 0 (cellsPut #[.bool true, .bool false])
end Go.Proofs.YtjijhefmbmdbeaaGreatDoor
namespace Go.Proofs.YtjijhefmbmdbeaaGreatDoor
open Go.RowKit

def fldV : Array Value := #[.string ⟨#[110, 48]⟩, .string ⟨#[110, 49]⟩, .string ⟨#[110, 50]⟩, .string ⟨#[110, 51]⟩, .string ⟨#[116, 121, 112, 101]⟩, .string ⟨#[116, 101, 120, 116]⟩]
theorem fldV_at (k : Nat) (h : k < 6) : fldV[k]? = some (.string (txt (fldW.getD k []))) := by
  rcases (show k = 0 ∨ k = 1 ∨ k = 2 ∨ k = 3 ∨ k = 4 ∨ k = 5 by omega) with rfl | rfl | rfl | rfl | rfl | rfl <;> rfl
theorem fldOf_at (k : Nat) (h : k < 6) : fldOf (fldW.getD k []) = (k : Int) := by
  rcases (show k = 0 ∨ k = 1 ∨ k = 2 ∨ k = 3 ∨ k = 4 ∨ k = 5 by omega) with rfl | rfl | rfl | rfl | rfl | rfl <;> decide
theorem rFields_any (w : World) : Calls Tryz.prog 89 #[] w fun e w' => e = .returned (.slice (some ⟨w.heap.size, 0, none⟩) 6 6) ∧ CBox w.heap.size fldV 9 w' ∧ Kp [] w w' := by
  go_enter Tryz.func89, Tryz.ntmps89
  go_wp2
  go_ret
  exact ⟨rfl, CBox.new w _ _, Kp.alloc _ _⟩
set_option maxHeartbeats 1000000 in
set_option maxRecDepth 100000 in
theorem rField_any (s : ByteArray) (w : World) : Calls Tryz.prog 109 #[.string s] w fun e w' => e = .returned (.int .i64 (fldOf s.data.toList)) ∧ Kp [] w w' := by
  have tl := toList_data s
  generalize hl : s.data.toList = l at tl ⊢
  clear hl
  obtain ⟨F, hF⟩ : ∃ F, fldOf l = F := ⟨_, rfl⟩
  rw [hF]
  have HF := hide hF
  have HTL := hide tl
  clear hF tl
  go_enter Tryz.func109, Tryz.ntmps109
  go_wp2_with fail
  refine (rFields_any w).mono ?_
  rintro e w1 ⟨rfl, hbx, hk⟩
  have HBX := hide hbx
  have HK := hide hk
  have hlt := (Array.getElem?_eq_some_iff.1 hbx).1
  clear hbx hk
  go_wp2_with fail
  go_loop [4] (fun i => ∃ k : Nat, k ≤ 6 ∧ Hid (noFd l k) ∧ i = .int .i64 (k : Int)) (fun i => 6 - (intOf i).toNat)
  case atStart => exact ⟨0, by omega, hide (fun j hj => by omega), rfl⟩
  case round =>
    obtain ⟨k, hk, HN, rfl⟩ := hrel
    by_cases hlt6 : k < 6
    · have c := (unhide HBX).cell (fldV_at k hlt6)
      have hli : (k : Int) < 6 := by omega
      by_cases e : l = fldW.getD k []
      · have g2 : ((txt (fldW.getD k [])).toList == s.toList) = true := by rw [toList_data, txt_list, unhide HTL, e]; exact beq_self_eq_true _
        obtain rfl : F = (k : Int) := by rw [← unhide HF, e]; exact fldOf_at k hlt6
        clear e HF HN
        generalize txt (fldW.getD k []) = FS at *
        go_wp2
        go_ret
        exact ⟨rfl, unhide HK⟩
      · have g2 : ((txt (fldW.getD k [])).toList == s.toList) = false := by rw [toList_data, txt_list, unhide HTL]; exact beq_eq_false_iff_ne.2 (fun h => e h.symm)
        have HN2 : Hid (noFd l (k + 1)) := hide (noFd_next (unhide HN) e)
        clear e
        generalize txt (fldW.getD k []) = FS at *
        go_wp2
        go_round
        case rel => exact ⟨k + 1, by omega, HN2, by go_num⟩
        case measure => simp [intOf]; omega
    · obtain rfl : k = 6 := by omega
      obtain rfl : F = -1 := by rw [← unhide HF]; exact fldOf_no (unhide HN)
      go_wp2
      go_ret
      exact ⟨rfl, unhide HK⟩
/-- Does a word name no stage? -/
theorem rKeyword_any (s : ByteArray) (w : World) : Calls Tryz.prog 84 #[.string s] w fun e w' => e = .returned (.bool (!freeW s.data.toList)) ∧ Kp [] w w' := by
  have FA := hide (rField_any s w)
  have tl := toList_data s
  obtain ⟨R, hR⟩ : ∃ R, (!freeW s.data.toList) = R := ⟨_, rfl⟩
  rw [hR]
  unfold freeW at hR
  generalize s.data.toList = l at *
  have q1 : (s.toList == [111, 114]) = decide (l = [111, 114]) := by rw [tl, Bool.eq_iff_iff, beq_iff_eq, decide_eq_true_eq]
  have q2 : (s.toList == [97, 110, 100]) = decide (l = [97, 110, 100]) := by rw [tl, Bool.eq_iff_iff, beq_iff_eq, decide_eq_true_eq]
  have q3 : (s.toList == [110, 111, 116]) = decide (l = [110, 111, 116]) := by rw [tl, Bool.eq_iff_iff, beq_iff_eq, decide_eq_true_eq]
  generalize decide (l = [111, 114]) = b1 at *
  generalize decide (l = [97, 110, 100]) = b2 at *
  generalize decide (l = [110, 111, 116]) = b3 at *
  generalize fldOf l = F at *
  have HR := hide hR
  clear hR tl
  by_cases hf : 0 ≤ F
  · have g : (0 ≤ F) = True := eq_true hf
    have e : R = true := by rw [← unhide HR, decide_eq_false (by omega)]; simp
    subst e
    go_enter Tryz.func84, Tryz.ntmps84
    go_wp2_with fail
    refine (unhide FA).mono ?_
    rintro e w1 ⟨rfl, hk⟩
    clear FA HR
    go_wp2
    go_ret
    exact ⟨rfl, hk⟩
  · have g : (0 ≤ F) = False := eq_false hf
    have e : R = (b1 || b2 || b3) := by rw [← unhide HR, decide_eq_true (by omega)]; simp
    subst e
    clear HR
    cases b1 <;> cases b2 <;> cases b3
    all_goals
      go_enter Tryz.func84, Tryz.ntmps84
      go_wp2_with fail
      refine (unhide FA).mono ?_
      rintro e w1 ⟨rfl, hk⟩
      clear FA
      go_wp2
      go_ret
      exact ⟨rfl, hk⟩
end Go.Proofs.YtjijhefmbmdbeaaGreatDoor
