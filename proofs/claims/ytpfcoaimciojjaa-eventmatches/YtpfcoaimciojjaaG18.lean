/-
  numberUpTo and readStage: a number, and a stage, read from items, as the plain functions have it.
-/
import Derived.Test.YtpfcoaimciojjaaG15
import Derived.Test.YtpfcoaimciojjaaG17
import Derived.Test.YtpfcoaimciojjaaG08
namespace Go.Proofs.Ytpfcoaimciojjaa
open Go.RowKit

/-- A number from 0 on, up to most. -/
def nupB (x : It) (most : Int) : Bool := !x.t && decide (0 ≤ x.n) && decide (x.n ≤ most)
def nupV (x : It) (most : Int) : Int := if nupB x most = true then x.n else 0
set_option maxHeartbeats 1000000 in
theorem numberUpTo_any (x : It) (most : Int) (w : World) :
    Calls Try.prog 54 #[.agg #[.bool x.t, .int .i64 x.n, .string x.s], .int .i64 most] w fun r w' => r = .returned (.tuple #[.int .i64 (nupV x most), .bool (nupB x most)]) ∧ w' = w.alloc (.cells #[.bool x.t, .int .i64 x.n, .string x.s] 47) := by
  obtain ⟨t, n, s⟩ := x
  dsimp only
  unfold nupV nupB
  dsimp only
  cases t
  · by_cases h0 : 0 ≤ n
    · by_cases h1 : n ≤ most
      · have e : (!false && decide (0 ≤ n) && decide (n ≤ most)) = true := by simp [h0, h1]
        rw [if_pos e, e]
        have g0 : ¬ n < 0 := by omega
        have g1 : ¬ most < n := by omega
        clear e
        go_enter Try.func54, Try.ntmps54
        go_wp2
        go_ret2
        exact ⟨rfl, rfl⟩
      · have e : (!false && decide (0 ≤ n) && decide (n ≤ most)) = false := by simp [h1]
        rw [if_neg (by rw [e]; simp), e]
        have g0 : ¬ n < 0 := by omega
        have g1 : most < n := by omega
        clear e
        go_enter Try.func54, Try.ntmps54
        go_wp2
        go_ret2
        exact ⟨rfl, rfl⟩
    · have e : (!false && decide (0 ≤ n) && decide (n ≤ most)) = false := by simp [h0]
      rw [if_neg (by rw [e]; simp), e]
      have g0 : n < 0 := by omega
      clear e
      go_enter Try.func54, Try.ntmps54
      go_wp2
      go_ret2
      exact ⟨rfl, rfl⟩
  · have e : (!true && decide (0 ≤ n) && decide (n ≤ most)) = false := rfl
    rw [if_neg (by rw [e]; simp), e]
    clear e
    go_enter Try.func54, Try.ntmps54
    go_wp2
    go_ret2
    exact ⟨rfl, rfl⟩
/-- A stage at the beginning of items: its places, the rest. -/
def rdS : List It → Option (List Int × List It)
  | [] => none
  | x :: r => if nupB x (r.length : Int) = true then (if (r.take x.n.toNat).all (fun y => nupB y 1073741824) = true then some ((r.take x.n.toNat).map It.n, r.drop x.n.toNat) else none) else none
def intC (l : List Int) : List Value := l.map fun n => .int .i64 n
theorem info_int : (Try.prog.info? 3).map (fun i => (i.zero, i.size, i.bytes)) = some (some (.int .i64 0), 1, 8) := by kernel_rfl
/-- A row of numbers of the call's own. -/
def OwnsN (B : Nat) (w : World) (v : Value) (l : List Int) : Prop := w.ownsRow B 3 1 v l.length (intC l)
theorem OwnsN.nil (B : Nat) (w : World) : OwnsN B w (.slice none 0 0) [] := World.ownsRow_nil _ _ _ _
theorem OwnsN.alloc {B : Nat} {w : World} {v : Value} {l : List Int} (h : OwnsN B w v l) (o : Obj) : OwnsN B (w.alloc o) v l := World.ownsRow.alloc h o
theorem OwnsN.below {B B' : Nat} {w w' : World} {v : Value} {l : List Int} (h : OwnsN B w v l) (hb : Below B' w w') (hB : w.heap.size ≤ B') : OwnsN B w' v l := by
  refine World.ownsRow.kept (row := none) h ⟨hb.os, hb.tape, hb.output, hb.size, fun k hk _ => hb.block k (by omega)⟩ ?_
  cases v.ownBlock
  · exact Or.inl rfl
  · exact Or.inr (by simp)
/-- Numbers in a block of numbers. -/
def IntsT (w : World) (v : Value) (l : List Int) : Prop := ∃ a c, v = .slice a l.length c ∧ (l ≠ [] → ∃ b cur f, a = some ⟨b, 0, none⟩ ∧ w.heap[b]? = some (.cells cur 3 f) ∧ ∀ i (h : i < l.length), cur[i]? = some (.int .i64 l[i]))
theorem OwnsN.ints {B : Nat} {w : World} {v : Value} {l : List Int} (h : OwnsN B w v l) : IntsT w v l := by
  obtain ⟨_, ⟨rfl, h0⟩ | ⟨g, cp, cur, rfl, _, hh, hn, hm, hc, ht⟩⟩ := h
  · exact ⟨none, 0, by rw [h0], fun hne => absurd (List.eq_nil_of_length_eq_zero h0) hne⟩
  · refine ⟨_, _, rfl, fun _ => ⟨g, cur, _, rfl, hh, fun i hi => ?_⟩⟩
    rw [Nat.mul_one] at ht
    have e1 : (cur.toList.take l.length)[i]? = (intC l)[i]? := by rw [ht]
    rw [List.getElem?_take, if_pos hi] at e1
    unfold intC at e1
    rw [List.getElem?_map, List.getElem?_eq_getElem hi] at e1
    simpa using e1
theorem IntsT.at_ {w : World} {v : Value} {l : List Int} (h : IntsT w v l) : ∃ a c, v = .slice a l.length c ∧ IntsAt w a l := by
  obtain ⟨a, c, e, h⟩ := h
  refine ⟨a, c, e, fun hne => ?_⟩
  obtain ⟨b, cur, f, ea, hh, hc⟩ := h hne
  refine ⟨b, 0, ea, ?_, fun i hi => ?_⟩
  · rcases Nat.lt_or_ge b w.heap.size with h1 | h1
    · exact h1
    · rw [Array.getElem?_eq_none h1] at hh; cases hh
  · rw [Nat.zero_add]
    simp [World.cell?, hh, hc i hi]
theorem IntsT.of_heap {w w' : World} {v : Value} {l : List Int} (h : IntsT w v l) (hk : ∀ (b : Nat) (cur : Array Value) (f : Nat × Nat), w.heap[b]? = some (.cells cur 3 f) → w'.heap[b]? = some (.cells cur 3 f)) : IntsT w' v l := by
  obtain ⟨a, c, e, h⟩ := h
  refine ⟨a, c, e, fun hne => ?_⟩
  obtain ⟨b, cur, f, ea, hh, hc⟩ := h hne
  exact ⟨b, cur, f, ea, hk _ _ _ hh, hc⟩
theorem IntsT.below {w w' : World} {v : Value} {l : List Int} {B : Nat} (h : IntsT w v l) (hb : Below B w w') (hB : w.heap.size ≤ B) : IntsT w' v l :=
  h.of_heap fun b cur f hh => by
    have hlt : b < w.heap.size := by
      rcases Nat.lt_or_ge b w.heap.size with h1 | h1
      · exact h1
      · rw [Array.getElem?_eq_none h1] at hh; cases hh
    rw [hb.block b (by omega)]; exact hh
theorem IntsT.fr {w w' : World} {v : Value} {l : List Int} {B e : Nat} (h : IntsT w v l) (hf : Fr B e w w') (he : 3 ≠ e) : IntsT w' v l := h.of_heap fun _ _ _ hh => hf.keep hh he
theorem ItemsAt.tail {w : World} {b off : Nat} {l : List It} (h : ItemsAt w (some ⟨b, off, none⟩) l) (n : Nat) : ItemsAt w (some ⟨b, off + n * 3, none⟩) (l.drop n) := fun hne => by
  have hl : l ≠ [] := fun e => hne (by rw [e]; simp)
  obtain ⟨b', off', e, hb, hc⟩ := h hl
  simp only [Option.some.injEq, Addr.mk.injEq, and_true] at e
  obtain ⟨rfl, rfl⟩ := e
  refine ⟨b, off + n * 3, rfl, hb, fun i hi => ?_⟩
  rw [List.length_drop] at hi
  obtain ⟨c0, c1, c2⟩ := hc (n + i) (by omega)
  rw [List.getElem_drop]
  have e1 : off + n * 3 + i * 3 = off + (n + i) * 3 := by omega
  rw [e1]
  exact ⟨c0, c1, c2⟩
set_option maxHeartbeats 4000000 in
set_option maxRecDepth 100000 in
theorem readStage_any (ad : Option Addr) (cap : Nat) (l : List It) (w : World) (hcap : l.length ≤ cap) (hmax : cap ≤ 9223372036854775807) (h4 : l.length ≤ 4096) (hA : ItemsAt w ad l) :
    Calls Try.prog 55 #[.slice ad l.length cap] w fun r w' => Below w.heap.size w w' ∧ ((rdS l = none ∧ r = .returned (.tuple #[.slice none 0 0, .slice none 0 0, .bool false])) ∨
      ∃ ps rest pv a' c', rdS l = some (ps, rest) ∧ r = .returned (.tuple #[pv, .slice a' rest.length c', .bool true]) ∧ OwnsN w.heap.size w' pv ps ∧ (∀ W, ItemsAt W ad l → ItemsAt W a' rest) ∧ rest.length ≤ c' ∧ c' ≤ 9223372036854775807 ∧ rest.length < l.length) := by
  cases l with
  | nil =>
    go_enter Try.func55, Try.ntmps55
    go_wp2
    go_ret3
    exact ⟨Below.refl _ _, Or.inl ⟨rfl, rfl⟩⟩
  | cons x r =>
    obtain ⟨b, off, rfl, hbw, hc⟩ := hA (by simp)
    have c0 := hc 0 (by simp)
    simp only [Nat.zero_mul, Nat.add_zero, List.getElem_cons_zero] at c0
    obtain ⟨d0, d1, d2⟩ := c0
    have hlen : (x :: r).length = r.length + 1 := rfl
    rw [hlen] at hcap h4 ⊢
    have hsub : ((r.length + 1 : Nat) : Int) - 1 = (r.length : Int) := by omega
    have nu1 := fun w => numberUpTo_any x (r.length : Int) w
    have hrd : rdS (x :: r) = if nupB x (r.length : Int) = true then (if (r.take x.n.toNat).all (fun y => nupB y 1073741824) = true then some ((r.take x.n.toNat).map It.n, r.drop x.n.toNat) else none) else none := rfl
    have hne0 : (((r.length + 1 : Nat) : Int) == 0) = false := beq_eq_false_iff_ne.2 (by omega)
    by_cases hn : nupB x (r.length : Int) = true
    · rw [if_pos hn] at hrd
      have hv : nupV x (r.length : Int) = x.n := if_pos hn
      have hb0 : 0 ≤ x.n ∧ x.n ≤ (r.length : Int) := by
        unfold nupB at hn
        simp only [Bool.and_eq_true, decide_eq_true_eq] at hn
        exact ⟨hn.1.2, hn.2⟩
      rw [hn, hv] at nu1
      obtain ⟨xt, xn, xs⟩ := x
      dsimp only at d0 d1 d2 hb0 nu1 hrd
      obtain ⟨N, rfl⟩ := Int.eq_ofNat_of_zero_le hb0.1
      rw [Int.toNat_natCast] at hrd
      have hN : N ≤ r.length := by omega
      have htail : ∀ W, Below w.heap.size w W → ∀ i (h : i < r.length), W.cell? ⟨b, off + 3 + i * 3, none⟩ = some (.bool r[i].t) ∧ W.cell? ⟨b, off + 3 + i * 3 + 1, none⟩ = some (.int .i64 r[i].n) ∧ W.cell? ⟨b, off + 3 + i * 3 + 2, none⟩ = some (.string r[i].s) := fun W hW i hi => by
        have k := fun o => hW.cell (p := ⟨b, o, none⟩) hbw
        obtain ⟨e0, e1, e2⟩ := hc (i + 1) (by simp; omega)
        have e3 : off + (i + 1) * 3 = off + 3 + i * 3 := by omega
        rw [e3] at e0 e1 e2
        simp only [List.getElem_cons_succ] at e0 e1 e2
        exact ⟨(k _).trans e0, (k _).trans e1, (k _).trans e2⟩
      have hrest : ∀ W, ItemsAt W (some ⟨b, off, none⟩) (⟨xt, (N : Int), xs⟩ :: r) → ItemsAt W (some ⟨b, off + (1 + N) * 3, none⟩) (r.drop N) := fun W hW => by
        have := hW.tail (1 + N)
        rw [show (⟨xt, (N : Int), xs⟩ :: r : List It).drop (1 + N) = r.drop N by rw [Nat.add_comm]; rfl] at this
        exact this
      have NU := hide nu1
      have HT := hide htail
      have HR := hide hrest
      have HRD := hide hrd
      obtain ⟨i0, hi, hz0, hz1, hz2⟩ := info_parts info_int
      have hb1 : Below w.heap.size w (w.alloc (.cells #[.bool xt, .int .i64 (N : Int), .string xs] 47)) := below_new _ _
      clear nu1 htail hrest hrd hv hn hc hA hlen
      have hs1 : (1 : Int) + (N : Int) ≤ (cap : Int) := by omega
      have hs0 : (0 : Int) ≤ (N : Int) := by omega
      clear hsub hne0
      by_cases hc1 : cap = 1
      · subst hc1
        obtain rfl : r = [] := List.eq_nil_of_length_eq_zero (by omega)
        obtain rfl : N = 0 := by simpa using hN
        have hrd := unhide HRD
        simp at hrd
        clear HT HR HRD
        simp only [List.length_nil, Nat.zero_add] at *
        go_enter Try.func55, Try.ntmps55
        go_wp2_with fail
        refine (unhide NU _).mono ?_
        rintro e w1 ⟨rfl, rfl⟩
        generalize w.alloc (.cells #[.bool xt, .int .i64 ((0 : Nat) : Int), .string xs] 47) = W1 at *
        go_wp2_with fail
        go_loopw [2, 30] (fun v i wr => v = .slice none 0 0 ∧ i = .int .i64 0 ∧ wr = W1) (fun _ _ _ => 0)
        case atStart => exact ⟨rfl, rfl, rfl⟩
        case round =>
          obtain ⟨rfl, rfl, rfl⟩ := hrel
          go_wp2
          go_quiet (fail)
          go_wp2
          go_ret3
          exact ⟨below_drewN' hb1 _, Or.inr ⟨[], [], .slice none 0 0, _, 0, hrd, rfl, OwnsN.nil _ _, fun _ _ h => absurd rfl h, by simp, by omega, by simp⟩⟩
      · go_enter Try.func55, Try.ntmps55
        go_wp2_with fail
        refine (unhide NU _).mono ?_
        rintro e w1 ⟨rfl, rfl⟩
        generalize w.alloc (.cells #[.bool xt, .int .i64 (N : Int), .string xs] 47) = W1 at *
        go_wp2_with fail
        rw [show 1 + N - 1 = N by omega]
        go_loopw [2, 30] (fun v i wr => ∃ q : Nat, q ≤ N ∧ i = .int .i64 (q : Int) ∧ Below w.heap.size w wr ∧ OwnsN w.heap.size wr v ((r.take q).map It.n) ∧ Hid (∀ y ∈ r.take q, nupB y 1073741824 = true)) (fun _ i _ => N - (intOf i).toNat)
        case atStart => exact ⟨0, Nat.zero_le _, rfl, hb1, OwnsN.nil _ _, hide (by simp)⟩
        case round =>
          clear hb1
          obtain ⟨q, hq, rfl, hb1, ow, HK⟩ := hrel
          by_cases hlt : q < N
          · have hqr : q < r.length := by omega
            obtain ⟨c0, c1, c2⟩ := unhide HT wr hb1 q hqr
            have hqi : (q : Int) < (N : Int) := by omega
            have htk : r.take (q + 1) = r.take q ++ [r[q]] := by rw [List.take_succ_eq_append_getElem hqr]
            have hmem : r[q] ∈ r.take N := by
              rw [List.mem_take_iff_getElem]
              exact ⟨q, by omega, rfl⟩
            have nu2 := fun w => numberUpTo_any r[q] 1073741824 w
            have htm : (r.take (q + 1)).map It.n = (r.take q).map It.n ++ [r[q].n] := by rw [htk, List.map_append]; rfl
            have HTK := hide htk
            have HTM := hide htm
            have HME := hide hmem
            have hl2 : ((r.take q).map It.n).length ≤ 4096 := by rw [List.length_map, List.length_take]; omega
            have hz1' := hb1.size
            clear htk hmem htm
            generalize hyy : r[q] = y at *
            generalize (r.take q).map It.n = L at *
            have hbx : Below w.heap.size w (wr.alloc (.cells #[.bool y.t, .int .i64 y.n, .string y.s] 47)) := hb1.alloc hb1.size _
            by_cases hny : nupB y 1073741824 = true
            · have hvy : nupV y 1073741824 = y.n := if_pos hny
              rw [hny, hvy] at nu2
              have HK2 : Hid (∀ z ∈ r.take (q + 1), nupB z 1073741824 = true) := hide (fun z hz => by
                rw [unhide HTK] at hz
                rcases List.mem_append.1 hz with hz | hz
                · exact unhide HK z hz
                · rw [List.mem_singleton] at hz; rw [hz]; exact hny)
              obtain ⟨yt, yn, ys⟩ := y
              dsimp only at c0 c1 c2 nu2 hbx
              have NU2 := hide nu2
              clear nu2 hvy hny HK HME hyy
              go_wp2_with fail
              refine (unhide NU2 _).mono ?_
              rintro e w2 ⟨rfl, rfl⟩
              have hb2 := hbx.alloc hbx.size (.cells #[.bool yt, .int .i64 yn, .string ys] 47)
              have ow2 := (ow.alloc (.cells #[.bool yt, .int .i64 yn, .string ys] 47)).alloc (.cells #[.bool yt, .int .i64 yn, .string ys] 47)
              generalize (wr.alloc (.cells #[.bool yt, .int .i64 yn, .string ys] 47)).alloc (.cells #[.bool yt, .int .i64 yn, .string ys] 47) = W2 at *
              have hz2' := hb2.size
              clear hbx ow hb1 NU2
              go_wp2_with (at_builtin; refine wpList_append_own _ rfl _ _ 61 rfl w.heap.size 3 i0 (.int .i64 0) 1 8 Try.underlying61 hi hz0 hz1 hz2 rfl (by decide) _ _ _ rfl (ow2.alloc _) ⟨W2.heap.size, 0, none⟩ 1 1 [.int .i64 yn] rfl rfl ?c1 ?c2 ?c3 ?c4 ?c5 ?_)
              case c1 => exact cell_one_new _ _ _
              case c2 => intro u hu; simp at hu; subst hu; rfl
              case c3 => unfold maxLen; omega
              case c4 => omega
              case c5 => simp; omega
              intro v3 w3 ow3 hg3 _
              have hf3 : Fr w.heap.size 3 W2 w3 := ((Fr.refl _ _ W2).alloc hz2' _).grown (ow2.alloc _) hg3 (by simp; omega)
              have ow4 : OwnsN w.heap.size w3 v3 ((r.take (q + 1)).map It.n) := by
                rw [unhide HTM]
                unfold OwnsN intC
                rw [List.length_append, List.map_append]
                exact ow3
              have hb3 := hb2.trans hf3.below
              clear ow3 hg3 hf3 ow2 hb2
              go_wp2
              go_roundw
              case rel =>
                exact ⟨q + 1, by omega, by go_num, hb3, ow4, HK2⟩
              case measure => simp [intOf]; omega
            · have hny' : nupB y 1073741824 = false := by simpa using hny
              have hvy : nupV y 1073741824 = 0 := if_neg hny
              rw [hny', hvy] at nu2
              have hrd := unhide HRD
              rw [if_neg (fun h => hny (List.all_eq_true.1 h y (unhide HME)))] at hrd
              obtain ⟨yt, yn, ys⟩ := y
              dsimp only at c0 c1 c2 nu2 hbx
              have NU2 := hide nu2
              have HRD2 := hide hrd
              clear nu2 hvy hny hny' HK HME hrd HRD hyy
              go_wp2_with fail
              refine (unhide NU2 _).mono ?_
              rintro e w2 ⟨rfl, rfl⟩
              go_wp2
              go_ret3
              exact ⟨hbx.alloc hbx.size _, Or.inl ⟨unhide HRD2, rfl⟩⟩
          · obtain rfl : q = N := by omega
            have hrd := unhide HRD
            rw [if_pos (List.all_eq_true.2 (unhide HK))] at hrd
            have hre := unhide HR
            have HRD2 := hide hrd
            have HRE := hide hre
            have hdl : (r.drop q).length = r.length - q := List.length_drop
            clear HK HRD hrd hre HR HT NU
            by_cases hc2 : cap = 1 + q
            · have hrn : r.drop q = [] := List.drop_of_length_le (by omega)
              have hrl : r.length = q := by omega
              have hcq : (cap : Int) = 1 + (q : Int) := by omega
              go_wp2
              go_quiet (fail)
              go_wp2
              go_ret3
              refine ⟨below_drewN' hb1 _, Or.inr ⟨_, _, _, some ⟨b, off, none⟩, 0, unhide HRD2, ?_, OwnsN.below ow (below_drewN' (Below.refl _ _) _) (Nat.le_refl _), fun _ _ h => absurd hrn h, by rw [hrn]; simp, by omega, by rw [hdl]; omega⟩⟩
              have e1 : q + 1 - (1 + q) = (r.drop q).length := by rw [hdl]; omega
              have e2 : 1 + q - (1 + q) = 0 := by omega
              rw [← e1]
              exact congrArg (fun n => Ending.returned (.tuple #[_, .slice (some ⟨b, off, none⟩) (q + 1 - (1 + q)) n, .bool true])) e2
            · go_wp2
              go_quiet (fail)
              go_wp2
              go_ret3
              refine ⟨below_drewN' hb1 _, Or.inr ⟨_, _, _, some ⟨b, off + (1 + q) * 3, none⟩, cap - (1 + q), unhide HRD2, ?_, OwnsN.below ow (below_drewN' (Below.refl _ _) _) (Nat.le_refl _), unhide HRE, by rw [hdl]; omega, by omega, by rw [hdl]; omega⟩⟩
              have e1 : r.length + 1 - (1 + q) = (r.drop q).length := by rw [hdl]; omega
              rw [← e1]
              rfl
    · rw [if_neg hn] at hrd
      have hn' : nupB x (r.length : Int) = false := by simpa using hn
      have hv : nupV x (r.length : Int) = 0 := if_neg hn
      rw [hn', hv] at nu1
      obtain ⟨xt, xn, xs⟩ := x
      dsimp only at d0 d1 d2 nu1 hrd
      have NU := hide nu1
      have HRD := hide hrd
      clear nu1 hrd hv hn hn' hc hA hlen hne0
      go_enter Try.func55, Try.ntmps55
      go_wp2_with fail
      refine (unhide NU _).mono ?_
      rintro e w1 ⟨rfl, rfl⟩
      go_wp2
      go_ret3
      exact ⟨below_new _ _, Or.inl ⟨unhide HRD, rfl⟩⟩
end Go.Proofs.Ytpfcoaimciojjaa
