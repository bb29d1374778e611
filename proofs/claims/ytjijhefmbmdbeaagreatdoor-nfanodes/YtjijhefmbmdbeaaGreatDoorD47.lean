/-
  inOrder and Nodes: the nodes of a pattern, in order.
  NfaReaches: all nodes that come out along any events are among a pattern's nodes. First: the statement's own search.
  The document's Nodes: how all that may be, and what is known, lie.
-/
import Derived.Test.YtjijhefmbmdbeaaGreatDoorD46
import Derived.Laws.MakeOwn
import Derived.Test.YtjijhefmbmdbeaaGreatDoorD45
import Derived.Deep.DeepCutAuto
import Derived.Laws.OwnMore
namespace Go.Proofs.YtjijhefmbmdbeaaGreatDoor
open Go.RowKit Go.Shelf

def preN (k j m : Nat) : List Nd := allN k ++ (four (k + 1)).take (2 * j + m)
theorem preN_zero (k : Nat) : preN k 0 0 = allN k := by unfold preN; simp
theorem preN_two (k j : Nat) : preN k j 2 = preN k (j + 1) 0 := by unfold preN; rw [show 2 * j + 2 = 2 * (j + 1) + 0 by omega]
theorem preN_all (k : Nat) : preN k 2 0 = allN (k + 1) := by unfold preN; rw [allN]; rfl
theorem preN_next {k j m : Nat} (hj : j < 2) (hm : m < 2) : preN k j (m + 1) = preN k j m ++ [⟨((k + 1 : Nat) : Int), bv j, bv m⟩] := by
  unfold preN
  rw [List.append_assoc]
  congr 1
  match j, hj, m, hm with
  | 0, _, 0, _ => rfl
  | 0, _, 1, _ => rfl
  | 1, _, 0, _ => rfl
  | 1, _, 1, _ => rfl
theorem preN_len (k j m : Nat) (f : Nd → Bool) : ((preN k j m).filter f).length ≤ 4 * k + 4 := by
  have h1 := List.length_filter_le f (preN k j m)
  have h2 : (preN k j m).length ≤ 4 * k + 4 := by
    unfold preN
    rw [List.length_append, allN_len, List.length_take]
    simp [four]
    omega
  omega
/-- A pattern's box, what was seen, the row that is told. -/
structure InS (w W : World) (pc : Array Value) (mb : Nat) (S : List Nd) (v : Value) (L : List Nd) : Prop where
  p : CBox w.heap.size pc 24 W
  m : SetN W mb S
  r : OwnsD (w.heap.size + 1) W v L
  k : Kp [] w W
theorem InS.kp {w W W' : World} {pc : Array Value} {mb : Nat} {v : Value} {S L : List Nd} (h : InS w W pc mb S v L) (hk : Kp [] W W') : InS w W' pc mb S v L :=
  ⟨h.p.kp hk (by simp), h.m.kp hk (by simp), h.r.kp hk, h.k.trans hk (by simp)⟩
theorem InS.put {w W : World} {pc : Array Value} {mb : Nat} {v : Value} {S L : List Nd} (h : InS w W pc mb S v L) (hmb : mb < w.heap.size) (x : Nd) (hl : L.length ≤ 1000) (ty : TypeId) :
    ∃ g cap w', (Builtin.append_ #[41, 41] ty #[v, .slice (some ⟨W.heap.size, 0, none⟩) 1 1]).run Tryz.prog (W.alloc (.cells #[.int .i64 x.st, .bool x.lp, .bool x.tk] 26)) = .ok (.slice (some ⟨g, 0, none⟩) (L.length + 1) cap) w' ∧ InS w w' pc mb S (.slice (some ⟨g, 0, none⟩) (L.length + 1) cap) (L ++ [x]) := by
  have k1 := Kp.alloc W (.cells #[.int .i64 x.st, .bool x.lp, .bool x.tk] 26)
  have h1 := h.kp k1
  have hlt : w.heap.size < W.heap.size := (Array.getElem?_eq_some_iff.1 h.p).1
  obtain ⟨g, cap, w', hr, ho, hb, hg⟩ := h1.r.app (by have := k1.size; omega) x (g := W.heap.size) (c := 1) (CBox.new W _ _) (by omega) ty
  have hkp := Kp.of hg
  have hlow : ∀ q ∈ v.ownBlock.toList, w.heap.size + 1 ≤ q := fun q hq => (World.ownsRow.lt h1.r q (by simpa using hq)).1
  exact ⟨g, cap, w', hr, h1.p.kp hkp (fun hm => by have := hlow _ hm; omega), h1.m.kp hkp (fun hm => by have := hlow _ hm; omega), ho, h1.k.trans hkp (fun q hq => Or.inr (by have := hlow _ hq; omega))⟩
set_option maxHeartbeats 4000000 in
set_option maxRecDepth 100000 in
theorem inOrder_any (sa : Option Addr) (sc : Nat) (l : List SR) (wi : Int) (mb : Nat) (S : List Nd) (w : World) (h8 : l.length ≤ 8) (hb : Both w) (hS : SetN w mb S) (hS32 : S.length ≤ 32) :
    Calls Tryz.prog 35 #[.agg #[.slice sa l.length sc, .int .i64 wi], .map (some mb)] w fun e w' => ∃ v, e = .returned v ∧ OwnsD (w.heap.size + 1) w' v ((allN l.length).filter (hasD S)) ∧ Kp [] w w' := by
  generalize l.length = nn at *
  have k0 := Kp.alloc w (.cells #[.slice sa nn sc, .int .i64 wi] 24)
  have hmb : mb < w.heap.size := hS.lt
  have hln : (Builtin.len_ #[65] 3 #[.map (some mb)]).run Tryz.prog (w.alloc (.cells #[.slice sa nn sc, .int .i64 wi] 24)) = .ok (.int .i64 (S.length : Int)) (w.alloc (.cells #[.slice sa nn sc, .int .i64 wi] 24)) := (hS.kp k0 (by simp)).len _
  obtain ⟨i0, hi, hz0, hz1, hz2⟩ := info_parts info_NdW
  obtain ⟨w1, hmk, how, hgr⟩ := run_make_own (P := Tryz.prog) (w.alloc (.cells #[.slice sa nn sc, .int .i64 wi] 24)) (w.heap.size + 1) 41 26 i0 _ 3 Tryz.underlying41 hi hz0 hz1 .i64 .i64 S.length (by rw [hz2]; omega) (by unfold maxLen; omega) (by simp)
  have k1 := k0.trans (Kp.of hgr) (by simp)
  have HR0 : Hid (InS w w1 #[.slice sa nn sc, .int .i64 wi] mb S (.slice (some ⟨(w.alloc (.cells #[.slice sa nn sc, .int .i64 wi] 24)).heap.size, 0, none⟩) 0 S.length) []) := hide ⟨(CBox.new w _ _).kp (Kp.of hgr) (by simp), hS.kp k1 (by simp), how, k1⟩
  rw [show (w.alloc (.cells #[.slice sa nn sc, .int .i64 wi] 24)).heap.size = w.heap.size + 1 by simp] at hmk HR0
  have p0 := (unhide HR0).p.cell (i := 0) (v := .slice sa nn sc) rfl
  have HBO := hide hb
  clear hi hz0 hz1 hz2 how hgr k1 hS hb k0 i0
  go_enter Tryz.func35, Tryz.ntmps35
  go_wp2_with fail
  go_loopw [5, 20] (fun v i wr => ∃ (k : Nat) (a : Option Addr) (c NL : Nat), k ≤ nn ∧ i = .int .i64 (k : Int) ∧ v = .slice a NL c ∧ Hid (NL = ((allN k).filter (hasD S)).length) ∧ Hid (InS w wr #[.slice sa nn sc, .int .i64 wi] mb S (.slice a NL c) ((allN k).filter (hasD S)))) (fun _ i _ => nn - (intOf i).toNat)
  case atStart => exact ⟨0, _, _, 0, by omega, rfl, rfl, hide rfl, HR0⟩
  case round =>
    obtain ⟨k, a, c, NL, hk, rfl, rfl, HNL, HB⟩ := hrel
    clear HR0 p0 hmk hln
    by_cases hlt : k < nn
    · have hli : (k : Int) < (nn : Int) := by omega
      obtain ⟨b0, b1⟩ := ((unhide HBO).kp (unhide HB).k (by simp)).cells
      go_wp2_with fail
      go_loopw [5, 24] (fun v i wr => ∃ (j : Nat) (a : Option Addr) (c NL : Nat), j ≤ 2 ∧ i = .int .i64 (j : Int) ∧ v = .slice a NL c ∧ Hid (NL = ((preN k j 0).filter (hasD S)).length) ∧ Hid (InS w wr #[.slice sa nn sc, .int .i64 wi] mb S (.slice a NL c) ((preN k j 0).filter (hasD S)))) (fun _ i _ => 2 - (intOf i).toNat)
      case atStart => exact ⟨0, a, c, NL, by omega, rfl, rfl, by rw [preN_zero]; exact HNL, by rw [preN_zero]; exact HB⟩
      case round =>
        obtain ⟨j, a, c, NL, hj, rfl, rfl, HNL, HB⟩ := hrel
        clear b0 b1
        by_cases hlt2 : j < 2
        · have hli2 : (j : Int) < 2 := by omega
          have hix := fun W => index2 j hlt2 W
          obtain ⟨b0, b1⟩ := ((unhide HBO).kp (unhide HB).k (by simp)).cells
          go_wp2_with fail
          go_loopw [5, 28] (fun v i wr => ∃ (m : Nat) (a : Option Addr) (c NL : Nat), m ≤ 2 ∧ i = .int .i64 (m : Int) ∧ v = .slice a NL c ∧ Hid (NL = ((preN k j m).filter (hasD S)).length) ∧ Hid (InS w wr #[.slice sa nn sc, .int .i64 wi] mb S (.slice a NL c) ((preN k j m).filter (hasD S)))) (fun _ i _ => 2 - (intOf i).toNat)
          case atStart => exact ⟨0, a, c, NL, by omega, rfl, rfl, HNL, HB⟩
          case round =>
            obtain ⟨m, a, c, NL, hm, rfl, rfl, HNL, HB⟩ := hrel
            clear b0 b1
            by_cases hlt3 : m < 2
            · have hli3 : (m : Int) < 2 := by omega
              have hix2 := fun W => index2 m hlt3 W
              have hwr : IntKind.i64.wrap ((k : Int) + 1) = ((k + 1 : Nat) : Int) := by simp only [IntKind.wrap_i64]; omega
              have HNX : Hid ((preN k j (m + 1)).filter (hasD S) = if hasD S ⟨((k + 1 : Nat) : Int), bv j, bv m⟩ = true then (preN k j m).filter (hasD S) ++ [⟨((k + 1 : Nat) : Int), bv j, bv m⟩] else (preN k j m).filter (hasD S)) := hide (by
                rw [preN_next hlt2 hlt3, List.filter_append]
                by_cases e : hasD S ⟨((k + 1 : Nat) : Int), bv j, bv m⟩ = true
                · rw [if_pos e, List.filter_cons_of_pos e, List.filter_nil]
                · rw [if_neg e, List.filter_cons_of_neg e, List.filter_nil, List.append_nil])
              have hlen := preN_len k j m (hasD S)
              have HNN := HNL
              have hR1 := (unhide HB).kp (Kp.alloc wr (.cells #[.int .i64 ((k + 1 : Nat) : Int), .bool (bv j), .bool (bv m)] 26))
              have hR2 := hR1.kp (Kp.alloc _ (.cells #[] 91))
              have hnb := CBox.new wr #[.int .i64 ((k + 1 : Nat) : Int), .bool (bv j), .bool (bv m)] 26
              have hnb2 := hnb.kp (Kp.alloc _ (.cells #[] 91)) (by simp)
              have hlk : (Instr.lookup 65 (.map (some mb)) (.agg #[.int .i64 ((k + 1 : Nat) : Int), .bool (bv j), .bool (bv m)]) true).run Tryz.prog (wr.alloc (.cells #[.int .i64 ((k + 1 : Nat) : Int), .bool (bv j), .bool (bv m)] 26)) = .ok (.tuple #[.agg #[], .bool (hasD S ⟨((k + 1 : Nat) : Int), bv j, bv m⟩)]) (wr.alloc (.cells #[.int .i64 ((k + 1 : Nat) : Int), .bool (bv j), .bool (bv m)] 26)) := hR1.m.look ⟨((k + 1 : Nat) : Int), bv j, bv m⟩
              obtain ⟨g', cap', w4, hrun, hR4⟩ := hR2.put hmb ⟨((k + 1 : Nat) : Int), bv j, bv m⟩ (by omega) 41
              have v0 := hnb.cell (i := 0) (v := .int .i64 ((k + 1 : Nat) : Int)) rfl
              have v1 := hnb.cell (i := 1) (v := .bool (bv j)) rfl
              have v2 := hnb.cell (i := 2) (v := .bool (bv m)) rfl
              have u0 := hnb2.cell (i := 0) (v := .int .i64 ((k + 1 : Nat) : Int)) rfl
              have u1 := hnb2.cell (i := 1) (v := .bool (bv j)) rfl
              have u2 := hnb2.cell (i := 2) (v := .bool (bv m)) rfl
              rw [← unhide HNN] at hrun hR4
              dsimp only at hrun
              have hsz : ((wr.alloc (.cells #[.int .i64 ((k + 1 : Nat) : Int), .bool (bv j), .bool (bv m)] 26)).alloc (.cells #[] 91)).heap.size = wr.heap.size + 1 + 1 := by simp
              rw [hsz] at hrun
              have HRUN := hide hrun
              have HR4 := hide hR4
              have HR2 := hide hR2
              generalize hK1 : ((k + 1 : Nat) : Int) = K1 at *
              generalize bv j = BJ at *
              generalize bv m = BM at *
              clear hR1 hR2 hnb hnb2 hrun hR4 HB hlen HNN hK1
              cases hh : hasD S ⟨K1, BJ, BM⟩ with
              | true =>
                have hnx := unhide HNX
                rw [if_pos hh] at hnx
                rw [hh] at hlk
                rw [← hnx] at HR4
                have HNF : Hid (NL + 1 = ((preN k j (m + 1)).filter (hasD S)).length) := hide (by rw [hnx, List.length_append, unhide HNL]; rfl)
                clear hnx hh HNX HR2 HBO HNL
                go_wp2_with (at_builtin; refine wpList_app_run rfl _ _ _ rfl rfl rfl (unhide HRUN) ?_)
                go_roundw
                case rel => exact ⟨m + 1, _, _, _, by omega, by go_num, rfl, HNF, HR4⟩
                case measure => simp [intOf]; omega
              | false =>
                have hnx := unhide HNX
                rw [if_neg (by rw [hh]; simp)] at hnx
                rw [hh] at hlk
                rw [← hnx] at HR2 HNL
                clear hnx hh HNX HR4 HBO HRUN
                go_wp2_with fail
                go_roundw
                case rel => exact ⟨m + 1, _, _, _, by omega, by go_num, rfl, HNL, HR2⟩
                case measure => simp [intOf]; omega
            · obtain rfl : m = 2 := by omega
              rw [preN_two] at HNL HB
              have HB3 := HB
              clear HB HBO
              go_wp2_with fail
              go_roundw
              case rel => exact ⟨j + 1, a, c, NL, by omega, by go_num, rfl, HNL, HB3⟩
              case measure => simp [intOf]; omega
        · obtain rfl : j = 2 := by omega
          rw [preN_all] at HNL HB
          have HB3 := HB
          clear HB HBO
          go_wp2_with fail
          go_roundw
          case rel => exact ⟨k + 1, a, c, NL, by omega, by go_num, rfl, HNL, HB3⟩
          case measure => simp [intOf]; omega
    · obtain rfl : k = nn := by omega
      have HF := hide (And.intro (unhide HB).r (unhide HB).k)
      clear HBO HB HNL
      go_wp2
      go_ret
      exact ⟨_, rfl, (unhide HF).1, (unhide HF).2⟩
/-- What Nodes tells. -/
def nnE (p : Ptn) : Int := (pcR p).2
def nnL (p : Ptn) : List Nd := if (pcR p).2 = 0 then ndsR p.ss else []
set_option maxHeartbeats 4000000 in
set_option maxRecDepth 100000 in
theorem nnodes_any (sa : Option Addr) (sc : Nat) (l : List SR) (wi : Int) (w : World) (h : StsAt w sa l) (hT : TbE w) (hb : Both w) (hok : ∀ r ∈ l, r.s.ok) (hl : l.length ≤ 9223372036854775807) :
    Calls Tryz.prog 18 #[.agg #[.slice sa l.length sc, .int .i64 wi]] w fun e w' => ∃ v, e = .returned (.tuple #[v, .int .i64 (nnE ⟨stgs l, wi⟩)]) ∧ OwnsD w.heap.size w' v (nnL ⟨stgs l, wi⟩) ∧ Kp [] w w' := by
  have k0 := Kp.alloc w (.cells #[.slice sa l.length sc, .int .i64 wi] 24)
  have hP := CBox.new w #[.slice sa l.length sc, .int .i64 wi] 24
  have CK := hide (pcheck_any sa sc l wi _ (h.kp k0) (hT.kp k0 (by simp)) hok hl)
  have RC : Hid ((pcR ⟨stgs l, wi⟩).2 = 0 → ∀ W, Kp [] w W → Calls Tryz.prog 36 #[.agg #[.slice sa l.length sc, .int .i64 wi]] W fun e w' => ∃ S : List Nd, e = .returned (.map (some (W.heap.size + 1))) ∧ SetN w' (W.heap.size + 1) S ∧ S.length ≤ 32 ∧ Hid ((allN l.length).filter (hasD S) = ndsR (stgs l)) ∧ Kp [] W w') := hide (fun h0 W hk => by
    obtain ⟨p1, p2, _, _⟩ := pc_ok h0
    dsimp only at p1 p2
    rw [stgs_len] at p2
    refine (reached_any sa sc l wi W (h.kp hk) p2 (hb.kp hk (by simp))).mono fun e w' ⟨S, h1, h2, h3, h4, h5⟩ => ⟨S, h1, h2, ?_, hide ?_, h5⟩
    · have := rch_few h3 (fun n hn => (h4 n).1 hn)
      rw [stgs_len] at this
      omega
    · unfold ndsR
      rw [stgs_len]
      refine List.filter_congr fun n _ => ?_
      rw [Bool.eq_iff_iff, hasD_iff]
      exact h4 n)
  have IO : Hid ((pcR ⟨stgs l, wi⟩).2 = 0 → ∀ (mb : Nat) (S : List Nd) W, Kp [] w W → SetN W mb S → S.length ≤ 32 → Calls Tryz.prog 35 #[.agg #[.slice sa l.length sc, .int .i64 wi], .map (some mb)] W fun e w' => ∃ v, e = .returned v ∧ OwnsD (W.heap.size + 1) w' v ((allN l.length).filter (hasD S)) ∧ Kp [] W w') := hide (fun h0 mb S W hk hS h32 => by
    obtain ⟨p1, p2, _, _⟩ := pc_ok h0
    dsimp only at p1 p2
    rw [stgs_len] at p2
    exact inOrder_any sa sc l wi mb S W p2 (hb.kp hk (by simp)) hS h32)
  have HL : Hid (nnL ⟨stgs l, wi⟩ = if (pcR ⟨stgs l, wi⟩).2 = 0 then ndsR (stgs l) else []) := hide rfl
  have HE : Hid (nnE ⟨stgs l, wi⟩ = (pcR ⟨stgs l, wi⟩).2) := hide rfl
  generalize (pcR ⟨stgs l, wi⟩).1 = PA at *
  generalize (pcR ⟨stgs l, wi⟩).2 = PC at *
  generalize nnE ⟨stgs l, wi⟩ = EE at *
  generalize nnL ⟨stgs l, wi⟩ = LL at *
  generalize ndsR (stgs l) = ND at *
  have HV : Hid (∀ W, Kp [] (w.alloc (.cells #[.slice sa l.length sc, .int .i64 wi] 24)) W → (W.cell? ⟨w.heap.size, 0, none⟩ = some (.slice sa l.length sc) ∧ W.cell? ⟨w.heap.size, 1, none⟩ = some (.int .i64 wi)) ∧ Hid (Kp [] w W)) := hide (fun W hk => ⟨⟨(hP.kp hk (by simp)).cell rfl, (hP.kp hk (by simp)).cell rfl⟩, hide (k0.trans hk (by simp))⟩)
  clear h hT hb hok hl k0 hP
  generalize l.length = nn at *
  obtain ⟨⟨c0, c1⟩, _⟩ := unhide HV _ (Kp.refl _ _)
  go_enter Tryz.func18, Tryz.ntmps18
  go_wp2_with fail
  refine (unhide CK).mono ?_
  rintro e w1 ⟨rfl, hb1⟩
  have HK1 := hide (Kp.ofBelow hb1)
  obtain ⟨⟨d0, d1⟩, HW1⟩ := unhide HV _ (unhide HK1)
  clear c0 c1 hb1 CK
  have hE := unhide HE
  have hL := unhide HL
  clear HE HL
  subst hE
  by_cases hp : EE = 0
  · subst hp
    rw [if_pos rfl] at hL
    subst hL
    have RC1 := hide (unhide RC rfl)
    have IO1 := hide (unhide IO rfl)
    have HSK : Hid (∀ W, Kp [] w1 W → W.cell? ⟨w.heap.size, 0, none⟩ = some (.slice sa nn sc) ∧ W.cell? ⟨w.heap.size, 1, none⟩ = some (.int .i64 wi)) := hide (fun W hk => ⟨hk.cell d0 (by simp), hk.cell d1 (by simp)⟩)
    have HK0 : Hid (Kp [] w1 w1.drew) := hide (Kp.drew w1)
    have HWD : Hid (Kp [] w w1.drew) := hide ((unhide HW1).trans (Kp.drew w1) (by simp))
    clear RC IO d0 d1 HV HK1
    go_wp2_with fail
    go_region_held3 (fun W => W.cell? ⟨w.heap.size, 0, none⟩ = some (.slice sa nn sc) ∧ W.cell? ⟨w.heap.size, 1, none⟩ = some (.int .i64 wi))
      (first | exact unhide HSK _ (unhide (by with_reducible assumption)))
      (first
        | (go_at_call 35; (with_reducible refine (unhide IO1 _ _ _ (unhide HW3) (unhide HS3).1 (unhide HS3).2).mono ?_); rintro r w4 ⟨v4, rfl, ho4, hk4⟩; have HO4 := hide ho4; have HK4 := hide ((unhide HK3).trans hk4 (by simp)); have HW4 := hide ((unhide HW3).trans hk4 (by simp)); clear ho4 hk4)
        | (go_at_call 36; (with_reducible refine (unhide RC1 _ (unhide HWD)).mono ?_); rintro r w3 ⟨S, rfl, hs3, h32, HEQ, hk3⟩; have hs4 : SetN w3 (w1.heap.size + 1) S := hs3; have HS3 := hide (And.intro hs4 h32); have HK3 := hide ((unhide HK0).trans hk3 (by simp)); have HW3 := hide ((unhide HWD).trans hk3 (by simp)); clear hs3 hs4 h32 hk3))
    go_wp2
    have ho := unhide HO4
    rw [unhide HEQ] at ho
    exact bodyPost_ret (results_tmp2 rfl _ _ _) rfl ⟨_, rfl, ho.base (by have := (unhide HW3).size; omega), unhide HW4⟩
  · rw [if_neg hp] at hL
    subst hL
    have g : (EE != 0) = true := by simp [hp]
    clear RC IO HV HK1
    go_wp2
    exact bodyPost_ret (results_tmp2 rfl _ _ _) rfl ⟨_, rfl, OwnsD.nil _ _, unhide HW1⟩
end Go.Proofs.YtjijhefmbmdbeaaGreatDoor
namespace Go.Proofs.YtjijhefmbmdbeaaGreatDoor
open Go.RowKit Go.Shelf

theorem OwnsD.get {B g N cap : Nat} {w : World} {l : List Nd} (h : OwnsD B w (.slice (some ⟨g, 0, none⟩) N cap) l) (k : Nat) (hk : k < l.length) : w.cell? ⟨g, k * 3, none⟩ = some (.int .i64 l[k].st) ∧ w.cell? ⟨g, k * 3 + 1, none⟩ = some (.bool l[k].lp) ∧ w.cell? ⟨g, k * 3 + 2, none⟩ = some (.bool l[k].tk) := by
  have hN : N = l.length := by
    rcases h.at with ⟨e, _⟩ | ⟨g', cap', e, _⟩
    · cases e
    · injection e with _ e2 _
  subst hN
  exact ⟨own_cell Nd.l_len h k 0 hk (by omega), own_cell Nd.l_len h k 1 hk (by omega), own_cell Nd.l_len h k 2 hk (by omega)⟩
/-- A row of nodes lies in a cell. -/
structure RowIn (W : World) (ga g cap : Nat) (L : List Nd) : Prop where
  c : W.cell? ⟨ga, 0, none⟩ = some (.slice (some ⟨g, 0, none⟩) L.length cap)
  r : OwnsD 0 W (.slice (some ⟨g, 0, none⟩) L.length cap) L
theorem RowIn.kp {W W' : World} {ga g cap : Nat} {L : List Nd} (h : RowIn W ga g cap L) (hk : Kp [] W W') : RowIn W' ga g cap L := ⟨hk.cell h.c (by simp), h.r.kp hk⟩
end Go.Proofs.YtjijhefmbmdbeaaGreatDoor
namespace Go.Proofs.YtjijhefmbmdbeaaGreatDoor
open Go.RowKit Go.Shelf

def knC (kn : List Bool) : Array Value := (kn.map Value.bool).toArray
theorem knC_at {kn : List Bool} {i : Nat} (h : i < kn.length) : (knC kn)[i]? = some (.bool kn[i]) := by
  unfold knC
  simp [h]
theorem knC_set (kn : List Bool) (i : Nat) (b : Bool) : (knC kn).setIfInBounds i (.bool b) = knC (kn.set i b) := by
  unfold knC
  apply Array.ext'
  simp [List.map_set]
theorem knC_new (n : Nat) : knC (List.replicate n false) = (List.replicate n (Value.bool false)).toArray := by
  unfold knC
  rw [List.map_replicate]
/-- A pattern's box and a row of nodes. -/
structure RnS (w W : World) (pc : Array Value) (v : Value) (L : List Nd) : Prop where
  p : CBox w.heap.size pc 24 W
  r : OwnsD (w.heap.size + 1) W v L
  k : Kp [] w W
theorem RnS.kp {w W W' : World} {pc : Array Value} {v : Value} {L : List Nd} (h : RnS w W pc v L) (hk : Kp [] W W') : RnS w W' pc v L := ⟨h.p.kp hk (by simp), h.r.kp hk, h.k.trans hk (by simp)⟩
theorem RnS.put {w W : World} {pc : Array Value} {v : Value} {L : List Nd} (h : RnS w W pc v L) (x : Nd) (hl : L.length ≤ 1000) (ty : TypeId) :
    ∃ g cap w', (Builtin.append_ #[41, 41] ty #[v, .slice (some ⟨W.heap.size, 0, none⟩) 1 1]).run Tryz.prog (W.alloc (.cells #[.int .i64 x.st, .bool x.lp, .bool x.tk] 26)) = .ok (.slice (some ⟨g, 0, none⟩) (L.length + 1) cap) w' ∧ RnS w w' pc (.slice (some ⟨g, 0, none⟩) (L.length + 1) cap) (L ++ [x]) := by
  have k1 := Kp.alloc W (.cells #[.int .i64 x.st, .bool x.lp, .bool x.tk] 26)
  have h1 := h.kp k1
  have hlt : w.heap.size < W.heap.size := (Array.getElem?_eq_some_iff.1 h.p).1
  obtain ⟨g, cap, w', hr, ho, hb, hg⟩ := h1.r.app (by have := k1.size; omega) x (g := W.heap.size) (c := 1) (CBox.new W _ _) (by omega) ty
  have hkp := Kp.of hg
  have hlow : ∀ q ∈ v.ownBlock.toList, w.heap.size + 1 ≤ q := fun q hq => (World.ownsRow.lt h1.r q (by simpa using hq)).1
  exact ⟨g, cap, w', hr, h1.p.kp hkp (fun hm => by have := hlow _ hm; omega), ho, h1.k.trans hkp (fun q hq => Or.inr (by have := hlow _ hq; omega))⟩
/-- The four of a stage, from the last one on. -/
def fourAt (s : Nat) (m : Nat) : Nd := ⟨(s : Int), decide (m / 2 = 1), decide (m % 2 = 1)⟩
theorem four_take {s j : Nat} (hj : j < 4) : (four s).take (j + 1) = (four s).take j ++ [fourAt s (3 - j)] := by
  match j, hj with
  | 0, _ => rfl
  | 1, _ => rfl
  | 2, _ => rfl
  | 3, _ => rfl
def preM (k j : Nat) : List Nd := allN k ++ (four (k + 1)).take j
theorem preM_zero (k : Nat) : preM k 0 = allN k := by unfold preM; simp
theorem preM_four (k : Nat) : preM k 4 = allN (k + 1) := by unfold preM; rw [allN]; rfl
theorem preM_next {k j : Nat} (hj : j < 4) : preM k (j + 1) = preM k j ++ [fourAt (k + 1) (3 - j)] := by
  unfold preM
  rw [four_take hj, List.append_assoc]
theorem preM_len (k j : Nat) (f : Nd → Bool) : ((preM k j).filter f).length ≤ 4 * k + 4 := by
  have h1 := List.length_filter_le f (preM k j)
  have h2 : (preM k j).length ≤ 4 * k + 4 := by
    unfold preM
    rw [List.length_append, allN_len, List.length_take]
    simp [four]
    omega
  omega
theorem info_bool : (Tryz.prog.info? 4).map (fun i => (i.zero, i.size, i.bytes)) = some (some (.bool false), 1, 1) := by kernel_rfl
/-- What is known at first: nothing. -/
theorem mk_bools (n : Nat) (hn : n ≤ 100000) (W : World) : (Instr.makeSlice 67 (.int .i64 (n : Int)) (.int .i64 (n : Int))).run Tryz.prog W = .ok (.slice (some ⟨W.heap.size, 0, none⟩) n n) (W.alloc (.cells (knC (List.replicate n false)) 4)) := by
  obtain ⟨i0, hi, hz0, hz1, hz2⟩ := info_parts info_bool
  have h := run_make (P := Tryz.prog) W 67 4 i0 (.bool false) Tryz.underlying67 hi hz0 .i64 .i64 (n : Int) (n : Int) (by omega) (by omega) (by rw [hz2]; omega) (by omega)
  rw [hz1] at h
  simp only [Int.toNat_natCast, Nat.mul_one] at h
  rw [h]
  have e : madeCells (Value.bool false).cells n = knC (List.replicate n false) := by
    rw [knC_new]
    apply Array.ext'
    exact toList_madeCells_one (Value.bool false) n
  rw [e]
end Go.Proofs.YtjijhefmbmdbeaaGreatDoor
