/-
  SourceCounts: the walk.
-/
import Derived.Test.YtkcbjjpbcgdabaaSoL
import Derived.Test.YtkcbjjpbcgdabaaEvsIn
namespace Go.Proofs.Ytkcbjjpbcgdabaa
open Go.RowKit

/-- The ends of a source's partitions, and a row that has the same. -/
structure CoS (w0 w : World) (g b : Nat) (n : Nat) (ps : List (List Ev)) : Prop where
  own : OwnSo w0 w g ps
  row : CBox b (intC (ps.map List.length)).toArray 3 w
  len : ps.length = n
theorem CoS.cell {w0 w : World} {g b n : Nat} {ps : List (List Ev)} (h : CoS w0 w g b n ps) (k : Nat) (hk : k < n) : ∃ m : Nat, m ≤ 4096 ∧ w.cell? ⟨b, k, none⟩ = some (.int .i64 (m : Int)) ∧ (ps.map List.length)[k]? = some m := by
  have hk' : k < ps.length := by rw [h.len]; exact hk
  refine ⟨ps[k].length, h.own.lim _ (List.getElem_mem _), h.row.cell ?_, ?_⟩
  · simp [intC, hk']
  · simp [hk']
theorem soAdd_lens (ps : List (List Ev)) (i : Nat) (hi : i < ps.length) (e : Ev) : (intC (ps.map List.length)).toArray.setIfInBounds i (.int .i64 ((ps[i].length : Int) + 1)) = (intC ((soAdd ps i e).map List.length)).toArray := by
  unfold soAdd intC
  rw [List.getElem?_eq_getElem hi]
  simp [List.map_set]
set_option maxHeartbeats 4000000 in
set_option maxRecDepth 100000 in
theorem counts_walk (parts : Int) (ad : Option Addr) (cap : Nat) (l : List Ev) (w : World) (_hl : l.length ≤ 9223372036854775807) (hA : EvsAt w ad l) (hok : ∀ e ∈ l, e.ok) :
    Calls Try.prog 8 #[.int .i64 parts, .slice ad l.length cap] w fun e w' => e = .returned (.bool true) ∧ Below w.heap.size w w' := by
  have WK := hide (soWorks_any w)
  have AM := hide (fun W => soAmong_any parts 8 W (by decide) (by decide))
  obtain ⟨n, hn, h1, h2⟩ : ∃ n : Nat, 1 + parts % 8 = (n : Int) ∧ 1 ≤ n ∧ n ≤ 8 := ⟨(1 + parts % 8).toNat, by omega, by omega, by omega⟩
  have NW := hide (fun W => snew_own n h1 (by omega) W)
  have hmk := mk_ints n (by omega)
  have HA := hide hA
  have HOK := hide hok
  have HST : Hid (∀ W1 W2 g, Kp [] w W1 → OwnSo W1 W2 g (soNew n) → CoS w (W2.alloc (.cells (Array.replicate n (.int .i64 0)) 3)) g W2.heap.size n (soNew n)) := hide (fun W1 W2 g hk ho => by
    obtain ⟨F, hd, hk2, hF⟩ := ho
    have hs := hk.size
    have o2 : OwnSo w W2 g (soNew n) := ⟨F, hd, hk.trans hk2 (by simp), fun k hkk => by have := hF k hkk; omega⟩
    refine ⟨o2.kp (Kp.alloc _ _), ?_, soNew_len n⟩
    have := CBox.new W2 (Array.replicate n (Value.int .i64 0)) 3
    have e : (intC ((soNew n).map List.length)).toArray = Array.replicate n (Value.int .i64 0) := by
      unfold intC soNew
      simp
    rw [e]
    exact this)
  clear hA hok
  go_enter Try.func8, Try.ntmps8
  go_wp2_with fail
  refine (unhide WK).mono ?_
  rintro r w1 ⟨rfl, hk1⟩
  have HK1 := hide hk1
  clear hk1 WK
  go_wp2_with fail
  refine (unhide AM w1).mono ?_
  rintro r w2 ⟨rfl, rfl⟩
  go_wp2_with fail
  (try rw [hn])
  refine (unhide NW w2).mono ?_
  rintro r w3 ⟨g, rfl, ho⟩
  have hco := unhide HST w2 w3 g (unhide HK1) ho
  have hbs : w.heap.size ≤ w3.heap.size := Nat.le_trans (unhide HK1).size ho.bel.size
  clear ho HST NW AM HK1
  go_wp2_with fail
  generalize w3.alloc (.cells (Array.replicate n (.int .i64 0)) 3) = W4 at *
  have hw0 : Kp [] w W4 := hco.own.bel
  go_loopw [8] (fun i wr => ∃ (k : Nat) (ps : List (List Ev)), k ≤ l.length ∧ i = .int .i64 (k : Int) ∧ Hid (CoS w wr g w3.heap.size n ps)) (fun i _ => l.length - (intOf i).toNat)
  case atStart => exact ⟨0, _, Nat.zero_le _, rfl, hide hco⟩
  case round =>
    clear hco hw0
    obtain ⟨k, ps, hk, rfl, HC⟩ := hrel
    by_cases hlt : k < l.length
    · by_cases h200 : k < 200
      · have hli : (k : Int) < (l.length : Int) := by omega
        have hc := unhide HC
        obtain ⟨b, off, rfl, x0, x1, x2, x3, x4, x5, x6⟩ := ((unhide HA).kp hc.own.bel (by simp)).seven k hlt
        have PU := hide (hc.own.putB hc.row l[k] (unhide HOK _ (List.getElem_mem _)))
        have hpi : puP ps l[k] < n := by rw [← hc.len]; exact partOf_lt _ hc.own.few.1 _
        have hlim := hc.own.lim
        have hln := hc.len
        clear HA HOK HC hc hmk
        generalize l[k] = y at *
        rcases puE_cases ps y with hE | hE
        · have hA1 : puA ps y = (puP ps y : Int) := if_pos hE
          have hi : puP ps y < ps.length := by omega
          have hO1 : puO ps y = (ps[puP ps y].length : Int) := by unfold puO; rw [if_pos hE, List.getElem?_eq_getElem hi]; rfl
          have hS1 : puS ps y = soAdd ps (puP ps y) y := if_pos hE
          have hlp : ps[puP ps y].length ≤ 4096 := hlim _ (List.getElem_mem _)
          have hcc : (intC (ps.map List.length)).toArray[puP ps y]? = some (.int .i64 (ps[puP ps y].length : Int)) := by simp [intC, hi]
          have hnx := soAdd_lens ps (puP ps y) hi y
          rw [hA1, hO1, hE, hS1] at PU
          have HNX := hide hnx
          have HCC := hide hcc
          clear hE hA1 hO1 hS1 hlim hnx hcc
          generalize puP ps y = p at *
          generalize ps[p].length = m at *
          have hpl : (p : Int) < (n : Int) := by omega
          obtain ⟨yk, yt, n0, n1, n2, n3, yx⟩ := y
          unfold Ev.c at PU
          dsimp only at x0 x1 x2 x3 x4 x5 x6 PU
          go_wp2_with fail
          refine (unhide PU).mono ?_
          rintro r w5 ⟨rfl, ho5, hb5⟩
          have cp := hb5.cell (unhide HCC)
          have fp := hb5.froz p
          have HO5 := hide (ho5.setB (i := p) (v := .int .i64 ((m : Int) + 1)) hb5 hbs)
          have hb6 := hb5.set p (.int .i64 ((m : Int) + 1))
          rw [unhide HNX] at hb6
          have HB6 := hide hb6
          clear hb6 hb5 ho5 PU HNX HCC x0 x1 x2 x3 x4 x5 x6
          have HLN : Hid ((soAdd ps p ⟨yk, yt, n0, n1, n2, n3, yx⟩).length = n) := hide (by unfold soAdd; rw [List.length_set]; exact hln)
          generalize soAdd ps p ⟨yk, yt, n0, n1, n2, n3, yx⟩ = PSX at *
          have hsz6 : (w5.setCell ⟨w3.heap.size, p, none⟩ (.int .i64 ((m : Int) + 1))).heap.size = w5.heap.size := by simp [World.setCell]
          generalize hW6 : w5.setCell ⟨w3.heap.size, p, none⟩ (.int .i64 ((m : Int) + 1)) = W6 at HO5 HB6 hsz6
          have EN := hide ((unhide HO5).ends)
          go_wp2_with fail
          refine (unhide EN).mono ?_
          rintro r w7 ⟨rfl, hbe, ho7, hk7⟩
          have hb7 := (unhide HB6).kp hk7 (by simp)
          have HC7 : Hid (CoS w w7 g w3.heap.size n (PSX)) := hide ⟨ho7, hb7, unhide HLN⟩
          rw [hsz6] at hbe
          have HBE := hide hbe
          clear ho7 hb7 hbe hk7 EN HO5 HB6
          have hplen := unhide HLN
          rw [hplen]
          clear HLN hplen
          go_wp2_with fail
          go_loopw [85] (fun i wr2 => ∃ j : Nat, j ≤ n ∧ i = .int .i64 (j : Int) ∧ Kp [] w7 wr2) (fun i _ => n - (intOf i).toNat)
          case atStart => exact ⟨0, Nat.zero_le _, rfl, Kp.refl _ _⟩
          case round =>
            obtain ⟨j, hj, rfl, kp7⟩ := hrel
            by_cases hjl : j < n
            · have hji : (j : Int) < (n : Int) := by omega
              obtain ⟨mj, hmj, cj, lj⟩ := (unhide HC7).cell j hjl
              have ce := (unhide HBE).cell (i := j) (v := .int .i64 (mj : Int)) (by
                unfold intC
                rw [List.getElem?_toArray, List.getElem?_map, lj]; rfl)
              have k8 := kp7.trans (Kp.drew _) (by simp)
              have c1 := k8.cell cj (by simp)
              have c2 := k8.cell ce (by simp)
              have cS := And.intro c1 c2
              have K8 := hide k8
              clear cj ce lj kp7 k8 c1 c2
              go_wp2_with fail
              go_region_held3 (fun W => W.cell? ⟨w3.heap.size, j, none⟩ = some (.int .i64 (mj : Int)) ∧ W.cell? ⟨w5.heap.size, j, none⟩ = some (.int .i64 (mj : Int)))
                (first | with_reducible exact cS)
                (first | fail)
              go_wp2
              go_roundw
              case rel => exact ⟨j + 1, by omega, by go_num, unhide K8⟩
              case measure => simp [intOf]; omega
            · have HC8 : Hid (CoS w wr g w3.heap.size n (PSX)) := hide ⟨(unhide HC7).own.kp kp7, (unhide HC7).row.kp kp7 (by simp), (unhide HC7).len⟩
              clear HC7 HBE kp7
              go_wp2
              go_roundw
              case rel => exact ⟨k + 1, _, by omega, by go_num, HC8⟩
              case measure => simp [intOf]; omega
        · have hA1 : puA ps y = 0 := if_neg hE
          have hO1 : puO ps y = 0 := if_neg hE
          have hS1 : puS ps y = ps := if_neg hE
          rw [hA1, hO1, hS1] at PU
          have HLN := hide hln
          clear hA1 hO1 hS1 hlim hpi hln
          generalize puE ps y = er at *
          obtain ⟨yk, yt, n0, n1, n2, n3, yx⟩ := y
          unfold Ev.c at PU
          dsimp only at x0 x1 x2 x3 x4 x5 x6 PU
          go_wp2_with fail
          refine (unhide PU).mono ?_
          rintro r w5 ⟨rfl, ho5, hb5⟩
          have HO5 := hide ho5
          have HB6 := hide hb5
          clear hb5 ho5 PU x0 x1 x2 x3 x4 x5 x6
          have EN := hide ((unhide HO5).ends)
          go_wp2_with fail
          refine (unhide EN).mono ?_
          rintro r w7 ⟨rfl, hbe, ho7, hk7⟩
          have hb7 := (unhide HB6).kp hk7 (by simp)
          have HC7 : Hid (CoS w w7 g w3.heap.size n (ps)) := hide ⟨ho7, hb7, unhide HLN⟩
          have HBE := hide hbe
          clear ho7 hb7 hbe hk7 EN HO5 HB6
          have hplen := unhide HLN
          rw [hplen]
          clear HLN hplen
          go_wp2_with fail
          go_loopw [85] (fun i wr2 => ∃ j : Nat, j ≤ n ∧ i = .int .i64 (j : Int) ∧ Kp [] w7 wr2) (fun i _ => n - (intOf i).toNat)
          case atStart => exact ⟨0, Nat.zero_le _, rfl, Kp.refl _ _⟩
          case round =>
            obtain ⟨j, hj, rfl, kp7⟩ := hrel
            by_cases hjl : j < n
            · have hji : (j : Int) < (n : Int) := by omega
              obtain ⟨mj, hmj, cj, lj⟩ := (unhide HC7).cell j hjl
              have ce := (unhide HBE).cell (i := j) (v := .int .i64 (mj : Int)) (by
                unfold intC
                rw [List.getElem?_toArray, List.getElem?_map, lj]; rfl)
              have k8 := kp7.trans (Kp.drew _) (by simp)
              have c1 := k8.cell cj (by simp)
              have c2 := k8.cell ce (by simp)
              have cS := And.intro c1 c2
              have K8 := hide k8
              clear cj ce lj kp7 k8 c1 c2
              go_wp2_with fail
              go_region_held3 (fun W => W.cell? ⟨w3.heap.size, j, none⟩ = some (.int .i64 (mj : Int)) ∧ W.cell? ⟨w5.heap.size, j, none⟩ = some (.int .i64 (mj : Int)))
                (first | with_reducible exact cS)
                (first | fail)
              go_wp2
              go_roundw
              case rel => exact ⟨j + 1, by omega, by go_num, unhide K8⟩
              case measure => simp [intOf]; omega
            · have HC8 : Hid (CoS w wr g w3.heap.size n (ps)) := hide ⟨(unhide HC7).own.kp kp7, (unhide HC7).row.kp kp7 (by simp), (unhide HC7).len⟩
              clear HC7 HBE kp7
              go_wp2
              go_roundw
              case rel => exact ⟨k + 1, _, by omega, by go_num, HC8⟩
              case measure => simp [intOf]; omega
      · have hk200 : (200 : Int) ≤ (k : Int) := by omega
        have KB := hide (unhide HC).own.bel
        clear HC HA HOK
        go_wp2
        go_ret
        exact ⟨rfl, (unhide KB).below (Nat.le_refl _) (by simp)⟩
    · have KB := hide (unhide HC).own.bel
      clear HC HA HOK
      go_wp2
      go_ret
      exact ⟨rfl, (unhide KB).below (Nat.le_refl _) (by simp)⟩
end Go.Proofs.Ytkcbjjpbcgdabaa
