/-
  Patterns: how stages lie; Check.
  Patterns: how stages lie; Check is the plain function.
-/
import Derived.Test.YtjijhefmbmdbeaaGreatDoorP26
import Derived.Test.YtjijhefmbmdbeaaGreatDoorP27
namespace Go.Proofs.YtjijhefmbmdbeaaGreatDoor
open Go.RowKit Go.Shelf

set_option maxHeartbeats 1000000 in
set_option maxRecDepth 100000 in
theorem isName_any (s : ByteArray) (w : World) (hT : TbE w) (hs : s.size ≤ 9223372036854775807) :
    Calls Tryz.prog 53 #[.string s] w fun e w' => e = .returned (.bool (isSg s)) ∧ Below w.heap.size w w' := by
  have ho := OwnsP.one w ⟨3, 0, ⟨#[]⟩, s, 0⟩
  obtain ⟨a', c', e', hat, _⟩ := ho.at
  injection e' with e1 e2 e3
  subst e1 e3
  have CK := hide (check_any (some ⟨w.heap.size, 0, none⟩) 1 [⟨3, 0, ⟨#[]⟩, s, 0⟩] _ hat (hT.alloc _) (fun p hp => by simp only [List.mem_singleton] at hp; subst hp; exact hs))
  have HB := hide ((Below.refl w.heap.size w).alloc (Nat.le_refl _) (.cells (ptE ⟨3, 0, ⟨#[]⟩, s, 0⟩).toArray 86))
  have hN := name_is s
  have g1 := emp_toList s
  have g2 := emp_str s
  rw [hN]
  unfold ptE at CK HB
  dsimp only at CK HB
  rw [List.length_singleton] at CK
  clear ho hat e2 hN hT
  generalize (if ckK [⟨3, 0, ⟨#[]⟩, s, 0⟩] = 0 then (110 : Int) else 0) = EC at *
  generalize ckK [⟨3, 0, ⟨#[]⟩, s, 0⟩] = KC at *
  generalize emptyB s = ES at *
  cases ES with
  | true =>
    rw [Bool.not_true, Bool.false_and]
    go_enter Tryz.func53, Tryz.ntmps53
    go_wp2_with fail
    refine (unhide CK).mono ?_
    rintro e w1 ⟨rfl, hb1⟩
    have HB1 := hide ((unhide HB).trans (hb1.mono (unhide HB).size))
    clear CK hb1 HB
    go_wp2
    go_ret
    exact ⟨rfl, unhide HB1⟩
  | false =>
    rw [Bool.not_false, Bool.true_and]
    go_enter Tryz.func53, Tryz.ntmps53
    go_wp2_with fail
    refine (unhide CK).mono ?_
    rintro e w1 ⟨rfl, hb1⟩
    have HB1 := hide ((unhide HB).trans (hb1.mono (unhide HB).size))
    clear CK hb1 HB
    go_wp2
    go_ret
    exact ⟨rfl, unhide HB1⟩
theorem all_take {l : List ByteArray} {f : ByteArray → Bool} {k : Nat} (h : (l.take k).all f = true) (hk : k < l.length) (hf : f l[k] = true) : (l.take (k + 1)).all f = true := by
  rw [List.take_succ_eq_append_getElem hk, List.all_append, h]
  simp [hf]
theorem all_fails {l : List ByteArray} {f : ByteArray → Bool} {k : Nat} (hk : k < l.length) (hf : f l[k] = false) : l.all f = false := by
  rw [List.all_eq_false]
  exact ⟨l[k], List.getElem_mem _, by rw [hf]; simp⟩
set_option maxHeartbeats 2000000 in
set_option maxRecDepth 100000 in
theorem isCond_any (ad aa : Option Addr) (cap ca : Nat) (xs : List Pt) (ah : List ByteArray) (w : World) (hc : PtsAt w ad xs) (hn : NmsAt w aa ah) (hl : ah.length ≤ 9223372036854775807) (hT : TbE w) (hfit : ∀ p ∈ xs, p.fit) :
    Calls Tryz.prog 55 #[.slice ad xs.length cap, .slice aa ah.length ca] w fun e w' => e = .returned (.bool (cdOk xs ah)) ∧ Below w.heap.size w w' := by
  have CK := hide (check_any ad cap xs w hc hT hfit)
  unfold cdOk
  by_cases h3 : ckK xs = 3
  · have h0 : (if ckK xs = 0 then (110 : Int) else 0) = 0 := if_neg (by rw [h3]; decide)
    have ST := hide (fun W (hb : Below w.heap.size w W) => stages_any ad cap xs W (hc.kp (Kp.ofBelow hb)) (hT.blw hb) hfit)
    rw [h0] at ST CK
    rw [h3] at CK
    rw [decide_eq_true h3, Bool.true_and]
    have hsl := stgS_len xs
    have HN := hide hn
    clear h0 h3 hc hT hfit hn
    generalize stgS xs = L at *
    have HAT := hide (fun k (hk : k < L.length) (h : (L.take k).all (hasN ah) = true) (hf : hasN ah L[k] = true) => all_take h hk hf)
    have HAF := hide (fun k (hk : k < L.length) (hf : hasN ah L[k] = false) => all_fails (f := hasN ah) hk hf)
    have HAE : Hid ((L.take L.length).all (hasN ah) = true → L.all (hasN ah) = true) := hide (fun h => by rwa [List.take_length] at h)
    obtain ⟨R, hR⟩ : ∃ R, L.all (hasN ah) = R := ⟨_, rfl⟩
    rw [hR] at HAF HAE ⊢
    clear hR
    go_enter Tryz.func55, Tryz.ntmps55
    go_wp2_with fail
    refine (unhide CK).mono ?_
    rintro e w1 ⟨rfl, hb1⟩
    have ST1 := hide (unhide ST w1 hb1)
    have HB1 := hide hb1
    clear CK hb1 ST
    go_wp2_with fail
    refine (unhide ST1).mono ?_
    rintro e w2 ⟨v, rfl, ho, hb2⟩
    obtain ⟨a2, c2, rfl, hn2, _⟩ := ho.at
    have HN2 := hide hn2
    have HB2 := hide ((unhide HB1).trans (hb2.mono (unhide HB1).size))
    have HNA := hide ((unhide HN).kp (Kp.ofBelow (unhide HB2)) (by simp))
    obtain ⟨n, hn⟩ : ∃ n, L.length = n := ⟨_, rfl⟩
    have HNL := hide hn
    rw [hn] at hsl HAE ⊢
    clear ST1 hb2 ho hn2 HB1 HN hn
    go_wp2_with fail
    go_loopw [25] (fun i wr => ∃ k : Nat, k ≤ n ∧ i = .int .i64 (k : Int) ∧ wr = w2 ∧ Hid ((L.take k).all (hasN ah) = true)) (fun i _ => n - (intOf i).toNat)
    case atStart => exact ⟨0, Nat.zero_le _, rfl, rfl, hide (by simp)⟩
    case round =>
      obtain ⟨k, hk, rfl, hwr, HK⟩ := hrel
      subst hwr
      by_cases hlt : k < n
      · have hkl : k < L.length := by rw [unhide HNL]; exact hlt
        have hne : L ≠ [] := fun e => by rw [e] at hkl; simp at hkl
        obtain ⟨b, off, rfl, _, hc2⟩ := unhide HN2 hne
        have cj := hc2 k hkl
        have hli : (k : Int) < (n : Int) := by omega
        have HX := hide (unhide HAT k hkl (unhide HK))
        have HY := hide (unhide HAF k hkl)
        clear hc2 hne HAT HAF HAE HK
        generalize L[k] = s at *
        have CT := hide (contains_any aa ca ah s _ hl (unhide HNA))
        cases hH : hasN ah s with
        | true =>
          rw [hH] at CT
          have HX2 := hide (unhide HX hH)
          clear HX HY hH
          go_wp2_with fail
          refine (unhide CT).mono ?_
          rintro e w4 ⟨rfl, rfl⟩
          clear CT
          go_wp2
          go_roundw
          case rel => exact ⟨k + 1, by omega, by go_num, by first | trivial | rfl, HX2⟩
          case measure => simp [intOf]; omega
        | false =>
          rw [hH] at CT
          obtain rfl := unhide HY hH
          clear HX HY hH
          go_wp2_with fail
          refine (unhide CT).mono ?_
          rintro e w4 ⟨rfl, rfl⟩
          clear CT
          go_wp2
          go_ret
          exact ⟨rfl, unhide HB2⟩
      · obtain rfl : k = n := by omega
        obtain rfl := unhide HAE (unhide HK)
        clear HAT HAF HAE
        go_wp2
        go_ret
        exact ⟨rfl, unhide HB2⟩
  · rw [decide_eq_false h3, Bool.false_and]
    have g3 : (ckK xs == 3) = false := beq_eq_false_iff_ne.2 h3
    clear hc hT hfit hn h3
    generalize (if ckK xs = 0 then (110 : Int) else 0) = EC at *
    generalize ckK xs = ck at *
    go_enter Tryz.func55, Tryz.ntmps55
    go_wp2_with fail
    refine (unhide CK).mono ?_
    rintro e w1 ⟨rfl, hb1⟩
    clear CK
    go_wp2
    go_ret
    exact ⟨rfl, hb1⟩
/-- A stage as a value, its condition lying somewhere. -/
def stV (s : Stg) (ad : Option Addr) (c : Nat) : Array Value := #[.string s.nm, .int .i64 s.hw, .bool s.mn, .slice ad s.cd.length c]
theorem box4 {w W : World} {a b c d : Value} {t : TypeId} (hk : Kp [] (w.alloc (.cells #[a, b, c, d] t)) W) : W.cell? ⟨w.heap.size, 0, none⟩ = some a ∧ W.cell? ⟨w.heap.size, 1, none⟩ = some b ∧ W.cell? ⟨w.heap.size, 3, none⟩ = some d := by
  have h := (CBox.new w #[a, b, c, d] t).kp hk (by simp)
  exact ⟨h.cell rfl, h.cell rfl, h.cell rfl⟩
set_option maxHeartbeats 2000000 in
set_option maxRecDepth 100000 in
theorem mayFollow_any (s : Stg) (ad aa : Option Addr) (c ca : Nat) (ah : List ByteArray) (w : World) (hc : PtsAt w ad s.cd) (hn : NmsAt w aa ah) (hl : ah.length ≤ 9223372036854775807) (hT : TbE w) (hfit : ∀ p ∈ s.cd, p.fit) (hs : s.nm.size ≤ 9223372036854775807) :
    Calls Tryz.prog 37 #[.agg (stV s ad c), .slice aa ah.length ca] w fun e w' => e = .returned (.bool (stOk s ah)) ∧ Below w.heap.size w w' := by
  obtain ⟨nm, hw, mn, cd⟩ := s
  unfold stV stOk
  dsimp only at *
  have k0 := Kp.alloc w (.cells #[.string nm, .int .i64 hw, .bool mn, .slice ad cd.length c] 54)
  have b0 := (Below.refl w.heap.size w).alloc (Nat.le_refl _) (.cells #[.string nm, .int .i64 hw, .bool mn, .slice ad cd.length c] 54)
  have IN := hide (isName_any nm _ (hT.alloc (.cells #[.string nm, .int .i64 hw, .bool mn, .slice ad cd.length c] 54)) hs)
  have HW : Hid (∀ W, Kp [] (w.alloc (.cells #[.string nm, .int .i64 hw, .bool mn, .slice ad cd.length c] 54)) W → (W.cell? ⟨w.heap.size, 0, none⟩ = some (.string nm) ∧ W.cell? ⟨w.heap.size, 1, none⟩ = some (.int .i64 hw) ∧ W.cell? ⟨w.heap.size, 3, none⟩ = some (.slice ad cd.length c)) ∧ Hid (Below w.heap.size w W) ∧ Hid (PtsAt W ad cd) ∧ Hid (NmsAt W aa ah) ∧ Hid (TbE W)) := hide (fun W hk => ⟨box4 hk, hide ((k0.trans hk (by simp)).below (Nat.le_refl _) (by simp)), hide ((hc.kp k0).kp hk), hide ((hn.kp k0 (by simp)).kp hk (by simp)), hide ((hT.kp k0 (by simp)).kp hk (by simp))⟩)
  have HFIT := hide hfit
  obtain ⟨v0, v1, v3⟩ := (unhide HW _ (Kp.refl _ _)).1
  obtain ⟨R, hR⟩ : ∃ R, (isSg nm && (!hasN ah nm && (hwOk hw ah.length && cdOk cd ah))) = R := ⟨_, rfl⟩
  rw [hR]
  have HR : Hid (R = (isSg nm && (!hasN ah nm && (hwOk hw ah.length && cdOk cd ah)))) := hide hR.symm
  clear k0 b0 hc hn hT hfit hs hR
  have eh : (hw == 0) = decide (hw = 0) := rfl
  have el : ((ah.length : Int) == 0) = decide (ah.length = 0) := by
    by_cases h : ah.length = 0 <;> simp [h]
  go_enter Tryz.func37, Tryz.ntmps37
  go_wp2_with fail
  refine (unhide IN).mono ?_
  rintro e w1 ⟨rfl, hb1⟩
  have HK1 := hide (Kp.ofBelow hb1)
  obtain ⟨⟨u0, u1, u3⟩, HB1, HP1, HN1, HT1⟩ := unhide HW w1 (unhide HK1)
  clear IN hb1 v0 v1 v3
  have CT := hide (contains_any aa ca ah nm w1 hl (unhide HN1))
  have IC := hide (isCond_any ad aa c ca cd ah w1 (unhide HP1) (unhide HN1) hl (unhide HT1) (unhide HFIT))
  clear HN1 HP1 HT1 HFIT HW HK1
  generalize isSg nm = SN at *
  generalize hasN ah nm = HH at *
  generalize cdOk cd ah = CD at *
  cases SN with
  | false =>
    obtain rfl : R = false := by rw [unhide HR]; rfl
    clear HR
    go_wp2
    go_ret
    exact ⟨rfl, unhide HB1⟩
  | true =>
    cases HH with
    | true =>
      obtain rfl : R = false := by rw [unhide HR]; rfl
      clear HR
      go_wp2_with fail
      refine (unhide CT).mono ?_
      rintro e w2 ⟨rfl, rfl⟩
      clear CT
      go_wp2
      go_ret
      exact ⟨rfl, unhide HB1⟩
    | false =>
      unfold hwOk at HR
      by_cases h0 : hw < 0
      · have gd : decide (0 ≤ hw) = false := decide_eq_false (by omega)
        obtain rfl : R = false := by rw [unhide HR, gd]; rfl
        have g0 : (hw < 0) = True := by simp; omega
        clear gd IC HR
        go_wp2_with fail
        refine (unhide CT).mono ?_
        rintro e w2 ⟨rfl, rfl⟩
        clear CT
        go_wp2
        go_ret
        exact ⟨rfl, unhide HB1⟩
      · have gd : decide (0 ≤ hw) = true := decide_eq_true (by omega)
        have g0 : (hw < 0) = False := by simp; omega
        by_cases h3 : 3 < hw
        · have gd3 : decide (hw ≤ 3) = false := decide_eq_false (by omega)
          obtain rfl : R = false := by rw [unhide HR, gd, gd3]; rfl
          have g3 : ((3 : Int) < hw) = True := by simp; omega
          clear gd gd3 IC HR
          go_wp2_with fail
          refine (unhide CT).mono ?_
          rintro e w2 ⟨rfl, rfl⟩
          clear CT
          go_wp2
          go_ret
          exact ⟨rfl, unhide HB1⟩
        · have gd3 : decide (hw ≤ 3) = true := decide_eq_true (by omega)
          have g3 : ((3 : Int) < hw) = False := by simp; omega
          have HR2 : Hid (R = ((decide (hw = 0) == decide (ah.length = 0)) && CD)) := hide (by rw [unhide HR, gd, gd3]; rfl)
          clear gd gd3 h0 h3 HR
          generalize decide (hw = 0) = X at *
          generalize decide (ah.length = 0) = Y at *
          by_cases hXY : X = Y
          · subst hXY
            obtain rfl : R = CD := by rw [unhide HR2]; cases X <;> rfl
            clear HR2
            cases X
            all_goals
              go_wp2_with fail
              refine (unhide CT).mono ?_
              rintro e w2 ⟨rfl, rfl⟩
              clear CT
              go_wp2_with fail
              refine (unhide IC).mono ?_
              rintro e w3 ⟨rfl, hb3⟩
              have HB3 := hide ((unhide HB1).trans (hb3.mono (unhide HB1).size))
              clear IC hb3
              go_wp2
              go_ret
              exact ⟨rfl, unhide HB3⟩
          · obtain rfl : R = false := by rw [unhide HR2]; revert hXY; cases X <;> cases Y <;> simp
            clear HR2 IC
            cases X <;> cases Y
            all_goals
              first
                | exact absurd rfl hXY
                | (clear hXY
                   go_wp2_with fail
                   refine (unhide CT).mono ?_
                   rintro e w2 ⟨rfl, rfl⟩
                   clear CT
                   go_wp2
                   go_ret
                   try exact ⟨rfl, unhide HB1⟩)
end Go.Proofs.YtjijhefmbmdbeaaGreatDoor
namespace Go.Proofs.YtjijhefmbmdbeaaGreatDoor
open Go.RowKit Go.Shelf

/-- A stage, and where its condition lies. -/
structure SR where
  s : Stg
  ad : Option Addr
  c : Nat
def stgs (l : List SR) : List Stg := l.map (·.s)
def StsAt (w : World) (ad : Option Addr) (l : List SR) : Prop := l ≠ [] → ∃ b off, ad = some ⟨b, off, none⟩ ∧ b < w.heap.size ∧ ∀ i (h : i < l.length), w.cell? ⟨b, off + i * 4, none⟩ = some (.string l[i].s.nm) ∧ w.cell? ⟨b, off + i * 4 + 1, none⟩ = some (.int .i64 l[i].s.hw) ∧ w.cell? ⟨b, off + i * 4 + 2, none⟩ = some (.bool l[i].s.mn) ∧ w.cell? ⟨b, off + i * 4 + 3, none⟩ = some (.slice l[i].ad l[i].s.cd.length l[i].c) ∧ PtsAt w l[i].ad l[i].s.cd
theorem StsAt.kp {w w' : World} {ad : Option Addr} {l : List SR} (h : StsAt w ad l) (hk : Kp [] w w') : StsAt w' ad l := fun hl => by
  obtain ⟨b, off, e, hlt, hc⟩ := h hl
  refine ⟨b, off, e, Nat.lt_of_lt_of_le hlt hk.size, fun i hi => ?_⟩
  obtain ⟨c0, c1, c2, c3, c4⟩ := hc i hi
  exact ⟨hk.cell c0 (by simp), hk.cell c1 (by simp), hk.cell c2 (by simp), hk.cell c3 (by simp), c4.kp hk⟩
theorem StsAt.at {w : World} {ad : Option Addr} {l : List SR} (h : StsAt w ad l) (i : Nat) (hi : i < l.length) : ∃ b off, ad = some ⟨b, off, none⟩ ∧ b < w.heap.size ∧ w.cell? ⟨b, off + i * 4, none⟩ = some (.string l[i].s.nm) ∧ w.cell? ⟨b, off + i * 4 + 1, none⟩ = some (.int .i64 l[i].s.hw) ∧ w.cell? ⟨b, off + i * 4 + 2, none⟩ = some (.bool l[i].s.mn) ∧ w.cell? ⟨b, off + i * 4 + 3, none⟩ = some (.slice l[i].ad l[i].s.cd.length l[i].c) ∧ PtsAt w l[i].ad l[i].s.cd := by
  obtain ⟨b, off, e, hlt, hc⟩ := h (fun e => by rw [e] at hi; simp at hi)
  exact ⟨b, off, e, hlt, hc i hi⟩
def Stg.ok (s : Stg) : Prop := s.nm.size ≤ 9223372036854775807 ∧ (-9223372036854775808 ≤ s.hw ∧ s.hw ≤ 9223372036854775807) ∧ ∀ p ∈ s.cd, p.ok
theorem stgs_at {l : List SR} {i : Nat} (h : i < l.length) : (stgs l)[i]'(by unfold stgs; rw [List.length_map]; exact h) = l[i].s := by
  unfold stgs
  rw [List.getElem_map]
theorem stgs_len (l : List SR) : (stgs l).length = l.length := by unfold stgs; rw [List.length_map]
theorem pat_cells {w W : World} {a b : Value} {t : TypeId} (hk : Kp [] (w.alloc (.cells #[a, b] t)) W) : W.cell? ⟨w.heap.size, 0, none⟩ = some a ∧ W.cell? ⟨w.heap.size, 1, none⟩ = some b ∧ w.heap.size < W.heap.size := by
  have h := (CBox.new w #[a, b] t).kp hk (by simp)
  exact ⟨h.cell rfl, h.cell rfl, by have := hk.size; simp at this; omega⟩
set_option maxHeartbeats 2000000 in
set_option maxRecDepth 100000 in
theorem pcheck_any (sa : Option Addr) (sc : Nat) (l : List SR) (wi : Int) (w : World) (h : StsAt w sa l) (hT : TbE w) (hok : ∀ r ∈ l, r.s.ok) (hl : l.length ≤ 9223372036854775807) :
    Calls Tryz.prog 21 #[.agg #[.slice sa l.length sc, .int .i64 wi]] w fun e w' => e = .returned (.tuple #[.int .i64 (pcR ⟨stgs l, wi⟩).1, .int .i64 (pcR ⟨stgs l, wi⟩).2]) ∧ Below w.heap.size w w' := by
  have b0 := (Below.refl w.heap.size w).alloc (Nat.le_refl _) (.cells #[.slice sa l.length sc, .int .i64 wi] 24)
  have HPC : Hid (∀ W, Kp [] (w.alloc (.cells #[.slice sa l.length sc, .int .i64 wi] 24)) W → W.cell? ⟨w.heap.size, 0, none⟩ = some (.slice sa l.length sc) ∧ W.cell? ⟨w.heap.size, 1, none⟩ = some (.int .i64 wi) ∧ w.heap.size < W.heap.size) := hide (fun W hk => pat_cells hk)
  have HB0 := hide b0
  by_cases hn : l.length < 1 ∨ 8 < l.length
  · have hp : pcR ⟨stgs l, wi⟩ = (0, 120) := by unfold pcR; rw [if_pos (by dsimp only; rw [stgs_len]; exact hn)]
    rw [hp]
    obtain ⟨c0, c1, _⟩ := unhide HPC _ (Kp.refl _ _)
    clear h hT hok hp b0
    rcases hn with hn | hn
    · have g1 : ((l.length : Int) < 1) = True := by simp; omega
      go_enter Tryz.func21, Tryz.ntmps21
      go_wp2
      exact bodyPost_ret (results_tmp2 rfl _ _ _) rfl ⟨rfl, unhide HB0⟩
    · have g1 : ((l.length : Int) < 1) = False := by simp; omega
      have g2 : ((8 : Int) < (l.length : Int)) = True := by simp; omega
      go_enter Tryz.func21, Tryz.ntmps21
      go_wp2
      exact bodyPost_ret (results_tmp2 rfl _ _ _) rfl ⟨rfl, unhide HB0⟩
  · have hp : pcR ⟨stgs l, wi⟩ = match bad1 (stgs l) [] 0 with | some i => ((i : Int), 120) | none => if wiOk wi then (0, 0) else ((l.length : Int), 120) := by
      unfold pcR
      rw [if_neg (by dsimp only; rw [stgs_len]; exact hn)]
      dsimp only
      rw [stgs_len]
      rfl
    rw [hp]
    have g1 : ((l.length : Int) < 1) = False := by simp; omega
    have g2 : ((8 : Int) < (l.length : Int)) = False := by simp; omega
    have hl8 : l.length ≤ 8 := by omega
    obtain ⟨c0, c1, hlt0⟩ := unhide HPC _ (Kp.refl _ _)
    have HST := hide h
    have HTB := hide hT
    have HOK := hide hok
    have HNX : Hid (∀ k (hk : k < l.length), bad1 ((stgs l).drop k) (nmsOf ((stgs l).take k)) k = if stOk l[k].s (nmsOf ((stgs l).take k)) then bad1 ((stgs l).drop (k + 1)) (nmsOf ((stgs l).take (k + 1))) (k + 1) else some k) := hide (fun k hk => by
      have := bad1_next (l := stgs l) (k := k) (by rw [stgs_len]; exact hk)
      rw [stgs_at hk] at this
      exact this)
    have HNM : Hid (∀ k (hk : k < l.length), nmsOf ((stgs l).take (k + 1)) = nmsOf ((stgs l).take k) ++ [l[k].s.nm]) := hide (fun k hk => by
      have := nmsOf_next (l := stgs l) (k := k) (by rw [stgs_len]; exact hk)
      rw [stgs_at hk] at this
      exact this)
    have HNL : Hid (∀ k, k ≤ l.length → (nmsOf ((stgs l).take k)).length = k) := hide (fun k hk => by rw [nmsOf_len, List.length_take, stgs_len]; omega)
    have HEN : Hid (bad1 ((stgs l).drop l.length) (nmsOf ((stgs l).take l.length)) l.length = none) := hide (by have := bad1_end (stgs l); rwa [stgs_len] at this)
    obtain ⟨R, hR⟩ : ∃ R, bad1 (stgs l) [] 0 = R := ⟨_, rfl⟩
    have HR0 : Hid (R = bad1 ((stgs l).drop 0) (nmsOf ((stgs l).take 0)) 0) := hide (by rw [← hR]; rfl)
    rw [hR]
    obtain ⟨P, hP⟩ : ∃ P, (match R with | some i => ((i : Int), (120 : Int)) | none => if wiOk wi then (0, 0) else ((l.length : Int), 120)) = P := ⟨_, rfl⟩
    have HPS : Hid (∀ i, R = some i → P.1 = (i : Int) ∧ P.2 = 120) := hide (fun i e => by rw [← hP, e]; exact ⟨rfl, rfl⟩)
    have HPN : Hid (R = none → P = if wiOk wi then (0, 0) else ((l.length : Int), 120)) := hide (fun e => by rw [← hP, e])
    rw [hP]
    obtain ⟨PA, PC⟩ := P
    dsimp only at HPS ⊢
    clear hP hR h hT hok hp b0 hn
    obtain ⟨n, hn⟩ : ∃ n, l.length = n := ⟨_, rfl⟩
    have HN := hide hn
    rw [hn] at g1 g2 hl8 HEN HPC HB0 c0 c1 hlt0 HNL HPN ⊢
    clear hn hl
    obtain ⟨i0, hi, hz0, hz1, hz2⟩ := info_parts info_str
    obtain ⟨w1, hmk, how, hgr⟩ := run_make_own (P := Tryz.prog) (w.alloc (.cells #[.slice sa n sc, .int .i64 wi] 24)) (w.heap.size + 1) 68 9 i0 (.string ⟨#[]⟩) 1 Tryz.underlying68 hi hz0 hz1 .i64 .i64 8 (by rw [hz2]; decide) (by decide) (by simp)
    have k1 : Kp [] (w.alloc (.cells #[.slice sa n sc, .int .i64 wi] 24)) w1 := Kp.of hgr
    have HK1 := hide k1
    have HB1 := hide ((unhide HB0).trans (k1.below (unhide HB0).size (by simp)))
    have HOW : Hid (OwnsW (w.heap.size + 1) w1 (.slice (some ⟨(w.alloc (.cells #[.slice sa n sc, .int .i64 wi] 24)).heap.size, 0, none⟩) 0 8) []) := hide how
    have hw1 : (w.alloc (.cells #[.slice sa n sc, .int .i64 wi] 24)).heap.size = w.heap.size + 1 := by simp
    rw [hw1] at hmk HOW
    have hmk' : (Instr.makeSlice 68 (.int .i64 0) (.int .i64 8)).run Tryz.prog (w.alloc (.cells #[.slice sa n sc, .int .i64 wi] 24)) = .ok (.slice (some ⟨w.heap.size + 1, 0, none⟩) 0 8) w1 := hmk
    obtain ⟨d0, d1, hlt1⟩ := unhide HPC w1 k1
    clear hi hz0 hz1 hz2 how hgr k1 hmk hw1 i0 HB0
    go_enter Tryz.func21, Tryz.ntmps21
    go_wp2_with fail
    go_loopw [4, 21] (fun v i wr => ∃ (k : Nat) (g c : Nat), k ≤ n ∧ i = .int .i64 (k : Int) ∧ v = .slice (some ⟨g, 0, none⟩) k c ∧ Hid (OwnsW (w.heap.size + 1) wr (.slice (some ⟨g, 0, none⟩) k c) (nmsOf ((stgs l).take k))) ∧ Hid (Kp [] (w.alloc (.cells #[.slice sa n sc, .int .i64 wi] 24)) wr ∧ Below w.heap.size w wr) ∧ Hid (R = bad1 ((stgs l).drop k) (nmsOf ((stgs l).take k)) k)) (fun _ i _ => n - (intOf i).toNat)
    case atStart => exact ⟨0, w.heap.size + 1, 8, Nat.zero_le _, rfl, rfl, HOW, hide ⟨unhide HK1, unhide HB1⟩, HR0⟩
    case round =>
      obtain ⟨k, g, c, hk, rfl, rfl, HO, HKB, HRR⟩ := hrel
      clear HOW HK1 HB1 HR0 d0 d1 c0 c1 hmk'
      by_cases hlt : k < n
      · have hkx : k < l.length := by rw [unhide HN]; exact hlt
        have hli : (k : Int) < (n : Int) := by omega
        have kw : Kp [] w wr := (Kp.alloc w (.cells #[.slice sa n sc, .int .i64 wi] 24)).trans (unhide HKB).1 (by simp)
        obtain ⟨b, off, rfl, hbl, x0, x1, x2, x3, hpts⟩ := ((unhide HST).kp kw).at k hkx
        have hnl := unhide HNL k (by omega)
        have HX := hide (unhide HNX k hkx)
        have HNX2 := hide (unhide HNM k hkx)
        have hok1 := unhide HOK _ (List.getElem_mem hkx)
        obtain ⟨a', c', hv, hnm, _⟩ := (unhide HO).at
        injection hv with e1 e2 e3
        subst e1 e3
        have kst := Kp.alloc wr (.cells (stV l[k].s l[k].ad l[k].c) 54)
        have hTr := (unhide HTB).kp kw (by simp)
        have MF := mayFollow_any l[k].s l[k].ad (some ⟨g, 0, none⟩) l[k].c c (nmsOf ((stgs l).take k)) _ (hpts.kp kst) (hnm.kp kst (by simp)) (by omega) (hTr.kp kst (by simp)) (fun p hp => (hok1.2.2 p hp).2.2.2.1) hok1.1
        rw [hnl] at MF
        have HMF := hide MF
        have HKS := hide kst
        have HL8 : Hid ((nmsOf ((stgs l).take k)).length = k) := hide hnl
        clear hpts MF kst hnl hok1 hnm e2 hTr kw HNX HNM HNL HOK HTB HST
        generalize l[k].s = s at *
        generalize l[k].ad = ad at *
        generalize l[k].c = cc at *
        generalize nmsOf ((stgs l).take k) = AH at *
        obtain ⟨nm, hw, mn, cd⟩ := s
        unfold stV at HMF HKS
        dsimp only at x0 x1 x2 x3 HMF HKS HX HNX2
        generalize stOk ⟨nm, hw, mn, cd⟩ AH = SO at *
        generalize cd.length = CL at *
        have bx := CBox.new wr #[.string nm, .int .i64 hw, .bool mn, .slice ad CL cc] 54
        have z0 := bx.cell (i := 0) (v := .string nm) rfl
        have z1 := bx.cell (i := 1) (v := .int .i64 hw) rfl
        have z2 := bx.cell (i := 2) (v := .bool mn) rfl
        have z3 := bx.cell (i := 3) (v := .slice ad CL cc) rfl
        go_wp2_with fail
        refine (unhide HMF).mono ?_
        rintro e w3 ⟨rfl, hb3⟩
        have k3 := (unhide HKS).trans (Kp.ofBelow hb3) (by simp)
        have y0 := (bx.kp (Kp.ofBelow hb3) (by simp)).cell (i := 0) (v := .string nm) rfl
        have HB3 := hide ((unhide HKB).2.trans (k3.below (unhide HKB).2.size (by simp)))
        have HK3 := hide ((unhide HKB).1.trans k3 (by simp))
        have HO3 := hide ((unhide HO).kp k3)
        have hlt3 : wr.heap.size < w3.heap.size := by have := hb3.size; simp at this; omega
        clear HMF hb3 k3 HKS HKB HO bx z0 z1 z2 z3 x0 x1 x2 x3
        cases SO with
        | false =>
          obtain ⟨rfl, rfl⟩ := unhide HPS k (by rw [unhide HRR, unhide HX]; rfl)
          clear HX HRR HNX2
          dsimp only
          go_wp2
          exact bodyPost_ret (results_tmp2 rfl _ _ _) rfl ⟨rfl, unhide HB3⟩
        | true =>
          have HR2 : Hid (R = bad1 ((stgs l).drop (k + 1)) (nmsOf ((stgs l).take (k + 1))) (k + 1)) := hide (by rw [unhide HRR, unhide HX]; rfl)
          have k6 := Kp.alloc w3 (.cells #[.string nm] 9)
          have hb6 := (unhide HB3).trans (k6.below (unhide HB3).size (by simp))
          obtain ⟨g', cap', w', hrun, hO', hbw, hgw⟩ := OwnsW.app (c := 1) ((unhide HO3).kp k6) (by have := (unhide HK3).size; simp at this ⊢; omega) nm (g := w3.heap.size) ((CBox.new w3 _ _).cell rfl) (by rw [unhide HL8]; omega) 68
          rw [unhide HL8] at hrun hO'
          rw [← unhide HNX2] at hO'
          have HRUN := hide hrun
          have HO' := hide hO'
          have hgg : w.heap.size + 1 ≤ g := (World.ownsRow.lt (unhide HO3) g rfl).1
          have HKB' : Hid (Kp [] (w.alloc (.cells #[.slice (some ⟨b, off, none⟩) n sc, .int .i64 wi] 24)) w' ∧ Below w.heap.size w w') := hide ⟨((unhide HK3).trans k6 (by simp)).trans (Kp.of hgw) (fun x hx => Or.inr (by simp [Value.ownBlock] at hx; simp; omega)), hb6.trans (hbw.mono (by omega))⟩
          clear hrun hO' hbw hb6 k6 hgw HX HRR
          dsimp only
          go_wp2_with (at_builtin; refine wpList_app_run rfl _ _ _ rfl rfl rfl (unhide HRUN) ?_)
          go_roundw
          case rel => exact ⟨k + 1, g', cap', by omega, by go_num, rfl, HO', HKB', HR2⟩
          case measure => simp [intOf]; omega
      · obtain rfl : k = n := by omega
        have hP := unhide HPN (by rw [unhide HRR]; exact unhide HEN)
        obtain ⟨e0, e1, hltw⟩ := unhide HPC wr (unhide HKB).1
        have HB := hide (unhide HKB).2
        clear HRR HEN HNX HNM HNL HO HKB HOK HTB HST HPN HPS
        unfold wiOk at hP
        by_cases h1 : wi < 1
        · have gd : decide (1 ≤ wi) = false := decide_eq_false (by omega)
          rw [gd, Bool.false_and, if_neg (by simp)] at hP
          obtain ⟨rfl, rfl⟩ := Prod.mk.inj hP
          have g1 : (wi < 1) = True := by simp; omega
          clear hP gd
          go_wp2
          exact bodyPost_ret (results_tmp2 rfl _ _ _) rfl ⟨rfl, unhide HB⟩
        · have gd : decide (1 ≤ wi) = true := decide_eq_true (by omega)
          rw [gd, Bool.true_and] at hP
          have g1 : (wi < 1) = False := by simp; omega
          by_cases h2 : 256 < wi
          · rw [decide_eq_false (by omega : ¬ wi ≤ 256), if_neg (by simp)] at hP
            obtain ⟨rfl, rfl⟩ := Prod.mk.inj hP
            have g2 : ((256 : Int) < wi) = True := by simp; omega
            clear hP gd
            go_wp2
            exact bodyPost_ret (results_tmp2 rfl _ _ _) rfl ⟨rfl, unhide HB⟩
          · rw [decide_eq_true (by omega : wi ≤ 256), if_pos rfl] at hP
            obtain ⟨rfl, rfl⟩ := Prod.mk.inj hP
            have g2 : ((256 : Int) < wi) = False := by simp; omega
            clear hP gd
            go_wp2
            exact bodyPost_ret (results_tmp2 rfl _ _ _) rfl ⟨rfl, unhide HB⟩
end Go.Proofs.YtjijhefmbmdbeaaGreatDoor
