/-
  The document's buffer: Put.
-/
import Derived.Test.YthdfaidjdddagaaL12
namespace Go.Proofs.Ythdfaidjdddagaa
open Go.RowKit

/-- What the look for a key and for a free number has come to. -/
structure LkS (es : Nat → Ent) (n k f : Nat) (s p q : Int) : Prop where
  no : ∀ j, k ≤ j → j < n → lvE (es j) = true → ¬ ((es j).s = s ∧ (es j).p = p ∧ (es j).q = q)
  free : (f = n ∧ ∀ j, k ≤ j → j < n → lvE (es j) = true) ∨ (k ≤ f ∧ f < n ∧ lvE (es f) = false ∧ ∀ j, k ≤ j → j < f → lvE (es j) = true)
theorem LkS.start (es : Nat → Ent) (n : Nat) (s p q : Int) : LkS es n n n s p q := ⟨fun j h1 h2 => by omega, Or.inl ⟨rfl, fun j h1 h2 => by omega⟩⟩
theorem LkS.dead {es : Nat → Ent} {n k f : Nat} {s p q : Int} (h : LkS es n (k + 1) f s p q) (hk : k < n) (hv : lvE (es k) = false) : LkS es n k k s p q :=
  ⟨fun j h1 h2 hl => by
    by_cases e : j = k
    · subst e; rw [hv] at hl; cases hl
    · exact h.no j (by omega) h2 hl, Or.inr ⟨Nat.le_refl _, hk, hv, fun j h1 h2 => by omega⟩⟩
theorem LkS.live {es : Nat → Ent} {n k f : Nat} {s p q : Int} (h : LkS es n (k + 1) f s p q) (hv : lvE (es k) = true) (hne : ¬ ((es k).s = s ∧ (es k).p = p ∧ (es k).q = q)) : LkS es n k f s p q :=
  ⟨fun j h1 h2 hl => by
    by_cases e : j = k
    · subst e; exact hne
    · exact h.no j (by omega) h2 hl, by
    rcases h.free with ⟨a, b⟩ | ⟨a, b, c, d⟩
    · exact Or.inl ⟨a, fun j h1 h2 => by
        by_cases e : j = k
        · subst e; exact hv
        · exact b j (by omega) h2⟩
    · exact Or.inr ⟨by omega, b, c, fun j h1 h2 => by
        by_cases e : j = k
        · subst e; exact hv
        · exact d j (by omega) h2⟩⟩
/-- At the end: no entry has the key, and the free number is the least. -/
theorem LkS.fin {es c : Nat → Ent} {n f m : Nat} {B s p q : Int} (h : LkS es n 0 f s p q) (hI : RbI c (-1) n es) (hB : BIv c (-1) m B) (hm : m < 4096) : (∀ j, j < 4096 → lvE (c j) = true → ¬ ((c j).s = s ∧ (c j).p = p ∧ (c j).q = q)) ∧ f < 4096 ∧ lvE (c f) = false ∧ (∀ j, j < f → lvE (c j) = true) ∧ (f < n ∨ f = n) := by
  have hle := hI.le
  have lv : ∀ j, j < n → lvE (es j) = lvE (c j) := fun j hj => hI.lv j hj
  have hno : ∀ j, j < 4096 → lvE (c j) = true → ¬ ((c j).s = s ∧ (c j).p = p ∧ (c j).q = q) := fun j hj hl => by
    have hjn := hI.inrow j hj (by rw [prE_neg]; exact hl)
    have he := hI.eq j hjn (by rw [prE_neg]; exact hl)
    have := h.no j (Nat.zero_le _) hjn (by rw [lv j hjn]; exact hl)
    rw [he] at this
    exact this
  refine ⟨hno, ?_⟩
  rcases h.free with ⟨rfl, b⟩ | ⟨_, a, c1, d⟩
  · have hlt : f < 4096 := by
      rcases Nat.lt_or_ge f 4096 with g | g
      · exact g
      · exfalso
        have e : f = 4096 := by omega
        have := hI.many hB
        rw [cnt_all fun i hi => b i (Nat.zero_le _) hi] at this
        omega
    refine ⟨hlt, ?_, fun j hj => by rw [← lv j hj]; exact b j (Nat.zero_le _) hj, Or.inr rfl⟩
    have := hI.out f hlt (Nat.le_refl _)
    rw [prE_neg] at this
    exact this
  · exact ⟨by omega, by rw [← lv f a]; exact c1, fun j hj => by rw [← lv j (by omega)]; exact d j (Nat.zero_le _) hj, Or.inl a⟩
theorem LkS.full {es c : Nat → Ent} {n f : Nat} {s p q : Int} (h : LkS es n 0 f s p q) (hI : RbI c (-1) n es) : ∀ j, j < 4096 → lvE (c j) = true → ¬ ((c j).s = s ∧ (c j).p = p ∧ (c j).q = q) := fun j hj hl => by
  have hjn := hI.inrow j hj (by rw [prE_neg]; exact hl)
  have he := hI.eq j hjn (by rw [prE_neg]; exact hl)
  have := h.no j (Nat.zero_le _) hjn (by rw [hI.lv j hjn]; exact hl)
  rw [he] at this
  exact this
theorem RbI.congr {c es es' : Nat → Ent} {x : Int} {n : Nat} (h : RbI c x n es) (he : ∀ i, i < n → es i = es' i) : RbI c x n es' :=
  ⟨fun i hi hp => by rw [← he i hi]; exact h.eq i hi hp, fun i hi hp => by rw [← he i hi]; exact h.no i hi hp, h.out, h.le⟩
theorem KpB.trans {B : Nat} {a b c : World} {F : List Nat} (h : KpB B a b) (k : Kp F b c) (hF : ∀ x ∈ F, B ≤ x) : KpB B a c := by
  obtain ⟨G, hG, hk⟩ := h
  refine ⟨G ++ F, fun x hx => by rcases List.mem_append.1 hx with g | g; exact hG x g; exact hF x g, (hk.mono (fun x hx => List.mem_append.2 (Or.inl hx))).trans k (fun x hx => Or.inl (List.mem_append.2 (Or.inr hx)))⟩
/-- The row, behind it has room for the free number. -/
structure RmS (br : Nat) (w wc : World) (es : Nat → Ent) (n f g2 cap2 n2 : Nat) (es2 : Nat → Ent) : Prop where
  nn : (n2 = n ∧ f < n) ∨ (n2 = n + 1 ∧ f = n)
  eq : ∀ i, i < n → es2 i = es i
  box : CBox br #[.slice (some ⟨g2, 0, none⟩) n2 cap2] 28 wc
  row : RoE g2 n2 cap2 es2 wc
  lt : br < g2
  kp : KpB br w wc
/-- What Put tells and leaves. -/
def RpP (br m : Nat) (c : Nat → Ent) (s p q : Int) (w : World) (e : Ending) (w' : World) : Prop := ∃ (id er : Int) (d : Nat → Ent) (m' : Nat) (v' : Value) (n' : Nat) (es' : Nat → Ent), e = .returned (.tuple #[.int .i64 id, .int .i64 er]) ∧ PutR c m s p q id er d m' ∧ Rb br v' n' es' d (-1) w' ∧ KpB br w w'
theorem RpP.mk {br m m' n' : Nat} {c d es' : Nat → Ent} {s p q id er : Int} {w w' : World} {e : Ending} {v' : Value} (h1 : e = .returned (.tuple #[.int .i64 id, .int .i64 er])) (h2 : PutR c m s p q id er d m') (h3 : Rb br v' n' es' d (-1) w') (h4 : KpB br w w') : RpP br m c s p q w e w' := ⟨id, er, d, m', v', n', es', h1, h2, h3, h4⟩
set_option maxHeartbeats 4000000 in
set_option maxRecDepth 100000 in
theorem rput_any (br n m : Nat) (B : Int) (v : Value) (es c : Nat → Ent) (s p q : Int) (w : World) (h : Rb br v n es c (-1) w) (hI : BIv c (-1) m B) (hB : B ≤ 2305843009213693952) : Calls Try.prog 11 #[.pointer (some ⟨br, 0, none⟩), .int .i64 s, .int .i64 p, .int .i64 q] w fun e w' => RpP br m c s p q w e w' := by
  have hS := hI.sml hB
  have hle := h.iv.le
  have hbl : br < w.heap.size := (Array.getElem?_eq_some_iff.1 h.box).1
  have HR := hide h
  have HI := hide hI
  by_cases hr : 0 ≤ s ∧ s < 8 ∧ 0 ≤ p ∧ p ≤ 1073741824
  · have HRG := hide hr
    obtain ⟨r1, r2, r3, r4⟩ := hr
    have n1 : ¬ s < 0 := by omega
    have n2 : ¬ 8 ≤ s := by omega
    have n3 : ¬ p < 0 := by omega
    have n4 : ¬ 1073741824 < p := by omega
    have HA := hide (rhas_any br n v es c q w h hS)
    generalize hh : hasE c q = H at *
    have HH := hide hh
    clear h hI hh
    go_enter Try.func11, Try.ntmps11
    go_upto_region 3 with fail
    go_cut [33] (fun u wc => ∃ b : Bool, u = .bool b ∧ Hid (b = true ↔ q ≠ -1 ∧ H = false) ∧ Hid (Kp [] w wc))
    case first =>
      by_cases hq : q = -1
      · have HQ := hide hq
        subst hq
        go_wp2_with fail
        go_meet
        exact ⟨false, rfl, hide (by simp), hide (Kp.refl _ _)⟩
      · go_wp2_with fail
        refine (unhide HA).mono ?_
        rintro r w1 ⟨rfl, HK1⟩
        have HK1 := hide HK1
        clear HA
        go_wp2_with fail
        go_meet
        exact ⟨_, rfl, hide (by simp), HK1⟩
    case rest =>
      obtain ⟨b, rfl, HB1, HK1⟩ := hcut
      clear HA
      generalize wc = w1 at *
      have HR1 := hide ((unhide HR).kp (unhide HK1))
      cases b with
      | true =>
        go_wp2_with fail
        go_ret2
        have e := (unhide HB1).1 (by trivial)
        exact RpP.mk rfl (PutR.ref (unhide HRG) e.1 (fun j hj hjl => by have := unhide HH; rw [e.2, hj, hasE_nat c j hjl] at this; exact this)) (unhide HR1) (KpB.of (unhide HK1) (by simp))
      | false =>
        have HPQ : Hid (q = -1 ∨ ∃ a : Nat, q = (a : Int) ∧ a < 4096 ∧ lvE (c a) = true) := hide (by
          by_cases hq : q = -1
          · exact Or.inl hq
          · refine Or.inr (hasE_some ?_)
            rw [unhide HH]
            cases H with
            | true => rfl
            | false => have := (unhide HB1).2 ⟨hq, rfl⟩; cases this)
        clear HB1 HH
        go_upto_region 5 with fail
        go_cut [59] (fun u wc => ∃ b : Bool, u = .bool b ∧ Hid (if b = true then ∃ a : Nat, q = (a : Int) ∧ a < 4096 ∧ lvE (c a) = true ∧ ¬ ((c a).s ≤ s ∧ (c a).p < p) else ParOk c s p q) ∧ wc = w1)
        case first =>
          rcases unhide HPQ with hq | ⟨a, hq, ha, hla⟩
          · subst hq
            go_wp2_with fail
            go_meet
            exact ⟨false, rfl, hide (by simp; exact Or.inl rfl), rfl⟩
          · have HQA := hide hq
            subst hq
            have han := (unhide HR1).iv.inrow a ha (by rw [prE_neg]; exact hla)
            have hai : (a : Int) < (n : Int) := by omega
            have ha1 : ¬ (a : Int) = -1 := by omega
            have hea := (unhide HR1).iv.eq a han (by rw [prE_neg]; exact hla)
            rcases (unhide HR1).row with ⟨_, h0⟩ | ⟨g, cap, hvv, hg, hrow⟩
            · omega
            · have b0 := (unhide HR1).box.cell (i := 0) rfl
              rw [hvv] at b0
              obtain ⟨c0, c1, _, _, _⟩ := hrow.cells a han
              rw [hea] at c0 c1
              clear hrow hvv hea
              have HLA := hide hla
              clear hla
              by_cases h1 : s < (c a).s
              · go_wp2_with fail
                go_meet
                exact ⟨true, rfl, hide (by simp only [if_true]; exact ⟨a, rfl, ha, unhide HLA, by omega⟩), rfl⟩
              · by_cases h2 : p ≤ (c a).p
                · go_wp2_with fail
                  go_meet
                  exact ⟨true, rfl, hide (by simp only [if_true]; exact ⟨a, rfl, ha, unhide HLA, by omega⟩), rfl⟩
                · go_wp2_with fail
                  go_meet
                  exact ⟨false, rfl, hide (by simp only [Bool.false_eq_true, if_false]; exact Or.inr ⟨a, rfl, ha, unhide HLA, by omega, by omega⟩), rfl⟩
        case rest =>
          obtain ⟨b, rfl, HB2, hw⟩ := hcut
          obtain rfl := hw.symm
          clear HPQ
          cases b with
          | true =>
            have HB3 : Hid (∃ a : Nat, q = (a : Int) ∧ a < 4096 ∧ lvE (c a) = true ∧ ¬ ((c a).s ≤ s ∧ (c a).p < p)) := hide (by have := unhide HB2; simpa using this)
            clear HB2
            go_wp2_with fail
            go_ret2
            obtain ⟨a, e1, e2, e3, e4⟩ := unhide HB3
            exact RpP.mk rfl (PutR.bad a (unhide HRG) e1 e2 e3 e4) (unhide HR1) (KpB.of (unhide HK1) (by simp))
          | false =>
            have HPO : Hid (ParOk c s p q) := hide (by have := unhide HB2; simpa using this)
            clear HB2
            obtain ⟨adv, cpv, hvl⟩ := (unhide HR1).len
            have b0 := (unhide HR1).box.cell (i := 0) rfl
            rw [hvl] at b0
            have HVL := hide hvl
            clear hvl
            have hnw : IntKind.i64.wrap ((n : Int) - 1) = (n : Int) - 1 := by rw [IntKind.wrap_i64] <;> omega
            go_wp2_with fail
            go_loopw [10, 11] (fun vf vi wr => ∃ k f : Nat, k ≤ n ∧ f ≤ n ∧ vi = .int .i64 ((k : Int) - 1) ∧ vf = .int .i64 (f : Int) ∧ Hid (LkS es n k f s p q) ∧ Hid (Kp [] w wr)) (fun _ vi _ => (intOf vi + 1).toNat)
            case atStart => exact ⟨n, n, Nat.le_refl _, Nat.le_refl _, rfl, rfl, hide (LkS.start es n s p q), HK1⟩
            case round =>
              clear b0 hnw
              obtain ⟨k, f, hk, hf, rfl, rfl, HL, HKr⟩ := hrel
              have HR2 := hide ((unhide HR).kp (unhide HKr))
              have b0 := (unhide HR2).box.cell (i := 0) rfl
              rw [unhide HVL] at b0
              by_cases hk0 : k = 0
              · subst hk0
                have LN := hide (rlen_any br n m B v es c wr (unhide HR2) (unhide HI) hS)
                go_wp2_with fail
                refine (unhide LN).mono ?_
                rintro r w3 ⟨rfl, HK3⟩
                have HK3 : Hid (Kp [] w w3) := hide ((unhide HKr).trans HK3 (by simp))
                have HR3 := hide ((unhide HR).kp (unhide HK3))
                clear LN b0 HR2 HKr
                by_cases hm : 4096 ≤ m
                · have hmi : (4096 : Int) ≤ (m : Int) := by omega
                  have hm4 : m = 4096 := by have := (unhide HI).mle; omega
                  have HM4 := hide hm4
                  clear hm4
                  go_wp2_with fail
                  go_ret2
                  exact RpP.mk rfl (PutR.full (unhide HRG) (unhide HPO) ((unhide HL).full (unhide HR3).iv) (unhide HM4)) (unhide HR3) (KpB.of (unhide HK3) (by simp))
                · have hmi : ¬ (4096 : Int) ≤ (m : Int) := by omega
                  have HF := hide ((unhide HL).fin (unhide HR3).iv (unhide HI) (by omega))
                  have b0 := (unhide HR3).box.cell (i := 0) rfl
                  rw [unhide HVL] at b0
                  have hbr3 : br < w3.heap.size := Nat.lt_of_lt_of_le hbl (unhide HK3).size
                  go_upto_if 149 with fail
                  go_cut [] (fun wc => ∃ (g2 cap2 n2 : Nat) (es2 : Nat → Ent), Hid (RmS br w wc es n f g2 cap2 n2 es2))
                  case first =>
                    by_cases hfn : f = n
                    · obtain rfl := hfn.symm
                      have FZ := (unhide HR3).box.froz 0
                      have OWN : w3.ownsRow 0 69 5 (.slice adv n cpv) n (erC es n) := by
                        rcases (unhide HR3).row with ⟨hv0, h0⟩ | ⟨g, cap, hvv, hg, hrow⟩
                        · rw [unhide HVL] at hv0
                          rw [hv0, h0]
                          exact World.ownsRow_nil _ _ _ _
                        · rw [unhide HVL] at hvv
                          rw [hvv]
                          exact hrow.own
                      have HGT : Hid (∀ b, (Value.slice adv n cpv).ownBlock = some b → br < b) := hide (fun b hb => by
                        rcases (unhide HR3).row with ⟨hv0, h0⟩ | ⟨g, cap, hvv, hg, hrow⟩
                        · rw [unhide HVL] at hv0
                          rw [hv0] at hb; cases hb
                        · rw [unhide HVL] at hvv
                          rw [hvv] at hb
                          simp [Value.ownBlock] at hb
                          omega)
                      have HBOX : Hid (CBox br #[.slice adv n cpv] 28 w3) := hide (by have hb := (unhide HR3).box; rw [unhide HVL] at hb; exact hb)
                      obtain ⟨i0, hi0, hz0, hz1, hz2⟩ := info_parts info_entry
                      have hb1 : n + 1 ≤ maxLen := by unfold maxLen; omega
                      have hb2 : (n + 1) * 40 ≤ 140737488355328 := by omega
                      have F5 : ∀ (j : Nat) (u : Value), [Value.int .i64 0, .int .i64 0, .int .i64 0, .int .i64 0, .int .i64 0][j]? = some u → (w3.alloc (.cells #[.int .i64 0, .int .i64 0, .int .i64 0, .int .i64 0, .int .i64 0] 69)).cell? ((⟨w3.heap.size, 0, none⟩ : Addr).add j) = some u := fun j u hj => by
                        have hx := CBox.new w3 #[.int .i64 0, .int .i64 0, .int .i64 0, .int .i64 0, .int .i64 0] 69
                        rw [Go.WideShapes.add_plain, Nat.zero_add]
                        exact hx.cell (by simpa using hj)
                      have FINA : Hid (∀ g7 cap7 w7, w7.ownsRow 0 69 5 (.slice (some ⟨g7, 0, none⟩) (n + 1) cap7) (n + 1) (erC es n ++ [.int .i64 0, .int .i64 0, .int .i64 0, .int .i64 0, .int .i64 0]) → (w3.alloc (.cells #[.int .i64 0, .int .i64 0, .int .i64 0, .int .i64 0, .int .i64 0] 69)).grownBy w7 (Value.slice adv n cpv).ownBlock → ((Value.slice adv n cpv).ownBlock = some g7 ∨ g7 = w3.heap.size + 1) → w7.cell? ⟨br, 0, none⟩ = some (.slice adv n cpv) ∧ w7.frozen? ⟨br, 0, none⟩ = false ∧ Hid (RmS br w (w7.setCell ⟨br, 0, none⟩ (.slice (some ⟨g7, 0, none⟩) (n + 1) cap7)) es n n g7 cap7 (n + 1) (setE es n zeE))) := hide (fun g7 cap7 w7 h1 h2 h3 => by
                        have k7 : Kp (Value.slice adv n cpv).ownBlock.toList w3 w7 := ((Kp.alloc _ _).mono (by simp)).trans (Kp.of h2) (fun x hx => Or.inl hx)
                        have hb7 := (unhide HBOX).kp k7 (fun hm => by have := unhide HGT br (by simpa using hm); omega)
                        have hg7 : br < g7 := by
                          rcases h3 with h3 | h3
                          · exact unhide HGT g7 h3
                          · omega
                        refine ⟨hb7.cell rfl, hb7.froz 0, hide ⟨Or.inr ⟨rfl, rfl⟩, fun i hi => setE_ne _ _ (by omega), ?_, ?_, hg7, ?_⟩⟩
                        · have := hb7.set 0 (.slice (some ⟨g7, 0, none⟩) (n + 1) cap7)
                          exact this
                        · rw [erC_more] at h1
                          exact (RoE.of h1).kp (Kp.set w7 br 0 _) (by simp; omega)
                        · exact ((KpB.of (unhide HK3) (by simp)).trans k7 (fun x hx => Nat.le_of_lt (unhide HGT x (by simpa using hx)))).trans (Kp.set w7 br 0 _) (by simp))
                      clear HR3 FZ
                      go_wp2_with (at_builtin; refine wpList_append_lies _ rfl _ _ 26 rfl 0 69 i0 (.agg #[.int .i64 0, .int .i64 0, .int .i64 0, .int .i64 0, .int .i64 0]) 5 40 Try.underlying26 hi0 hz0 hz1 hz2 rfl (by decide) (.slice adv n cpv) n (erC es n) rfl (OWN.alloc _) ⟨w3.heap.size, 0, none⟩ 1 1 [.int .i64 0, .int .i64 0, .int .i64 0, .int .i64 0, .int .i64 0] rfl rfl F5 (by intro u hu; simp at hu; subst hu; rfl) (by omega) hb1 hb2 (Nat.zero_le _) (w3.heap.size + 1) (by simp) ?_; intro g7 cap7 w7 hown7 hgr7 hat7 hlt7; obtain ⟨q1, q2, Q3⟩ := unhide FINA g7 cap7 w7 hown7 hgr7 hat7; clear hown7 hgr7 hat7 hlt7)
                      go_wp2_with fail
                      go_meet
                      exact ⟨_, _, _, _, Q3⟩
                    · have hfi : ¬ (f : Int) = (n : Int) := by omega
                      have hfl : f < n := by omega
                      have HRM : Hid (∃ (g2 cap2 n2 : Nat) (es2 : Nat → Ent), Hid (RmS br w w3 es n f g2 cap2 n2 es2)) := hide (by
                        rcases (unhide HR3).row with ⟨hv0, h0⟩ | ⟨g, cap, hvv, hg, hrow⟩
                        · omega
                        · have hb := (unhide HR3).box
                          rw [hvv] at hb
                          exact ⟨g, cap, n, es, hide ⟨Or.inl ⟨rfl, hfl⟩, fun _ _ => rfl, hb, hrow, hg, KpB.of (unhide HK3) (by simp)⟩⟩)
                      clear hfl
                      go_wp2_with fail
                      go_meet
                      exact unhide HRM
                  case rest =>
                    obtain ⟨g2, cap2, n2, es2, HRM⟩ := hcut
                    clear b0 HR3 HK3
                    generalize wc = w4 at *
                    obtain ⟨hno, hf4, hvf, hlt, _⟩ := unhide HF
                    have HNO := hide hno
                    have HVF := hide hvf
                    have HLT := hide hlt
                    have hfn2 : f < n2 := by rcases (unhide HRM).nn with ⟨a, b⟩ | ⟨a, b⟩ <;> omega
                    have hn24 : n2 ≤ 4097 := by rcases (unhide HRM).nn with ⟨a, b⟩ | ⟨a, b⟩ <;> omega
                    have hfi2 : (f : Int) < (n2 : Int) := by omega
                    have b0 := (unhide HRM).box.cell (i := 0) (v := .slice (some ⟨g2, 0, none⟩) n2 cap2) rfl
                    have g0 := (unhide HRM).row.froz (f * 5)
                    have g1 := (unhide HRM).row.froz (f * 5 + 1)
                    have g2' := (unhide HRM).row.froz (f * 5 + 2)
                    have g3 := (unhide HRM).row.froz (f * 5 + 3)
                    have g4 := (unhide HRM).row.froz (f * 5 + 4)
                    obtain ⟨a0, a1, a2, a3, a4⟩ := (unhide HRM).row.cells f hfn2
                    have HP5 : Hid (RoE g2 n2 cap2 (setE es2 f ⟨s, p, q, 1, 0⟩) (put5 g2 f ⟨s, p, q, 1, 0⟩ w4) ∧ CBox br #[.slice (some ⟨g2, 0, none⟩) n2 cap2] 28 (put5 g2 f ⟨s, p, q, 1, 0⟩ w4) ∧ KpB br w (put5 g2 f ⟨s, p, q, 1, 0⟩ w4)) := hide ⟨(unhide HRM).row.put f hfn2 _, (unhide HRM).box.kp (Kp.put5 g2 f _ w4) (by have := (unhide HRM).lt; simp; omega), (unhide HRM).kp.trans (Kp.put5 g2 f _ w4) (by have := (unhide HRM).lt; simp; omega)⟩
                    clear hno hvf hlt HF
                    go_upto_region 20 with fail
                    go_cut [] (fun wc => Hid (RoE g2 n2 cap2 (setE es2 f ⟨s, p, q, 1, 0⟩) wc ∧ CBox br #[.slice (some ⟨g2, 0, none⟩) n2 cap2] 28 wc ∧ KpB br w wc))
                    case first =>
                      go_wp2_with fail
                      go_meet
                      exact HP5
                    case rest =>
                      clear HP5 b0 g0 g1 g2' g3 g4 a0 a1 a2 a3 a4
                      have HC5 := hcut
                      clear hcut
                      generalize wc = w5 at *
                      have hmlt : m < 4096 := by omega
                      rcases unhide HPO with hq | ⟨a, hq, ha, hla, hsa, hpa⟩
                      · have HQ := hide hq
                        subst hq
                        have HIV : Hid (RbI (adE c f s p (-1)) (-1) n2 (setE es2 f ⟨s, p, -1, 1, 0⟩)) := hide (((unhide HR).iv.addF hf4 (unhide HRM).nn).congr (fun i hi => by
                          by_cases e : i = f
                          · subst e; rw [setE_same, setE_same]
                          · rw [setE_ne _ _ e, setE_ne _ _ e, (unhide HRM).eq i (by rcases (unhide HRM).nn with ⟨x, y⟩ | ⟨x, y⟩ <;> omega)]))
                        go_wp2_with fail
                        go_ret2
                        exact RpP.mk rfl (PutR.more f (unhide HRG) (unhide HPO) (unhide HNO) hmlt hf4 (unhide HVF) (unhide HLT)) ⟨(unhide HC5).2.1, Or.inr ⟨g2, cap2, rfl, (unhide HRM).lt, (unhide HC5).1⟩, unhide HIV⟩ (unhide HC5).2.2
                      · subst hq
                        have haf : a ≠ f := fun e => by subst e; have := unhide HVF; rw [hla] at this; cases this
                        have han := (unhide HR).iv.inrow a ha (by rw [prE_neg]; exact hla)
                        have han2 : a < n2 := by rcases (unhide HRM).nn with ⟨x, y⟩ | ⟨x, y⟩ <;> omega
                        have hai : (a : Int) < (n2 : Int) := by omega
                        have ha1 : ¬ (a : Int) = -1 := by omega
                        have hea : setE es2 f ⟨s, p, (a : Int), 1, 0⟩ a = c a := by
                          rw [setE_ne _ _ haf, (unhide HRM).eq a han]
                          exact (unhide HR).iv.eq a han (by rw [prE_neg]; exact hla)
                        obtain ⟨_, _, _, _, k4⟩ := (unhide HC5).1.cells a han2
                        have f4 := (unhide HC5).1.froz (a * 5 + 4)
                        obtain ⟨t1, t2, t3, t4⟩ := hS a ha
                        have b0 := (unhide HC5).2.1.cell (i := 0) (v := .slice (some ⟨g2, 0, none⟩) n2 cap2) rfl
                        have HNX := hide ((unhide HC5).1.setK a han2 ((c a).k + 1))
                        have HBX := hide ((unhide HC5).2.1.kp (Kp.set w5 g2 (a * 5 + 4) (.int .i64 ((c a).k + 1))) (by have := (unhide HRM).lt; simp; omega))
                        have HKX := hide ((unhide HC5).2.2.trans (Kp.set w5 g2 (a * 5 + 4) (.int .i64 ((c a).k + 1))) (by have := (unhide HRM).lt; simp; omega))
                        rw [hea] at k4 HNX
                        have HIV : Hid (RbI (adE c f s p (a : Int)) (-1) n2 (setE (setE es2 f ⟨s, p, (a : Int), 1, 0⟩) a ⟨(c a).s, (c a).p, (c a).q, (c a).h, (c a).k + 1⟩)) := hide (((unhide HR).iv.addB hf4 (unhide HRM).nn (unhide HVF) hla ha).congr (fun i hi => by
                          by_cases e : i = a
                          · subst e; rw [setE_same, setE_same]
                          · rw [setE_ne _ _ e, setE_ne _ _ e]
                            by_cases e2 : i = f
                            · subst e2; rw [setE_same, setE_same]
                            · rw [setE_ne _ _ e2, setE_ne _ _ e2, (unhide HRM).eq i (by rcases (unhide HRM).nn with ⟨x, y⟩ | ⟨x, y⟩ <;> omega)]))
                        clear hea hla
                        go_wp2_with fail
                        go_ret2
                        exact RpP.mk rfl (PutR.more f (unhide HRG) (unhide HPO) (unhide HNO) hmlt hf4 (unhide HVF) (unhide HLT)) ⟨unhide HBX, Or.inr ⟨g2, cap2, rfl, (unhide HRM).lt, unhide HNX⟩, unhide HIV⟩ (unhide HKX)
              · obtain ⟨j, rfl⟩ : ∃ j, k = j + 1 := ⟨k - 1, by omega⟩
                have hjn : j < n := by omega
                have ej : ((j + 1 : Nat) : Int) - 1 = (j : Int) := by omega
                rw [ej]
                have hji : (j : Int) < (n : Int) := by omega
                rcases (unhide HR2).row with ⟨_, h0⟩ | ⟨g, cap, hvv, hg, hrow⟩
                · omega
                · rw [unhide HVL] at hvv
                  simp only [Value.slice.injEq, true_and] at hvv
                  obtain ⟨rfl, rfl⟩ := hvv
                  obtain ⟨c0, c1, c2, c3, c4⟩ := hrow.cells j hjn
                  obtain ⟨t1, t2, t3, t4⟩ := (unhide HR2).iv.small hS j hjn
                  have HROW := hide hrow
                  clear hrow
                  have hjw : IntKind.i64.wrap ((j : Int) - 1) = (j : Int) - 1 := by rw [IntKind.wrap_i64] <;> omega
                  by_cases hlv : 0 < (es j).h + (es j).k
                  · have hne : ¬ (es j).h + (es j).k = 0 := by omega
                    have hb1 : ((es j).h + (es j).k == 0) = false := by simp [hne]
                    have HLV : Hid (lvE (es j) = true) := hide ((lvE_iff _).2 hlv)
                    have HJC : Hid (lvE (c j) = true ∧ es j = c j) := hide (by
                      have e := unhide HLV
                      rw [(unhide HR2).iv.lv j hjn] at e
                      exact ⟨e, (unhide HR2).iv.eq j hjn (by rw [prE_neg]; exact e)⟩)
                    clear hlv hne
                    by_cases e0 : (es j).s = s
                    · by_cases e1 : (es j).p = p
                      · by_cases e2 : (es j).q = q
                        · -- the same
                          have HKEY : Hid ((c j).s = s ∧ (c j).p = p ∧ (c j).q = q) := hide (by rw [← (unhide HJC).2]; exact ⟨e0, e1, e2⟩)
                          rw [e0] at c0
                          rw [e1] at c1
                          rw [e2] at c2
                          have f3 := (unhide HROW).froz (j * 5 + 3)
                          have HN : Hid (∀ q', RoE g n cpv (setE es j ⟨(es j).s, (es j).p, (es j).q, (es j).h + 1, (es j).k⟩) ((wr.drewN q').setCell ⟨g, j * 5 + 3, none⟩ (.int .i64 ((es j).h + 1))) ∧ CBox br #[.slice (some ⟨g, 0, none⟩) n cpv] 28 ((wr.drewN q').setCell ⟨g, j * 5 + 3, none⟩ (.int .i64 ((es j).h + 1))) ∧ KpB br w ((wr.drewN q').setCell ⟨g, j * 5 + 3, none⟩ (.int .i64 ((es j).h + 1)))) := hide (fun q' => ⟨((unhide HROW).kp (Kp.drewQ _ q') (by simp)).setH j hjn _, by have hb := (unhide HR2).box; rw [unhide HVL] at hb; exact (hb.kp (Kp.drewQ _ q') (by simp)).kp (Kp.set _ g _ _) (by simp; omega), KpB.of ((((unhide HKr).mono (by simp)).trans (Kp.drewQ _ q') (by simp)).trans (Kp.set _ g _ _) (by simp)) (F := [g]) (by simp; omega)⟩)
                          have HIV := hide ((unhide HR2).iv.hold hjn (unhide HJC).1 (unhide HJC).2)
                          clear e0 e1 e2
                          go_wp2_with fail
                          go_quiet (fail)
                          go_wp2_with fail
                          go_ret2
                          exact RpP.mk rfl (PutR.again j (unhide HRG) (unhide HPO) (by omega) (unhide HJC).1 (unhide HKEY)) ⟨(unhide HN _).2.1, Or.inr ⟨g, cpv, rfl, hg, (unhide HN _).1⟩, unhide HIV⟩ (unhide HN _).2.2
                        · have HLL := hide ((unhide HL).live (unhide HLV) (fun h => e2 h.2.2))
                          rw [e0] at c0
                          rw [e1] at c1
                          clear e0 e1
                          go_wp2_with fail
                          go_quiet (fail)
                          go_wp2_with fail
                          go_roundw
                          case rel => exact ⟨j, f, by omega, hf, by first | rfl | rw [hjw], rfl, HLL, hide ((unhide HKr).trans (Kp.drewQ _ _) (by simp))⟩
                          case measure => (simp [intOf]; try omega)
                      · have HLL := hide ((unhide HL).live (unhide HLV) (fun h => e1 h.2.1))
                        rw [e0] at c0
                        clear e0
                        go_wp2_with fail
                        go_quiet (fail)
                        go_wp2_with fail
                        go_roundw
                        case rel => exact ⟨j, f, by omega, hf, by first | rfl | rw [hjw], rfl, HLL, hide ((unhide HKr).trans (Kp.drewQ _ _) (by simp))⟩
                        case measure => (simp [intOf]; try omega)
                    · have HLL := hide ((unhide HL).live (unhide HLV) (fun h => e0 h.1))
                      go_wp2_with fail
                      go_quiet (fail)
                      go_wp2_with fail
                      go_roundw
                      case rel => exact ⟨j, f, by omega, hf, by first | rfl | rw [hjw], rfl, HLL, hide ((unhide HKr).trans (Kp.drewQ _ _) (by simp))⟩
                      case measure => (simp [intOf]; try omega)
                  · have hz0 : (es j).h + (es j).k = 0 := by omega
                    have hb1 : ((es j).h + (es j).k == 0) = true := by simp [hz0]
                    have HLL := hide ((unhide HL).dead hjn ((lvE_not _).2 hlv))
                    clear hz0 hlv
                    go_wp2_with fail
                    go_quiet (fail)
                    go_wp2_with fail
                    go_roundw
                    case rel => exact ⟨j, j, by omega, by omega, by first | rfl | rw [hjw], rfl, HLL, hide ((unhide HKr).trans (Kp.drewQ _ _) (by simp))⟩
                    case measure => (simp [intOf]; try omega)
  · clear h hI
    rcases (show s < 0 ∨ (¬ s < 0 ∧ 8 ≤ s) ∨ (¬ s < 0 ∧ ¬ 8 ≤ s ∧ p < 0) ∨ (¬ s < 0 ∧ ¬ 8 ≤ s ∧ ¬ p < 0 ∧ 1073741824 < p) by omega) with h1 | ⟨h1, h2⟩ | ⟨h1, h2, h3⟩ | ⟨h1, h2, h3, h4⟩
    all_goals
      go_enter Try.func11, Try.ntmps11
      go_wp2_with fail
      go_ret2
      exact RpP.mk rfl (PutR.range hr) (unhide HR) (KpB.of (Kp.refl [] w) (by simp))
end Go.Proofs.Ythdfaidjdddagaa
