/-
  The document's link: an acknowledgement is heard.
  The document's link: a sender that may not be begun; a text that is pushed.
-/
import Derived.Test.YtiomngpfolkgpaaL21
import Derived.Test.YtiomngpfolkgpaaL16
import Derived.Test.YtiomngpfolkgpaaL19
import Derived.Deep.DeepCutAuto
import Derived.BigQuiet
namespace Go.Proofs.Ytiomngpfolkgpaa
open Go.RowKit Lk

/-- A sender on its way: k texts were taken off. -/
def heS (s : Snd) (k : Nat) : Snd := ⟨s.ep, s.wd, s.pt, s.first + k, s.left.drop k, s.now⟩
/-- How far it is: its first number, read off the world. -/
def heM (b : Nat) (w : World) : Nat := (intOf ((w.cell? ⟨b, 4, none⟩).getD undef)).toNat
/-- Its row on its way: in the block that it was in. -/
structure HeS (w : World) (b : Nat) (v0 : Value) (s : Snd) (k : Nat) (W : World) : Prop where
  rs : ∃ v, RsV W b v (heS s k) ∧ (∀ g, v.ownBlock = some g → v0.ownBlock = some g)
  kp : Kp (b :: v0.ownBlock.toList) w W
theorem HeS.al {w W W' : World} {b : Nat} {v0 : Value} {s : Snd} {k : Nat} (h : HeS w b v0 s k W) (hk : Kp [] W W') : HeS w b v0 s k W' := by
  obtain ⟨v, h1, h2⟩ := h.rs
  exact ⟨⟨v, ⟨h1.box.kp hk (by simp), h1.row.kp hk (by simp)⟩, h2⟩, h.kp.trans hk (by simp)⟩
theorem OuQ.tail {w : World} {v : Value} {l : List Pu} (h : OuQ w v l) (hl : 0 < l.length) : ∃ g off cap nad, v = .slice (some ⟨g, off, none⟩) l.length cap ∧ l.length ≤ cap ∧ cap ≤ 9223372036854775807 ∧ nad = (if cap = 1 then some ⟨g, off, none⟩ else some ⟨g, off + 3, none⟩) ∧ OuQ w (.slice nad (l.length - 1) (cap - 1)) (l.drop 1) ∧ (∀ x, (Value.slice nad (l.length - 1) (cap - 1)).ownBlock = some x → v.ownBlock = some x) := by
  rcases h with ⟨_, rfl⟩ | ⟨g, off, cap, rfl, hb, h1, h2, h3⟩
  · cases hl
  · obtain ⟨x, r, rfl⟩ : ∃ x r, l = x :: r := by
      cases l with
      | nil => cases hl
      | cons x r => exact ⟨x, r, rfl⟩
    refine ⟨g, off, cap, _, rfl, h1, h2, rfl, ?_, ?_⟩
    · rw [List.length_cons] at h1
      by_cases hc : cap = 1
      · rw [if_pos hc]
        obtain rfl : r = [] := List.eq_nil_of_length_eq_zero (by omega)
        exact Or.inr ⟨g, off, cap - 1, rfl, hb, by simp, by omega, fun i hi => by cases hi⟩
      · rw [if_neg hc]
        exact Or.inr ⟨g, off + 3, cap - 1, rfl, hb, by simp; omega, by omega, h3.tail⟩
    · intro y hy
      by_cases hc : cap = 1
      · rw [if_pos hc] at hy; exact hy
      · rw [if_neg hc] at hy; exact hy
/-- One text is taken off. -/
theorem HeS.next {w W : World} {b : Nat} {v0 : Value} {s : Snd} {k : Nat} (h : HeS w b v0 s k W) (hk : k < s.left.length) (_hfr : s.first + k ≤ 1073741825) : ∃ g off cap nad, W.cell? ⟨b, 3, none⟩ = some (.slice (some ⟨g, off, none⟩) (s.left.length - k) cap) ∧ W.frozen? ⟨b, 3, none⟩ = false ∧ 1 ≤ s.left.length - k ∧ s.left.length - k ≤ cap ∧ cap ≤ 9223372036854775807 ∧ (if cap = 1 then some (⟨g, off, none⟩ : Addr) else some ⟨g, off + 3, none⟩) = nad ∧
    (W.setCell ⟨b, 3, none⟩ (.slice nad (s.left.length - k - 1) (cap - 1))).cell? ⟨b, 4, none⟩ = some (.int .i64 ((s.first + k : Nat) : Int)) ∧ (W.setCell ⟨b, 3, none⟩ (.slice nad (s.left.length - k - 1) (cap - 1))).frozen? ⟨b, 4, none⟩ = false ∧
    HeS w b v0 s (k + 1) ((W.setCell ⟨b, 3, none⟩ (.slice nad (s.left.length - k - 1) (cap - 1))).setCell ⟨b, 4, none⟩ (.int .i64 (((s.first + k : Nat) : Int) + 1))) := by
  obtain ⟨v, h1, h2⟩ := h.rs
  have hl : (heS s k).left.length = s.left.length - k := by unfold heS; dsimp only; rw [List.length_drop]
  obtain ⟨g, off, cap, nad, rfl, c1, c2, hnad, r1, r2⟩ := h1.row.tail (by rw [hl]; omega)
  rw [hl] at c1 r1 r2
  have hb := h1.box
  rw [hl] at hb
  have b1 := hb.set 3 (.slice nad (s.left.length - k - 1) (cap - 1))
  have b2 := b1.set 4 (.int .i64 (((s.first + k : Nat) : Int) + 1))
  refine ⟨g, off, cap, nad, hb.cell (i := 3) rfl, hb.froz 3, by omega, c1, c2, hnad.symm, b1.cell (i := 4) rfl, b1.froz 4, ⟨.slice nad (s.left.length - k - 1) (cap - 1), ⟨?_, ?_⟩, ?_⟩, ?_⟩
  · unfold heS
    have e : ((s.first + (k + 1) : Nat) : Int) = ((s.first + k : Nat) : Int) + 1 := by omega
    unfold rsC
    dsimp only
    rw [e]
    exact b2
  · have e : (heS s (k + 1)).left = (heS s k).left.drop 1 := by
      unfold heS
      dsimp only
      rw [List.drop_drop]
    rw [e]
    have hne : ∀ x, (Value.slice nad (s.left.length - k - 1) (cap - 1)).ownBlock = some x → x ≠ b := fun x hx => h1.ne (by rw [← hl] at r2; exact r2 x (by rw [hl]; exact hx))
    exact (r1.kp (Kp.set W b 3 _) (fun x hx => by simpa using hne x hx)).kp (Kp.set _ b 4 _) (fun x hx => by simpa using hne x hx)
  · intro x hx
    exact h2 x (by rw [hl]; exact r2 x hx)
  · exact (h.kp.trans (Kp.set W b 3 _) (fun x hx => Or.inl (by rw [List.mem_singleton] at hx; subst hx; exact List.mem_cons_self ..))).trans (Kp.set _ b 4 _) (fun x hx => Or.inl (by rw [List.mem_singleton] at hx; subst hx; exact List.mem_cons_self ..))
set_option maxHeartbeats 8000000 in
set_option maxRecDepth 100000 in
theorem rHeard_any (B b : Nat) (s : Snd) (p : ByteArray) (w : World) (h : RsAt B w b s) (hok : SOk s) (hp : p.size ≤ 262144) (hBw : B ≤ w.heap.size) :
    Calls Try.prog 16 #[.pointer (some ⟨b, 0, none⟩), .string p] w fun e w' => e = .returned (.int .i64 (lhE s p)) ∧ RsAt B w' b (lhS s p) ∧ Ko rsO B w w' := by
  by_cases hprs : prs p 3 1 1073741825
  · obtain ⟨hc, hl, x, y, z, r, he, hh⟩ := hprs
    obtain ⟨e1, e2⟩ := lhE_some (s := s) (lrA_some hc hl he hh)
    have PA := hide (rparse_ok p 3 1 1073741825 w hp (by decide) x y z r hc hl he hh)
    obtain ⟨_, _, _, y0, y1, _, z0, z1⟩ := hh
    clear hc hl he
    have HSAME := hide (fun w' hk => rs_same (w' := w') h hk)
    obtain ⟨v, hv, hB, hbv⟩ := id h
    obtain ⟨ad, cap, hvs⟩ := hv.row.slice
    have HC : Hid (∀ W, Kp [] w W → W.cell? ⟨b, 0, none⟩ = some (.int .i64 s.ep) ∧ W.cell? ⟨b, 3, none⟩ = some (.slice ad s.left.length cap) ∧ W.cell? ⟨b, 4, none⟩ = some (.int .i64 (s.first : Int))) := hide (fun W hk => by
      have := hv.box.kp hk (by simp)
      subst hvs
      exact ⟨this.cell rfl, this.cell rfl, this.cell rfl⟩)
    have htop := hok.top
    have hle := hok.len
    rw [e2, e1]
    clear e2 e1
    generalize y.n = E at *
    generalize z.n = n at *
    by_cases hep : E = s.ep
    · rw [if_neg (by simpa using hep)]
      subst hep
      obtain ⟨J, hJ⟩ : ∃ J : Int, J = (s.first : Int) + (s.left.length : Int) := ⟨_, rfl⟩
      have hJw : IntKind.i64.wrap ((s.first : Int) + (s.left.length : Int)) = J := by rw [hJ]; unfold IntKind.wrap; simp [IntKind.signed, go_sem]; omega
      by_cases hn : J < n
      · rw [if_pos (by omega), if_neg (by simp)]
        have q1 : decide (J < n) = true := decide_eq_true hn
        clear h hv hbv hB hok hvs hJ hn y0 y1 z0 z1 htop hle
        generalize s.left.length = L at *
        generalize s.first = F at *
        go_enter Try.func16, Try.ntmps16
        go_wp2_with fail
        refine (unhide PA).mono ?_
        rintro e w1 ⟨⟨v1, rfl, _⟩, k1⟩
        have hk1 : Kp [] w w1 := Kp.ofBelow k1
        have K1 := hide hk1
        obtain ⟨c0, c3, c4⟩ := unhide HC w1 hk1
        clear PA k1 hk1 HC
        go_wp2
        go_quiet (fail)
        go_wp2
        go_ret
        exact ⟨rfl, unhide HSAME _ ((unhide K1).trans (Kp.drewQ _ _) (by simp))⟩
      · rw [if_neg (by omega)]
        have q1 : decide (J < n) = false := decide_eq_false hn
        have HH0 : Hid (∀ W, Kp [] w W → HeS w b v s 0 W) := hide (fun W hk => (HeS.mk ⟨v, by unfold heS; rw [Nat.add_zero, List.drop_zero]; exact hv, fun g hg => hg⟩ ((Kp.refl [] w).mono (by simp)) : HeS w b v s 0 w).al hk)
        obtain ⟨N, hN⟩ : ∃ N : Nat, N = n.toNat - s.first := ⟨_, rfl⟩
        generalize hS2 : (if (0 : Int) = 0 ∧ (s.first : Int) < n then (⟨s.ep, s.wd, s.pt, n.toNat, s.left.drop (n.toNat - s.first), s.now⟩ : Snd) else s) = S2
        have HFIN : Hid (∀ W, HeS w b v s N W → RsAt B W b S2 ∧ Ko rsO B w W) := hide (fun W hW => by
          have es : (if (0 : Int) = 0 ∧ (s.first : Int) < n then (⟨s.ep, s.wd, s.pt, n.toNat, s.left.drop (n.toNat - s.first), s.now⟩ : Snd) else s) = heS s N := by
            by_cases hlt : (s.first : Int) < n
            · rw [if_pos ⟨rfl, hlt⟩]
              unfold heS
              rw [hN, show s.first + (n.toNat - s.first) = n.toNat by omega]
            · rw [if_neg (fun hx => hlt hx.2)]
              unfold heS
              rw [show N = 0 by omega, Nat.add_zero, List.drop_zero]
          rw [← hS2, es]
          obtain ⟨v', h1, h2⟩ := hW.rs
          exact rs_step hv hB hbv hW.kp h1.box h1.row (fun k hk => Or.inl (h2 k hk)) hBw)
        have HCX : Hid (∀ k W, HeS w b v s k W → W.cell? ⟨b, 4, none⟩ = some (.int .i64 ((s.first + k : Nat) : Int))) := hide (fun k W hW => by
          obtain ⟨v', h1, h2⟩ := hW.rs
          exact h1.box.cell (i := 4) rfl)
        have HNX := hide (fun k W (hW : HeS w b v s k W) => hW.next (k := k))
        have hNl : N ≤ s.left.length := by omega
        have hNf : ∀ k : Nat, k < N ↔ ((s.first + k : Nat) : Int) < n := fun k => by omega
        have HNF := hide hNf
        clear h hv hbv hB hok hvs hJ hn y0 y1 z0 z1 hN hNf HSAME hS2
        generalize hLL : s.left.length = L at *
        generalize hFF : s.first = F at *
        clear hLL hFF
        go_enter Try.func16, Try.ntmps16
        go_wp2_with fail
        refine (unhide PA).mono ?_
        rintro e w1 ⟨⟨v1, rfl, hv1⟩, k1⟩
        obtain ⟨ad1, cp1, rfl⟩ := hv1.form
        have hk1 : Kp [] w w1 := Kp.ofBelow k1
        obtain ⟨c0, c3, c4⟩ := unhide HC w1 hk1
        have HS1 : Hid (∀ q, HeS w b v s 0 (w1.drewN q)) := hide (fun q => unhide HH0 _ (hk1.trans (Kp.drewQ _ _) (by simp)))
        clear PA k1 hk1 HC hv1 HH0
        go_wp2
        go_quiet (fail)
        clear c0 c3 c4
        go_wp2_with fail
        go_loopw [] (fun wr => ∃ k : Nat, k ≤ N ∧ Hid (HeS w b v s k wr)) (fun wr => n.toNat - heM b wr)
        case atStart => exact ⟨0, Nat.zero_le _, hide (unhide HS1 _)⟩
        case round =>
          clear HS1
          obtain ⟨k, hkN, HD⟩ := hrel
          have c4 := unhide HCX k wr (unhide HD)
          by_cases hlt : k < N
          · have hlti := (unhide HNF k).1 hlt
            obtain ⟨g, off, cap5, nad, d1, d2, d3, d4, d5, d6, d7, d8, d9⟩ := unhide HNX k wr (unhide HD) (by omega) (by omega)
            have HD9 := hide d9
            have hmes : n.toNat - heM b ((wr.setCell ⟨b, 3, none⟩ (.slice nad (L - k - 1) (cap5 - 1))).setCell ⟨b, 4, none⟩ (.int .i64 (((F + k : Nat) : Int) + 1))) < n.toNat - heM b wr := by
              have e1 : heM b wr = F + k := by unfold heM; rw [c4]; simp [intOf]; omega
              have e2 : heM b ((wr.setCell ⟨b, 3, none⟩ (.slice nad (L - k - 1) (cap5 - 1))).setCell ⟨b, 4, none⟩ (.int .i64 (((F + k : Nat) : Int) + 1))) = F + k + 1 := by
                have := unhide HCX (k + 1) _ d9
                unfold heM
                rw [this]
                simp [intOf]
                omega
              rw [e1, e2]
              omega
            have HM := hide hmes
            have d3i : (1 : Int) ≤ ((L - k : Nat) : Int) := by omega
            have hfk : F + k ≤ 1073741825 := by omega
            clear d9 HD hmes HNX HCX HFIN HNF q1 hJw
            generalize F + k = M at *
            generalize L - k = R at *
            go_wp2
            go_roundw
            case rel => exact ⟨k + 1, by omega, HD9⟩
            case measure => exact unhide HM
          · obtain rfl : k = N := by omega
            have hlti : ¬ ((F + k : Nat) : Int) < n := fun hh => hlt ((unhide HNF k).2 hh)
            have HF := hide (unhide HFIN wr (unhide HD))
            clear HD HNX HCX HFIN HNF q1 hJw
            generalize F + k = M at *
            go_wp2
            go_ret
            exact ⟨rfl, unhide HF⟩
    · rw [if_pos (by simpa using hep), if_neg (by simp)]
      clear h hv hbv hB hok hvs y0 y1 z0 z1 htop hle
      generalize s.ep = E0 at *
      generalize s.left.length = L at *
      generalize s.first = F at *
      go_enter Try.func16, Try.ntmps16
      go_wp2_with fail
      refine (unhide PA).mono ?_
      rintro e w1 ⟨⟨v1, rfl, _⟩, k1⟩
      have hk1 : Kp [] w w1 := Kp.ofBelow k1
      have K1 := hide hk1
      obtain ⟨c0, c3, c4⟩ := unhide HC w1 hk1
      clear PA k1 hk1 HC
      go_wp2
      go_ret
      exact ⟨rfl, unhide HSAME _ (unhide K1)⟩
  · obtain ⟨e1, e2⟩ := lhE_none (s := s) (lrA_prs hprs)
    have PA := hide (rparse_not p 3 1 1073741825 w hp (by decide) hprs)
    have HSAME := hide (fun w' hk => rs_same (w' := w') h hk)
    rw [e1, e2]
    clear e1 e2 h hok hprs
    go_enter Try.func16, Try.ntmps16
    go_wp2_with fail
    refine (unhide PA).mono ?_
    rintro e w1 ⟨rfl, k1⟩
    have K1 := hide (Kp.ofBelow k1)
    clear PA k1
    go_wp2
    go_ret
    exact ⟨rfl, unhide HSAME _ (unhide K1)⟩
end Go.Proofs.Ytiomngpfolkgpaa
namespace Go.Proofs.Ytiomngpfolkgpaa
open Go.RowKit Lk

theorem rNewSender_not (ep wd pt : Int) (w : World) (h : (lepB ep && (lstB wd && lstB pt)) = false) :
    Calls Try.prog 5 #[.int .i64 ep, .int .i64 wd, .int .i64 pt] w fun e w' => e = .returned (.tuple #[.pointer none, .int .i64 1]) ∧ w' = w := by
  have h' : ¬ ((0 ≤ ep ∧ ep ≤ 1073741824) ∧ (1 ≤ wd ∧ wd ≤ 256) ∧ (1 ≤ pt ∧ pt ≤ 256)) := fun hh => by
    unfold lepB lstB at h
    rw [decide_eq_true hh.1, decide_eq_true hh.2.1, decide_eq_true hh.2.2] at h
    cases h
  clear h
  by_cases a1 : ep < 0
  · clear h'
    go_enter Try.func5, Try.ntmps5
    go_wp2
    go_ret2
    exact ⟨rfl, rfl⟩
  by_cases a2 : 1073741824 < ep
  · clear h'
    go_enter Try.func5, Try.ntmps5
    go_wp2
    go_ret2
    exact ⟨rfl, rfl⟩
  by_cases a3 : wd < 1
  · clear h'
    go_enter Try.func5, Try.ntmps5
    go_wp2
    go_ret2
    exact ⟨rfl, rfl⟩
  by_cases a4 : 256 < wd
  · clear h'
    go_enter Try.func5, Try.ntmps5
    go_wp2
    go_ret2
    exact ⟨rfl, rfl⟩
  by_cases a5 : pt < 1
  · clear h'
    go_enter Try.func5, Try.ntmps5
    go_wp2
    go_ret2
    exact ⟨rfl, rfl⟩
  have a6 : 256 < pt := by omega
  clear h'
  go_enter Try.func5, Try.ntmps5
  go_wp2
  go_ret2
  exact ⟨rfl, rfl⟩
theorem luE_if (s : Snd) (b : ByteArray) {p : Bool} (h : p = true ↔ (60000 < b.size ∨ s.left.length = 4096 ∨ 1073741824 < s.first + s.left.length)) : luE s b = (if p then 2 else 0) := by
  unfold luE
  by_cases hp : 60000 < b.size ∨ s.left.length = 4096 ∨ 1073741824 < s.first + s.left.length
  · rw [if_pos hp, if_pos (h.2 hp)]
  · rw [if_neg hp, if_neg (fun e => hp (h.1 e))]
set_option maxHeartbeats 4000000 in
set_option maxRecDepth 100000 in
theorem rPush_any (B b : Nat) (s : Snd) (t : ByteArray) (w : World) (h : RsAt B w b s) (hok : SOk s) (ht : t.size ≤ 9223372036854775807) (hBw : B ≤ w.heap.size) :
    Calls Try.prog 11 #[.pointer (some ⟨b, 0, none⟩), .string t] w fun e w' => e = .returned (.int .i64 (luE s t)) ∧ RsAt B w' b (luS s t) ∧ Ko rsO B w w' := by
  obtain ⟨v, hv, hB, hbv⟩ := id h
  obtain ⟨ad, cap, rfl⟩ := hv.row.slice
  have c3 : w.cell? ⟨b, 3, none⟩ = some (.slice ad s.left.length cap) := hv.box.cell (i := 3) rfl
  have c4 : w.cell? ⟨b, 4, none⟩ = some (.int .i64 (s.first : Int)) := hv.box.cell (i := 4) rfl
  have hll := hok.len
  have htop := hok.top
  have HSAME := hide (fun w' hk => rs_same (w' := w') h hk)
  unfold luS
  by_cases h1 : 60000 < t.size
  · have e1 : luE s t = 2 := by unfold luE; rw [if_pos (Or.inl h1)]
    have q1 : decide ((60000 : Int) < (t.size : Int)) = true := decide_eq_true (by omega)
    rw [e1, if_neg (by decide)]
    clear h hv hbv hok hB e1 h1
    generalize s.left.length = n at *
    generalize s.first = m at *
    go_enter Try.func11, Try.ntmps11
    go_wp2
    go_quiet (fail)
    go_wp2
    go_ret
    exact ⟨rfl, unhide HSAME _ (Kp.drewQ _ _)⟩
  have q1 : decide ((60000 : Int) < (t.size : Int)) = false := decide_eq_false (by omega)
  by_cases h2 : s.left.length = 4096
  · have e1 : luE s t = 2 := by unfold luE; rw [if_pos (Or.inr (Or.inl h2))]
    rw [e1, if_neg (by decide)]
    have q2 : decide ((4096 : Int) ≤ (s.left.length : Int)) = true := decide_eq_true (by omega)
    clear h hv hbv hok hB e1 h2 h1
    generalize s.left.length = n at *
    generalize s.first = m at *
    clear htop
    go_enter Try.func11, Try.ntmps11
    go_wp2
    go_quiet (fail)
    go_wp2
    go_ret
    exact ⟨rfl, unhide HSAME _ (Kp.drewQ _ _)⟩
  have q2 : decide ((4096 : Int) ≤ (s.left.length : Int)) = false := decide_eq_false (by omega)
  obtain ⟨J, hJ⟩ : ∃ J : Int, J = (s.first : Int) + (s.left.length : Int) := ⟨_, rfl⟩
  have hJw : IntKind.i64.wrap ((s.first : Int) + (s.left.length : Int)) = J := by rw [hJ]; unfold IntKind.wrap; simp [IntKind.signed, go_sem]; omega
  by_cases h3 : 1073741824 < s.first + s.left.length
  · have e1 : luE s t = 2 := by unfold luE; rw [if_pos (Or.inr (Or.inr h3))]
    have q3 : decide ((1073741824 : Int) < J) = true := decide_eq_true (by omega)
    rw [e1, if_neg (by decide)]
    clear h hv hbv hok hB e1 hJ h1 h2 h3 htop
    generalize s.left.length = n at *
    generalize s.first = m at *
    go_enter Try.func11, Try.ntmps11
    go_wp2
    go_quiet (fail)
    go_wp2
    go_ret
    exact ⟨rfl, unhide HSAME _ (Kp.drewQ _ _)⟩
  have q3 : decide ((1073741824 : Int) < J) = false := decide_eq_false (by omega)
  have e1 : luE s t = 0 := by unfold luE; rw [if_neg (by omega)]
  rw [e1, if_pos rfl]
  have HRUN : Hid (∀ W, Kp [] w W → ∃ g3 cap3 W3, (Builtin.append_ #[50, 50] 50 #[.slice (some ⟨W.heap.size, 0, none⟩) 0 0, .slice ad s.left.length cap]).run Try.prog (W.alloc (.cells #[] 68)) = .ok (.slice (some ⟨g3, 0, none⟩) s.left.length cap3) W3 ∧
    ∃ g5 cap5 W5, (Builtin.append_ #[50, 50] 50 #[.slice (some ⟨g3, 0, none⟩) s.left.length cap3, .slice (some ⟨W3.heap.size, 0, none⟩) 1 1]).run Try.prog (W3.alloc (.cells #[.string t, .bool false, .int .i64 0] 68)) = .ok (.slice (some ⟨g5, 0, none⟩) (s.left.length + 1) cap5) W5 ∧
    (W.alloc (.cells #[] 68)).cell? ⟨b, 3, none⟩ = some (.slice ad s.left.length cap) ∧ W5.cell? ⟨b, 3, none⟩ = some (.slice ad s.left.length cap) ∧ W5.frozen? ⟨b, 3, none⟩ = false ∧
    RsAt B (W5.setCell ⟨b, 3, none⟩ (.slice (some ⟨g5, 0, none⟩) (s.left.length + 1) cap5)) b ⟨s.ep, s.wd, s.pt, s.first, s.left ++ [⟨t, -1⟩], s.now⟩ ∧ Ko rsO B w (W5.setCell ⟨b, 3, none⟩ (.slice (some ⟨g5, 0, none⟩) (s.left.length + 1) cap5))) := hide (fun W hk => by
    have hrow := hv.row.kp hk (by simp)
    obtain ⟨g3, cap3, W3, run3, g5, cap5, W5, run5, r5, k5, hg5⟩ := ou_push hrow (by omega) t 50 50
    have b0 := hv.box.kp hk (by simp)
    have b1 := b0.kp (Kp.alloc W (.cells #[] 68)) (by simp)
    have b5 := b0.kp k5 (by simp)
    have hsz := hk.size
    have kk : Kp [] w W5 := hk.trans k5 (by simp)
    have hlt : b < w.heap.size := (Array.getElem?_eq_some_iff.1 hv.box).1
    refine ⟨g3, cap3, W3, run3, g5, cap5, W5, run5, b1.cell (i := 3) rfl, b5.cell (i := 3) rfl, b5.froz 3, ?_⟩
    refine rs_step hv hB hbv ((kk.mono (G := b :: (Value.slice ad s.left.length cap).ownBlock.toList) (by simp)).trans (Kp.set W5 b 3 _) (by simp)) (b5.set 3 _) ?_ (fun k hk1 => ?_) hBw
    · refine OuQ.kp r5 (Kp.set W5 b 3 _) (fun k hk1 => ?_)
      simp [Value.ownBlock] at hk1
      subst hk1
      simp
      omega
    · simp [Value.ownBlock] at hk1
      subst hk1
      exact Or.inr (by omega))
  clear h hv hbv hok hB HSAME e1 hJ h1 h2 h3 htop
  generalize s.left.length = n at *
  generalize s.first = m at *
  go_enter Try.func11, Try.ntmps11
  go_wp2
  go_quiet (fail)
  have KW := hide (Kp.drewQ w nq)
  obtain ⟨W1, hW1⟩ : ∃ W1, W1 = w.drewN nq := ⟨_, rfl⟩
  rw [← hW1] at KW ⊢
  clear hW1
  obtain ⟨g3, cap3, W3, run3, g5, cap5, W5, run5, d3, d5, f5, p1, p2⟩ := unhide HRUN W1 (unhide KW)
  have RUN3 := hide run3
  have RUN5 := hide run5
  have Q1 := hide p1
  have Q2 := hide p2
  clear run3 run5 p1 p2 HRUN KW c3 c4 q1 q2 q3 hJw
  generalize n + 1 = n1 at *
  go_wp2_with (first | (at_builtin; refine wpList_app_run rfl _ _ 50 rfl rfl rfl (unhide RUN5) ?_) | (at_builtin; refine wpList_app_run rfl _ _ 50 rfl rfl rfl (unhide RUN3) ?_))
  go_ret
  exact ⟨rfl, unhide Q1, unhide Q2⟩
end Go.Proofs.Ytiomngpfolkgpaa
