/-
  A source: clones of rows of events; those of a key.
-/
import Derived.Test.YtnikkjbjidhhlaaSoF
import Derived.OwnWalk
namespace Go.Proofs.Ytnikkjbjidhhlaa
open Go.RowKit

/-- Events lie where the slice says. -/
def EvsAt (w : World) (ad : Option Addr) (l : List Ev) : Prop := l ≠ [] → ∃ b off, ad = some ⟨b, off, none⟩ ∧ b < w.heap.size ∧ ∀ (i : Nat) (e : Ev), l[i]? = some e → ∀ (j : Nat) (u : Value), e.c[j]? = some u → w.cell? ⟨b, off + i * 7 + j, none⟩ = some u
theorem EvsAt.kp {F : List Nat} {w w' : World} {ad : Option Addr} {l : List Ev} (h : EvsAt w ad l) (hk : Kp F w w') (hF : ∀ b off, ad = some ⟨b, off, none⟩ → b ∉ F) : EvsAt w' ad l := fun hl => by
  obtain ⟨b, off, e, hlt, hc⟩ := h hl
  exact ⟨b, off, e, Nat.lt_of_lt_of_le hlt hk.size, fun i x hx j u hu => hk.cell (hc i x hx j u hu) (hF b off e)⟩
theorem evC_get (l : List Ev) (i : Nat) (e : Ev) (hi : l[i]? = some e) (j : Nat) (u : Value) (hj : e.c[j]? = some u) : (evC l)[i * 7 + j]? = some u := by
  induction l generalizing i with
  | nil => simp at hi
  | cons x r ih =>
    have hx : evC (x :: r) = x.c.toList ++ evC r := rfl
    have hjl : j < 7 := (Array.getElem?_eq_some_iff.1 hj).1
    rw [hx]
    match i, hi with
    | 0, hi =>
      simp at hi
      subst hi
      rw [Nat.zero_mul, Nat.zero_add, List.getElem?_append_left (by rw [x.c_size]; exact hjl)]
      simpa using hj
    | i + 1, hi =>
      rw [List.getElem?_append_right (by rw [x.c_size]; omega), x.c_size]
      have : (i + 1) * 7 + j - 7 = i * 7 + j := by omega
      rw [this]
      exact ih i (by simpa using hi)
theorem EvRow.evs {w : World} {ad : Option Addr} {n cap : Nat} {l : List Ev} (h : EvRow w (.slice ad n cap) l) : EvsAt w ad l := fun hl => by
  obtain ⟨_, ⟨h1, h0⟩ | ⟨g, cp, cur, e, _, hh, hn, _, hcs, htk⟩⟩ := id h
  · exact absurd (List.eq_nil_of_length_eq_zero h0) hl
  · injection e with e1 e2 e3
    subst e1
    refine ⟨g, 0, rfl, (Array.getElem?_eq_some_iff.1 hh).1, fun i x hx j u hu => ?_⟩
    have hb : CBox g cur 45 w := hh
    refine hb.cell ?_
    have h1 := evC_get l i x hx j u hu
    rw [← htk] at h1
    rw [List.getElem?_take] at h1
    split at h1
    · rw [Nat.zero_add]; simpa using h1
    · cases h1
/-- Some of the events. -/
theorem EvsAt.sub {w : World} {ad : Option Addr} {l : List Ev} (h : EvsAt w ad l) (k m : Nat) (hk : k + m ≤ l.length) : EvsAt w (ad.map (·.add (k * 7))) ((l.drop k).take m) := fun hl => by
  have hne : l ≠ [] := by rintro rfl; simp at hl
  obtain ⟨b, off, rfl, hlt, hc⟩ := h hne
  refine ⟨b, off + k * 7, by simp [Addr.add], hlt, fun i e hi j u hu => ?_⟩
  rw [List.getElem?_take] at hi
  split at hi
  · rw [List.getElem?_drop] at hi
    have := hc (k + i) e hi j u hu
    rw [show off + k * 7 + i * 7 + j = off + (k + i) * 7 + j by omega]
    exact this
  · cases hi
theorem mk_events (n : Nat) (hn : n ≤ 100000) (W : World) : (Instr.makeSlice 51 (.int .i64 (n : Int)) (.int .i64 (n : Int))).run Try.prog W = .ok (.slice (some ⟨W.heap.size, 0, none⟩) n n) (W.alloc (.cells (madeCells #[.string ⟨#[]⟩, .string ⟨#[]⟩, .int .i64 0, .int .i64 0, .int .i64 0, .int .i64 0, .string ⟨#[]⟩] (n * 7)) 45)) := by
  obtain ⟨i0, hi, hz0, hz1, hz2⟩ := info_parts info_event
  have := run_make (P := Try.prog) W 51 45 i0 (.agg #[.string ⟨#[]⟩, .string ⟨#[]⟩, .int .i64 0, .int .i64 0, .int .i64 0, .int .i64 0, .string ⟨#[]⟩]) Try.underlying51 hi hz0 .i64 .i64 (n : Int) (n : Int) (by omega) (by omega) (by rw [hz2]; omega) (by omega)
  rw [hz1] at this
  simp only [Int.toNat_natCast] at this
  rw [this]
  rfl
/-- A row of n events, the first k set. -/
def clC (Z : Array Value) (l : List Ev) (k : Nat) : Array Value := (evC (l.take k) ++ Z.toList.drop (k * 7)).toArray
theorem clC_zero (Z : Array Value) (l : List Ev) : clC Z l 0 = Z := by unfold clC evC; simp
theorem clC_all (Z : Array Value) (l : List Ev) (hZ : Z.size = l.length * 7) : clC Z l l.length = (evC l).toArray := by
  unfold clC
  rw [List.take_of_length_le (Nat.le_refl _), List.drop_of_length_le (by rw [Array.length_toList, hZ]; omega), List.append_nil]
theorem clC_size (Z : Array Value) (l : List Ev) (hZ : Z.size = l.length * 7) (k : Nat) (hk : k ≤ l.length) : (clC Z l k).size = l.length * 7 := by
  unfold clC
  have hz : Z.toList.length = l.length * 7 := by rw [Array.length_toList]; exact hZ
  rw [List.size_toArray, List.length_append, evC_length, List.length_take, List.length_drop, hz]
  omega
theorem drop7 (L : List Value) (h : 7 ≤ L.length) : ∃ a b c d e f g, L = a :: b :: c :: d :: e :: f :: g :: L.drop 7 := by
  match L, h with
  | a :: b :: c :: d :: e :: f :: g :: r, _ => exact ⟨a, b, c, d, e, f, g, rfl⟩
theorem set_midP (A P B : List Value) (x y : Value) (o : Nat) (ho : A.length = o) : (A ++ (P ++ x :: B)).toArray.setIfInBounds (o + P.length) y = (A ++ (P ++ y :: B)).toArray := by
  rw [← List.append_assoc, ← List.append_assoc]
  exact set_mid _ _ _ _ _ (by rw [List.length_append, ho])
theorem clC_next (Z : Array Value) (l : List Ev) (hZ : Z.size = l.length * 7) (k : Nat) (hk : k < l.length) : (((((((clC Z l k).setIfInBounds (k * 7) (.string l[k].k)).setIfInBounds (k * 7 + 1) (.string l[k].t)).setIfInBounds (k * 7 + 2) (.int .i64 l[k].n0)).setIfInBounds (k * 7 + 3) (.int .i64 l[k].n1)).setIfInBounds (k * 7 + 4) (.int .i64 l[k].n2)).setIfInBounds (k * 7 + 5) (.int .i64 l[k].n3)).setIfInBounds (k * 7 + 6) (.string l[k].x) = clC Z l (k + 1) := by
  unfold clC
  have hA : (evC (l.take k)).length = k * 7 := by rw [evC_length, List.length_take]; omega
  have hz : Z.toList.length = l.length * 7 := by rw [Array.length_toList]; exact hZ
  obtain ⟨a, b, c, d, e, f, g, hd⟩ := drop7 (Z.toList.drop (k * 7)) (by rw [List.length_drop, hz]; omega)
  rw [List.drop_drop] at hd
  rw [hd]
  have hR : evC (l.take (k + 1)) = evC (l.take k) ++ l[k].c.toList := by rw [List.take_succ_eq_append_getElem hk, evC_append, evC_one]
  rw [hR]
  have hk7 : (k + 1) * 7 = k * 7 + 7 := by omega
  rw [hk7]
  generalize evC (l.take k) = A at *
  generalize l[k] = y
  generalize Z.toList.drop (k * 7 + 7) = B
  have s0 : (A ++ a :: b :: c :: d :: e :: f :: g :: B).toArray.setIfInBounds (k * 7) (.string y.k) = (A ++ .string y.k :: b :: c :: d :: e :: f :: g :: B).toArray := set_mid A _ _ _ _ hA
  have s1 : (A ++ .string y.k :: b :: c :: d :: e :: f :: g :: B).toArray.setIfInBounds (k * 7 + 1) (.string y.t) = (A ++ .string y.k :: .string y.t :: c :: d :: e :: f :: g :: B).toArray := set_midP A [.string y.k] _ _ _ _ hA
  have s2 : (A ++ .string y.k :: .string y.t :: c :: d :: e :: f :: g :: B).toArray.setIfInBounds (k * 7 + 2) (.int .i64 y.n0) = (A ++ .string y.k :: .string y.t :: .int .i64 y.n0 :: d :: e :: f :: g :: B).toArray := set_midP A [.string y.k, .string y.t] _ _ _ _ hA
  have s3 : (A ++ .string y.k :: .string y.t :: .int .i64 y.n0 :: d :: e :: f :: g :: B).toArray.setIfInBounds (k * 7 + 3) (.int .i64 y.n1) = (A ++ .string y.k :: .string y.t :: .int .i64 y.n0 :: .int .i64 y.n1 :: e :: f :: g :: B).toArray := set_midP A [.string y.k, .string y.t, .int .i64 y.n0] _ _ _ _ hA
  have s4 : (A ++ .string y.k :: .string y.t :: .int .i64 y.n0 :: .int .i64 y.n1 :: e :: f :: g :: B).toArray.setIfInBounds (k * 7 + 4) (.int .i64 y.n2) = (A ++ .string y.k :: .string y.t :: .int .i64 y.n0 :: .int .i64 y.n1 :: .int .i64 y.n2 :: f :: g :: B).toArray := set_midP A [.string y.k, .string y.t, .int .i64 y.n0, .int .i64 y.n1] _ _ _ _ hA
  have s5 : (A ++ .string y.k :: .string y.t :: .int .i64 y.n0 :: .int .i64 y.n1 :: .int .i64 y.n2 :: f :: g :: B).toArray.setIfInBounds (k * 7 + 5) (.int .i64 y.n3) = (A ++ .string y.k :: .string y.t :: .int .i64 y.n0 :: .int .i64 y.n1 :: .int .i64 y.n2 :: .int .i64 y.n3 :: g :: B).toArray := set_midP A [.string y.k, .string y.t, .int .i64 y.n0, .int .i64 y.n1, .int .i64 y.n2] _ _ _ _ hA
  have s6 : (A ++ .string y.k :: .string y.t :: .int .i64 y.n0 :: .int .i64 y.n1 :: .int .i64 y.n2 :: .int .i64 y.n3 :: g :: B).toArray.setIfInBounds (k * 7 + 6) (.string y.x) = (A ++ .string y.k :: .string y.t :: .int .i64 y.n0 :: .int .i64 y.n1 :: .int .i64 y.n2 :: .int .i64 y.n3 :: .string y.x :: B).toArray := set_midP A [.string y.k, .string y.t, .int .i64 y.n0, .int .i64 y.n1, .int .i64 y.n2, .int .i64 y.n3] _ _ _ _ hA
  rw [s0, s1, s2, s3, s4, s5, s6, List.append_assoc]
  rfl
theorem EvsAt.seven {w : World} {ad : Option Addr} {l : List Ev} (h : EvsAt w ad l) (k : Nat) (hk : k < l.length) : ∃ b off, ad = some ⟨b, off, none⟩ ∧ w.cell? ⟨b, off + k * 7, none⟩ = some (.string l[k].k) ∧ w.cell? ⟨b, off + k * 7 + 1, none⟩ = some (.string l[k].t) ∧ w.cell? ⟨b, off + k * 7 + 2, none⟩ = some (.int .i64 l[k].n0) ∧ w.cell? ⟨b, off + k * 7 + 3, none⟩ = some (.int .i64 l[k].n1) ∧ w.cell? ⟨b, off + k * 7 + 4, none⟩ = some (.int .i64 l[k].n2) ∧ w.cell? ⟨b, off + k * 7 + 5, none⟩ = some (.int .i64 l[k].n3) ∧ w.cell? ⟨b, off + k * 7 + 6, none⟩ = some (.string l[k].x) := by
  obtain ⟨b, off, e, _, hc⟩ := h (by rintro rfl; simp at hk)
  have q := hc k l[k] (List.getElem?_eq_getElem hk)
  exact ⟨b, off, e, q 0 _ rfl, q 1 _ rfl, q 2 _ rfl, q 3 _ rfl, q 4 _ rfl, q 5 _ rfl, q 6 _ rfl⟩
theorem CBox.there {g : Nat} {cs : Array Value} {t : TypeId} {w : World} (h : CBox g cs t w) (o : Nat) (ho : o < cs.size) : ∃ u, w.cell? ⟨g, o, none⟩ = some u := ⟨_, h.cell (Array.getElem?_eq_getElem ho)⟩
set_option maxHeartbeats 2000000 in
set_option maxRecDepth 100000 in
theorem clonesOf_any (ad : Option Addr) (cap : Nat) (l : List Ev) (w : World) (hl : l.length ≤ 4096) (h : EvsAt w ad l) (hsm : ∀ e ∈ l, e.sm) :
    Calls Try.prog 45 #[.slice ad l.length cap] w fun r w' => r = .returned (.slice (some ⟨w.heap.size, 0, none⟩) l.length l.length) ∧ CBox w.heap.size (evC l).toArray 45 w' ∧ Kp [] w w' := by
  have hmk := mk_events l.length (by omega)
  have hZs : (madeCells #[.string ⟨#[]⟩, .string ⟨#[]⟩, .int .i64 0, .int .i64 0, .int .i64 0, .int .i64 0, .string ⟨#[]⟩] (l.length * 7)).size = l.length * 7 := size_madeCells _ _
  generalize madeCells #[.string ⟨#[]⟩, .string ⟨#[]⟩, .int .i64 0, .int .i64 0, .int .i64 0, .int .i64 0, .string ⟨#[]⟩] (l.length * 7) = Z at *
  have b0 := CBox.new w Z 45
  have k0 := Kp.alloc w (.cells Z 45)
  have HN := hide (fun k hk => clC_next Z l hZs k hk)
  have HS := hide (fun k hk => clC_size Z l hZs k hk)
  have HALL := hide (clC_all Z l hZs)
  have b0' : CBox w.heap.size (clC Z l 0) 45 (w.alloc (.cells Z 45)) := by rw [clC_zero]; exact b0
  clear b0
  have HA := hide h
  have HSM := hide hsm
  clear h hsm hZs
  go_enter Try.func45, Try.ntmps45
  go_wp2_with fail
  generalize w.alloc (.cells Z 45) = W1 at *
  go_loopw [11] (fun i wr => ∃ k : Nat, k ≤ l.length ∧ i = .int .i64 (k : Int) ∧ CBox w.heap.size (clC Z l k) 45 wr ∧ Kp [] w wr) (fun i _ => l.length - (intOf i).toNat)
  case atStart => exact ⟨0, Nat.zero_le _, rfl, b0', k0⟩
  case round =>
    clear b0' k0
    obtain ⟨k, hk, rfl, bx, kp⟩ := hrel
    by_cases hlt : k < l.length
    · have hli : (k : Int) < (l.length : Int) := by omega
      obtain ⟨b, off, rfl, x0, x1, x2, x3, x4, x5, x6⟩ := ((unhide HA).kp kp (by simp)).seven k hlt
      have sm := unhide HSM l[k] (List.getElem_mem hlt)
      have hn := unhide HN k hlt
      have hs := unhide HS k hk
      have CO := hide (fun W => cloneOf_any l[k] W sm)
      clear HA HSM HN HALL sm
      generalize l[k] = y at *
      have HBX := hide bx
      have HKP := hide kp
      have HNX := hide hn
      have HSZ := hide hs
      clear bx kp hn hs HS
      obtain ⟨yk, yt, n0, n1, n2, n3, yx⟩ := y
      unfold Ev.c at CO
      dsimp only at x0 x1 x2 x3 x4 x5 x6 CO HNX
      go_wp2_with fail
      refine (unhide CO _).mono ?_
      rintro r w2 ⟨rfl, hk2⟩
      have k2 := (Kp.alloc wr (.cells #[.string yk, .string yt, .int .i64 n0, .int .i64 n1, .int .i64 n2, .int .i64 n3, .string yx] 45)).trans hk2 (by simp)
      have bx2 := (unhide HBX).kp k2 (by simp)
      have HK2 := hide ((unhide HKP).trans k2 (by simp))
      have hsz := unhide HSZ
      obtain ⟨v0, z0⟩ := bx2.there (k * 7) (by omega)
      obtain ⟨v1, z1⟩ := bx2.there (k * 7 + 1) (by omega)
      obtain ⟨v2, z2⟩ := bx2.there (k * 7 + 2) (by omega)
      obtain ⟨v3, z3⟩ := bx2.there (k * 7 + 3) (by omega)
      obtain ⟨v4, z4⟩ := bx2.there (k * 7 + 4) (by omega)
      obtain ⟨v5, z5⟩ := bx2.there (k * 7 + 5) (by omega)
      obtain ⟨v6, z6⟩ := bx2.there (k * 7 + 6) (by omega)
      have f0 := bx2.froz (k * 7)
      have f1 := bx2.froz (k * 7 + 1)
      have f2 := bx2.froz (k * 7 + 2)
      have f3 := bx2.froz (k * 7 + 3)
      have f4 := bx2.froz (k * 7 + 4)
      have f5 := bx2.froz (k * 7 + 5)
      have f6 := bx2.froz (k * 7 + 6)
      have bx3 := ((((((bx2.set (k * 7) (.string yk)).set (k * 7 + 1) (.string yt)).set (k * 7 + 2) (.int .i64 n0)).set (k * 7 + 3) (.int .i64 n1)).set (k * 7 + 4) (.int .i64 n2)).set (k * 7 + 5) (.int .i64 n3)).set (k * 7 + 6) (.string yx)
      rw [unhide HNX] at bx3
      have HB3 := hide bx3
      clear bx3 bx2 hk2 k2 HBX HKP HNX HSZ hsz CO x0 x1 x2 x3 x4 x5 x6
      go_wp2
      go_roundw
      case rel =>
        refine ⟨k + 1, by omega, by go_num, unhide HB3, ?_⟩
        have g : w.heap.size ≤ w.heap.size := Nat.le_refl _
        exact (((((((unhide HK2).new (Kp.set _ _ _ _) g).new (Kp.set _ _ _ _) g).new (Kp.set _ _ _ _) g).new (Kp.set _ _ _ _) g).new (Kp.set _ _ _ _) g).new (Kp.set _ _ _ _) g).new (Kp.set _ _ _ _) g
      case measure => simp [intOf]; omega
    · obtain rfl : k = l.length := by omega
      rw [unhide HALL] at bx
      clear HALL HA HSM HN HS
      go_wp2
      go_ret
      exact ⟨rfl, bx, kp⟩
end Go.Proofs.Ytnikkjbjidhhlaa
