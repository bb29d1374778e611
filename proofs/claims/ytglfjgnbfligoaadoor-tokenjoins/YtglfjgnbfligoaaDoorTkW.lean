/-
  What Tokens tells, as tokens that lie somewhere; works: the chapter's examples.
-/
import Derived.Test.YtglfjgnbfligoaaDoorTkK
namespace Go.Proofs.YtglfjgnbfligoaaDoor
open Go.RowKit

theorem tkC_get (l : List Tk) (i : Nat) (h : i < l.length) : (tkC l)[i * 4]? = some (.int .i64 l[i].kd) ∧ (tkC l)[i * 4 + 1]? = some (.string l[i].s) ∧ (tkC l)[i * 4 + 2]? = some (.int .i64 l[i].n) ∧ (tkC l)[i * 4 + 3]? = some (.int .i64 l[i].pl) := by
  induction l generalizing i with
  | nil => simp at h
  | cons x r ih =>
    have e : tkC (x :: r) = [.int .i64 x.kd, .string x.s, .int .i64 x.n, .int .i64 x.pl] ++ tkC r := by unfold tkC; rw [List.flatMap_cons]
    cases i with
    | zero => rw [e]; simp
    | succ i =>
      have hi : i < r.length := by simpa using h
      obtain ⟨a, b, c, d⟩ := ih i hi
      rw [e]
      simp only [List.getElem_cons_succ]
      refine ⟨?_, ?_, ?_, ?_⟩
      · rw [List.getElem?_append_right (by simp; omega)]; rw [← a]; congr 1; simp; omega
      · rw [List.getElem?_append_right (by simp; omega)]; rw [← b]; congr 1; simp; omega
      · rw [List.getElem?_append_right (by simp; omega)]; rw [← c]; congr 1; simp; omega
      · rw [List.getElem?_append_right (by simp; omega)]; rw [← d]; congr 1; simp; omega
theorem OwnsK.at {B : Nat} {w : World} {v : Value} {l : List Tk} (h : OwnsK B w v l) : ∃ ad cp, v = .slice ad l.length cp ∧ TksAt w ad l ∧ l.length ≤ cp := by
  obtain ⟨_, ⟨rfl, h0⟩ | ⟨g, cp, cur, rfl, _, _, hcap, _⟩⟩ := id h
  · refine ⟨none, 0, by rw [h0], fun hne => ?_, by omega⟩
    exact absurd (List.eq_nil_of_length_eq_zero h0) hne
  · have hl := World.ownsRow.lt h g rfl
    refine ⟨_, _, rfl, fun _ => ⟨g, 0, rfl, hl.2, fun i hi => ?_⟩, hcap⟩
    obtain ⟨a, b, c, d⟩ := tkC_get l i hi
    simp only [Nat.zero_add]
    refine ⟨?_, ?_, ?_, ?_⟩
    · rw [World.ownsRow.cellAt h (i * 4) (by omega)]; exact a
    · rw [World.ownsRow.cellAt h (i * 4 + 1) (by omega)]; exact b
    · rw [World.ownsRow.cellAt h (i * 4 + 2) (by omega)]; exact c
    · rw [World.ownsRow.cellAt h (i * 4 + 3) (by omega)]; exact d
theorem toks_fit (l : List UInt8) (k c : Nat) (ts : List Tk) (h : toks l k c = .good ts) (hk : k + l.length ≤ 9223372036854775807) : ∀ t ∈ ts, t.ok := by
  revert ts
  refine toks_ind (P := fun l k c => ∀ ts, toks l k c = .good ts → k + l.length ≤ 9223372036854775807 → ∀ t ∈ ts, t.ok) ?_ ?_ ?_ ?_ ?_ l k c |> fun g ts h => g ts h hk
  · intro k c ts h hk
    rw [toks_nil] at h
    cases h
    simp
  · intro b r k c hb ih ts h hk
    rw [toks_blk hb] at h
    exact ih ts h (by simp at hk; omega)
  · intro l k c h0 hb hn ts h
    rw [toks_none hn h0 hb] at h
    cases h
  · intro l k t n hn ts h
    rw [toks_many hn] at h
    cases h
  · intro l k c t n hn hc4 ih ts h hk
    rw [toks_some hn hc4] at h
    obtain ⟨r, hr, rfl⟩ := pre_good h
    obtain ⟨g1, g2, g3, g4, g5, g6, g7, g8, g9, _⟩ := tkR_some hn
    intro u hu
    simp at hu
    rcases hu with rfl | hu
    · unfold Tk.ok Tk.out
      dsimp only
      omega
    · exact ih r hr (by rw [List.length_drop]; omega) u hu
theorem tsL_ok (s : ByteArray) : ∀ t ∈ tsL s.size (tsR s), t.ok := by
  unfold tsR
  split
  · simp [tsL]
  · rename_i h
    cases hR : toks s.data.toList 0 0 with
    | bad k c => simp [tsL]
    | good ts =>
      intro t ht
      unfold tsL at ht
      rcases List.mem_append.1 ht with h1 | h1
      · exact toks_fit _ 0 0 ts hR (by rw [size_list]; omega) t h1
      · simp at h1
        subst h1
        unfold Tk.ok
        dsimp only
        have : (⟨#[]⟩ : ByteArray).size = 0 := rfl
        omega
theorem tsL_len (s : ByteArray) : (tsL s.size (tsR s)).length ≤ 4097 := by
  unfold tsR
  split
  · simp [tsL]
  · cases hR : toks s.data.toList 0 0 with
    | bad k c => simp [tsL]
    | good ts =>
      have := (toks_ok _ 0 0 ts hR (by omega)).1
      simp [tsL]
      omega
/-- What Tokens tells: tokens of its own that lie somewhere, and a fault. -/
theorem tokens_at (s : ByteArray) (w : World) (hT : TbW w) (hs : s.size ≤ 9223372036854775807) :
    Calls Tryd.prog 9 #[.string s] w fun e w' => ∃ ad cp, e = .returned (.tuple #[.slice ad (tsL s.size (tsR s)).length cp, .agg #[.int .i64 (tsA (tsR s)), .int .i64 (tsC (tsR s))]]) ∧ TksAt w' ad (tsL s.size (tsR s)) ∧ (tsL s.size (tsR s)).length ≤ cp ∧ OwnsK w.heap.size w' (.slice ad (tsL s.size (tsR s)).length cp) (tsL s.size (tsR s)) ∧ Below w.heap.size w w' := by
  refine (tokens_any s w hT hs).mono ?_
  rintro e w' ⟨v, rfl, h1, h2⟩
  obtain ⟨ad, cp, rfl, h3, h4⟩ := h1.at
  exact ⟨ad, cp, rfl, h3, h4, h1, h2⟩
def exL : List Tk := [⟨1, ⟨#[110, 48]⟩, 0, 0⟩, ⟨4, ⟨#[61, 61]⟩, 0, 3⟩, ⟨3, ⟨#[120, 32, 121]⟩, 0, 6⟩, ⟨0, ⟨#[]⟩, 0, 11⟩]
theorem ex_bad : tsR ⟨#[97, 49, 60, 61, 45, 48, 55]⟩ = .bad 5 100 := by rfl
theorem ex_good : tsR ⟨#[110, 48, 32, 61, 61, 32, 39, 120, 32, 121, 39]⟩ = .good [⟨1, ⟨#[110, 48]⟩, 0, 0⟩, ⟨4, ⟨#[61, 61]⟩, 0, 3⟩, ⟨3, ⟨#[120, 32, 121]⟩, 0, 6⟩] := by rfl
theorem ex_join : joR exL = ([110, 48, 32, 61, 61, 32, 39, 120, 32, 121, 39], 0) := by rfl
set_option maxHeartbeats 2000000 in
set_option maxRecDepth 100000 in
theorem tworks_any (w : World) (hT : TbW w) : Calls Tryd.prog 13 #[] w fun e w' => e = .returned (.bool true) ∧ Below w.heap.size w w' := by
  have hlow := hT.low
  have T1 := tokens_at ⟨#[97, 49, 60, 61, 45, 48, 55]⟩ w hT (by decide)
  have T2 := fun W hW => tokens_at ⟨#[110, 48, 32, 61, 61, 32, 39, 120, 32, 121, 39]⟩ W hW (by decide)
  rw [ex_bad] at T1
  rw [ex_good] at T2
  have H1 : Hid (Calls Tryd.prog 9 #[.string ⟨#[97, 49, 60, 61, 45, 48, 55]⟩] w fun e w' => ∃ ad cp, e = .returned (.tuple #[.slice ad 0 cp, .agg #[.int .i64 5, .int .i64 100]]) ∧ Below w.heap.size w w') := hide (T1.mono fun e w' ⟨ad, cp, h1, _, _, _, h2⟩ => ⟨ad, cp, h1, h2⟩)
  have H2 : Hid (∀ W, TbW W → Calls Tryd.prog 9 #[.string ⟨#[110, 48, 32, 61, 61, 32, 39, 120, 32, 121, 39]⟩] W fun e w' => ∃ ad cp, e = .returned (.tuple #[.slice ad 4 cp, .agg #[.int .i64 0, .int .i64 0]]) ∧ TksAt w' ad exL ∧ 4 ≤ cp ∧ Below W.heap.size W w') := hide (fun W hW => (T2 W hW).mono fun e w' ⟨ad, cp, h1, h2, h3, _, h4⟩ => ⟨ad, cp, h1, h2, h3, h4⟩)
  have HO : Hid (∀ t ∈ exL, t.ok) := hide (by
    intro t ht
    unfold exL at ht
    simp only [List.mem_cons, List.not_mem_nil, or_false] at ht
    rcases ht with rfl | rfl | rfl | rfl <;> exact ⟨by decide, by decide, by decide, by decide⟩)
  clear T1 T2
  go_enter Tryd.func13, Tryd.ntmps13
  go_wp2_with fail
  refine (unhide H1).mono ?_
  rintro e w1 ⟨a1, c1, rfl, hb1⟩
  have hl1 := hb1.size
  have hT1 : TbW (w1.alloc (.cells #[.int .i64 5, .int .i64 100] 25)) := (hT.below hb1 hlow).alloc _
  have HB1 := hide hb1
  clear hb1
  go_wp2_with fail
  refine (unhide H2 _ hT1).mono ?_
  rintro e w2 ⟨a2, c2, rfl, hA2, hc2, hb2⟩
  have hl2 := hb2.size
  have hT2 : TbW (w2.alloc (.cells #[.int .i64 0, .int .i64 0] 25)) := (hT1.below hb2 hT1.low).alloc _
  have JO := join_any a2 c2 exL (w2.alloc (.cells #[.int .i64 0, .int .i64 0] 25)) hT2 (by decide) hc2 (hA2.kp (Kp.alloc _ _)) (unhide HO)
  rw [ex_join] at JO
  have HJO : Hid (Calls Tryd.prog 14 #[.slice a2 4 c2] (w2.alloc (.cells #[.int .i64 0, .int .i64 0] 25)) fun e w' => e = .returned (.tuple #[.string ⟨#[110, 48, 32, 61, 61, 32, 39, 120, 32, 121, 39]⟩, .int .i64 0]) ∧ Below (w2.alloc (.cells #[.int .i64 0, .int .i64 0] 25)).heap.size (w2.alloc (.cells #[.int .i64 0, .int .i64 0] 25)) w') := hide JO
  have q1 : CBox w1.heap.size #[.int .i64 5, .int .i64 100] 25 w2 := by unfold CBox; rw [hb2.block _ (by simp)]; exact heap_alloc_new _ _
  have HB2 : Hid (Below w.heap.size w w2) := hide (((unhide HB1).alloc hl1 _).trans (hb2.mono (by simp; omega)))
  clear JO hb2 HB1 hT1
  go_wp2_with fail
  refine (unhide HJO).mono ?_
  rintro e w3 ⟨rfl, hb3⟩
  obtain ⟨b, off, rfl, hlt, _, x1, _, _⟩ := hA2.at 2 (by decide)
  have x1' : w2.cell? ⟨b, off + 2 * 4 + 1, none⟩ = some (.string ⟨#[120, 32, 121]⟩) := x1
  have k3 := Kp.ofBelow hb3
  have y1 := k3.cell ((Kp.alloc w2 (.cells #[.int .i64 0, .int .i64 0] 25)).cell x1' (by simp)) (by simp)
  have q3 : CBox w1.heap.size #[.int .i64 5, .int .i64 100] 25 w3 := CBox.kp (CBox.kp q1 (Kp.alloc _ _) (by simp)) k3 (by simp)
  have q4 : CBox w2.heap.size #[.int .i64 0, .int .i64 0] 25 w3 := CBox.kp (CBox.new w2 _ _) k3 (by simp)
  have z0 := CBox.cell (i := 0) (v := .int .i64 5) q3 rfl
  have z1 := CBox.cell (i := 1) (v := .int .i64 100) q3 rfl
  have z2 := CBox.cell (i := 0) (v := .int .i64 0) q4 rfl
  have z3 := CBox.cell (i := 1) (v := .int .i64 0) q4 rfl
  have HB3 : Hid (Below w.heap.size w w3) := hide (((unhide HB2).alloc (by have := (unhide HB2).size; omega) _).trans (hb3.mono (by have := (unhide HB2).size; simp; omega)))
  clear hb3 k3 q3 q4 x1 x1' hA2 HB2
  go_wp2
  go_ret
  exact ⟨rfl, unhide HB3⟩
end Go.Proofs.YtglfjgnbfligoaaDoor
