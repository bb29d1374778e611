/-
  The grammar: the levels' functions and operations, as they are laid.
  Tokens that lie somewhere; what Tokens tells: how many tokens, of which sizes.
  Reading a text as an expression, plainly; what is written is read back.
-/
import Derived.Test.YtogklmljllocbabGreatDoorF30
import Derived.Test.YtogklmljllocbabGreatDoorF14
namespace Go.Proofs.YtogklmljllocbabGreatDoor
open Go.RowKit Go.Shelf

theorem ops_of {B b : Nat} {W : World} {os : List Int} (h : CBox b (os.map (Value.int .i64)).toArray 3 W) (hlt : b < B) : OpsLow B W (.slice (some ⟨b, 0, none⟩) os.length os.length) os := Or.inr ⟨b, rfl, hlt, fun i hi => h.cell (by simp [hi])⟩
theorem gram_lvs (w : World) : LvsLow (((((((w.alloc (.cells #[.int .i64 12] 3)).alloc (.cells #[.int .i64 11] 3)).alloc (.cells #[.int .i64 13] 3)).alloc (.cells #[.int .i64 7, .int .i64 8, .int .i64 9, .int .i64 10] 3)).alloc (.cells #[.int .i64 4, .int .i64 5] 3)).alloc (.cells #[.int .i64 6] 3)).alloc (.cells #[.func (.func 194) #[] #[], .slice (some ⟨w.heap.size, 0, none⟩) 1 1, .func (.func 194) #[] #[], .slice (some ⟨w.heap.size + 1, 0, none⟩) 1 1, .func (.func 195) #[] #[], .slice (some ⟨w.heap.size + 1 + 1, 0, none⟩) 1 1, .func (.func 196) #[] #[], .slice (some ⟨w.heap.size + 1 + 1 + 1, 0, none⟩) 4 4, .func (.func 194) #[] #[], .slice (some ⟨w.heap.size + 1 + 1 + 1 + 1, 0, none⟩) 2 2, .func (.func 194) #[] #[], .slice (some ⟨w.heap.size + 1 + 1 + 1 + 1 + 1, 0, none⟩) 1 1, .func (.func 197) #[] #[], .slice none 0 0] 273)).heap.size (((((((w.alloc (.cells #[.int .i64 12] 3)).alloc (.cells #[.int .i64 11] 3)).alloc (.cells #[.int .i64 13] 3)).alloc (.cells #[.int .i64 7, .int .i64 8, .int .i64 9, .int .i64 10] 3)).alloc (.cells #[.int .i64 4, .int .i64 5] 3)).alloc (.cells #[.int .i64 6] 3)).alloc (.cells #[.func (.func 194) #[] #[], .slice (some ⟨w.heap.size, 0, none⟩) 1 1, .func (.func 194) #[] #[], .slice (some ⟨w.heap.size + 1, 0, none⟩) 1 1, .func (.func 195) #[] #[], .slice (some ⟨w.heap.size + 1 + 1, 0, none⟩) 1 1, .func (.func 196) #[] #[], .slice (some ⟨w.heap.size + 1 + 1 + 1, 0, none⟩) 4 4, .func (.func 194) #[] #[], .slice (some ⟨w.heap.size + 1 + 1 + 1 + 1, 0, none⟩) 2 2, .func (.func 194) #[] #[], .slice (some ⟨w.heap.size + 1 + 1 + 1 + 1 + 1, 0, none⟩) 1 1, .func (.func 197) #[] #[], .slice none 0 0] 273)) (.slice (some ⟨w.heap.size + 1 + 1 + 1 + 1 + 1 + 1, 0, none⟩) 7 7) ∧ Kp [] w (((((((w.alloc (.cells #[.int .i64 12] 3)).alloc (.cells #[.int .i64 11] 3)).alloc (.cells #[.int .i64 13] 3)).alloc (.cells #[.int .i64 7, .int .i64 8, .int .i64 9, .int .i64 10] 3)).alloc (.cells #[.int .i64 4, .int .i64 5] 3)).alloc (.cells #[.int .i64 6] 3)).alloc (.cells #[.func (.func 194) #[] #[], .slice (some ⟨w.heap.size, 0, none⟩) 1 1, .func (.func 194) #[] #[], .slice (some ⟨w.heap.size + 1, 0, none⟩) 1 1, .func (.func 195) #[] #[], .slice (some ⟨w.heap.size + 1 + 1, 0, none⟩) 1 1, .func (.func 196) #[] #[], .slice (some ⟨w.heap.size + 1 + 1 + 1, 0, none⟩) 4 4, .func (.func 194) #[] #[], .slice (some ⟨w.heap.size + 1 + 1 + 1 + 1, 0, none⟩) 2 2, .func (.func 194) #[] #[], .slice (some ⟨w.heap.size + 1 + 1 + 1 + 1 + 1, 0, none⟩) 1 1, .func (.func 197) #[] #[], .slice none 0 0] 273)) := by
  obtain ⟨w1, e1⟩ : ∃ w1, w1 = w.alloc (.cells #[.int .i64 12] 3) := ⟨_, rfl⟩
  rw [← e1]
  obtain ⟨w2, e2⟩ : ∃ w2, w2 = w1.alloc (.cells #[.int .i64 11] 3) := ⟨_, rfl⟩
  rw [← e2]
  obtain ⟨w3, e3⟩ : ∃ w3, w3 = w2.alloc (.cells #[.int .i64 13] 3) := ⟨_, rfl⟩
  rw [← e3]
  obtain ⟨w4, e4⟩ : ∃ w4, w4 = w3.alloc (.cells #[.int .i64 7, .int .i64 8, .int .i64 9, .int .i64 10] 3) := ⟨_, rfl⟩
  rw [← e4]
  obtain ⟨w5, e5⟩ : ∃ w5, w5 = w4.alloc (.cells #[.int .i64 4, .int .i64 5] 3) := ⟨_, rfl⟩
  rw [← e5]
  obtain ⟨w6, e6⟩ : ∃ w6, w6 = w5.alloc (.cells #[.int .i64 6] 3) := ⟨_, rfl⟩
  rw [← e6]
  obtain ⟨w7, e7⟩ : ∃ w7, w7 = w6.alloc (.cells #[.func (.func 194) #[] #[], .slice (some ⟨w.heap.size, 0, none⟩) 1 1, .func (.func 194) #[] #[], .slice (some ⟨w.heap.size + 1, 0, none⟩) 1 1, .func (.func 195) #[] #[], .slice (some ⟨w.heap.size + 1 + 1, 0, none⟩) 1 1, .func (.func 196) #[] #[], .slice (some ⟨w.heap.size + 1 + 1 + 1, 0, none⟩) 4 4, .func (.func 194) #[] #[], .slice (some ⟨w.heap.size + 1 + 1 + 1 + 1, 0, none⟩) 2 2, .func (.func 194) #[] #[], .slice (some ⟨w.heap.size + 1 + 1 + 1 + 1 + 1, 0, none⟩) 1 1, .func (.func 197) #[] #[], .slice none 0 0] 273) := ⟨_, rfl⟩
  rw [← e7]
  have k1 : Kp [] w w1 := by rw [e1]; exact Kp.alloc _ _
  have s1 : w1.heap.size = w.heap.size + 1 := by rw [e1]; simp
  have b0 : CBox (w.heap.size) #[.int .i64 12] 3 w1 := by have := CBox.new w #[.int .i64 12] 3; rw [← e1] at this; exact this
  have k2 : Kp [] w1 w2 := by rw [e2]; exact Kp.alloc _ _
  have s2 : w2.heap.size = w.heap.size + 1 + 1 := by rw [e2]; simp [s1]
  have b1 : CBox (w.heap.size + 1) #[.int .i64 11] 3 w2 := by have := CBox.new w1 #[.int .i64 11] 3; rw [← e2, s1] at this; exact this
  have k3 : Kp [] w2 w3 := by rw [e3]; exact Kp.alloc _ _
  have s3 : w3.heap.size = w.heap.size + 1 + 1 + 1 := by rw [e3]; simp [s2]
  have b2 : CBox (w.heap.size + 1 + 1) #[.int .i64 13] 3 w3 := by have := CBox.new w2 #[.int .i64 13] 3; rw [← e3, s2] at this; exact this
  have k4 : Kp [] w3 w4 := by rw [e4]; exact Kp.alloc _ _
  have s4 : w4.heap.size = w.heap.size + 1 + 1 + 1 + 1 := by rw [e4]; simp [s3]
  have b3 : CBox (w.heap.size + 1 + 1 + 1) #[.int .i64 7, .int .i64 8, .int .i64 9, .int .i64 10] 3 w4 := by have := CBox.new w3 #[.int .i64 7, .int .i64 8, .int .i64 9, .int .i64 10] 3; rw [← e4, s3] at this; exact this
  have k5 : Kp [] w4 w5 := by rw [e5]; exact Kp.alloc _ _
  have s5 : w5.heap.size = w.heap.size + 1 + 1 + 1 + 1 + 1 := by rw [e5]; simp [s4]
  have b4 : CBox (w.heap.size + 1 + 1 + 1 + 1) #[.int .i64 4, .int .i64 5] 3 w5 := by have := CBox.new w4 #[.int .i64 4, .int .i64 5] 3; rw [← e5, s4] at this; exact this
  have k6 : Kp [] w5 w6 := by rw [e6]; exact Kp.alloc _ _
  have s6 : w6.heap.size = w.heap.size + 1 + 1 + 1 + 1 + 1 + 1 := by rw [e6]; simp [s5]
  have b5 : CBox (w.heap.size + 1 + 1 + 1 + 1 + 1) #[.int .i64 6] 3 w6 := by have := CBox.new w5 #[.int .i64 6] 3; rw [← e6, s5] at this; exact this
  have k7 : Kp [] w6 w7 := by rw [e7]; exact Kp.alloc _ _
  have s7 : w7.heap.size = w.heap.size + 1 + 1 + 1 + 1 + 1 + 1 + 1 := by rw [e7]; simp [s6]
  have b6 : CBox (w.heap.size + 1 + 1 + 1 + 1 + 1 + 1) #[.func (.func 194) #[] #[], .slice (some ⟨w.heap.size, 0, none⟩) 1 1, .func (.func 194) #[] #[], .slice (some ⟨w.heap.size + 1, 0, none⟩) 1 1, .func (.func 195) #[] #[], .slice (some ⟨w.heap.size + 1 + 1, 0, none⟩) 1 1, .func (.func 196) #[] #[], .slice (some ⟨w.heap.size + 1 + 1 + 1, 0, none⟩) 4 4, .func (.func 194) #[] #[], .slice (some ⟨w.heap.size + 1 + 1 + 1 + 1, 0, none⟩) 2 2, .func (.func 194) #[] #[], .slice (some ⟨w.heap.size + 1 + 1 + 1 + 1 + 1, 0, none⟩) 1 1, .func (.func 197) #[] #[], .slice none 0 0] 273 w7 := by have := CBox.new w6 #[.func (.func 194) #[] #[], .slice (some ⟨w.heap.size, 0, none⟩) 1 1, .func (.func 194) #[] #[], .slice (some ⟨w.heap.size + 1, 0, none⟩) 1 1, .func (.func 195) #[] #[], .slice (some ⟨w.heap.size + 1 + 1, 0, none⟩) 1 1, .func (.func 196) #[] #[], .slice (some ⟨w.heap.size + 1 + 1 + 1, 0, none⟩) 4 4, .func (.func 194) #[] #[], .slice (some ⟨w.heap.size + 1 + 1 + 1 + 1, 0, none⟩) 2 2, .func (.func 194) #[] #[], .slice (some ⟨w.heap.size + 1 + 1 + 1 + 1 + 1, 0, none⟩) 1 1, .func (.func 197) #[] #[], .slice none 0 0] 273; rw [← e7, s6] at this; exact this
  have c0 := ((((((b0.kp k2 (by simp)).kp k3 (by simp)).kp k4 (by simp)).kp k5 (by simp)).kp k6 (by simp)).kp k7 (by simp))
  have c1 := (((((b1.kp k3 (by simp)).kp k4 (by simp)).kp k5 (by simp)).kp k6 (by simp)).kp k7 (by simp))
  have c2 := ((((b2.kp k4 (by simp)).kp k5 (by simp)).kp k6 (by simp)).kp k7 (by simp))
  have c3 := (((b3.kp k5 (by simp)).kp k6 (by simp)).kp k7 (by simp))
  have c4 := ((b4.kp k6 (by simp)).kp k7 (by simp))
  have c5 := (b5.kp k7 (by simp))
  refine ⟨⟨w.heap.size + 1 + 1 + 1 + 1 + 1 + 1, rfl, by rw [s7]; omega, fun n hn => ?_⟩, ?_⟩
  · rcases (show n = 0 ∨ n = 1 ∨ n = 2 ∨ n = 3 ∨ n = 4 ∨ n = 5 ∨ n = 6 by omega) with rfl | rfl | rfl | rfl | rfl | rfl | rfl
    · exact ⟨b6.cell rfl, _, b6.cell rfl, ops_of (os := [12]) c0 (by rw [s7]; omega)⟩
    · exact ⟨b6.cell rfl, _, b6.cell rfl, ops_of (os := [11]) c1 (by rw [s7]; omega)⟩
    · exact ⟨b6.cell rfl, _, b6.cell rfl, ops_of (os := [13]) c2 (by rw [s7]; omega)⟩
    · exact ⟨b6.cell rfl, _, b6.cell rfl, ops_of (os := [7, 8, 9, 10]) c3 (by rw [s7]; omega)⟩
    · exact ⟨b6.cell rfl, _, b6.cell rfl, ops_of (os := [4, 5]) c4 (by rw [s7]; omega)⟩
    · exact ⟨b6.cell rfl, _, b6.cell rfl, ops_of (os := [6]) c5 (by rw [s7]; omega)⟩
    · exact ⟨b6.cell rfl, _, b6.cell rfl, Or.inl ⟨rfl, rfl⟩⟩
  · exact ((((((k1.trans k2 (by simp)).trans k3 (by simp)).trans k4 (by simp)).trans k5 (by simp)).trans k6 (by simp)).trans k7 (by simp))
set_option maxHeartbeats 2000000 in
set_option maxRecDepth 100000 in
theorem grammar_any (w : World) : Calls Tryz.prog 149 #[] w fun e w' => ∃ lv, e = .returned lv ∧ LvsLow w'.heap.size w' lv ∧ Kp [] w w' := by
  go_enter Tryz.func149, Tryz.ntmps149
  go_wp2
  refine bodyPost_ret (results_tmp rfl _ _ _) rfl ⟨_, rfl, ?_⟩
  exact gram_lvs w
end Go.Proofs.YtogklmljllocbabGreatDoor
namespace Go.Proofs.YtogklmljllocbabGreatDoor
open Go.RowKit

def Tk.ok (a : Tk) : Prop := (-9223372036854775808 ≤ a.kd ∧ a.kd ≤ 9223372036854775807) ∧ a.s.size ≤ 9223372036854775807 ∧ (-9223372036854775808 ≤ a.n ∧ a.n ≤ 9223372036854775807) ∧ (-9223372036854775808 ≤ a.pl ∧ a.pl ≤ 9223372036854775807)
def TksAt (w : World) (ad : Option Addr) (l : List Tk) : Prop :=
  l ≠ [] → ∃ b off, ad = some ⟨b, off, none⟩ ∧ b < w.heap.size ∧ ∀ i (h : i < l.length), w.cell? ⟨b, off + i * 4, none⟩ = some (.int .i64 l[i].kd) ∧ w.cell? ⟨b, off + i * 4 + 1, none⟩ = some (.string l[i].s) ∧ w.cell? ⟨b, off + i * 4 + 2, none⟩ = some (.int .i64 l[i].n) ∧ w.cell? ⟨b, off + i * 4 + 3, none⟩ = some (.int .i64 l[i].pl)
theorem TksAt.kp {w w' : World} {ad : Option Addr} {l : List Tk} (h : TksAt w ad l) (hk : Kp [] w w') : TksAt w' ad l := fun hl => by
  obtain ⟨b, off, e, hlt, hc⟩ := h hl
  refine ⟨b, off, e, Nat.lt_of_lt_of_le hlt hk.size, fun i hi => ?_⟩
  obtain ⟨c0, c1, c2, c3⟩ := hc i hi
  exact ⟨hk.cell c0 (by simp), hk.cell c1 (by simp), hk.cell c2 (by simp), hk.cell c3 (by simp)⟩
theorem TksAt.at {w : World} {ad : Option Addr} {l : List Tk} (h : TksAt w ad l) (i : Nat) (hi : i < l.length) : ∃ b off, ad = some ⟨b, off, none⟩ ∧ b < w.heap.size ∧ w.cell? ⟨b, off + i * 4, none⟩ = some (.int .i64 l[i].kd) ∧ w.cell? ⟨b, off + i * 4 + 1, none⟩ = some (.string l[i].s) ∧ w.cell? ⟨b, off + i * 4 + 2, none⟩ = some (.int .i64 l[i].n) ∧ w.cell? ⟨b, off + i * 4 + 3, none⟩ = some (.int .i64 l[i].pl) := by
  obtain ⟨b, off, e, hlt, hc⟩ := h (by intro e; subst e; simp at hi)
  exact ⟨b, off, e, hlt, hc i hi⟩
theorem tkC_get (l : List Tk) (i : Nat) (h : i < l.length) : (tkC l)[i * 4]? = some (.int .i64 l[i].kd) ∧ (tkC l)[i * 4 + 1]? = some (.string l[i].s) ∧ (tkC l)[i * 4 + 2]? = some (.int .i64 l[i].n) ∧ (tkC l)[i * 4 + 3]? = some (.int .i64 l[i].pl) := by
  induction l generalizing i with
  | nil => simp at h
  | cons x r ih =>
    have e : tkC (x :: r) = [.int .i64 x.kd, .string x.s, .int .i64 x.n, .int .i64 x.pl] ++ tkC r := by unfold tkC; rw [List.flatMap_cons]
    cases i with
    | zero => rw [e]; simp
    | succ i =>
      have hi : i < r.length := by simpa using h
      obtain ⟨a, b, c, d⟩ := ih i hi
      rw [e]
      simp only [List.getElem_cons_succ]
      refine ⟨?_, ?_, ?_, ?_⟩
      · rw [List.getElem?_append_right (by simp; omega)]; rw [← a]; congr 1; simp; omega
      · rw [List.getElem?_append_right (by simp; omega)]; rw [← b]; congr 1; simp; omega
      · rw [List.getElem?_append_right (by simp; omega)]; rw [← c]; congr 1; simp; omega
      · rw [List.getElem?_append_right (by simp; omega)]; rw [← d]; congr 1; simp; omega
theorem OwnsK.at {B : Nat} {w : World} {v : Value} {l : List Tk} (h : OwnsK B w v l) : ∃ ad cp, v = .slice ad l.length cp ∧ TksAt w ad l ∧ l.length ≤ cp := by
  obtain ⟨_, ⟨rfl, h0⟩ | ⟨g, cp, cur, rfl, _, _, hcap, _⟩⟩ := id h
  · refine ⟨none, 0, by rw [h0], fun hne => ?_, by omega⟩
    exact absurd (List.eq_nil_of_length_eq_zero h0) hne
  · have hl := World.ownsRow.lt h g rfl
    refine ⟨_, _, rfl, fun _ => ⟨g, 0, rfl, hl.2, fun i hi => ?_⟩, hcap⟩
    obtain ⟨a, b, c, d⟩ := tkC_get l i hi
    simp only [Nat.zero_add]
    refine ⟨?_, ?_, ?_, ?_⟩
    · rw [World.ownsRow.cellAt h (i * 4) (by omega)]; exact a
    · rw [World.ownsRow.cellAt h (i * 4 + 1) (by omega)]; exact b
    · rw [World.ownsRow.cellAt h (i * 4 + 2) (by omega)]; exact c
    · rw [World.ownsRow.cellAt h (i * 4 + 3) (by omega)]; exact d
theorem toks_fit (l : List UInt8) (k c : Nat) (ts : List Tk) (h : toks l k c = .good ts) (hk : k + l.length ≤ 9223372036854775807) : ∀ t ∈ ts, t.ok := by
  revert ts
  refine toks_ind (P := fun l k c => ∀ ts, toks l k c = .good ts → k + l.length ≤ 9223372036854775807 → ∀ t ∈ ts, t.ok) ?_ ?_ ?_ ?_ ?_ l k c |> fun g ts h => g ts h hk
  · intro k c ts h hk
    rw [toks_nil] at h
    cases h
    simp
  · intro b r k c hb ih ts h hk
    rw [toks_blk hb] at h
    exact ih ts h (by simp at hk; omega)
  · intro l k c h0 hb hn ts h
    rw [toks_none hn h0 hb] at h
    cases h
  · intro l k t n hn ts h
    rw [toks_many hn] at h
    cases h
  · intro l k c t n hn hc4 ih ts h hk
    rw [toks_some hn hc4] at h
    obtain ⟨r, hr, rfl⟩ := pre_good h
    obtain ⟨g1, g2, g3, g4, g5, g6, g7, g8, g9, _⟩ := tkR_some hn
    intro u hu
    simp at hu
    rcases hu with rfl | hu
    · unfold Tk.ok Tk.out
      dsimp only
      omega
    · exact ih r hr (by rw [List.length_drop]; omega) u hu
theorem tsL_ok (s : ByteArray) : ∀ t ∈ tsL s.size (tsR s), t.ok := by
  unfold tsR
  split
  · simp [tsL]
  · rename_i h
    cases hR : toks s.data.toList 0 0 with
    | bad k c => simp [tsL]
    | good ts =>
      intro t ht
      unfold tsL at ht
      rcases List.mem_append.1 ht with h1 | h1
      · exact toks_fit _ 0 0 ts hR (by rw [size_list]; omega) t h1
      · simp at h1
        subst h1
        unfold Tk.ok
        dsimp only
        have : (⟨#[]⟩ : ByteArray).size = 0 := rfl
        omega
theorem tsL_len (s : ByteArray) : (tsL s.size (tsR s)).length ≤ 4097 := by
  unfold tsR
  split
  · simp [tsL]
  · cases hR : toks s.data.toList 0 0 with
    | bad k c => simp [tsL]
    | good ts =>
      have := (toks_ok _ 0 0 ts hR (by omega)).1
      simp [tsL]
      omega
theorem tsR_code (s : ByteArray) : (∃ ts, tsR s = .good ts ∧ toks s.data.toList 0 0 = .good ts ∧ s.size ≤ 262144) ∨ (tsL s.size (tsR s) = [] ∧ ¬ tsC (tsR s) = 0) := by
  unfold tsR
  split
  · exact Or.inr ⟨rfl, by simp [tsC]⟩
  · cases hR : toks s.data.toList 0 0 with
    | good ts => exact Or.inl ⟨ts, rfl, rfl, by omega⟩
    | bad k c =>
      refine Or.inr ⟨rfl, ?_⟩
      have key : ∀ l k c p q, toks l k c = .bad p q → q ≠ 0 := by
        intro l k c
        refine toks_ind (P := fun l k c => ∀ p q, toks l k c = .bad p q → q ≠ 0) ?_ ?_ ?_ ?_ ?_ l k c
        · intro k c p q h; cases h
        · intro b r k c hb ih p q h; rw [toks_blk hb] at h; exact ih p q h
        · intro l k c h0 hb hn p q h; rw [toks_none hn h0 hb] at h; cases h; omega
        · intro l k t n hn p q h; rw [toks_many hn] at h; cases h; omega
        · intro l k c t n hn hc ih p q h; rw [toks_some hn hc] at h; exact ih p q (pre_bad h)
      exact key _ _ _ _ _ hR
end Go.Proofs.YtogklmljllocbabGreatDoor
namespace Go.Proofs.YtogklmljllocbabGreatDoor
open Go.RowKit

/-- How tokens are read from the first on. -/
def psR (l : List Tk) : PR := pRd (mRd 0 l) 0 0 [] l
def hdPl : List Tk → Int
  | [] => 0
  | t :: _ => t.pl
def hdKd : List Tk → Int
  | [] => 0
  | t :: _ => t.kd
/-- What Read tells: the parts, the place and the number of a fault. -/
structure RO where
  x : List Pt
  at_ : Int
  c : Int
def rdG (n : Nat) (ts : List Tk) : RO := match psR (ts ++ [endZ n]) with
  | .bad q => ⟨[], hdPl q, 110⟩
  | .good x q => if ckK x = 0 then ⟨[], 0, 110⟩ else if hdKd q = 0 then ⟨x, 0, 0⟩ else ⟨[], hdPl q, 110⟩
def rdO (s : ByteArray) : RO := match tsR s with
  | .bad k c => ⟨[], (k : Int), c⟩
  | .good ts => rdG s.size ts
/-- Of tokens that may be all parts may be held. -/
def PR.fits : PR → Prop
  | .bad _ => True
  | .good x _ => ∀ p ∈ x, p.ok
theorem e0 : (txt []).size = 0 := rfl
theorem opP_ok {k : Int} (h : -100 ≤ k ∧ k ≤ 100) : (opP k).ok := by
  unfold opP Pt.ok
  dsimp only
  rw [e0]
  omega
theorem opA_ok {n : Nat} {s : List UInt8} {k : Int} (h : opA n s = some k) : (opP k).ok := by
  have h1 := (opA_some h).1
  apply opP_ok
  unfold lvO at h1
  repeat' split at h1
  all_goals first | (simp at h1; omega) | simp at h1
theorem fldOf_rng (s : List UInt8) : -1 ≤ fldOf s ∧ fldOf s ≤ 5 := by
  unfold fldOf
  repeat' split
  all_goals omega
theorem fdE_fits (st : ByteArray) (hst : st.size ≤ 9223372036854775807) (ts : List Tk) : (fdE st ts).fits := by
  cases ts with
  | nil => trivial
  | cons c r =>
    rw [fdE]
    split
    · intro p hp
      simp only [List.mem_singleton] at hp
      subst hp
      have := fldOf_rng (wdT c)
      unfold Pt.ok
      dsimp only
      rw [e0]
      omega
    · trivial
theorem fdR_fits (t : Tk) (ht : t.ok) (r : List Tk) : (fdR t r).fits := by
  unfold fdR
  split
  · cases r with
    | nil => trivial
    | cons c q =>
      dsimp only
      split
      · exact fdE_fits t.s (by unfold Tk.ok at ht; omega) q
      · trivial
  · exact fdE_fits (txt []) (by rw [e0]; omega) _
theorem shut_fits (x : List Pt) (hx : ∀ p ∈ x, p.ok) (q : List Tk) : (shut x q).fits := by
  cases q with
  | nil => trivial
  | cons c q =>
    rw [shut]
    split
    · exact hx
    · trivial
theorem suf_mem {a b : List Tk} (h : a <:+ b) {Q : Tk → Prop} (hb : ∀ t ∈ b, Q t) : ∀ t ∈ a, Q t := fun t ht => hb t (h.mem ht)
theorem cons_ok {k : Int} {x : List Pt} (h : (opP k).ok) (hx : ∀ p ∈ x, p.ok) : ∀ p ∈ opP k :: x, p.ok := by
  intro p hp
  rcases List.mem_cons.1 hp with rfl | hp
  · exact h
  · exact hx p hp
theorem app_ok {x y : List Pt} (hx : ∀ p ∈ x, p.ok) (hy : ∀ p ∈ y, p.ok) : ∀ p ∈ x ++ y, p.ok := by
  intro p hp
  rcases List.mem_append.1 hp with hp | hp
  · exact hx p hp
  · exact hy p hp
theorem pRd_fits (f : Nat) : ∀ (m d : Nat) (acc : List Pt) (ts : List Tk), (∀ t ∈ ts, t.ok) → (∀ p ∈ acc, p.ok) → (pRd f m d acc ts).fits := by
  induction f with
  | zero => intro m d acc ts _ _; rw [pRd]; trivial
  | succ f ih =>
    intro m d acc ts hts hacc
    have ih' : ∀ (m d : Nat) (acc : List Pt) (ts' : List Tk), ts' <:+ ts → (∀ p ∈ acc, p.ok) → (pRd f m d acc ts').fits := fun m d acc ts' hs ha => ih m d acc ts' (suf_mem hs hts) ha
    have suf := fun (m d : Nat) (acc : List Pt) (ts' : List Tk) => pRd_suf f m d acc ts'
    have nil : ∀ p ∈ ([] : List Pt), p.ok := fun p hp => by cases hp
    cases ts with
    | nil => rw [pRd]; trivial
    | cons t r =>
      have ht := hts t (by simp)
      have hr : r <:+ t :: r := List.suffix_cons t r
      have hrf : t :: r <:+ t :: r := List.suffix_refl _
      rw [pRd]
      by_cases h6 : m = 6
      · rw [if_pos h6]
        split
        · intro p hp
          simp only [List.mem_singleton] at hp
          subst hp
          unfold Tk.ok at ht
          unfold Pt.ok
          dsimp only
          rw [e0]
          omega
        · split
          · intro p hp
            simp only [List.mem_singleton] at hp
            subst hp
            unfold Tk.ok at ht
            unfold Pt.ok
            dsimp only
            rw [e0]
            omega
          · split
            · exact fdR_fits t ht r
            · split
              · split
                · have h1 := ih' 0 (d + 1) [] r hr nil
                  cases hE : pRd f 0 (d + 1) [] r with
                  | bad q => trivial
                  | good x q => rw [hE] at h1; exact shut_fits x h1 q
                · trivial
              · trivial
      · rw [if_neg h6]
        split
        · split
          · rename_i kk hk
            split
            · have h1 := ih' 2 (d + 1) [] r hr nil
              cases hE : pRd f 2 (d + 1) [] r with
              | bad q => trivial
              | good x q => rw [hE] at h1; exact cons_ok (opA_ok hk) h1
            · trivial
          · exact ih' 3 d [] (t :: r) hrf nil
        · split
          · have h1 := ih' 4 d [] (t :: r) hrf nil
            have s1 := suf 4 d [] (t :: r)
            cases hE : pRd f 4 d [] (t :: r) with
            | bad q => trivial
            | good x q =>
              rw [hE] at h1 s1
              cases q with
              | nil => trivial
              | cons c q' =>
                dsimp only
                split
                · exact h1
                · rename_i kk hk
                  have h2 := ih' 4 d [] q' ((List.suffix_cons c q').trans s1) nil
                  cases hE2 : pRd f 4 d [] q' with
                  | bad s => trivial
                  | good y s => rw [hE2] at h2; exact cons_ok (opA_ok hk) (app_ok h1 h2)
          · split
            · have h1 := ih' (m + 1) d [] (t :: r) hrf nil
              have s1 := suf (m + 1) d [] (t :: r)
              cases hE : pRd f (m + 1) d [] (t :: r) with
              | bad q => trivial
              | good x q => rw [hE] at h1 s1; exact ih' (m + 10) d x q s1 h1
            · split
              · exact hacc
              · rename_i kk hk
                have h1 := ih' (m - 10 + 1) d [] r hr nil
                have s1 := suf (m - 10 + 1) d [] r
                cases hE : pRd f (m - 10 + 1) d [] r with
                | bad q => trivial
                | good y q => rw [hE] at h1 s1; exact ih' m d _ q (s1.trans hr) (cons_ok (opA_ok hk) (app_ok hacc h1))
theorem endd_snoc (ts : List Tk) (n : Nat) : Endd (ts ++ [endZ n]) := ⟨ts, endZ n, rfl, rfl⟩
/-- What is written is read back. -/
theorem write_read {x : List Pt} (h : ckK x ≠ 0) (hok : ∀ p ∈ x, p.ok) : rdO (wrS x) = ⟨x, 0, 0⟩ := by
  obtain ⟨t, h1, h2, h3, h4, h5, h6⟩ := ckK_leaves h
  have hfd : fdX wrv x = some (t.val wrv) := by rw [h3]; exact fdX_flat wrv t h1
  have hlv := t.fine_leaves h2
  have hnk : ∀ q ∈ t.flat, q.nk := fun q hq => (hok q (by rw [h3]; exact hq)).2.1.2
  have hlen := t.wr_len h1 hlv hnk
  have hw : wrS x = txt t.wr := by unfold wrS; rw [if_neg h, hfd]; rfl
  obtain ⟨b1, b2⟩ := t.bod_wr h2 hnk
  rw [← h3] at hlen b2
  obtain ⟨ts, g1, g2⟩ := toks_join t.bod 0 b1 (by omega)
  have hsz : (txt t.wr).size = t.wr.length := txt_size _
  have ht : tsR (txt t.wr) = .good ts := by
    unfold tsR
    rw [if_neg (by rw [hsz]; unfold Ex.wr; omega), txt_list, t.wr_tok]
    exact g1
  obtain ⟨e, r1, r2⟩ := read_back t h2 h4 ts (txt t.wr).size g2
  rw [hw]
  unfold rdO
  rw [ht]
  dsimp only
  unfold rdG psR
  rw [r1]
  dsimp only
  rw [← h3, if_neg h, if_pos (show hdKd [e] = 0 from r2)]
theorem rdG_may {n : Nat} {ts : List Tk} (h : (rdG n ts).c = 0) : ckK (rdG n ts).x ≠ 0 := by
  unfold rdG at h ⊢
  split at h
  · cases h
  · split at h
    · cases h
    · split at h
      · rename_i x q _ hk hq
        rw [if_neg hk, if_pos hq]
        exact hk
      · cases h
/-- What is read may be. -/
theorem read_may {s : ByteArray} (h : (rdO s).c = 0) : ckK (rdO s).x ≠ 0 := by
  rcases tsR_code s with ⟨ts, hr, _, _⟩ | ⟨_, hc⟩
  · unfold rdO at h ⊢
    rw [hr] at h ⊢
    exact rdG_may h
  · exfalso
    unfold rdO at h
    cases hr : tsR s with
    | bad k c => rw [hr] at h hc; exact hc h
    | good ts => rw [hr] at hc; exact hc rfl
theorem rdG_ok {n : Nat} {ts : List Tk} (h : ∀ t ∈ ts ++ [endZ n], t.ok) : ∀ p ∈ (rdG n ts).x, p.ok := by
  have hf := pRd_fits (mRd 0 (ts ++ [endZ n])) 0 0 [] (ts ++ [endZ n]) h (fun p hp => by cases hp)
  unfold rdG psR
  split
  · intro p hp; cases hp
  · rename_i x q he
    rw [he] at hf
    split
    · intro p hp; cases hp
    · split
      · exact hf
      · intro p hp; cases hp
theorem read_ok (s : ByteArray) : ∀ p ∈ (rdO s).x, p.ok := by
  have hk := tsL_ok s
  unfold rdO
  cases hr : tsR s with
  | bad k c => intro p hp; cases hp
  | good ts =>
    rw [hr] at hk
    exact rdG_ok hk
theorem rdG_zero {n : Nat} {ts : List Tk} : ((rdG n ts).at_ == 0 && (rdG n ts).c == 0) = true → (rdG n ts).c = 0 := by
  intro h
  simp at h
  exact h.2
/-- Where there is a fault there are no parts. -/
theorem read_none {s : ByteArray} (h : (rdO s).c ≠ 0) : (rdO s).x = [] := by
  unfold rdO at h ⊢
  cases hr : tsR s with
  | bad k c => rfl
  | good ts =>
    rw [hr] at h
    dsimp only at h ⊢
    unfold rdG at h ⊢
    split
    · rfl
    · rename_i x q he
      rw [he] at h
      dsimp only at h
      split
      · rfl
      · rename_i hk
        rw [if_neg hk] at h
        split
        · rename_i hq
          rw [if_pos hq] at h
          exact absurd rfl h
        · rfl
theorem read_at {s : ByteArray} (h : (rdO s).c = 0) : (rdO s).at_ = 0 := by
  rcases tsR_code s with ⟨ts, hr, _, _⟩ | ⟨_, hc⟩
  · unfold rdO at h ⊢
    rw [hr] at h ⊢
    dsimp only at h ⊢
    unfold rdG at h ⊢
    split
    · rename_i q he
      rw [he] at h
      cases h
    · rename_i x q he
      rw [he] at h
      dsimp only at h
      split
      · rfl
      · rename_i hk
        rw [if_neg hk] at h
        split
        · rfl
        · rename_i hq
          rw [if_neg hq] at h
          cases h
  · exfalso
    unfold rdO at h
    cases hr : tsR s with
    | bad k c => rw [hr] at h hc; exact hc h
    | good ts => rw [hr] at hc; exact hc rfl
theorem read_len {s : ByteArray} : (rdO s).x.length ≤ 200 := by
  by_cases h : (rdO s).c = 0
  · obtain ⟨t, _, _, _, _, h5⟩ := ckK_some (read_may h)
    exact h5
  · rw [read_none h]
    simp
end Go.Proofs.YtogklmljllocbabGreatDoor
