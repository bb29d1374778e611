/-
  TokenPlaces: each token stands where its place says, and blanks alone stand between.
-/
import Derived.Test.YtglfjgnbfligoaaDoorTkW
namespace Go.Proofs.YtglfjgnbfligoaaDoor
open Go.RowKit

theorem mem_seg {l : List UInt8} {E j i : Nat} {p : UInt8 → Bool} (h : ∀ x ∈ (l.drop E).take j, p x = true) (hi : i < l.length) (h1 : E ≤ i) (h2 : i < E + j) : p l[i] = true := by
  apply h
  rw [List.mem_iff_getElem]
  refine ⟨i - E, by rw [List.length_take, List.length_drop]; omega, ?_⟩
  rw [List.getElem_take, List.getElem_drop]
  congr 1
  omega
theorem Pls.step {t : Tk} {r : List Tk} {l : List UInt8} {E : Nat} (h : Pls (t :: r) (l.drop E) E) (hE : E ≤ l.length) : ∃ P : Nat, t.pl = (P : Int) ∧ E ≤ P ∧ P + (spell t).length ≤ l.length ∧ (∀ i (hi : i < l.length), E ≤ i → i < P → isBlk l[i] = true) ∧ wrOk t = true ∧ spell t = (l.drop P).take (spell t).length ∧ Pls r (l.drop (P + (spell t).length)) (P + (spell t).length) := by
  obtain ⟨j, h1, h2, h3, h4, h5, h6, h7⟩ := h
  rw [List.length_drop] at h6
  rw [List.drop_drop] at h4 h7
  rw [← Nat.add_assoc] at h7
  exact ⟨E + j, h2, by omega, by omega, fun i hi a b => mem_seg h1 hi a b, h3, h4, h7⟩
theorem Pls.last {l : List UInt8} {E : Nat} (h : Pls [] (l.drop E) E) : ∀ i (hi : i < l.length), E ≤ i → i < l.length → isBlk l[i] = true := fun i hi h1 _ =>
  mem_seg (j := l.length) (fun x hx => h x (List.mem_of_mem_take hx)) hi h1 (by omega)
theorem tks_one {g : Nat} {t : Tk} {w : World} (h : CBox g t.c 35 w) : TksAt w (some ⟨g, 0, none⟩) [t] := fun _ => by
  refine ⟨g, 0, rfl, (Array.getElem?_eq_some_iff.1 h).1, fun i hi => ?_⟩
  obtain rfl : i = 0 := by simpa using hi
  exact ⟨h.cell rfl, h.cell rfl, h.cell rfl, h.cell rfl⟩
theorem wr_facts {t : Tk} (h : wrOk t = true) : ¬ t.kd = 0 ∧ t.s.size ≤ 256 ∧ 0 ≤ t.n ∧ t.n ≤ 9223372036854775807 ∧ (spell t).length ≤ 258 := by
  have h1 := (wrOk_iff t).1 h
  obtain ⟨_, _, _, _, k1, _, _, hn0, hn1, _⟩ := tkR_some h1.2
  have e1 : (t.out 0).kd = t.kd := rfl
  have e2 : (t.out 0).n = t.n := rfl
  rw [e1] at k1
  rw [e2] at hn0 hn1
  exact ⟨by omega, h1.1, hn0, hn1, spell_len t h1.1 (by omega) hn1⟩
theorem joR_one {t : Tk} (h : wrOk t = true) : joR [t] = (spell t, 0) := by
  obtain ⟨h0, _, _, _, h4⟩ := wr_facts h
  have e : isEnd [t] = false := by unfold isEnd; simpa using h0
  have e1 : cutL [t] = [t] := by unfold cutL; rw [e]; rfl
  have e2 : endT [t] = ⟨0, ⟨#[]⟩, 0, 0⟩ := by unfold endT; rw [e]; rfl
  have e3 : joinB [t] = spell t := by unfold joinB tailB; simp
  unfold joR
  rw [e1, e2, e3, if_neg (by simp), if_neg (not_not_intro (by simpa using h)), if_neg (not_not_intro ⟨rfl, rfl⟩), if_neg (by omega)]
/-- A token alone is joined as it is written. -/
theorem join_one (t : Tk) (g : Nat) (w : World) (hT : TbW w) (h : wrOk t = true) (hk : t.ok) (hb : CBox g t.c 35 w) :
    Calls Tryd.prog 14 #[.slice (some ⟨g, 0, none⟩) 1 1] w fun e w' => e = .returned (.tuple #[.string (txt (spell t)), .int .i64 0]) ∧ Below w.heap.size w w' := by
  have := join_any (some ⟨g, 0, none⟩) 1 [t] w hT (by simp) (by simp) (tks_one hb) (by simpa using hk)
  rw [joR_one h] at this
  exact this
theorem tsR_code (s : ByteArray) : (∃ ts, tsR s = .good ts ∧ toks s.data.toList 0 0 = .good ts ∧ s.size ≤ 262144) ∨ (tsL s.size (tsR s) = [] ∧ ¬ tsC (tsR s) = 0) := by
  unfold tsR
  split
  · exact Or.inr ⟨rfl, by simp [tsC]⟩
  · cases hR : toks s.data.toList 0 0 with
    | good ts => exact Or.inl ⟨ts, rfl, rfl, by omega⟩
    | bad k c =>
      refine Or.inr ⟨rfl, ?_⟩
      have key : ∀ l k c p q, toks l k c = .bad p q → q ≠ 0 := by
        intro l k c
        refine toks_ind (P := fun l k c => ∀ p q, toks l k c = .bad p q → q ≠ 0) ?_ ?_ ?_ ?_ ?_ l k c
        · intro k c p q h; cases h
        · intro b r k c hb ih p q h; rw [toks_blk hb] at h; exact ih p q h
        · intro l k c h0 hb hn p q h; rw [toks_none hn h0 hb] at h; cases h; omega
        · intro l k t n hn p q h; rw [toks_many hn] at h; cases h; omega
        · intro l k c t n hn hc ih p q h; rw [toks_some hn hc] at h; exact ih p q (pre_bad h)
      exact key _ _ _ _ _ hR
/-- The end. -/
def endK (n : Nat) : Tk := ⟨0, ⟨#[]⟩, 0, (n : Int)⟩
/-- What holds of the token at a place of the list. -/
def PlsK (s : ByteArray) (ts : List Tk) (k P : Nat) (T : Tk) : Prop :=
  (k < ts.length ∧ wrOk T = true ∧ s.extract P (P + (spell T).length) = txt (spell T) ∧ P + (spell T).length ≤ s.size ∧ Pls (ts.drop (k + 1)) (s.data.toList.drop (P + (spell T).length)) (P + (spell T).length)) ∨ (k = ts.length ∧ P = s.size ∧ T.kd = 0)
theorem pls_round (s : ByteArray) (ts : List Tk) (k E : Nat) (hk : k ≤ ts.length) (hE : E ≤ s.size) (hp : Pls (ts.drop k) (s.data.toList.drop E) E) :
    ∃ (T : Tk) (P : Nat), (ts ++ [endK s.size])[k]? = some T ∧ T.pl = (P : Int) ∧ E ≤ P ∧ P ≤ s.size ∧ (∀ i (hi : i < s.size), E ≤ i → i < P → isBlk s[i] = true) ∧ PlsK s ts k P T := by
  rcases Nat.lt_or_ge k ts.length with hkl | hkl
  · rw [List.drop_eq_getElem_cons hkl] at hp
    obtain ⟨P, p1, p2, p3, p4, p5, p6, p7⟩ := hp.step (by rw [size_list]; exact hE)
    rw [size_list] at p3
    refine ⟨ts[k], P, by rw [List.getElem?_append_left hkl, List.getElem?_eq_getElem hkl], p1, p2, by omega, fun i hi a c => p4 i (by rw [size_list]; exact hi) a c, Or.inl ⟨hkl, p5, ?_, p3, p7⟩⟩
    apply ByteArray.ext
    apply Array.ext'
    rw [ByteArray.data_extract, Array.toList_extract, List.extract_eq_take_drop, Nat.add_sub_cancel_left, txt_list]
    exact p6.symm
  · obtain rfl : k = ts.length := by omega
    rw [List.drop_length] at hp
    have := hp.last
    exact ⟨endK s.size, s.size, by rw [List.getElem?_append_right (by omega)]; simp, rfl, hE, Nat.le_refl _, fun i hi a c => this i (by rw [size_list]; exact hi) a (by rw [size_list]; exact hi), Or.inr ⟨rfl, rfl, rfl⟩⟩
end Go.Proofs.YtglfjgnbfligoaaDoor
