/-
  Plain facts: the bytes of two lists, one behind the other; a list's bytes that end within an item.
-/
import Derived.Test.YtbbmacpjgflndaaDoorBack
import Derived.Test.YtbbmacpjgflndaaDoorSame
namespace Go.Proofs.YtbbmacpjgflndaaDoor

theorem encE_ok (l : List It) (h : encE l = 0) : l.length ≤ 4096 ∧ l.all It.may = true ∧ (listB l).length ≤ 262144 ∧ encS l = ⟨(listB l).toArray⟩ := by
  have hs : encS l = ⟨(listB l).toArray⟩ := by unfold encS; rw [if_pos h]
  unfold encE at h
  by_cases a : 4096 < l.length
  · rw [if_pos a] at h; simp at h
  · rw [if_neg a] at h
    by_cases b : l.all It.may = false
    · rw [if_pos b] at h; simp at h
    · rw [if_neg b] at h
      by_cases c : 262144 < (listB l).length
      · rw [if_pos c] at h; simp at h
      · exact ⟨by omega, by simpa using b, by omega, hs⟩
theorem encE_mk (l : List It) (h1 : l.length ≤ 4096) (h2 : l.all It.may = true) (h3 : (listB l).length ≤ 262144) : encE l = 0 := by
  unfold encE; rw [if_neg (by omega), if_neg (by rw [h2]; simp), if_neg (by omega)]
theorem listB_append (a b : List It) : listB (a ++ b) = listB a ++ listB b := by unfold listB; exact List.flatMap_append
theorem enc_join (a b : List It) (ha : encE a = 0) (hb : encE b = 0) (hn : a.length + b.length ≤ 4096) (hl : (encS a).size + (encS b).size ≤ 262144) :
    encE (a ++ b) = 0 ∧ encS (a ++ b) = ⟨((encS a).data.toList ++ (encS b).data.toList).toArray⟩ := by
  obtain ⟨a1, a2, a3, a4⟩ := encE_ok a ha
  obtain ⟨b1, b2, b3, b4⟩ := encE_ok b hb
  have sa : (encS a).size = (listB a).length := by rw [a4]; show (List.toArray _).size = _; rw [List.size_toArray]
  have sb : (encS b).size = (listB b).length := by rw [b4]; show (List.toArray _).size = _; rw [List.size_toArray]
  have h := encE_mk (a ++ b) (by rw [List.length_append]; omega) (by rw [List.all_append, a2, b2]; rfl) (by rw [listB_append, List.length_append]; omega)
  refine ⟨h, ?_⟩
  rw [(encE_ok _ h).2.2.2, listB_append, a4, b4]
theorem hiB_take (v k : Nat) (hk : k ≤ (hiB v).length) : ∃ u, u ≤ v ∧ (hiB v).take k = hiB u := by
  induction v using Nat.strongRecOn generalizing k with
  | ind v ih =>
    by_cases h0 : v = 0
    · subst h0; exact ⟨0, Nat.le_refl _, by rw [hiB_zero]; simp⟩
    · by_cases hf : k = (hiB v).length
      · exact ⟨v, Nat.le_refl _, by rw [hf, List.take_length]⟩
      · rw [hiB_step h0, List.length_append] at hk hf
        simp only [List.length_cons, List.length_nil] at hk hf
        obtain ⟨u, hu, e⟩ := ih (v / 128) (by omega) k (by omega)
        refine ⟨u, by omega, ?_⟩
        rw [hiB_step h0, List.take_append_of_le_length (by omega), e]
theorem rdN_short (u k : Nat) (hu : u < 18446744073709551616) (hk : k < (numB u).length) : (rdN ((numB u).take k) 0 0).2.2 = 11 := by
  unfold numB at hk ⊢
  rw [List.length_append] at hk
  simp only [List.length_cons, List.length_nil] at hk
  rw [List.take_append_of_le_length (by omega)]
  obtain ⟨v, hv, e⟩ := hiB_take (u / 128) k (by omega)
  rw [e]
  have := rdN_hi v [] (by omega)
  rw [List.append_nil] at this
  rw [this]
  rfl
/-- An item that ends early. -/
theorem rdI_short (x : It) (k : Nat) (hm : x.may = true) (hok : x.ok) (hs : x.s.size ≤ 262144) (h1 : 1 ≤ k) (hk : k < x.b.length) : (rdI (x.b.take k)).2.2 = 11 := by
  obtain ⟨t, n, s⟩ := x
  obtain ⟨h0, h2, _⟩ := hok
  dsimp only at h0 h2 hs
  obtain ⟨j, rfl⟩ : ∃ j, k = j + 1 := ⟨k - 1, by omega⟩
  unfold It.b itemB at hk ⊢
  unfold It.may mayB at hm
  cases t
  · rw [if_neg (by simp)] at hk ⊢
    rw [List.take_succ_cons, rdI]
    have hr := rdN_short (zig n) j (zig_lt h0 h2) (by simpa using hk)
    rw [if_neg (by decide), if_pos (by rw [hr]; decide), hr]
  · rw [if_pos rfl] at hk ⊢
    rw [List.take_succ_cons, rdI]
    have hu : zig (s.size : Int) < 18446744073709551616 := zig_lt (by omega) (by omega)
    by_cases hj : j < (numB (zig (s.size : Int))).length
    · rw [List.take_append_of_le_length (Nat.le_of_lt hj)]
      have hr := rdN_short (zig (s.size : Int)) j hu hj
      rw [if_neg (by decide), if_pos (by rw [hr]; decide), hr]
    · have hlen : s.data.toList.length = s.size := Array.length_toList
      simp only [List.length_cons, List.length_append, hlen] at hk
      obtain ⟨q, rfl⟩ : ∃ q, j = (numB (zig (s.size : Int))).length + q := ⟨j - (numB (zig (s.size : Int))).length, by omega⟩
      rw [List.take_append, Nat.add_sub_cancel_left, List.take_of_length_le (Nat.le_add_right _ _), rdN_numB _ _ hu]
      dsimp only
      rw [if_neg (by decide), if_neg (by simp), if_neg (by decide), unzig_zig, if_neg (by omega), if_pos]
      rw [List.length_append, List.length_take, hlen]
      omega
theorem decF_short (l : List It) (x : It) (k f at_ : Nat) (acc : List It) (hf : (listB l).length + k ≤ f) (hn : acc.length + l.length < 4096) (hl : (listB l).length + k ≤ 262144) (h : ∀ y ∈ l, y.may = true ∧ y.ok)
    (hm : x.may = true) (hok : x.ok) (hs : x.s.size ≤ 262144) (h1 : 1 ≤ k) (hk : k < x.b.length) : decF f (listB l ++ x.b.take k) at_ acc = ([], ((at_ + (listB l).length : Nat) : Int), 11) := by
  induction l generalizing f at_ acc with
  | nil =>
    have e0 : listB ([] : List It) = [] := rfl
    rw [e0] at hf ⊢
    obtain ⟨f, rfl⟩ : ∃ g, f = g + 1 := ⟨f - 1, by omega⟩
    rw [List.nil_append, decF]
    have hr := rdI_short x k hm hok hs h1 hk
    have hl2 : (x.b.take k).length = k := by rw [List.length_take]; omega
    rw [if_neg (fun e => by rw [e] at hl2; simp at hl2; omega), if_neg (by simp at hn; omega), if_pos (by rw [hr]; decide), hr]
    rfl
  | cons y r ih =>
    have hb : listB (y :: r) = y.b ++ listB r := by unfold listB; rw [List.flatMap_cons]
    have hp := y.b_pos
    obtain ⟨hym, hyok⟩ := h y (List.mem_cons_self)
    have hys := It.b_ge y hym
    rw [hb, List.length_append] at hf hl
    obtain ⟨f, rfl⟩ : ∃ g, f = g + 1 := ⟨f - 1, by omega⟩
    simp only [List.length_cons] at hn
    rw [hb, List.append_assoc, decF, if_neg (fun e => by rw [(List.append_eq_nil_iff.1 e).1] at hp; simp at hp), if_neg (by omega), rdI_b y _ hym hyok (by omega)]
    dsimp only
    rw [if_neg (by simp), List.drop_left, ih _ _ _ (by omega) (by rw [List.length_append]; simp only [List.length_cons, List.length_nil]; omega) (by omega) (fun z hz => h z (List.mem_cons_of_mem _ hz)), List.length_append]
    refine Prod.ext rfl (Prod.ext ?_ rfl)
    dsimp only
    omega
/-- A list's bytes that end within an item. -/
theorem dec_short (l : List It) (x : It) (k : Nat) (h0 : encE l = 0) (hok : ∀ y ∈ l, y.ok) (hn : l.length < 4096) (hl : (encS l).size + k ≤ 262144) (hm : x.may = true) (hxok : x.ok) (hs : x.s.size ≤ 262144) (h1 : 1 ≤ k) (hk : k < x.b.length) :
    decS ((encS l).data.toList ++ x.b.take k) = ([], ((encS l).size : Int), 11) := by
  obtain ⟨a1, a2, a3, a4⟩ := encE_ok l h0
  have sa : (encS l).size = (listB l).length := by rw [a4]; show (List.toArray _).size = _; rw [List.size_toArray]
  have sd : (encS l).data.toList = listB l := by rw [a4]
  have hkl : (x.b.take k).length = k := by rw [List.length_take]; omega
  rw [sd, sa]
  unfold decS
  rw [List.length_append, hkl, if_neg (by omega), decF_short l x k _ 0 [] (Nat.le_refl _) (by simp; omega) (by omega) (fun y hy => ⟨List.all_eq_true.1 a2 y hy, hok y hy⟩) hm hxok hs h1 hk]
  refine Prod.ext rfl (Prod.ext ?_ rfl)
  dsimp only
  omega
/-- The one-item list of the head. -/
theorem enc_one (x : It) (l : List It) (h : encE (x :: l) = 0) : encE [x] = 0 ∧ encS [x] = ⟨x.b.toArray⟩ ∧ x.may = true ∧ x.b.length ≤ 262144 := by
  obtain ⟨a1, a2, a3, a4⟩ := encE_ok _ h
  have hb : listB (x :: l) = x.b ++ listB l := by unfold listB; rw [List.flatMap_cons]
  have h1 : listB [x] = x.b := by unfold listB; simp
  rw [hb, List.length_append] at a3
  have hm : x.may = true := List.all_eq_true.1 a2 x List.mem_cons_self
  have he := encE_mk [x] (by simp) (by simp [hm]) (by rw [h1]; omega)
  exact ⟨he, by rw [(encE_ok _ he).2.2.2, h1], hm, by omega⟩
end Go.Proofs.YtbbmacpjgflndaaDoor
