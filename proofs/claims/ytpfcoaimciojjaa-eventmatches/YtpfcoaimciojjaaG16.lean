/-
  Plain facts: what is encoded is decoded as the list; what is decoded is encoded as just those bytes.
-/
import Derived.Test.YtpfcoaimciojjaaG12
namespace Go.Proofs.Ytpfcoaimciojjaa

theorem u8_ofNat (C : Nat) (h : C < 256) : (UInt8.ofNat C).toNat = C := by rw [UInt8.toNat_ofNat']; omega
/-- The bytes ahead of the last one are read. -/
theorem rdN_hi (v : Nat) (r : List UInt8) (hv : v < 144115188075855872) : rdN (hiB v ++ r) 0 0 = rdN r v (hiB v).length := by
  induction v using Nat.strongRecOn generalizing r with
  | ind v ih =>
    by_cases h0 : v = 0
    · subst h0; rw [hiB_zero]; rfl
    · rw [hiB_step h0, List.append_assoc, ih (v / 128) (by omega) _ (by omega), List.singleton_append, rdN]
      have hc : (UInt8.ofNat (v % 128 + 128)).toNat = v % 128 + 128 := u8_ofNat _ (by omega)
      have hk : (hiB (v / 128)).length = 0 → v / 128 = 0 := fun h => by
        by_cases hz : v / 128 = 0
        · exact hz
        · rw [hiB_step hz] at h; simp at h
      have hnb : ¬ (((hiB (v / 128)).length = 0 ∧ v % 128 + 128 = 128) ∨ 144115188075855872 ≤ v / 128) := by
        rintro (⟨a, b⟩ | a)
        · have := hk a; omega
        · omega
      rw [hc, if_neg hnb, if_neg (by omega), List.length_append]
      congr 1
      omega
theorem rdN_numB (u : Nat) (r : List UInt8) (hu : u < 18446744073709551616) : rdN (numB u ++ r) 0 0 = (u, (numB u).length, 0) := by
  unfold numB
  rw [List.append_assoc, rdN_hi _ _ (by omega), List.singleton_append, rdN]
  have hc : (UInt8.ofNat (u % 128)).toNat = u % 128 := u8_ofNat _ (by omega)
  rw [hc, if_neg (by rintro (⟨_, b⟩ | a) <;> omega), if_pos (by omega), List.length_append]
  refine Prod.ext ?_ rfl
  show u / 128 * 128 + u % 128 % 128 = u
  omega
/-- What is read as a number is its bytes. -/
theorem rdN_inv (l : List UInt8) (U k V m : Nat) (hk : k = (hiB U).length) (h : rdN l U k = (V, m, 0)) : k < m ∧ m - k ≤ l.length ∧ hiB U ++ l.take (m - k) = numB V := by
  induction l generalizing U k with
  | nil => simp [rdN] at h
  | cons c r ih =>
    rw [rdN] at h
    have hc := c.toNat_lt
    split at h
    · simp at h
    · rename_i hbad
      split at h
      · rename_i hlow
        simp only [Prod.mk.injEq] at h
        obtain ⟨rfl, rfl, _⟩ := h
        refine ⟨by omega, by simp only [List.length_cons]; omega, ?_⟩
        rw [show k + 1 - k = 1 by omega]
        unfold numB
        rw [show (U * 128 + c.toNat % 128) / 128 = U by omega, show (U * 128 + c.toNat % 128) % 128 = c.toNat by omega]
        simp
      · rename_i hhi
        have hne : U * 128 + c.toNat % 128 ≠ 0 := fun e => by
          have hU : U = 0 := by omega
          refine hbad (Or.inl ⟨?_, by omega⟩)
          rw [hk, hU, hiB_zero]; rfl
        have hst : hiB (U * 128 + c.toNat % 128) = hiB U ++ [c] := by
          rw [hiB_step hne, show (U * 128 + c.toNat % 128) / 128 = U by omega, show (U * 128 + c.toNat % 128) % 128 + 128 = c.toNat by omega]
          simp
        obtain ⟨a, b, d⟩ := ih _ _ (by rw [hst, List.length_append, ← hk]; rfl) h
        refine ⟨by omega, by simp only [List.length_cons]; omega, ?_⟩
        rw [hst] at d
        rw [show m - k = (m - (k + 1)) + 1 by omega, List.take_succ_cons, ← d]
        simp
theorem ba_eta (s : ByteArray) : ({ data := s.data.toList.toArray } : ByteArray) = s := rfl
/-- An item's bytes are read as it. -/
theorem rdI_b (x : It) (r : List UInt8) (hm : x.may = true) (hok : x.ok) (hs : x.s.size ≤ 262144) : rdI (x.b ++ r) = (x, x.b.length, 0) := by
  obtain ⟨t, n, s⟩ := x
  obtain ⟨h0, h1, _⟩ := hok
  dsimp only at h0 h1 hs
  unfold It.may mayB at hm
  unfold It.b itemB
  cases t
  · rw [if_neg (by simp)] at hm ⊢
    have hse : s = ⟨#[]⟩ := by
      have e : s.data.toList = [] := by rw [← ByteArray.toList_eq]; simpa using hm
      rw [← ba_eta s, e]
    subst hse
    rw [List.cons_append, rdI, rdN_numB _ _ (zig_lt h0 h1)]
    dsimp only
    rw [if_neg (by decide), if_neg (by simp), if_pos (by decide), unzig_zig]
    simp only [List.length_cons, Nat.add_comm]
  · rw [if_pos rfl] at hm ⊢
    have hn : n = 0 := by simpa using hm
    subst hn
    have hz : unzig (zig (s.size : Int)) = (s.size : Int) := unzig_zig _
    rw [List.cons_append, List.append_assoc, rdI, rdN_numB _ _ (zig_lt (by omega) (by omega))]
    dsimp only
    have hlen : s.data.toList.length = s.size := Array.length_toList
    rw [if_neg (by decide), if_neg (by simp), if_neg (by decide), hz, if_neg (by omega), if_neg (by rw [List.length_append, List.length_append, hlen]; omega), List.drop_left, Int.toNat_natCast, ← hlen, List.take_left, ba_eta]
    rw [List.length_cons, List.length_append, hlen]
    refine Prod.ext rfl (Prod.ext ?_ rfl)
    dsimp only
    omega
theorem It.b_pos (x : It) : 1 ≤ x.b.length := by unfold It.b itemB; split <;> simp
theorem decF_list (l : List It) (f at_ : Nat) (acc : List It) (hf : (listB l).length ≤ f) (hn : acc.length + l.length ≤ 4096) (hl : (listB l).length ≤ 262144) (h : ∀ x ∈ l, x.may = true ∧ x.ok) : decF f (listB l) at_ acc = (acc ++ l, 0, 0) := by
  induction l generalizing f at_ acc with
  | nil => rw [show listB [] = [] from rfl, decF_nil, List.append_nil]
  | cons x r ih =>
    have hb : listB (x :: r) = x.b ++ listB r := by unfold listB; rw [List.flatMap_cons]
    have hp := x.b_pos
    obtain ⟨hm, hok⟩ := h x (List.mem_cons_self)
    have hs := It.b_ge x hm
    rw [hb, List.length_append] at hf hl
    obtain ⟨f, rfl⟩ : ∃ g, f = g + 1 := ⟨f - 1, by omega⟩
    simp only [List.length_cons] at hn
    rw [hb, decF, if_neg (fun e => by rw [(List.append_eq_nil_iff.1 e).1] at hp; simp at hp), if_neg (by omega), rdI_b x _ hm hok (by omega)]
    dsimp only
    rw [if_neg (by simp), List.drop_left, ih _ _ _ (by omega) (by rw [List.length_append]; simp only [List.length_cons, List.length_nil]; omega) (by omega) (fun y hy => h y (List.mem_cons_of_mem _ hy)), List.append_assoc]
    rfl
/-- What is encoded is decoded. -/
theorem dec_enc (l : List It) (h0 : encE l = 0) (hok : ∀ x ∈ l, x.ok) : decS (encS l).data.toList = (l, 0, 0) := by
  unfold encS
  rw [if_pos h0]
  unfold encE at h0
  by_cases a : 4096 < l.length
  · rw [if_pos a] at h0; simp at h0
  · rw [if_neg a] at h0
    by_cases b : l.all It.may = false
    · rw [if_pos b] at h0; simp at h0
    · rw [if_neg b] at h0
      by_cases c : 262144 < (listB l).length
      · rw [if_pos c] at h0; simp at h0
      · have hall : l.all It.may = true := by simpa using b
        show decS (listB l) = _
        unfold decS
        rw [if_neg c, decF_list l _ 0 [] (Nat.le_refl _) (by simp; omega) (by omega) (fun x hx => ⟨List.all_eq_true.1 hall x hx, hok x hx⟩)]
        rfl
/-- What is read as an item is its bytes. -/
theorem rdI_inv (l : List UInt8) (hc : (rdI l).2.2 = 0) (hl : l.length ≤ 262144) : l.take (rdI l).2.1 = (rdI l).1.b ∧ (rdI l).1.may = true ∧ (rdI l).1.ok := by
  cases l with
  | nil => simp [rdI] at hc
  | cons c r =>
    have hq : (rdN r 0 0).2.2 = 0 → _ := fun h0 => rdN_inv r 0 0 (rdN r 0 0).1 (rdN r 0 0).2.1 (by rw [hiB_zero]; rfl) (by rw [← h0])
    have hq2 : (rdN r 0 0).2.2 = 0 → _ := fun h0 => rdN_ok r 0 0 (rdN r 0 0).1 (rdN r 0 0).2.1 (by omega) (by rw [← h0])
    rw [rdI] at hc ⊢
    generalize rdN r 0 0 = Q at *
    obtain ⟨V, m, code⟩ := Q
    dsimp only at hc hq hq2 ⊢
    simp only [List.length_cons] at hl
    by_cases a : c.toNat ≠ 1 ∧ c.toNat ≠ 2
    · rw [if_pos a] at hc; simp at hc
    · rw [if_neg a] at hc ⊢
      by_cases b : code ≠ 0
      · rw [if_pos b] at hc; exact absurd hc b
      · rw [if_neg b] at hc ⊢
        obtain ⟨k1, k2, k3⟩ := hq (by simpa using b)
        obtain ⟨_, _, k4⟩ := hq2 (by simpa using b)
        have hub := unzig_lo k4
        rw [hiB_zero, List.nil_append, Nat.sub_zero] at k3
        rw [Nat.sub_zero] at k2
        have hme : (⟨#[]⟩ : ByteArray).toList.isEmpty = true := by rw [ByteArray.toList_eq]; rfl
        by_cases d : c.toNat = 1
        · rw [if_pos d]
          dsimp only
          have hc1 : c = 1 := UInt8.toNat_inj.1 d
          refine ⟨?_, ?_, hub.1, hub.2, Nat.zero_le _⟩
          · unfold It.b itemB
            rw [if_neg (by simp), zig_unzig, ← k3, hc1, Nat.add_comm, List.take_succ_cons]
          · unfold It.may mayB; rw [if_neg (by simp)]; exact hme
        · rw [if_neg d] at hc ⊢
          by_cases e : unzig V < 0 ∨ 262144 < unzig V
          · rw [if_pos e] at hc; simp at hc
          · rw [if_neg e] at hc ⊢
            by_cases f : (r.length : Int) - m < unzig V
            · rw [if_pos f] at hc; simp at hc
            · rw [if_neg f]
              dsimp only
              have hc2 : c = 2 := UInt8.toNat_inj.1 (by show c.toNat = 2; omega)
              obtain ⟨N, hN⟩ := Int.eq_ofNat_of_zero_le (by omega : 0 ≤ unzig V)
              have hV : zig (N : Int) = V := by rw [← hN, zig_unzig]
              rw [hN, Int.toNat_natCast]
              have hsz : ({ data := ((r.drop m).take N).toArray } : ByteArray).size = N := by
                show (List.toArray _).size = N
                rw [List.size_toArray, List.length_take, List.length_drop]; omega
              refine ⟨?_, ?_, (by decide : (-9223372036854775808 : Int) ≤ 0), (by decide : (0 : Int) < 9223372036854775808), ?_⟩
              · unfold It.b itemB
                dsimp only
                rw [if_pos rfl, hsz, hV, ← k3, hc2, show 1 + m + N = (m + N) + 1 by omega, List.take_succ_cons, List.take_add]
              · unfold It.may mayB; rfl
              · show ({ data := ((r.drop m).take N).toArray } : ByteArray).size ≤ _
                rw [hsz]; omega
theorem decF_inv (f : Nat) (b : List UInt8) (at_ : Nat) (acc l : List It) (hf : b.length ≤ f) (hl : b.length ≤ 262144) (hacc : acc.length ≤ 4096) (h : decF f b at_ acc = (l, 0, 0)) :
    ∃ r, l = acc ++ r ∧ listB r = b ∧ l.length ≤ 4096 ∧ ∀ x ∈ r, x.may = true ∧ x.ok := by
  induction f generalizing b at_ acc with
  | zero =>
    obtain rfl : b = [] := List.eq_nil_of_length_eq_zero (by omega)
    simp only [decF, Prod.mk.injEq] at h
    exact ⟨[], by rw [List.append_nil]; exact h.1.symm, rfl, by rw [← h.1]; exact hacc, by simp⟩
  | succ f ih =>
    rw [decF] at h
    by_cases hb : b = []
    · rw [if_pos hb] at h
      simp only [Prod.mk.injEq] at h
      exact ⟨[], by rw [List.append_nil]; exact h.1.symm, by rw [hb]; rfl, by rw [← h.1]; exact hacc, by simp⟩
    · rw [if_neg hb] at h
      by_cases hfl : acc.length = 4096
      · rw [if_pos hfl] at h; simp at h
      · rw [if_neg hfl] at h
        by_cases hc : (rdI b).2.2 ≠ 0
        · rw [if_pos hc] at h
          simp only [Prod.mk.injEq] at h
          exact absurd h.2.2 hc
        · rw [if_neg hc] at h
          have hc0 : (rdI b).2.2 = 0 := by simpa using hc
          obtain ⟨i1, i2, i3⟩ := rdI_inv b hc0 hl
          obtain ⟨m1, m2⟩ := rdI_ok b hc0
          obtain ⟨r, e1, e2, e3, e4⟩ := ih _ _ _ (by rw [List.length_drop]; omega) (by rw [List.length_drop]; omega) (by rw [List.length_append]; simp only [List.length_cons, List.length_nil]; omega) h
          refine ⟨(rdI b).1 :: r, by rw [e1, List.append_assoc]; rfl, ?_, e3, ?_⟩
          · unfold listB
            rw [List.flatMap_cons]
            show (rdI b).1.b ++ listB r = b
            rw [← i1, e2, List.take_append_drop]
          · intro x hx
            rcases List.mem_cons.1 hx with rfl | hx
            · exact ⟨i2, i3⟩
            · exact e4 x hx
/-- What is decoded is encoded. -/
theorem enc_dec (b : List UInt8) (l : List It) (h : decS b = (l, 0, 0)) : encE l = 0 ∧ (encS l).data.toList = b ∧ (∀ x ∈ l, x.ok) ∧ l.length ≤ 4096 := by
  unfold decS at h
  by_cases hb : 262144 < b.length
  · rw [if_pos hb] at h; simp at h
  · rw [if_neg hb] at h
    obtain ⟨r, e1, e2, e3, e4⟩ := decF_inv _ b 0 [] l (Nat.le_refl _) (by omega) (by simp) h
    rw [List.nil_append] at e1
    subst e1
    have he : encE l = 0 := by
      unfold encE
      rw [if_neg (by omega), if_neg (by rw [List.all_eq_true.2 (fun x hx => (e4 x hx).1)]; simp), e2, if_neg hb]
    refine ⟨he, ?_, fun x hx => (e4 x hx).2, e3⟩
    unfold encS
    rw [if_pos he]
    exact e2
end Go.Proofs.Ytpfcoaimciojjaa
