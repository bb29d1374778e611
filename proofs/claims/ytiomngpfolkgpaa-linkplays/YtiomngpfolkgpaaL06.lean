/-
  Plain facts: what is encoded is decoded as the list; what is decoded is encoded as just those bytes.
  Links, plainly: packets there and back. Of no program.
  The document's answer for numbers (turned, back, Number) is the plain functions'.
  The document's answer for an item (One) is the plain function's.
-/
import Derived.Test.YtiomngpfolkgpaaL04
import Derived.Test.YtiomngpfolkgpaaL05
import Derived.Test.YtiomngpfolkgpaaChecked
import Derived.Test.YtiomngpfolkgpaaL01
import Derived.WalkLawsBesides
import Derived.Lib.SmallJoins
import Derived.Test.YtiomngpfolkgpaaL03
namespace Go.Proofs.Ytiomngpfolkgpaa

theorem u8_ofNat (C : Nat) (h : C < 256) : (UInt8.ofNat C).toNat = C := by rw [UInt8.toNat_ofNat']; omega
/-- The bytes ahead of the last one are read. -/
theorem rdN_hi (v : Nat) (r : List UInt8) (hv : v < 144115188075855872) : rdN (hiB v ++ r) 0 0 = rdN r v (hiB v).length := by
  induction v using Nat.strongRecOn generalizing r with
  | ind v ih =>
    by_cases h0 : v = 0
    · subst h0; rw [hiB_zero]; rfl
    · rw [hiB_step h0, List.append_assoc, ih (v / 128) (by omega) _ (by omega), List.singleton_append, rdN]
      have hc : (UInt8.ofNat (v % 128 + 128)).toNat = v % 128 + 128 := u8_ofNat _ (by omega)
      have hk : (hiB (v / 128)).length = 0 → v / 128 = 0 := fun h => by
        by_cases hz : v / 128 = 0
        · exact hz
        · rw [hiB_step hz] at h; simp at h
      have hnb : ¬ (((hiB (v / 128)).length = 0 ∧ v % 128 + 128 = 128) ∨ 144115188075855872 ≤ v / 128) := by
        rintro (⟨a, b⟩ | a)
        · have := hk a; omega
        · omega
      rw [hc, if_neg hnb, if_neg (by omega), List.length_append]
      congr 1
      omega
theorem rdN_numB (u : Nat) (r : List UInt8) (hu : u < 18446744073709551616) : rdN (numB u ++ r) 0 0 = (u, (numB u).length, 0) := by
  unfold numB
  rw [List.append_assoc, rdN_hi _ _ (by omega), List.singleton_append, rdN]
  have hc : (UInt8.ofNat (u % 128)).toNat = u % 128 := u8_ofNat _ (by omega)
  rw [hc, if_neg (by rintro (⟨_, b⟩ | a) <;> omega), if_pos (by omega), List.length_append]
  refine Prod.ext ?_ rfl
  show u / 128 * 128 + u % 128 % 128 = u
  omega
/-- What is read as a number is its bytes. -/
theorem rdN_inv (l : List UInt8) (U k V m : Nat) (hk : k = (hiB U).length) (h : rdN l U k = (V, m, 0)) : k < m ∧ m - k ≤ l.length ∧ hiB U ++ l.take (m - k) = numB V := by
  induction l generalizing U k with
  | nil => simp [rdN] at h
  | cons c r ih =>
    rw [rdN] at h
    have hc := c.toNat_lt
    split at h
    · simp at h
    · rename_i hbad
      split at h
      · rename_i hlow
        simp only [Prod.mk.injEq] at h
        obtain ⟨rfl, rfl, _⟩ := h
        refine ⟨by omega, by simp only [List.length_cons]; omega, ?_⟩
        rw [show k + 1 - k = 1 by omega]
        unfold numB
        rw [show (U * 128 + c.toNat % 128) / 128 = U by omega, show (U * 128 + c.toNat % 128) % 128 = c.toNat by omega]
        simp
      · rename_i hhi
        have hne : U * 128 + c.toNat % 128 ≠ 0 := fun e => by
          have hU : U = 0 := by omega
          refine hbad (Or.inl ⟨?_, by omega⟩)
          rw [hk, hU, hiB_zero]; rfl
        have hst : hiB (U * 128 + c.toNat % 128) = hiB U ++ [c] := by
          rw [hiB_step hne, show (U * 128 + c.toNat % 128) / 128 = U by omega, show (U * 128 + c.toNat % 128) % 128 + 128 = c.toNat by omega]
          simp
        obtain ⟨a, b, d⟩ := ih _ _ (by rw [hst, List.length_append, ← hk]; rfl) h
        refine ⟨by omega, by simp only [List.length_cons]; omega, ?_⟩
        rw [hst] at d
        rw [show m - k = (m - (k + 1)) + 1 by omega, List.take_succ_cons, ← d]
        simp
theorem ba_eta (s : ByteArray) : ({ data := s.data.toList.toArray } : ByteArray) = s := rfl
/-- An item's bytes are read as it. -/
theorem rdI_b (x : It) (r : List UInt8) (hm : x.may = true) (hok : x.ok) (hs : x.s.size ≤ 262144) : rdI (x.b ++ r) = (x, x.b.length, 0) := by
  obtain ⟨t, n, s⟩ := x
  obtain ⟨h0, h1, _⟩ := hok
  dsimp only at h0 h1 hs
  unfold It.may mayB at hm
  unfold It.b itemB
  cases t
  · rw [if_neg (by simp)] at hm ⊢
    have hse : s = ⟨#[]⟩ := by
      have e : s.data.toList = [] := by rw [← ByteArray.toList_eq]; simpa using hm
      rw [← ba_eta s, e]
    subst hse
    rw [List.cons_append, rdI, rdN_numB _ _ (zig_lt h0 h1)]
    dsimp only
    rw [if_neg (by decide), if_neg (by simp), if_pos (by decide), unzig_zig]
    simp only [List.length_cons, Nat.add_comm]
  · rw [if_pos rfl] at hm ⊢
    have hn : n = 0 := by simpa using hm
    subst hn
    have hz : unzig (zig (s.size : Int)) = (s.size : Int) := unzig_zig _
    rw [List.cons_append, List.append_assoc, rdI, rdN_numB _ _ (zig_lt (by omega) (by omega))]
    dsimp only
    have hlen : s.data.toList.length = s.size := Array.length_toList
    rw [if_neg (by decide), if_neg (by simp), if_neg (by decide), hz, if_neg (by omega), if_neg (by rw [List.length_append, List.length_append, hlen]; omega), List.drop_left, Int.toNat_natCast, ← hlen, List.take_left, ba_eta]
    rw [List.length_cons, List.length_append, hlen]
    refine Prod.ext rfl (Prod.ext ?_ rfl)
    dsimp only
    omega
theorem It.b_pos (x : It) : 1 ≤ x.b.length := by unfold It.b itemB; split <;> simp
theorem decF_list (l : List It) (f at_ : Nat) (acc : List It) (hf : (listB l).length ≤ f) (hn : acc.length + l.length ≤ 4096) (hl : (listB l).length ≤ 262144) (h : ∀ x ∈ l, x.may = true ∧ x.ok) : decF f (listB l) at_ acc = (acc ++ l, 0, 0) := by
  induction l generalizing f at_ acc with
  | nil => rw [show listB [] = [] from rfl, decF_nil, List.append_nil]
  | cons x r ih =>
    have hb : listB (x :: r) = x.b ++ listB r := by unfold listB; rw [List.flatMap_cons]
    have hp := x.b_pos
    obtain ⟨hm, hok⟩ := h x (List.mem_cons_self)
    have hs := It.b_ge x hm
    rw [hb, List.length_append] at hf hl
    obtain ⟨f, rfl⟩ : ∃ g, f = g + 1 := ⟨f - 1, by omega⟩
    simp only [List.length_cons] at hn
    rw [hb, decF, if_neg (fun e => by rw [(List.append_eq_nil_iff.1 e).1] at hp; simp at hp), if_neg (by omega), rdI_b x _ hm hok (by omega)]
    dsimp only
    rw [if_neg (by simp), List.drop_left, ih _ _ _ (by omega) (by rw [List.length_append]; simp only [List.length_cons, List.length_nil]; omega) (by omega) (fun y hy => h y (List.mem_cons_of_mem _ hy)), List.append_assoc]
    rfl
/-- What is encoded is decoded. -/
theorem dec_enc (l : List It) (h0 : encE l = 0) (hok : ∀ x ∈ l, x.ok) : decS (encS l).data.toList = (l, 0, 0) := by
  unfold encS
  rw [if_pos h0]
  unfold encE at h0
  by_cases a : 4096 < l.length
  · rw [if_pos a] at h0; simp at h0
  · rw [if_neg a] at h0
    by_cases b : l.all It.may = false
    · rw [if_pos b] at h0; simp at h0
    · rw [if_neg b] at h0
      by_cases c : 262144 < (listB l).length
      · rw [if_pos c] at h0; simp at h0
      · have hall : l.all It.may = true := by simpa using b
        show decS (listB l) = _
        unfold decS
        rw [if_neg c, decF_list l _ 0 [] (Nat.le_refl _) (by simp; omega) (by omega) (fun x hx => ⟨List.all_eq_true.1 hall x hx, hok x hx⟩)]
        rfl
/-- What is read as an item is its bytes. -/
theorem rdI_inv (l : List UInt8) (hc : (rdI l).2.2 = 0) (hl : l.length ≤ 262144) : l.take (rdI l).2.1 = (rdI l).1.b ∧ (rdI l).1.may = true ∧ (rdI l).1.ok := by
  cases l with
  | nil => simp [rdI] at hc
  | cons c r =>
    have hq : (rdN r 0 0).2.2 = 0 → _ := fun h0 => rdN_inv r 0 0 (rdN r 0 0).1 (rdN r 0 0).2.1 (by rw [hiB_zero]; rfl) (by rw [← h0])
    have hq2 : (rdN r 0 0).2.2 = 0 → _ := fun h0 => rdN_ok r 0 0 (rdN r 0 0).1 (rdN r 0 0).2.1 (by omega) (by rw [← h0])
    rw [rdI] at hc ⊢
    generalize rdN r 0 0 = Q at *
    obtain ⟨V, m, code⟩ := Q
    dsimp only at hc hq hq2 ⊢
    simp only [List.length_cons] at hl
    by_cases a : c.toNat ≠ 1 ∧ c.toNat ≠ 2
    · rw [if_pos a] at hc; simp at hc
    · rw [if_neg a] at hc ⊢
      by_cases b : code ≠ 0
      · rw [if_pos b] at hc; exact absurd hc b
      · rw [if_neg b] at hc ⊢
        obtain ⟨k1, k2, k3⟩ := hq (by simpa using b)
        obtain ⟨_, _, k4⟩ := hq2 (by simpa using b)
        have hub := unzig_lo k4
        rw [hiB_zero, List.nil_append, Nat.sub_zero] at k3
        rw [Nat.sub_zero] at k2
        have hme : (⟨#[]⟩ : ByteArray).toList.isEmpty = true := by rw [ByteArray.toList_eq]; rfl
        by_cases d : c.toNat = 1
        · rw [if_pos d]
          dsimp only
          have hc1 : c = 1 := UInt8.toNat_inj.1 d
          refine ⟨?_, ?_, hub.1, hub.2, Nat.zero_le _⟩
          · unfold It.b itemB
            rw [if_neg (by simp), zig_unzig, ← k3, hc1, Nat.add_comm, List.take_succ_cons]
          · unfold It.may mayB; rw [if_neg (by simp)]; exact hme
        · rw [if_neg d] at hc ⊢
          by_cases e : unzig V < 0 ∨ 262144 < unzig V
          · rw [if_pos e] at hc; simp at hc
          · rw [if_neg e] at hc ⊢
            by_cases f : (r.length : Int) - m < unzig V
            · rw [if_pos f] at hc; simp at hc
            · rw [if_neg f]
              dsimp only
              have hc2 : c = 2 := UInt8.toNat_inj.1 (by show c.toNat = 2; omega)
              obtain ⟨N, hN⟩ := Int.eq_ofNat_of_zero_le (by omega : 0 ≤ unzig V)
              have hV : zig (N : Int) = V := by rw [← hN, zig_unzig]
              rw [hN, Int.toNat_natCast]
              have hsz : ({ data := ((r.drop m).take N).toArray } : ByteArray).size = N := by
                show (List.toArray _).size = N
                rw [List.size_toArray, List.length_take, List.length_drop]; omega
              refine ⟨?_, ?_, (by decide : (-9223372036854775808 : Int) ≤ 0), (by decide : (0 : Int) < 9223372036854775808), ?_⟩
              · unfold It.b itemB
                dsimp only
                rw [if_pos rfl, hsz, hV, ← k3, hc2, show 1 + m + N = (m + N) + 1 by omega, List.take_succ_cons, List.take_add]
              · unfold It.may mayB; rfl
              · show ({ data := ((r.drop m).take N).toArray } : ByteArray).size ≤ _
                rw [hsz]; omega
theorem decF_inv (f : Nat) (b : List UInt8) (at_ : Nat) (acc l : List It) (hf : b.length ≤ f) (hl : b.length ≤ 262144) (hacc : acc.length ≤ 4096) (h : decF f b at_ acc = (l, 0, 0)) :
    ∃ r, l = acc ++ r ∧ listB r = b ∧ l.length ≤ 4096 ∧ ∀ x ∈ r, x.may = true ∧ x.ok := by
  induction f generalizing b at_ acc with
  | zero =>
    obtain rfl : b = [] := List.eq_nil_of_length_eq_zero (by omega)
    simp only [decF, Prod.mk.injEq] at h
    exact ⟨[], by rw [List.append_nil]; exact h.1.symm, rfl, by rw [← h.1]; exact hacc, by simp⟩
  | succ f ih =>
    rw [decF] at h
    by_cases hb : b = []
    · rw [if_pos hb] at h
      simp only [Prod.mk.injEq] at h
      exact ⟨[], by rw [List.append_nil]; exact h.1.symm, by rw [hb]; rfl, by rw [← h.1]; exact hacc, by simp⟩
    · rw [if_neg hb] at h
      by_cases hfl : acc.length = 4096
      · rw [if_pos hfl] at h; simp at h
      · rw [if_neg hfl] at h
        by_cases hc : (rdI b).2.2 ≠ 0
        · rw [if_pos hc] at h
          simp only [Prod.mk.injEq] at h
          exact absurd h.2.2 hc
        · rw [if_neg hc] at h
          have hc0 : (rdI b).2.2 = 0 := by simpa using hc
          obtain ⟨i1, i2, i3⟩ := rdI_inv b hc0 hl
          obtain ⟨m1, m2⟩ := rdI_ok b hc0
          obtain ⟨r, e1, e2, e3, e4⟩ := ih _ _ _ (by rw [List.length_drop]; omega) (by rw [List.length_drop]; omega) (by rw [List.length_append]; simp only [List.length_cons, List.length_nil]; omega) h
          refine ⟨(rdI b).1 :: r, by rw [e1, List.append_assoc]; rfl, ?_, e3, ?_⟩
          · unfold listB
            rw [List.flatMap_cons]
            show (rdI b).1.b ++ listB r = b
            rw [← i1, e2, List.take_append_drop]
          · intro x hx
            rcases List.mem_cons.1 hx with rfl | hx
            · exact ⟨i2, i3⟩
            · exact e4 x hx
/-- What is decoded is encoded. -/
theorem enc_dec (b : List UInt8) (l : List It) (h : decS b = (l, 0, 0)) : encE l = 0 ∧ (encS l).data.toList = b ∧ (∀ x ∈ l, x.ok) ∧ l.length ≤ 4096 := by
  unfold decS at h
  by_cases hb : 262144 < b.length
  · rw [if_pos hb] at h; simp at h
  · rw [if_neg hb] at h
    obtain ⟨r, e1, e2, e3, e4⟩ := decF_inv _ b 0 [] l (Nat.le_refl _) (by omega) (by simp) h
    rw [List.nil_append] at e1
    subst e1
    have he : encE l = 0 := by
      unfold encE
      rw [if_neg (by omega), if_neg (by rw [List.all_eq_true.2 (fun x hx => (e4 x hx).1)]; simp), e2, if_neg hb]
    refine ⟨he, ?_, fun x hx => (e4 x hx).2, e3⟩
    unfold encS
    rw [if_pos he]
    exact e2
end Go.Proofs.Ytiomngpfolkgpaa
namespace Go.Proofs.Ytiomngpfolkgpaa
open Go.RowKit Lk

theorem emp_list : (ByteArray.toList ⟨#[]⟩ : List UInt8) = [] := by rw [ByteArray.toList_eq]
theorem pkN_may (n : Int) : (pkN n).may = true := by
  show mayB false n ⟨#[]⟩ = true
  unfold mayB
  simp [ByteArray.toList_eq]
theorem pkT_may (b : ByteArray) : (pkT b).may = true := by
  show mayB true 0 b = true
  unfold mayB
  simp
theorem pkN_len {n : Int} (h0 : -9223372036854775808 ≤ n) (h1 : n < 9223372036854775808) : (pkN n).b.length ≤ 11 := by
  show (itemB false n ⟨#[]⟩).length ≤ 11
  unfold itemB
  have := (numB_length (u := zig n) (zig_lt h0 h1)).2
  simp
  omega
theorem pkT_len {b : ByteArray} (h : b.size ≤ 1000000) : (pkT b).b.length ≤ b.size + 11 := by
  show (itemB true 0 b).length ≤ _
  unfold itemB
  have := (numB_length (u := zig (b.size : Int)) (zig_lt (by omega) (by omega))).2
  have e : b.data.toList.length = b.size := Array.length_toList
  simp only [if_true, List.length_cons, List.length_append]
  omega
theorem listB_cons (x : It) (r : List It) : listB (x :: r) = x.b ++ listB r := by unfold listB; rw [List.flatMap_cons]
theorem dataL_len {ep n : Int} {b : ByteArray} (e0 : 0 ≤ ep) (e1 : ep ≤ 1073741824) (n0 : 0 ≤ n) (n1 : n ≤ 1073741825) (hb : b.size ≤ 70000) : (listB (dataL ep n b)).length ≤ b.size + 44 := by
  unfold dataL
  rw [listB_cons, listB_cons, listB_cons, listB_cons]
  have h1 := pkN_len (n := 0) (by decide) (by decide)
  have h2 := pkN_len (n := ep) (by omega) (by omega)
  have h3 := pkN_len (n := n) (by omega) (by omega)
  have h4 := pkT_len (b := b) (by omega)
  simp only [List.length_append]
  have h5 : (listB []).length = 0 := rfl
  omega
theorem ackL_len {ep n : Int} (e0 : 0 ≤ ep) (e1 : ep ≤ 1073741824) (n0 : 0 ≤ n) (n1 : n ≤ 1073741825) : (listB (ackL ep n)).length ≤ 33 := by
  unfold ackL
  rw [listB_cons, listB_cons, listB_cons]
  have h1 := pkN_len (n := 1) (by decide) (by decide)
  have h2 := pkN_len (n := ep) (by omega) (by omega)
  have h3 := pkN_len (n := n) (by omega) (by omega)
  simp only [List.length_append]
  have h5 : (listB []).length = 0 := rfl
  omega
theorem dataL_enc {ep n : Int} {b : ByteArray} (e0 : 0 ≤ ep) (e1 : ep ≤ 1073741824) (n0 : 0 ≤ n) (n1 : n ≤ 1073741825) (hb : b.size ≤ 70000) : encE (dataL ep n b) = 0 := by
  unfold encE
  have h := dataL_len e0 e1 n0 n1 hb
  rw [if_neg (by simp [dataL]), if_neg (by simp [dataL, pkN_may, pkT_may]), if_neg (by omega)]
theorem ackL_enc {ep n : Int} (e0 : 0 ≤ ep) (e1 : ep ≤ 1073741824) (n0 : 0 ≤ n) (n1 : n ≤ 1073741825) : encE (ackL ep n) = 0 := by
  unfold encE
  have h := ackL_len e0 e1 n0 n1
  rw [if_neg (by simp [ackL]), if_neg (by simp [ackL, pkN_may]), if_neg (by omega)]
theorem dataB_size {ep n : Int} {b : ByteArray} (e0 : 0 ≤ ep) (e1 : ep ≤ 1073741824) (n0 : 0 ≤ n) (n1 : n ≤ 1073741825) (hb : b.size ≤ 70000) : (dataB ep n b).size ≤ 70044 := by
  unfold dataB encS
  rw [if_pos (dataL_enc e0 e1 n0 n1 hb)]
  have h := dataL_len e0 e1 n0 n1 hb
  show (listB (dataL ep n b)).toArray.size ≤ _
  rw [List.size_toArray]
  omega
theorem ackB_size {ep n : Int} (e0 : 0 ≤ ep) (e1 : ep ≤ 1073741824) (n0 : 0 ≤ n) (n1 : n ≤ 1073741825) : (ackB ep n).size ≤ 33 := by
  unfold ackB encS
  rw [if_pos (ackL_enc e0 e1 n0 n1)]
  have h := ackL_len e0 e1 n0 n1
  show (listB (ackL ep n)).toArray.size ≤ _
  rw [List.size_toArray]
  omega
theorem pkN_okk {n : Int} (h0 : -9223372036854775808 ≤ n) (h1 : n < 9223372036854775808) : (pkN n).ok := ⟨h0, h1, by show (0 : Nat) ≤ 9223372036854775807; decide⟩
theorem isNum_pk {n m : Int} (h0 : 0 ≤ n) (h1 : n ≤ m) : isNum (pkN n) m = true := isNum_iff.2 ⟨rfl, h0, h1⟩
theorem isKind_pk (k : Int) : isKind (pkN k) k = true := by
  unfold isKind pkN
  simp [ByteArray.toList_eq]
/-- A data packet is read as what it says. -/
theorem lrD_data {ep n : Int} {b : ByteArray} (e0 : 0 ≤ ep) (e1 : ep ≤ 1073741824) (n0 : 0 ≤ n) (n1 : n ≤ 1073741824) (hb : b.size ≤ 60000) : lrD (dataB ep n b) = some (ep, n, b) := by
  have h := dec_enc (dataL ep n b) (dataL_enc e0 e1 n0 (by omega) (by omega)) (fun x hx => by
    unfold dataL at hx
    simp only [List.mem_cons, List.not_mem_nil, or_false] at hx
    rcases hx with rfl | rfl | rfl | rfl
    · exact pkN_okk (by decide) (by decide)
    · exact pkN_okk (by omega) (by omega)
    · exact pkN_okk (by omega) (by omega)
    · exact ⟨by show (-9223372036854775808 : Int) ≤ 0; decide, by show (0 : Int) < 9223372036854775808; decide, by show b.size ≤ _; omega⟩)
  unfold lrD dataB
  rw [h]
  dsimp only
  rw [if_pos rfl]
  have hh : headB [pkN 0, pkN ep, pkN n] 0 1073741824 = true := by
    show (isKind (pkN 0) 0 && (isNum (pkN ep) 1073741824 && isNum (pkN n) 1073741824)) = true
    rw [isKind_pk, isNum_pk e0 e1, isNum_pk n0 n1]
    rfl
  have hd : decide ((pkT b).s.size ≤ 60000) = true := decide_eq_true hb
  unfold dataL dataOf
  dsimp only
  rw [if_pos (by rw [hh, hd]; rfl)]
  rfl
/-- An acknowledgement is read as what it says. -/
theorem lrA_ack {ep n : Int} (e0 : 0 ≤ ep) (e1 : ep ≤ 1073741824) (n0 : 0 ≤ n) (n1 : n ≤ 1073741825) : lrA (ackB ep n) = some (ep, n) := by
  have h := dec_enc (ackL ep n) (ackL_enc e0 e1 n0 n1) (fun x hx => by
    unfold ackL at hx
    simp only [List.mem_cons, List.not_mem_nil, or_false] at hx
    rcases hx with rfl | rfl | rfl
    · exact pkN_okk (by decide) (by decide)
    · exact pkN_okk (by omega) (by omega)
    · exact pkN_okk (by omega) (by omega))
  unfold lrA ackB
  rw [h]
  dsimp only
  rw [if_pos rfl]
  have hh : headB [pkN 1, pkN ep, pkN n] 1 1073741825 = true := by
    show (isKind (pkN 1) 1 && (isNum (pkN ep) 1073741824 && isNum (pkN n) 1073741825)) = true
    rw [isKind_pk, isNum_pk e0 e1, isNum_pk n0 n1]
    rfl
  unfold ackL ackOf
  dsimp only
  rw [if_pos hh]
  rfl
end Go.Proofs.Ytiomngpfolkgpaa
namespace Go.Proofs.Ytiomngpfolkgpaa
open Go.RowKit

set_option maxHeartbeats 400000 in
set_option maxRecDepth 100000 in
theorem turned_any (n : Int) (w : World) (h0 : -9223372036854775808 ≤ n) (h1 : n < 9223372036854775808) :
    Calls Try.prog 56 #[.int .i64 n] w fun e w' => e = .returned (.int .u64 (zig n : Nat)) ∧ w' = w := by
  by_cases hn : n < 0
  · have e := zig_neg hn
    go_enter Try.func56, Try.ntmps56
    go_wp2
    all_goals go_ret
    all_goals exact ⟨ret_int (by omega), rfl⟩
  · have hn' : 0 ≤ n := by omega
    have e := zig_pos hn'
    go_enter Try.func56, Try.ntmps56
    go_wp2
    all_goals go_ret
    all_goals exact ⟨ret_int (by omega), rfl⟩
set_option maxHeartbeats 400000 in
set_option maxRecDepth 100000 in
theorem back_any (u : Nat) (w : World) (h1 : u < 18446744073709551616) :
    Calls Try.prog 58 #[.int .u64 (u : Int)] w fun e w' => e = .returned (.int .i64 (unzig u)) ∧ w' = w := by
  by_cases hu : u % 2 = 1
  · have hb : (((u : Int) % 2) == 1) = true := beq_iff_eq.2 (by omega)
    have e : unzig u = -((u / 2 : Nat) : Int) - 1 := by unfold unzig; rw [if_pos hu]
    go_enter Try.func58, Try.ntmps58
    go_wp2
    all_goals go_ret
    all_goals exact ⟨ret_int (by omega), rfl⟩
  · have hb : (((u : Int) % 2) == 1) = false := beq_eq_false_iff_ne.2 (by omega)
    have e : unzig u = ((u / 2 : Nat) : Int) := by unfold unzig; rw [if_neg hu]
    go_enter Try.func58, Try.ntmps58
    go_wp2
    all_goals go_ret
    all_goals exact ⟨ret_int (by omega), rfl⟩
/-- A row of one byte as a string. -/
theorem conv1 (w : World) (c : Nat) (_hc : c < 256) : (convert 99 9 (.slice (some ⟨w.heap.size, 0, none⟩) 1 1)).run Try.prog (w.alloc (.cells #[.int .u8 (c : Int)] 5)) = .ok (.string ⟨#[UInt8.ofNat c]⟩) (w.alloc (.cells #[.int .u8 (c : Int)] 5)) := by
  have := run_convert_bytes_arg (P := Try.prog) (w.alloc (.cells #[.int .u8 (c : Int)] 5)) 99 5 Try.underlying99 Try.underlying5 w.heap.size 0 1 1 [(c : Int)] rfl (fun i hi => by
    match i, hi with
    | 0, _ => simp) 9 Try.underlying9
  rw [show strOfNums [(c : Int)] = ⟨#[UInt8.ofNat c]⟩ by simp [strOfNums]] at this
  exact this
set_option maxHeartbeats 1000000 in
set_option maxRecDepth 100000 in
theorem refNumber_any (n : Int) (w : World) (h0 : -9223372036854775808 ≤ n) (h1 : n < 9223372036854775808) :
    Calls Try.prog 52 #[.int .i64 n] w fun e w' => e = .returned (.string ⟨(numB (zig n)).toArray⟩) ∧ Below w.heap.size w w' := by
  have hu : zig n < 18446744073709551616 := zig_lt h0 h1
  have ht := turned_any n w h0 h1
  have hnl := (numB_length (u := zig n) hu).2
  generalize zig n = u at *
  have HT := hide ht
  clear ht h0 h1
  obtain ⟨c, hc, ec, hd⟩ : ∃ c : Nat, c < 128 ∧ (u : Int) % 128 = (c : Int) ∧ numB u = hiB (u / 128) ++ [UInt8.ofNat c] := ⟨u % 128, by omega, by omega, rfl⟩
  have hcv := conv1 w c (by omega)
  generalize hR : numB u = R at *
  have HD := hide hd
  clear hd hR
  go_enter Try.func52, Try.ntmps52
  go_wp2_with fail
  refine (unhide HT).mono ?_
  rintro e w1 ⟨rfl, rfl⟩
  go_wp2_with fail
  go_loopw [3, 4] (fun u s wr => ∃ (U : Nat) (S : ByteArray), U < 18446744073709551616 ∧ u = .int .u64 (U : Int) ∧ s = .string S ∧ Below w1.heap.size w1 wr ∧ Hid (R = hiB U ++ S.data.toList)) (fun u _ _ => (intOf u).toNat)
  case atStart => exact ⟨u / 128, _, by omega, rfl, rfl, (Below.refl _ _).alloc (Nat.le_refl _) _, HD⟩
  case round =>
    clear hcv ec hc HD HT hu
    obtain ⟨U, S, hU, rfl, rfl, hbel, HS⟩ := hrel
    have hsz := hbel.size
    have hS : S.size ≤ 10 := by
      have := congrArg List.length (unhide HS)
      have e : S.data.toList.length = S.size := Array.length_toList
      rw [List.length_append] at this
      omega
    by_cases h0 : U = 0
    · subst h0
      go_wp2
      go_ret
      exact ⟨by rw [unhide HS, hiB_zero]; rfl, hbel⟩
    · obtain ⟨d, hd, ed, hst⟩ : ∃ d : Nat, d < 256 ∧ (U : Int) % 128 + 128 = (d : Int) ∧ hiB U = hiB (U / 128) ++ [UInt8.ofNat d] := ⟨U % 128 + 128, by omega, by omega, hiB_step h0⟩
      have hcv := conv1 wr d hd
      have hpos : (0 : Int) < (U : Int) := by omega
      have q1 : ({ data := #[UInt8.ofNat d] } : ByteArray).size + S.size ≤ 9223372036854775807 := by
        have : ({ data := #[UInt8.ofNat d] } : ByteArray).size = 1 := rfl
        omega
      have q2 : 1 + S.size ≤ 9223372036854775807 := by omega
      have HN : Hid (R = hiB (U / 128) ++ (({ data := #[UInt8.ofNat d] } : ByteArray) ++ S).data.toList) := hide (by
        rw [Joins.data_append, unhide HS, hst, List.append_assoc])
      clear hst HS h0
      go_wp2
      go_roundw
      case rel => exact ⟨U / 128, _, by omega, by go_num, rfl, hbel.alloc hsz _, HN⟩
      case measure => simp [intOf]; omega
end Go.Proofs.Ytiomngpfolkgpaa
namespace Go.Proofs.Ytiomngpfolkgpaa
open Go.RowKit

theorem BoxAt.below {k B : Nat} {t : Bool} {n : Int} {s : ByteArray} {w w' : World} (h : BoxAt k t n s w) (hb : Below B w w') (hB : k < B) : BoxAt k t n s w' := by unfold BoxAt; rw [hb.block k hB]; exact h
theorem ba_list {l : List UInt8} {b : ByteArray} (h : b.data.toList = l) : (⟨l.toArray⟩ : ByteArray) = b := by
  apply ByteArray.ext; apply Array.ext'; exact h.symm
theorem numS_size {n : Int} (h0 : -9223372036854775808 ≤ n) (h1 : n < 9223372036854775808) : (⟨(numB (zig n)).toArray⟩ : ByteArray).size ≤ 10 := by
  show (List.toArray _).size ≤ 10
  rw [List.size_toArray]
  exact (numB_length (u := zig n) (zig_lt h0 h1)).2
set_option maxHeartbeats 1000000 in
set_option maxRecDepth 100000 in
theorem refOne_num (n : Int) (s : ByteArray) (w : World) (h0 : -9223372036854775808 ≤ n) (h1 : n < 9223372036854775808) :
    Calls Try.prog 45 #[.agg #[.bool false, .int .i64 n, .string s]] w fun e w' => e = .returned (.string ⟨(itemB false n s).toArray⟩) ∧ Below w.heap.size w w' := by
  have hz := fun w => refNumber_any n w h0 h1
  have hsz := numS_size h0 h1
  rw [show (⟨(itemB false n s).toArray⟩ : ByteArray) = ⟨#[1]⟩ ++ ⟨(numB (zig n)).toArray⟩ from ba_list (by rw [Joins.data_append]; rfl)]
  generalize (⟨(numB (zig n)).toArray⟩ : ByteArray) = Z at *
  have HZ := hide hz
  have q1 : 1 + Z.size ≤ 9223372036854775807 := by omega
  have q2 : ({ data := #[1] } : ByteArray).size + Z.size ≤ 9223372036854775807 := q1
  clear hz hsz
  go_enter Try.func45, Try.ntmps45
  go_wp2_with fail
  refine (unhide HZ _).mono ?_
  rintro e w1 ⟨rfl, hb1⟩
  go_wp2
  go_ret
  exact ⟨rfl, ((Below.refl _ _).alloc (Nat.le_refl _) _).trans (hb1.mono (by simp))⟩
set_option maxHeartbeats 1000000 in
set_option maxRecDepth 100000 in
theorem refOne_text (n : Int) (s : ByteArray) (w : World) (hs : s.size ≤ 140737488351232) :
    Calls Try.prog 45 #[.agg #[.bool true, .int .i64 n, .string s]] w fun e w' => e = .returned (.string ⟨(itemB true n s).toArray⟩) ∧ Below w.heap.size w w' := by
  have hz := fun w => refNumber_any (s.size : Int) w (by omega) (by omega)
  have hsz := numS_size (n := (s.size : Int)) (by omega) (by omega)
  rw [show (⟨(itemB true n s).toArray⟩ : ByteArray) = ⟨#[2]⟩ ++ ⟨(numB (zig (s.size : Int))).toArray⟩ ++ s from ba_list (by rw [Joins.data_append, Joins.data_append]; rfl)]
  generalize (⟨(numB (zig (s.size : Int))).toArray⟩ : ByteArray) = Z at *
  have HZ := hide hz
  have q1 : 1 + Z.size ≤ 9223372036854775807 := by omega
  have q2 : ({ data := #[2] } : ByteArray).size + Z.size ≤ 9223372036854775807 := q1
  have q3 : (({ data := #[2] } : ByteArray) ++ Z).size + s.size ≤ 9223372036854775807 := by rw [ByteArray.size_append]; have : ({ data := #[2] } : ByteArray).size = 1 := rfl; omega
  have a1 : ∀ w, (Op.stringOp .add ⟨#[2]⟩ Z).run Try.prog w = .ok (.string (⟨#[2]⟩ ++ Z)) w := fun w => run_string_add_sum w _ _ q2
  have a2 : ∀ w, (Op.stringOp .add (⟨#[2]⟩ ++ Z) s).run Try.prog w = .ok (.string (⟨#[2]⟩ ++ Z ++ s)) w := fun w => run_string_add_sum w _ _ q3
  clear hz
  go_enter Try.func45, Try.ntmps45
  go_wp2_with fail
  have hblk : BoxAt w.heap.size true n s (w.alloc (.cells #[.bool true, .int .i64 n, .string s] 84)) := heap_alloc_new w _
  have hbl : Below w.heap.size w (w.alloc (.cells #[.bool true, .int .i64 n, .string s] 84)) := (Below.refl _ _).alloc (Nat.le_refl _) _
  have hsz2 : w.heap.size < (w.alloc (.cells #[.bool true, .int .i64 n, .string s] 84)).heap.size := by simp
  generalize w.alloc (.cells #[.bool true, .int .i64 n, .string s] 84) = W at *
  have hcW := hblk.cells
  go_region_held3 (fun w' => BoxAt w.heap.size true n s w' ∧ w'.cell? ⟨w.heap.size, 1, none⟩ = some (.int .i64 n) ∧ w'.cell? ⟨w.heap.size, 2, none⟩ = some (.string s)) (first | exact HoldS.of hblk | exact HoldS.of (BoxAt.below (w := W.drew) hblk hb1 hsz2))
    (first | (go_at_call 52; refine (unhide HZ _).mono ?_; rintro e w1 ⟨rfl, hb1⟩))
  go_wp2
  go_ret
  exact ⟨rfl, hbl.drew.trans (hb1.mono hbl.size)⟩
theorem refOne_any (t : Bool) (n : Int) (s : ByteArray) (w : World) (h0 : -9223372036854775808 ≤ n) (h1 : n < 9223372036854775808) (hs : s.size ≤ 140737488351232) :
    Calls Try.prog 45 #[.agg #[.bool t, .int .i64 n, .string s]] w fun e w' => e = .returned (.string ⟨(itemB t n s).toArray⟩) ∧ Below w.heap.size w w' := by
  cases t
  · exact refOne_num n s w h0 h1
  · exact refOne_text n s w hs
end Go.Proofs.Ytiomngpfolkgpaa
