/-
  readItem: an item is read from a place on as the plain function has it.
  The cell of a Fault.
-/
import Derived.Test.YtpfcoaimciojjaaG10
import Derived.Test.YtpfcoaimciojjaaG09
namespace Go.Proofs.Ytpfcoaimciojjaa
open Go.RowKit

theorem rdN_ok (l : List UInt8) (u k V m : Nat) (hu : u < 18446744073709551616) (h : rdN l u k = (V, m, 0)) : k < m ∧ m - k ≤ l.length ∧ V < 18446744073709551616 := by
  induction l generalizing u k with
  | nil => simp [rdN] at h
  | cons c r ih =>
    rw [rdN] at h
    split at h
    · simp at h
    · split at h
      · simp only [Prod.mk.injEq] at h
        simp only [List.length_cons]
        omega
      · have := ih _ _ (by omega) h
        simp only [List.length_cons]
        omega
theorem ext_take (b : ByteArray) (E N : Nat) : b.extract E (E + N) = ⟨((b.data.toList.drop E).take N).toArray⟩ := by
  apply ByteArray.ext
  apply Array.ext'
  rw [ByteArray.data_extract, Array.toList_extract, List.extract_eq_take_drop, Nat.add_sub_cancel_left]
def It.zero : It := ⟨false, 0, ⟨#[]⟩⟩
/-- An item at the beginning of bytes: it, how many bytes it has, what is wrong. -/
def rdI : List UInt8 → It × Nat × Int
  | [] => (It.zero, 0, 11)
  | c :: r => if c.toNat ≠ 1 ∧ c.toNat ≠ 2 then (It.zero, 0, 3) else
    if (rdN r 0 0).2.2 ≠ 0 then (It.zero, 0, (rdN r 0 0).2.2) else
    if c.toNat = 1 then (⟨false, unzig (rdN r 0 0).1, ⟨#[]⟩⟩, 1 + (rdN r 0 0).2.1, 0) else
    if unzig (rdN r 0 0).1 < 0 ∨ 262144 < unzig (rdN r 0 0).1 then (It.zero, 0, 3) else
    if (r.length : Int) - (rdN r 0 0).2.1 < unzig (rdN r 0 0).1 then (It.zero, 0, 11) else
    (⟨true, 0, ⟨((r.drop (rdN r 0 0).2.1).take (unzig (rdN r 0 0).1).toNat).toArray⟩⟩, 1 + (rdN r 0 0).2.1 + (unzig (rdN r 0 0).1).toNat, 0)
def It.v (x : It) : Value := .agg #[.bool x.t, .int .i64 x.n, .string x.s]
def riE (at_ : Nat) (q : It × Nat × Int) : Int := if q.2.2 = 0 then ((at_ + q.2.1 : Nat) : Int) else 0
set_option maxHeartbeats 2000000 in
theorem readItem_any (b : ByteArray) (at_ : Nat) (w : World) (hat : at_ < b.size) (hb : b.size ≤ 140737488351232) :
    Calls Try.prog 58 #[.string b, .int .i64 (at_ : Int)] w fun e w' =>
      e = .returned (.tuple #[(rdI (b.data.toList.drop at_)).1.v, .int .i64 (riE at_ (rdI (b.data.toList.drop at_))), .int .i64 (rdI (b.data.toList.drop at_)).2.2]) ∧ Below w.heap.size w w' := by
  have hd := drop_get b at_ hat
  generalize hQ : rdI (b.data.toList.drop at_) = Q
  rw [hd, rdI] at hQ
  clear hd
  have hc : (b[at_]).toNat < 256 := (b[at_]).toNat_lt
  by_cases h12 : (b[at_]).toNat ≠ 1 ∧ (b[at_]).toNat ≠ 2
  · rw [if_pos h12] at hQ
    subst hQ
    obtain ⟨q1, q2⟩ := h12
    have g1 : (((b[at_]).toNat : Int) != 1) = true := by rw [bne_iff_ne]; omega
    have g2 : (((b[at_]).toNat : Int) != 2) = true := by rw [bne_iff_ne]; omega
    clear q1 q2
    go_enter Try.func58, Try.ntmps58
    go_wp2
    exact bodyPost_ret (v := .tuple #[It.zero.v, .int .i64 0, .int .i64 3]) (by simp [results, Try.results58, go_sem, It.zero, It.v]) rfl ⟨rfl, (Below.refl _ _).alloc (Nat.le_refl _) _⟩
  · rw [if_neg h12] at hQ
    have hn := fun w => readNumber_any b (at_ + 1) w (by omega) hb
    generalize hR : rdN (b.data.toList.drop (at_ + 1)) 0 0 = R at *
    have hrl : (b.data.toList.drop (at_ + 1)).length = b.size - (at_ + 1) := by rw [List.length_drop, Array.length_toList]; rfl
    obtain ⟨V, m, code⟩ := R
    dsimp only at hQ hn
    have HN := hide hn
    clear hn
    have e1 : (((at_ + 1 : Nat)) : Int) = (at_ : Int) + 1 := by omega
    by_cases hcode : code = 0
    · subst hcode
      obtain ⟨_, k2, k3⟩ := rdN_ok _ 0 0 V m (by omega) hR
      clear hR
      rw [if_neg (by simp)] at hQ
      have hN := fun w => unhide HN w
      simp only [rnV, rnE, if_true, e1] at hN
      have hub := unzig_lo k3
      generalize hnV : unzig V = n at *
      clear hnV k3
      have hE : at_ + 1 + m ≤ b.size := by omega
      generalize hEe : at_ + 1 + m = E at *
      have HN2 := hide hN
      clear HN hN e1
      by_cases g : (b[at_]).toNat = 1
      · rw [if_pos g] at hQ
        subst hQ
        have g1 : (((b[at_]).toNat : Int) != 1) = false := by simp; omega
        have g1' : (((b[at_]).toNat : Int) == 1) = true := by simp; omega
        have hz : riE at_ (⟨false, n, ⟨#[]⟩⟩, 1 + m, 0) = (E : Int) := by unfold riE; rw [if_pos rfl]; dsimp only; omega
        have HZ := hide hz
        clear g h12 hz hrl hEe k2
        go_enter Try.func58, Try.ntmps58
        go_wp2_with fail
        refine (unhide HN2 _).mono ?_
        rintro e w1 ⟨rfl, rfl⟩
        go_wp2
        exact bodyPost_ret (v := .tuple #[It.v ⟨false, n, ⟨#[]⟩⟩, .int .i64 (E : Int), .int .i64 0]) (by simp [results, Try.results58, go_sem, It.v]) rfl ⟨by rw [unhide HZ], (Below.refl _ _).alloc (Nat.le_refl _) _⟩
      · rw [if_neg g] at hQ
        have g1 : (((b[at_]).toNat : Int) != 1) = true := by rw [bne_iff_ne]; omega
        have g1' : (((b[at_]).toNat : Int) == 1) = false := by simp; omega
        have g2 : (((b[at_]).toNat : Int) != 2) = false := by simp; omega
        clear g h12
        by_cases hr : n < 0 ∨ 262144 < n
        · rw [if_pos hr] at hQ
          subst hQ
          have hz : riE at_ (It.zero, 0, 3) = 0 := rfl
          have HZ := hide hz
          clear hz hrl hEe k2
          rcases Int.lt_or_le n 0 with hn0 | hn0
          · clear hr
            go_enter Try.func58, Try.ntmps58
            go_wp2_with fail
            refine (unhide HN2 _).mono ?_
            rintro e w1 ⟨rfl, rfl⟩
            go_wp2
            all_goals exact bodyPost_ret (v := .tuple #[It.zero.v, .int .i64 0, .int .i64 3]) (by simp [results, Try.results58, go_sem, It.zero, It.v]) rfl ⟨by rw [unhide HZ], (Below.refl _ _).alloc (Nat.le_refl _) _⟩
          · have hn1 : 262144 < n := by omega
            clear hr
            go_enter Try.func58, Try.ntmps58
            go_wp2_with fail
            refine (unhide HN2 _).mono ?_
            rintro e w1 ⟨rfl, rfl⟩
            go_wp2
            all_goals exact bodyPost_ret (v := .tuple #[It.zero.v, .int .i64 0, .int .i64 3]) (by simp [results, Try.results58, go_sem, It.zero, It.v]) rfl ⟨by rw [unhide HZ], (Below.refl _ _).alloc (Nat.le_refl _) _⟩
        · rw [if_neg hr] at hQ
          have hn0 : 0 ≤ n := by omega
          have hn1 : n ≤ 262144 := by omega
          clear hr
          rw [hrl] at hQ
          by_cases hshort : (b.size : Int) < (E : Int) + n
          · rw [if_pos (by omega)] at hQ
            subst hQ
            have hz : riE at_ (It.zero, 0, 11) = 0 := rfl
            have HZ := hide hz
            clear hz hrl hEe k2
            go_enter Try.func58, Try.ntmps58
            go_wp2_with fail
            refine (unhide HN2 _).mono ?_
            rintro e w1 ⟨rfl, rfl⟩
            go_wp2
            all_goals exact bodyPost_ret (v := .tuple #[It.zero.v, .int .i64 0, .int .i64 11]) (by simp [results, Try.results58, go_sem, It.zero, It.v]) rfl ⟨by rw [unhide HZ], (Below.refl _ _).alloc (Nat.le_refl _) _⟩
          · rw [if_neg (by omega)] at hQ
            obtain ⟨N, rfl⟩ := Int.eq_ofNat_of_zero_le hn0
            have HQ := hide hQ
            have HE := hide hEe
            clear hQ hEe hrl k2
            go_enter Try.func58, Try.ntmps58
            go_wp2_with fail
            refine (unhide HN2 _).mono ?_
            rintro e w1 ⟨rfl, rfl⟩
            go_wp2_with fail
            refine (clone_any (b.extract E (E + N)) _ (by rw [ByteArray.size_extract]; omega)).mono ?_
            rintro e w2 ⟨rfl, hb2⟩
            have hsz2 : w.heap.size < w2.heap.size := by have := hb2.size; simp at this; omega
            have q0 : w2.cell? ⟨w.heap.size, 0, none⟩ = some (.bool false) := by rw [hb2.cell (by simp)]; simp
            have q1 : w2.cell? ⟨w.heap.size, 1, none⟩ = some (.int .i64 0) := by rw [hb2.cell (by simp)]; simp
            have q2 : w2.cell? ⟨w.heap.size, 2, none⟩ = some (.string ⟨#[]⟩) := by rw [hb2.cell (by simp)]; simp
            have f0 : w2.frozen? ⟨w.heap.size, 0, none⟩ = false := by rw [hb2.frozen (by simp)]; simp
            have f1 : w2.frozen? ⟨w.heap.size, 1, none⟩ = false := by rw [hb2.frozen (by simp)]; simp
            have f2 : w2.frozen? ⟨w.heap.size, 2, none⟩ = false := by rw [hb2.frozen (by simp)]; simp
            have hbel : Below w.heap.size w w2 := ((Below.refl _ _).alloc (Nat.le_refl _) _).trans (hb2.mono (by simp))
            have HBel := hide hbel
            clear hbel hb2
            have heq : It.v Q.1 = .agg #[.bool true, .int .i64 0, .string (b.extract E (E + N))] ∧ riE at_ Q = (E : Int) + (N : Int) ∧ Q.2.2 = 0 := by
              rw [← unhide HQ, Int.toNat_natCast]
              refine ⟨?_, ?_, rfl⟩
              · unfold It.v
                dsimp only
                rw [ext_take, List.drop_drop, unhide HE]
              · unfold riE; rw [if_pos rfl]; dsimp only; have := unhide HE; omega
            have HEQ := hide heq
            clear heq
            go_wp2
            exact bodyPost_ret (v := .tuple #[.agg #[.bool true, .int .i64 0, .string (b.extract E (E + N))], .int .i64 ((E : Int) + (N : Int)), .int .i64 0]) (by simp [results, Try.results58, go_sem, q0, q1, q2]) rfl
              ⟨by rw [(unhide HEQ).1, (unhide HEQ).2.1, (unhide HEQ).2.2], (((unhide HBel).setCell (Nat.le_refl _) _).setCell (Nat.le_refl _) _).setCell (Nat.le_refl _) _⟩
    · clear hR
      rw [if_pos hcode] at hQ
      subst hQ
      have gc : (code != 0) = true := by rw [bne_iff_ne]; exact hcode
      have hz : riE at_ (It.zero, 0, code) = 0 := by unfold riE; rw [if_neg hcode]
      have hN := fun w => unhide HN w
      simp only [rnV, rnE, if_neg hcode, e1] at hN
      have HN2 := hide hN
      have HZ := hide hz
      clear HN hN hz hcode e1 hrl
      by_cases g : (b[at_]).toNat = 1
      · have g1 : (((b[at_]).toNat : Int) != 1) = false := by simp; omega
        clear g h12
        go_enter Try.func58, Try.ntmps58
        go_wp2_with fail
        refine (unhide HN2 _).mono ?_
        rintro e w1 ⟨rfl, rfl⟩
        go_wp2
        exact bodyPost_ret (v := .tuple #[It.zero.v, .int .i64 0, .int .i64 code]) (by simp [results, Try.results58, go_sem, It.zero, It.v]) rfl ⟨by rw [unhide HZ], (Below.refl _ _).alloc (Nat.le_refl _) _⟩
      · have g1 : (((b[at_]).toNat : Int) != 1) = true := by rw [bne_iff_ne]; omega
        have g2 : (((b[at_]).toNat : Int) != 2) = false := by simp; omega
        clear g h12
        go_enter Try.func58, Try.ntmps58
        go_wp2_with fail
        refine (unhide HN2 _).mono ?_
        rintro e w1 ⟨rfl, rfl⟩
        go_wp2
        exact bodyPost_ret (v := .tuple #[It.zero.v, .int .i64 0, .int .i64 code]) (by simp [results, Try.results58, go_sem, It.zero, It.v]) rfl ⟨by rw [unhide HZ], (Below.refl _ _).alloc (Nat.le_refl _) _⟩
end Go.Proofs.Ytpfcoaimciojjaa
namespace Go.Proofs.Ytpfcoaimciojjaa
open Go.RowKit

/-- The answer's fault lies there. -/
def FBox (k : Nat) (w : World) : Prop := w.heap[k]? = some (.cells #[.int .i64 0, .int .i64 0] 57 (0, 0))
theorem FBox.cells {k : Nat} {w : World} (h : FBox k w) : w.cell? ⟨k, 0, none⟩ = some (.int .i64 0) ∧ w.cell? ⟨k, 1, none⟩ = some (.int .i64 0) ∧ w.frozen? ⟨k, 0, none⟩ = false ∧ w.frozen? ⟨k, 1, none⟩ = false := by
  unfold FBox at h
  simp [World.cell?, World.frozen?, h]
theorem FBox.lt {k : Nat} {w : World} (h : FBox k w) : k < w.heap.size := by
  unfold FBox at h
  rcases Nat.lt_or_ge k w.heap.size with h1 | h1
  · exact h1
  · rw [Array.getElem?_eq_none h1] at h; cases h
theorem FBox.below {k B : Nat} {w w' : World} (h : FBox k w) (hb : Below B w w') (hB : k < B) : FBox k w' := by unfold FBox; rw [hb.block k hB]; exact h
end Go.Proofs.Ytpfcoaimciojjaa
