/-
  Decode: any bytes are answered as the plain function has it; nothing that was there has changed.
  Plain facts: what is encoded is decoded as the list; what is decoded is encoded as just those bytes.
-/
import Derived.Test.YtdmckgcbmbhmmaaGreatDoorRw05
namespace Go.Proofs.YtdmckgcbmbhmmaaGreatDoor
open Go.RowKit

theorem rdI_ok (l : List UInt8) (h : (rdI l).2.2 = 0) : 1 ≤ (rdI l).2.1 ∧ (rdI l).2.1 ≤ l.length := by
  cases l with
  | nil => simp [rdI] at h
  | cons c r =>
    have hok := fun h0 : (rdN r 0 0).2.2 = 0 => rdN_ok r 0 0 (rdN r 0 0).1 (rdN r 0 0).2.1 (by omega) (by rw [← h0])
    rw [rdI] at h ⊢
    by_cases a : c.toNat ≠ 1 ∧ c.toNat ≠ 2
    · rw [if_pos a] at h; simp at h
    · rw [if_neg a] at h ⊢
      by_cases b : (rdN r 0 0).2.2 ≠ 0
      · rw [if_pos b] at h; exact absurd h b
      · rw [if_neg b] at h ⊢
        have hk := hok (by simpa using b)
        simp only [List.length_cons]
        by_cases d : c.toNat = 1
        · rw [if_pos d]; dsimp only; omega
        · rw [if_neg d] at h ⊢
          by_cases e : unzig (rdN r 0 0).1 < 0 ∨ 262144 < unzig (rdN r 0 0).1
          · rw [if_pos e] at h; simp at h
          · rw [if_neg e] at h ⊢
            by_cases f : (r.length : Int) - (rdN r 0 0).2.1 < unzig (rdN r 0 0).1
            · rw [if_pos f] at h; simp at h
            · rw [if_neg f]; dsimp only; omega
/-- Items from a place on: they, the place and the number of what is wrong. -/
def decF : Nat → List UInt8 → Nat → List It → List It × Int × Int
  | 0, _, _, acc => (acc, 0, 0)
  | f + 1, b, at_, acc => if b = [] then (acc, 0, 0) else if acc.length = 4096 then ([], (at_ : Int), 2) else
    if (rdI b).2.2 ≠ 0 then ([], (at_ : Int), (rdI b).2.2) else decF f (b.drop (rdI b).2.1) (at_ + (rdI b).2.1) (acc ++ [(rdI b).1])
def decS (b : List UInt8) : List It × Int × Int := if 262144 < b.length then ([], 0, 2) else decF b.length b 0 []
theorem decF_nil (f at_ : Nat) (acc : List It) : decF f [] at_ acc = (acc, 0, 0) := by cases f <;> rfl
/-- Items as cells. -/
def itemC (l : List It) : List Value := l.flatMap fun x => [.bool x.t, .int .i64 x.n, .string x.s]
theorem itemC_append (a b : List It) : itemC (a ++ b) = itemC a ++ itemC b := by unfold itemC; exact List.flatMap_append
theorem info_Item : (Tryz.prog.info? 118).map (fun i => (i.zero, i.size, i.bytes)) = some (some (.agg #[.bool false, .int .i64 0, .string ⟨#[]⟩]), 3, 32) := by kernel_rfl
/-- A row of items of the call's own. -/
def OwnsI (B : Nat) (w : World) (v : Value) (l : List It) : Prop := w.ownsRow B 118 3 v l.length (itemC l)
theorem OwnsI.nil (B : Nat) (w : World) : OwnsI B w (.slice none 0 0) [] := World.ownsRow_nil _ _ _ _
theorem OwnsI.alloc {B : Nat} {w : World} {v : Value} {l : List It} (h : OwnsI B w v l) (o : Obj) : OwnsI B (w.alloc o) v l := World.ownsRow.alloc h o
theorem OwnsI.form {B : Nat} {w : World} {v : Value} {l : List It} (h : OwnsI B w v l) : ∃ ad cp, v = .slice ad l.length cp := by
  obtain ⟨_, ⟨rfl, h0⟩ | ⟨g, cp, cur, rfl, _⟩⟩ := h
  · exact ⟨_, _, by rw [h0]⟩
  · exact ⟨_, _, rfl⟩
theorem OwnsI.below {B B' : Nat} {w w' : World} {v : Value} {l : List It} (h : OwnsI B w v l) (hb : Below B' w w') (hB : w.heap.size ≤ B') : OwnsI B w' v l := by
  refine World.ownsRow.kept (row := none) h ⟨hb.os, hb.tape, hb.output, hb.size, fun k hk _ => hb.block k (by omega)⟩ ?_
  cases v.ownBlock
  · exact Or.inl rfl
  · exact Or.inr (by simp)
theorem OwnsI.fault {k B : Nat} {w : World} {v : Value} {l : List It} (h : OwnsI B w v l) (hf : FBox k w) (a b : Value) : OwnsI B ((w.setCell ⟨k, 0, none⟩ a).setCell ⟨k, 1, none⟩ b) v l := by
  refine World.ownsRow.kept (row := some k) h ⟨rfl, rfl, rfl, by simp, fun j hj hne => ?_⟩ ?_
  · rw [Below.heap_setCell _ _ _ _ (fun e => hne (by rw [e])), Below.heap_setCell _ _ _ _ (fun e => hne (by rw [e]))]
  · obtain ⟨_, ⟨rfl, _⟩ | ⟨g, cp, cur, rfl, _, hh, _⟩⟩ := h
    · exact Or.inl rfl
    · refine Or.inr fun e => ?_
      simp [Value.ownBlock] at e
      subst e
      unfold FBox at hf
      rw [hh] at hf
      simp at hf
set_option maxHeartbeats 2000000 in
set_option maxRecDepth 100000 in
theorem decode_any (b : ByteArray) (w : World) (hb : b.size ≤ 9223372036854775807) :
    Calls Tryz.prog 88 #[.string b] w fun e w' => ∃ v, e = .returned (.tuple #[v, .agg #[.int .i64 (decS b.data.toList).2.1, .int .i64 (decS b.data.toList).2.2]]) ∧ OwnsI w.heap.size w' v (decS b.data.toList).1 ∧ Below w.heap.size w w' := by
  generalize hR : decS b.data.toList = R
  have hbl : b.data.toList.length = b.size := Array.length_toList
  unfold decS at hR
  rw [hbl] at hR
  clear hbl
  by_cases hbig : 262144 < b.size
  · rw [if_pos hbig] at hR
    subst hR
    go_enter Tryz.func88, Tryz.ntmps88
    go_wp2
    refine bodyPost_ret (v := .tuple #[.slice none 0 0, .agg #[.int .i64 0, .int .i64 2]]) (by simp [results, Tryz.results88, go_sem]) rfl ⟨_, rfl, OwnsI.nil _ _, (Below.refl _ _).alloc (Nat.le_refl _) _⟩
  · rw [if_neg hbig] at hR
    have HR := hide hR
    clear hR
    obtain ⟨i0, hi, hz0, hz1, hz2⟩ := info_parts info_Item
    go_enter Tryz.func88, Tryz.ntmps88
    go_wp2_with fail
    go_loopw [4, 5] (fun v p wr => ∃ (j f : Nat) (acc : List It), j ≤ b.size ∧ p = .int .i64 (j : Int) ∧ OwnsI w.heap.size wr v acc ∧ Below w.heap.size w wr ∧ FBox w.heap.size wr ∧ acc.length ≤ 4096 ∧ b.size - j ≤ f ∧ Hid (decF f (b.data.toList.drop j) j acc = R)) (fun _ p _ => b.size - (intOf p).toNat)
    case atStart => exact ⟨0, b.size, [], Nat.zero_le _, rfl, OwnsI.nil _ _, (Below.refl _ _).alloc (Nat.le_refl _) _, heap_alloc_new _ _, by simp, by omega, HR⟩
    case round =>
      obtain ⟨j, f, acc, hj, rfl, hown, hbel, hfb, hacc, hf, HD⟩ := hrel
      obtain ⟨av, cv, rfl⟩ := hown.form
      have hfc := hfb.cells
      have hfl := hfb.lt
      by_cases hlt : j < b.size
      · obtain ⟨f, rfl⟩ : ∃ f', f = f' + 1 := ⟨f - 1, by omega⟩
        have hne : b.data.toList.drop j ≠ [] := fun e => by
          have := congrArg List.length e
          rw [List.length_drop, Array.length_toList] at this
          have : b.data.size = b.size := rfl
          simp at *; omega
        have hd := unhide HD
        rw [decF, if_neg hne] at hd
        clear HD hne
        by_cases hful : acc.length = 4096
        · rw [if_pos hful] at hd
          subst hd
          have hq : ((acc.length : Int) == 4096) = true := by simp; omega
          clear hful HR
          go_wp2
          exact bodyPost_ret (v := .tuple #[.slice none 0 0, .agg #[.int .i64 (j : Int), .int .i64 2]]) (by simp [results, Tryz.results88, go_sem, hfc]) rfl ⟨_, rfl, OwnsI.nil _ _, (hbel.setCell (Nat.le_refl _) _).setCell (Nat.le_refl _) _⟩
        · rw [if_neg hful] at hd
          have hq : ((acc.length : Int) == 4096) = false := by simp; omega
          have hfull : acc.length < 4096 := by omega
          clear hful HR
          have hri := readItem_any b j wr hlt (by omega)
          have hok := rdI_ok (b.data.toList.drop j)
          rw [List.length_drop, Array.length_toList, show b.data.size = b.size from rfl] at hok
          generalize rdI (b.data.toList.drop j) = Q at *
          obtain ⟨⟨t, n, s⟩, m, code⟩ := Q
          dsimp only at hd hri hok
          by_cases hcode : code = 0
          · subst hcode
            rw [if_neg (by simp)] at hd
            have hm := hok rfl
            clear hok
            have hri' : Calls Tryz.prog 109 #[.string b, .int .i64 (j : Int)] wr fun e w' => e = .returned (.tuple #[.agg #[.bool t, .int .i64 n, .string s], .int .i64 ((j + m : Nat) : Int), .int .i64 0]) ∧ Below wr.heap.size wr w' := hri
            have HC := hide hri'
            have HD := hide hd
            clear hri hri' hd
            go_wp2_with fail
            refine (unhide HC).mono ?_
            rintro e w1 ⟨rfl, hb1⟩
            have hfb1 := hfb.below hb1 hfl
            have hfl1 := hfb1.lt
            have hbel1 : Below w.heap.size w w1 := hbel.trans (hb1.mono (Nat.le_of_lt hfl))
            have hown1 := hown.below hb1 (Nat.le_refl _)
            have HFB := hide hfb1
            clear hfb hfc hown hbel hb1 hfb1
            go_wp2_with (at_builtin; refine wpList_append_own _ rfl _ _ 119 rfl w.heap.size 118 i0 (.agg #[.bool false, .int .i64 0, .string ⟨#[]⟩]) 3 32 Tryz.underlying119 hi hz0 hz1 hz2 rfl (by decide) _ _ _ rfl ((hown1.alloc _).alloc _) ⟨w1.heap.size + 1, 0, none⟩ 1 1 [.bool t, .int .i64 n, .string s] rfl rfl ?c1 ?c2 ?c3 ?c4 ?c5 ?_)
            case c1 =>
              intro q u hq
              match q, hq with
              | 0, hq => simp at hq; subst hq; simp [Addr.add]
              | 1, hq => simp at hq; subst hq; simp [Addr.add]
              | 2, hq => simp at hq; subst hq; simp [Addr.add]
            case c2 => intro u hu; simp at hu; rcases hu with rfl | rfl | rfl <;> rfl
            case c3 => unfold maxLen; omega
            case c4 => omega
            case c5 => simp; omega
            intro v' w2 hown2 hgrow _
            have hfr : Fr w.heap.size 118 w1 w2 := (((Fr.refl _ _ w1).alloc (Nat.le_of_lt hfl1) _).alloc (by simp; omega) _).grown ((hown1.alloc _).alloc _) hgrow (by simp; omega)
            have hfb2 : FBox w.heap.size w2 := hfr.keep (unhide HFB) (by decide)
            have hown3 : OwnsI w.heap.size w2 v' (acc ++ [⟨t, n, s⟩]) := by
              unfold OwnsI
              rw [itemC_append, List.length_append]
              exact hown2
            have hbel2 := hbel1.trans hfr.below
            clear hown2 hgrow hown1 hfr hbel1 HFB
            have HFB := hide hfb2
            clear hfb2
            rw [List.drop_drop] at HD
            go_wp2
            go_roundw
            case rel => exact ⟨j + m, f, acc ++ [⟨t, n, s⟩], by omega, by go_num, hown3, hbel2, unhide HFB, by simp; omega, by omega, HD⟩
            case measure => simp [intOf]; omega
          · rw [if_pos hcode] at hd
            subst hd
            have gc : (code != 0) = true := by rw [bne_iff_ne]; exact hcode
            have hri' : Calls Tryz.prog 109 #[.string b, .int .i64 (j : Int)] wr fun e w' => e = .returned (.tuple #[.agg #[.bool t, .int .i64 n, .string s], .int .i64 0, .int .i64 code]) ∧ Below wr.heap.size wr w' := by
              have e0 : riE j (⟨t, n, s⟩, m, code) = 0 := by unfold riE; rw [if_neg hcode]
              rw [e0] at hri
              exact hri
            have HC := hide hri'
            clear hri hri' hok hcode
            go_wp2_with fail
            refine (unhide HC).mono ?_
            rintro e w1 ⟨rfl, hb1⟩
            have hfb1 := hfb.below hb1 hfl
            have hfc1 := hfb1.cells
            have hfl1 := hfb1.lt
            have hbel1 : Below w.heap.size w w1 := hbel.trans (hb1.mono (Nat.le_of_lt hfl))
            clear hfb hfc hown hbel hb1
            go_wp2
            have k0 : (((w1.setCell ⟨w.heap.size, 0, none⟩ (.int .i64 (j : Int))).setCell ⟨w.heap.size, 1, none⟩ (.int .i64 code)).alloc (.cells #[.bool t, .int .i64 n, .string s] 118)).cell? ⟨w.heap.size, 0, none⟩ = some (.int .i64 (j : Int)) := by
              rw [World.cell?_alloc_past]
              · simp [go_sem, hfc1]
              · simpa using hfl1
            have k1 : (((w1.setCell ⟨w.heap.size, 0, none⟩ (.int .i64 (j : Int))).setCell ⟨w.heap.size, 1, none⟩ (.int .i64 code)).alloc (.cells #[.bool t, .int .i64 n, .string s] 118)).cell? ⟨w.heap.size, 1, none⟩ = some (.int .i64 code) := by
              rw [World.cell?_alloc_past]
              · simp [go_sem, hfc1]
              · simpa using hfl1
            exact bodyPost_ret (v := .tuple #[.slice none 0 0, .agg #[.int .i64 (j : Int), .int .i64 code]]) (by simp [results, Tryz.results88, go_sem, k0, k1]) rfl ⟨_, rfl, OwnsI.nil _ _, ((hbel1.setCell (Nat.le_refl _) _).setCell (Nat.le_refl _) _).alloc (by simp; omega) _⟩
      · have hd := unhide HD
        rw [List.drop_of_length_le (by simp; omega), decF_nil] at hd
        subst hd
        clear HD HR
        go_wp2
        exact bodyPost_ret (v := .tuple #[.slice av acc.length cv, .agg #[.int .i64 0, .int .i64 0]]) (by simp [results, Tryz.results88, go_sem, hfc]) rfl ⟨_, rfl, hown.fault hfb _ _, (hbel.setCell (Nat.le_refl _) _).setCell (Nat.le_refl _) _⟩
end Go.Proofs.YtdmckgcbmbhmmaaGreatDoor
namespace Go.Proofs.YtdmckgcbmbhmmaaGreatDoor

theorem u8_ofNat (C : Nat) (h : C < 256) : (UInt8.ofNat C).toNat = C := by rw [UInt8.toNat_ofNat']; omega
/-- The bytes ahead of the last one are read. -/
theorem rdN_hi (v : Nat) (r : List UInt8) (hv : v < 144115188075855872) : rdN (hiB v ++ r) 0 0 = rdN r v (hiB v).length := by
  induction v using Nat.strongRecOn generalizing r with
  | ind v ih =>
    by_cases h0 : v = 0
    · subst h0; rw [hiB_zero]; rfl
    · rw [hiB_step h0, List.append_assoc, ih (v / 128) (by omega) _ (by omega), List.singleton_append, rdN]
      have hc : (UInt8.ofNat (v % 128 + 128)).toNat = v % 128 + 128 := u8_ofNat _ (by omega)
      have hk : (hiB (v / 128)).length = 0 → v / 128 = 0 := fun h => by
        by_cases hz : v / 128 = 0
        · exact hz
        · rw [hiB_step hz] at h; simp at h
      have hnb : ¬ (((hiB (v / 128)).length = 0 ∧ v % 128 + 128 = 128) ∨ 144115188075855872 ≤ v / 128) := by
        rintro (⟨a, b⟩ | a)
        · have := hk a; omega
        · omega
      rw [hc, if_neg hnb, if_neg (by omega), List.length_append]
      congr 1
      omega
theorem rdN_numB (u : Nat) (r : List UInt8) (hu : u < 18446744073709551616) : rdN (numB u ++ r) 0 0 = (u, (numB u).length, 0) := by
  unfold numB
  rw [List.append_assoc, rdN_hi _ _ (by omega), List.singleton_append, rdN]
  have hc : (UInt8.ofNat (u % 128)).toNat = u % 128 := u8_ofNat _ (by omega)
  rw [hc, if_neg (by rintro (⟨_, b⟩ | a) <;> omega), if_pos (by omega), List.length_append]
  refine Prod.ext ?_ rfl
  show u / 128 * 128 + u % 128 % 128 = u
  omega
/-- What is read as a number is its bytes. -/
theorem rdN_inv (l : List UInt8) (U k V m : Nat) (hk : k = (hiB U).length) (h : rdN l U k = (V, m, 0)) : k < m ∧ m - k ≤ l.length ∧ hiB U ++ l.take (m - k) = numB V := by
  induction l generalizing U k with
  | nil => simp [rdN] at h
  | cons c r ih =>
    rw [rdN] at h
    have hc := c.toNat_lt
    split at h
    · simp at h
    · rename_i hbad
      split at h
      · rename_i hlow
        simp only [Prod.mk.injEq] at h
        obtain ⟨rfl, rfl, _⟩ := h
        refine ⟨by omega, by simp only [List.length_cons]; omega, ?_⟩
        rw [show k + 1 - k = 1 by omega]
        unfold numB
        rw [show (U * 128 + c.toNat % 128) / 128 = U by omega, show (U * 128 + c.toNat % 128) % 128 = c.toNat by omega]
        simp
      · rename_i hhi
        have hne : U * 128 + c.toNat % 128 ≠ 0 := fun e => by
          have hU : U = 0 := by omega
          refine hbad (Or.inl ⟨?_, by omega⟩)
          rw [hk, hU, hiB_zero]; rfl
        have hst : hiB (U * 128 + c.toNat % 128) = hiB U ++ [c] := by
          rw [hiB_step hne, show (U * 128 + c.toNat % 128) / 128 = U by omega, show (U * 128 + c.toNat % 128) % 128 + 128 = c.toNat by omega]
          simp
        obtain ⟨a, b, d⟩ := ih _ _ (by rw [hst, List.length_append, ← hk]; rfl) h
        refine ⟨by omega, by simp only [List.length_cons]; omega, ?_⟩
        rw [hst] at d
        rw [show m - k = (m - (k + 1)) + 1 by omega, List.take_succ_cons, ← d]
        simp
theorem ba_eta (s : ByteArray) : ({ data := s.data.toList.toArray } : ByteArray) = s := rfl
/-- An item's bytes are read as it. -/
theorem rdI_b (x : It) (r : List UInt8) (hm : x.may = true) (hok : x.ok) (hs : x.s.size ≤ 262144) : rdI (x.b ++ r) = (x, x.b.length, 0) := by
  obtain ⟨t, n, s⟩ := x
  obtain ⟨h0, h1, _⟩ := hok
  dsimp only at h0 h1 hs
  unfold It.may mayB at hm
  unfold It.b itemB
  cases t
  · rw [if_neg (by simp)] at hm ⊢
    have hse : s = ⟨#[]⟩ := by
      have e : s.data.toList = [] := by rw [← ByteArray.toList_eq]; simpa using hm
      rw [← ba_eta s, e]
    subst hse
    rw [List.cons_append, rdI, rdN_numB _ _ (zig_lt h0 h1)]
    dsimp only
    rw [if_neg (by decide), if_neg (by simp), if_pos (by decide), unzig_zig]
    simp only [List.length_cons, Nat.add_comm]
  · rw [if_pos rfl] at hm ⊢
    have hn : n = 0 := by simpa using hm
    subst hn
    have hz : unzig (zig (s.size : Int)) = (s.size : Int) := unzig_zig _
    rw [List.cons_append, List.append_assoc, rdI, rdN_numB _ _ (zig_lt (by omega) (by omega))]
    dsimp only
    have hlen : s.data.toList.length = s.size := Array.length_toList
    rw [if_neg (by decide), if_neg (by simp), if_neg (by decide), hz, if_neg (by omega), if_neg (by rw [List.length_append, List.length_append, hlen]; omega), List.drop_left, Int.toNat_natCast, ← hlen, List.take_left, ba_eta]
    rw [List.length_cons, List.length_append, hlen]
    refine Prod.ext rfl (Prod.ext ?_ rfl)
    dsimp only
    omega
theorem It.b_pos (x : It) : 1 ≤ x.b.length := by unfold It.b itemB; split <;> simp
theorem decF_list (l : List It) (f at_ : Nat) (acc : List It) (hf : (listB l).length ≤ f) (hn : acc.length + l.length ≤ 4096) (hl : (listB l).length ≤ 262144) (h : ∀ x ∈ l, x.may = true ∧ x.ok) : decF f (listB l) at_ acc = (acc ++ l, 0, 0) := by
  induction l generalizing f at_ acc with
  | nil => rw [show listB [] = [] from rfl, decF_nil, List.append_nil]
  | cons x r ih =>
    have hb : listB (x :: r) = x.b ++ listB r := by unfold listB; rw [List.flatMap_cons]
    have hp := x.b_pos
    obtain ⟨hm, hok⟩ := h x (List.mem_cons_self)
    have hs := It.b_ge x hm
    rw [hb, List.length_append] at hf hl
    obtain ⟨f, rfl⟩ : ∃ g, f = g + 1 := ⟨f - 1, by omega⟩
    simp only [List.length_cons] at hn
    rw [hb, decF, if_neg (fun e => by rw [(List.append_eq_nil_iff.1 e).1] at hp; simp at hp), if_neg (by omega), rdI_b x _ hm hok (by omega)]
    dsimp only
    rw [if_neg (by simp), List.drop_left, ih _ _ _ (by omega) (by rw [List.length_append]; simp only [List.length_cons, List.length_nil]; omega) (by omega) (fun y hy => h y (List.mem_cons_of_mem _ hy)), List.append_assoc]
    rfl
/-- What is encoded is decoded. -/
theorem dec_enc (l : List It) (h0 : encE l = 0) (hok : ∀ x ∈ l, x.ok) : decS (encS l).data.toList = (l, 0, 0) := by
  unfold encS
  rw [if_pos h0]
  unfold encE at h0
  by_cases a : 4096 < l.length
  · rw [if_pos a] at h0; simp at h0
  · rw [if_neg a] at h0
    by_cases b : l.all It.may = false
    · rw [if_pos b] at h0; simp at h0
    · rw [if_neg b] at h0
      by_cases c : 262144 < (listB l).length
      · rw [if_pos c] at h0; simp at h0
      · have hall : l.all It.may = true := by simpa using b
        show decS (listB l) = _
        unfold decS
        rw [if_neg c, decF_list l _ 0 [] (Nat.le_refl _) (by simp; omega) (by omega) (fun x hx => ⟨List.all_eq_true.1 hall x hx, hok x hx⟩)]
        rfl
/-- What is read as an item is its bytes. -/
theorem rdI_inv (l : List UInt8) (hc : (rdI l).2.2 = 0) (hl : l.length ≤ 262144) : l.take (rdI l).2.1 = (rdI l).1.b ∧ (rdI l).1.may = true ∧ (rdI l).1.ok := by
  cases l with
  | nil => simp [rdI] at hc
  | cons c r =>
    have hq : (rdN r 0 0).2.2 = 0 → _ := fun h0 => rdN_inv r 0 0 (rdN r 0 0).1 (rdN r 0 0).2.1 (by rw [hiB_zero]; rfl) (by rw [← h0])
    have hq2 : (rdN r 0 0).2.2 = 0 → _ := fun h0 => rdN_ok r 0 0 (rdN r 0 0).1 (rdN r 0 0).2.1 (by omega) (by rw [← h0])
    rw [rdI] at hc ⊢
    generalize rdN r 0 0 = Q at *
    obtain ⟨V, m, code⟩ := Q
    dsimp only at hc hq hq2 ⊢
    simp only [List.length_cons] at hl
    by_cases a : c.toNat ≠ 1 ∧ c.toNat ≠ 2
    · rw [if_pos a] at hc; simp at hc
    · rw [if_neg a] at hc ⊢
      by_cases b : code ≠ 0
      · rw [if_pos b] at hc; exact absurd hc b
      · rw [if_neg b] at hc ⊢
        obtain ⟨k1, k2, k3⟩ := hq (by simpa using b)
        obtain ⟨_, _, k4⟩ := hq2 (by simpa using b)
        have hub := unzig_lo k4
        rw [hiB_zero, List.nil_append, Nat.sub_zero] at k3
        rw [Nat.sub_zero] at k2
        have hme : (⟨#[]⟩ : ByteArray).toList.isEmpty = true := by rw [ByteArray.toList_eq]; rfl
        by_cases d : c.toNat = 1
        · rw [if_pos d]
          dsimp only
          have hc1 : c = 1 := UInt8.toNat_inj.1 d
          refine ⟨?_, ?_, hub.1, hub.2, Nat.zero_le _⟩
          · unfold It.b itemB
            rw [if_neg (by simp), zig_unzig, ← k3, hc1, Nat.add_comm, List.take_succ_cons]
          · unfold It.may mayB; rw [if_neg (by simp)]; exact hme
        · rw [if_neg d] at hc ⊢
          by_cases e : unzig V < 0 ∨ 262144 < unzig V
          · rw [if_pos e] at hc; simp at hc
          · rw [if_neg e] at hc ⊢
            by_cases f : (r.length : Int) - m < unzig V
            · rw [if_pos f] at hc; simp at hc
            · rw [if_neg f]
              dsimp only
              have hc2 : c = 2 := UInt8.toNat_inj.1 (by show c.toNat = 2; omega)
              obtain ⟨N, hN⟩ := Int.eq_ofNat_of_zero_le (by omega : 0 ≤ unzig V)
              have hV : zig (N : Int) = V := by rw [← hN, zig_unzig]
              rw [hN, Int.toNat_natCast]
              have hsz : ({ data := ((r.drop m).take N).toArray } : ByteArray).size = N := by
                show (List.toArray _).size = N
                rw [List.size_toArray, List.length_take, List.length_drop]; omega
              refine ⟨?_, ?_, (by decide : (-9223372036854775808 : Int) ≤ 0), (by decide : (0 : Int) < 9223372036854775808), ?_⟩
              · unfold It.b itemB
                dsimp only
                rw [if_pos rfl, hsz, hV, ← k3, hc2, show 1 + m + N = (m + N) + 1 by omega, List.take_succ_cons, List.take_add]
              · unfold It.may mayB; rfl
              · show ({ data := ((r.drop m).take N).toArray } : ByteArray).size ≤ _
                rw [hsz]; omega
theorem decF_inv (f : Nat) (b : List UInt8) (at_ : Nat) (acc l : List It) (hf : b.length ≤ f) (hl : b.length ≤ 262144) (hacc : acc.length ≤ 4096) (h : decF f b at_ acc = (l, 0, 0)) :
    ∃ r, l = acc ++ r ∧ listB r = b ∧ l.length ≤ 4096 ∧ ∀ x ∈ r, x.may = true ∧ x.ok := by
  induction f generalizing b at_ acc with
  | zero =>
    obtain rfl : b = [] := List.eq_nil_of_length_eq_zero (by omega)
    simp only [decF, Prod.mk.injEq] at h
    exact ⟨[], by rw [List.append_nil]; exact h.1.symm, rfl, by rw [← h.1]; exact hacc, by simp⟩
  | succ f ih =>
    rw [decF] at h
    by_cases hb : b = []
    · rw [if_pos hb] at h
      simp only [Prod.mk.injEq] at h
      exact ⟨[], by rw [List.append_nil]; exact h.1.symm, by rw [hb]; rfl, by rw [← h.1]; exact hacc, by simp⟩
    · rw [if_neg hb] at h
      by_cases hfl : acc.length = 4096
      · rw [if_pos hfl] at h; simp at h
      · rw [if_neg hfl] at h
        by_cases hc : (rdI b).2.2 ≠ 0
        · rw [if_pos hc] at h
          simp only [Prod.mk.injEq] at h
          exact absurd h.2.2 hc
        · rw [if_neg hc] at h
          have hc0 : (rdI b).2.2 = 0 := by simpa using hc
          obtain ⟨i1, i2, i3⟩ := rdI_inv b hc0 hl
          obtain ⟨m1, m2⟩ := rdI_ok b hc0
          obtain ⟨r, e1, e2, e3, e4⟩ := ih _ _ _ (by rw [List.length_drop]; omega) (by rw [List.length_drop]; omega) (by rw [List.length_append]; simp only [List.length_cons, List.length_nil]; omega) h
          refine ⟨(rdI b).1 :: r, by rw [e1, List.append_assoc]; rfl, ?_, e3, ?_⟩
          · unfold listB
            rw [List.flatMap_cons]
            show (rdI b).1.b ++ listB r = b
            rw [← i1, e2, List.take_append_drop]
          · intro x hx
            rcases List.mem_cons.1 hx with rfl | hx
            · exact ⟨i2, i3⟩
            · exact e4 x hx
/-- What is decoded is encoded. -/
theorem enc_dec (b : List UInt8) (l : List It) (h : decS b = (l, 0, 0)) : encE l = 0 ∧ (encS l).data.toList = b ∧ (∀ x ∈ l, x.ok) ∧ l.length ≤ 4096 := by
  unfold decS at h
  by_cases hb : 262144 < b.length
  · rw [if_pos hb] at h; simp at h
  · rw [if_neg hb] at h
    obtain ⟨r, e1, e2, e3, e4⟩ := decF_inv _ b 0 [] l (Nat.le_refl _) (by omega) (by simp) h
    rw [List.nil_append] at e1
    subst e1
    have he : encE l = 0 := by
      unfold encE
      rw [if_neg (by omega), if_neg (by rw [List.all_eq_true.2 (fun x hx => (e4 x hx).1)]; simp), e2, if_neg hb]
    refine ⟨he, ?_, fun x hx => (e4 x hx).2, e3⟩
    unfold encS
    rw [if_pos he]
    exact e2
end Go.Proofs.YtdmckgcbmbhmmaaGreatDoor
