/-
  Decode: any bytes are answered as the plain function has it; nothing that was there has changed.
-/
import Derived.Test.YtiomngpfolkgpaaL03
namespace Go.Proofs.Ytiomngpfolkgpaa
open Go.RowKit

theorem rdI_ok (l : List UInt8) (h : (rdI l).2.2 = 0) : 1 ≤ (rdI l).2.1 ∧ (rdI l).2.1 ≤ l.length := by
  cases l with
  | nil => simp [rdI] at h
  | cons c r =>
    have hok := fun h0 : (rdN r 0 0).2.2 = 0 => rdN_ok r 0 0 (rdN r 0 0).1 (rdN r 0 0).2.1 (by omega) (by rw [← h0])
    rw [rdI] at h ⊢
    by_cases a : c.toNat ≠ 1 ∧ c.toNat ≠ 2
    · rw [if_pos a] at h; simp at h
    · rw [if_neg a] at h ⊢
      by_cases b : (rdN r 0 0).2.2 ≠ 0
      · rw [if_pos b] at h; exact absurd h b
      · rw [if_neg b] at h ⊢
        have hk := hok (by simpa using b)
        simp only [List.length_cons]
        by_cases d : c.toNat = 1
        · rw [if_pos d]; dsimp only; omega
        · rw [if_neg d] at h ⊢
          by_cases e : unzig (rdN r 0 0).1 < 0 ∨ 262144 < unzig (rdN r 0 0).1
          · rw [if_pos e] at h; simp at h
          · rw [if_neg e] at h ⊢
            by_cases f : (r.length : Int) - (rdN r 0 0).2.1 < unzig (rdN r 0 0).1
            · rw [if_pos f] at h; simp at h
            · rw [if_neg f]; dsimp only; omega
/-- Items from a place on: they, the place and the number of what is wrong. -/
def decF : Nat → List UInt8 → Nat → List It → List It × Int × Int
  | 0, _, _, acc => (acc, 0, 0)
  | f + 1, b, at_, acc => if b = [] then (acc, 0, 0) else if acc.length = 4096 then ([], (at_ : Int), 2) else
    if (rdI b).2.2 ≠ 0 then ([], (at_ : Int), (rdI b).2.2) else decF f (b.drop (rdI b).2.1) (at_ + (rdI b).2.1) (acc ++ [(rdI b).1])
def decS (b : List UInt8) : List It × Int × Int := if 262144 < b.length then ([], 0, 2) else decF b.length b 0 []
theorem decF_nil (f at_ : Nat) (acc : List It) : decF f [] at_ acc = (acc, 0, 0) := by cases f <;> rfl
/-- Items as cells. -/
def itemC (l : List It) : List Value := l.flatMap fun x => [.bool x.t, .int .i64 x.n, .string x.s]
theorem itemC_append (a b : List It) : itemC (a ++ b) = itemC a ++ itemC b := by unfold itemC; exact List.flatMap_append
theorem info_Item : (Try.prog.info? 84).map (fun i => (i.zero, i.size, i.bytes)) = some (some (.agg #[.bool false, .int .i64 0, .string ⟨#[]⟩]), 3, 32) := by kernel_rfl
/-- A row of items of the call's own. -/
def OwnsI (B : Nat) (w : World) (v : Value) (l : List It) : Prop := w.ownsRow B 84 3 v l.length (itemC l)
theorem OwnsI.nil (B : Nat) (w : World) : OwnsI B w (.slice none 0 0) [] := World.ownsRow_nil _ _ _ _
theorem OwnsI.alloc {B : Nat} {w : World} {v : Value} {l : List It} (h : OwnsI B w v l) (o : Obj) : OwnsI B (w.alloc o) v l := World.ownsRow.alloc h o
theorem OwnsI.form {B : Nat} {w : World} {v : Value} {l : List It} (h : OwnsI B w v l) : ∃ ad cp, v = .slice ad l.length cp := by
  obtain ⟨_, ⟨rfl, h0⟩ | ⟨g, cp, cur, rfl, _⟩⟩ := h
  · exact ⟨_, _, by rw [h0]⟩
  · exact ⟨_, _, rfl⟩
theorem OwnsI.below {B B' : Nat} {w w' : World} {v : Value} {l : List It} (h : OwnsI B w v l) (hb : Below B' w w') (hB : w.heap.size ≤ B') : OwnsI B w' v l := by
  refine World.ownsRow.kept (row := none) h ⟨hb.os, hb.tape, hb.output, hb.size, fun k hk _ => hb.block k (by omega)⟩ ?_
  cases v.ownBlock
  · exact Or.inl rfl
  · exact Or.inr (by simp)
theorem OwnsI.fault {k B : Nat} {w : World} {v : Value} {l : List It} (h : OwnsI B w v l) (hf : FBox k w) (a b : Value) : OwnsI B ((w.setCell ⟨k, 0, none⟩ a).setCell ⟨k, 1, none⟩ b) v l := by
  refine World.ownsRow.kept (row := some k) h ⟨rfl, rfl, rfl, by simp, fun j hj hne => ?_⟩ ?_
  · rw [Below.heap_setCell _ _ _ _ (fun e => hne (by rw [e])), Below.heap_setCell _ _ _ _ (fun e => hne (by rw [e]))]
  · obtain ⟨_, ⟨rfl, _⟩ | ⟨g, cp, cur, rfl, _, hh, _⟩⟩ := h
    · exact Or.inl rfl
    · refine Or.inr fun e => ?_
      simp [Value.ownBlock] at e
      subst e
      unfold FBox at hf
      rw [hh] at hf
      simp at hf
set_option maxHeartbeats 2000000 in
set_option maxRecDepth 100000 in
theorem decode_any (b : ByteArray) (w : World) (hb : b.size ≤ 9223372036854775807) :
    Calls Try.prog 40 #[.string b] w fun e w' => ∃ v, e = .returned (.tuple #[v, .agg #[.int .i64 (decS b.data.toList).2.1, .int .i64 (decS b.data.toList).2.2]]) ∧ OwnsI w.heap.size w' v (decS b.data.toList).1 ∧ Below w.heap.size w w' := by
  generalize hR : decS b.data.toList = R
  have hbl : b.data.toList.length = b.size := Array.length_toList
  unfold decS at hR
  rw [hbl] at hR
  clear hbl
  by_cases hbig : 262144 < b.size
  · rw [if_pos hbig] at hR
    subst hR
    go_enter Try.func40, Try.ntmps40
    go_wp2
    refine bodyPost_ret (v := .tuple #[.slice none 0 0, .agg #[.int .i64 0, .int .i64 2]]) (by simp [results, Try.results40, go_sem]) rfl ⟨_, rfl, OwnsI.nil _ _, (Below.refl _ _).alloc (Nat.le_refl _) _⟩
  · rw [if_neg hbig] at hR
    have HR := hide hR
    clear hR
    obtain ⟨i0, hi, hz0, hz1, hz2⟩ := info_parts info_Item
    go_enter Try.func40, Try.ntmps40
    go_wp2_with fail
    go_loopw [4, 5] (fun v p wr => ∃ (j f : Nat) (acc : List It), j ≤ b.size ∧ p = .int .i64 (j : Int) ∧ OwnsI w.heap.size wr v acc ∧ Below w.heap.size w wr ∧ FBox w.heap.size wr ∧ acc.length ≤ 4096 ∧ b.size - j ≤ f ∧ Hid (decF f (b.data.toList.drop j) j acc = R)) (fun _ p _ => b.size - (intOf p).toNat)
    case atStart => exact ⟨0, b.size, [], Nat.zero_le _, rfl, OwnsI.nil _ _, (Below.refl _ _).alloc (Nat.le_refl _) _, heap_alloc_new _ _, by simp, by omega, HR⟩
    case round =>
      obtain ⟨j, f, acc, hj, rfl, hown, hbel, hfb, hacc, hf, HD⟩ := hrel
      obtain ⟨av, cv, rfl⟩ := hown.form
      have hfc := hfb.cells
      have hfl := hfb.lt
      by_cases hlt : j < b.size
      · obtain ⟨f, rfl⟩ : ∃ f', f = f' + 1 := ⟨f - 1, by omega⟩
        have hne : b.data.toList.drop j ≠ [] := fun e => by
          have := congrArg List.length e
          rw [List.length_drop, Array.length_toList] at this
          have : b.data.size = b.size := rfl
          simp at *; omega
        have hd := unhide HD
        rw [decF, if_neg hne] at hd
        clear HD hne
        by_cases hful : acc.length = 4096
        · rw [if_pos hful] at hd
          subst hd
          have hq : ((acc.length : Int) == 4096) = true := by simp; omega
          clear hful HR
          go_wp2
          exact bodyPost_ret (v := .tuple #[.slice none 0 0, .agg #[.int .i64 (j : Int), .int .i64 2]]) (by simp [results, Try.results40, go_sem, hfc]) rfl ⟨_, rfl, OwnsI.nil _ _, (hbel.setCell (Nat.le_refl _) _).setCell (Nat.le_refl _) _⟩
        · rw [if_neg hful] at hd
          have hq : ((acc.length : Int) == 4096) = false := by simp; omega
          have hfull : acc.length < 4096 := by omega
          clear hful HR
          have hri := readItem_any b j wr hlt (by omega)
          have hok := rdI_ok (b.data.toList.drop j)
          rw [List.length_drop, Array.length_toList, show b.data.size = b.size from rfl] at hok
          generalize rdI (b.data.toList.drop j) = Q at *
          obtain ⟨⟨t, n, s⟩, m, code⟩ := Q
          dsimp only at hd hri hok
          by_cases hcode : code = 0
          · subst hcode
            rw [if_neg (by simp)] at hd
            have hm := hok rfl
            clear hok
            have hri' : Calls Try.prog 46 #[.string b, .int .i64 (j : Int)] wr fun e w' => e = .returned (.tuple #[.agg #[.bool t, .int .i64 n, .string s], .int .i64 ((j + m : Nat) : Int), .int .i64 0]) ∧ Below wr.heap.size wr w' := hri
            have HC := hide hri'
            have HD := hide hd
            clear hri hri' hd
            go_wp2_with fail
            refine (unhide HC).mono ?_
            rintro e w1 ⟨rfl, hb1⟩
            have hfb1 := hfb.below hb1 hfl
            have hfl1 := hfb1.lt
            have hbel1 : Below w.heap.size w w1 := hbel.trans (hb1.mono (Nat.le_of_lt hfl))
            have hown1 := hown.below hb1 (Nat.le_refl _)
            have HFB := hide hfb1
            clear hfb hfc hown hbel hb1 hfb1
            go_wp2_with (at_builtin; refine wpList_append_own _ rfl _ _ 77 rfl w.heap.size 84 i0 (.agg #[.bool false, .int .i64 0, .string ⟨#[]⟩]) 3 32 Try.underlying77 hi hz0 hz1 hz2 rfl (by decide) _ _ _ rfl ((hown1.alloc _).alloc _) ⟨w1.heap.size + 1, 0, none⟩ 1 1 [.bool t, .int .i64 n, .string s] rfl rfl ?c1 ?c2 ?c3 ?c4 ?c5 ?_)
            case c1 =>
              intro q u hq
              match q, hq with
              | 0, hq => simp at hq; subst hq; simp [Addr.add]
              | 1, hq => simp at hq; subst hq; simp [Addr.add]
              | 2, hq => simp at hq; subst hq; simp [Addr.add]
            case c2 => intro u hu; simp at hu; rcases hu with rfl | rfl | rfl <;> rfl
            case c3 => unfold maxLen; omega
            case c4 => omega
            case c5 => simp; omega
            intro v' w2 hown2 hgrow _
            have hfr : Fr w.heap.size 84 w1 w2 := (((Fr.refl _ _ w1).alloc (Nat.le_of_lt hfl1) _).alloc (by simp; omega) _).grown ((hown1.alloc _).alloc _) hgrow (by simp; omega)
            have hfb2 : FBox w.heap.size w2 := hfr.keep (unhide HFB) (by decide)
            have hown3 : OwnsI w.heap.size w2 v' (acc ++ [⟨t, n, s⟩]) := by
              unfold OwnsI
              rw [itemC_append, List.length_append]
              exact hown2
            have hbel2 := hbel1.trans hfr.below
            clear hown2 hgrow hown1 hfr hbel1 HFB
            have HFB := hide hfb2
            clear hfb2
            rw [List.drop_drop] at HD
            go_wp2
            go_roundw
            case rel => exact ⟨j + m, f, acc ++ [⟨t, n, s⟩], by omega, by go_num, hown3, hbel2, unhide HFB, by simp; omega, by omega, HD⟩
            case measure => simp [intOf]; omega
          · rw [if_pos hcode] at hd
            subst hd
            have gc : (code != 0) = true := by rw [bne_iff_ne]; exact hcode
            have hri' : Calls Try.prog 46 #[.string b, .int .i64 (j : Int)] wr fun e w' => e = .returned (.tuple #[.agg #[.bool t, .int .i64 n, .string s], .int .i64 0, .int .i64 code]) ∧ Below wr.heap.size wr w' := by
              have e0 : riE j (⟨t, n, s⟩, m, code) = 0 := by unfold riE; rw [if_neg hcode]
              rw [e0] at hri
              exact hri
            have HC := hide hri'
            clear hri hri' hok hcode
            go_wp2_with fail
            refine (unhide HC).mono ?_
            rintro e w1 ⟨rfl, hb1⟩
            have hfb1 := hfb.below hb1 hfl
            have hfc1 := hfb1.cells
            have hfl1 := hfb1.lt
            have hbel1 : Below w.heap.size w w1 := hbel.trans (hb1.mono (Nat.le_of_lt hfl))
            clear hfb hfc hown hbel hb1
            go_wp2
            have k0 : (((w1.setCell ⟨w.heap.size, 0, none⟩ (.int .i64 (j : Int))).setCell ⟨w.heap.size, 1, none⟩ (.int .i64 code)).alloc (.cells #[.bool t, .int .i64 n, .string s] 84)).cell? ⟨w.heap.size, 0, none⟩ = some (.int .i64 (j : Int)) := by
              rw [World.cell?_alloc_past]
              · simp [go_sem, hfc1]
              · simpa using hfl1
            have k1 : (((w1.setCell ⟨w.heap.size, 0, none⟩ (.int .i64 (j : Int))).setCell ⟨w.heap.size, 1, none⟩ (.int .i64 code)).alloc (.cells #[.bool t, .int .i64 n, .string s] 84)).cell? ⟨w.heap.size, 1, none⟩ = some (.int .i64 code) := by
              rw [World.cell?_alloc_past]
              · simp [go_sem, hfc1]
              · simpa using hfl1
            exact bodyPost_ret (v := .tuple #[.slice none 0 0, .agg #[.int .i64 (j : Int), .int .i64 code]]) (by simp [results, Try.results40, go_sem, k0, k1]) rfl ⟨_, rfl, OwnsI.nil _ _, ((hbel1.setCell (Nat.le_refl _) _).setCell (Nat.le_refl _) _).alloc (by simp; omega) _⟩
      · have hd := unhide HD
        rw [List.drop_of_length_le (by simp; omega), decF_nil] at hd
        subst hd
        clear HD HR
        go_wp2
        exact bodyPost_ret (v := .tuple #[.slice av acc.length cv, .agg #[.int .i64 0, .int .i64 0]]) (by simp [results, Try.results40, go_sem, hfc]) rfl ⟨_, rfl, hown.fault hfb _ _, (hbel.setCell (Nat.le_refl _) _).setCell (Nat.le_refl _) _⟩
end Go.Proofs.Ytiomngpfolkgpaa
