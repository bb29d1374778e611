/-
  Decode: any bytes are answered as the plain function has it; nothing that was there has changed.
  What a row of items of the call's own reads as.
  The document's answer for numbers (turned, back, Number) is the plain functions'.
  The document's answer for an item (One) is the plain function's.
-/
import Derived.Test.YtpfcoaimciojjaaG11
import Derived.Test.YtpfcoaimciojjaaChecked
import Derived.Test.YtpfcoaimciojjaaG01
import Derived.Test.YtpfcoaimciojjaaG08
import Derived.WalkLawsBesides
import Derived.Lib.SmallJoins
import Derived.Test.YtpfcoaimciojjaaG10
namespace Go.Proofs.Ytpfcoaimciojjaa
open Go.RowKit

theorem rdI_ok (l : List UInt8) (h : (rdI l).2.2 = 0) : 1 ≤ (rdI l).2.1 ∧ (rdI l).2.1 ≤ l.length := by
  cases l with
  | nil => simp [rdI] at h
  | cons c r =>
    have hok := fun h0 : (rdN r 0 0).2.2 = 0 => rdN_ok r 0 0 (rdN r 0 0).1 (rdN r 0 0).2.1 (by omega) (by rw [← h0])
    rw [rdI] at h ⊢
    by_cases a : c.toNat ≠ 1 ∧ c.toNat ≠ 2
    · rw [if_pos a] at h; simp at h
    · rw [if_neg a] at h ⊢
      by_cases b : (rdN r 0 0).2.2 ≠ 0
      · rw [if_pos b] at h; exact absurd h b
      · rw [if_neg b] at h ⊢
        have hk := hok (by simpa using b)
        simp only [List.length_cons]
        by_cases d : c.toNat = 1
        · rw [if_pos d]; dsimp only; omega
        · rw [if_neg d] at h ⊢
          by_cases e : unzig (rdN r 0 0).1 < 0 ∨ 262144 < unzig (rdN r 0 0).1
          · rw [if_pos e] at h; simp at h
          · rw [if_neg e] at h ⊢
            by_cases f : (r.length : Int) - (rdN r 0 0).2.1 < unzig (rdN r 0 0).1
            · rw [if_pos f] at h; simp at h
            · rw [if_neg f]; dsimp only; omega
/-- Items from a place on: they, the place and the number of what is wrong. -/
def decF : Nat → List UInt8 → Nat → List It → List It × Int × Int
  | 0, _, _, acc => (acc, 0, 0)
  | f + 1, b, at_, acc => if b = [] then (acc, 0, 0) else if acc.length = 4096 then ([], (at_ : Int), 2) else
    if (rdI b).2.2 ≠ 0 then ([], (at_ : Int), (rdI b).2.2) else decF f (b.drop (rdI b).2.1) (at_ + (rdI b).2.1) (acc ++ [(rdI b).1])
def decS (b : List UInt8) : List It × Int × Int := if 262144 < b.length then ([], 0, 2) else decF b.length b 0 []
theorem decF_nil (f at_ : Nat) (acc : List It) : decF f [] at_ acc = (acc, 0, 0) := by cases f <;> rfl
/-- Items as cells. -/
def itemC (l : List It) : List Value := l.flatMap fun x => [.bool x.t, .int .i64 x.n, .string x.s]
theorem itemC_append (a b : List It) : itemC (a ++ b) = itemC a ++ itemC b := by unfold itemC; exact List.flatMap_append
theorem info_Item : (Try.prog.info? 47).map (fun i => (i.zero, i.size, i.bytes)) = some (some (.agg #[.bool false, .int .i64 0, .string ⟨#[]⟩]), 3, 32) := by kernel_rfl
/-- A row of items of the call's own. -/
def OwnsI (B : Nat) (w : World) (v : Value) (l : List It) : Prop := w.ownsRow B 47 3 v l.length (itemC l)
theorem OwnsI.nil (B : Nat) (w : World) : OwnsI B w (.slice none 0 0) [] := World.ownsRow_nil _ _ _ _
theorem OwnsI.alloc {B : Nat} {w : World} {v : Value} {l : List It} (h : OwnsI B w v l) (o : Obj) : OwnsI B (w.alloc o) v l := World.ownsRow.alloc h o
theorem OwnsI.form {B : Nat} {w : World} {v : Value} {l : List It} (h : OwnsI B w v l) : ∃ ad cp, v = .slice ad l.length cp := by
  obtain ⟨_, ⟨rfl, h0⟩ | ⟨g, cp, cur, rfl, _⟩⟩ := h
  · exact ⟨_, _, by rw [h0]⟩
  · exact ⟨_, _, rfl⟩
theorem OwnsI.below {B B' : Nat} {w w' : World} {v : Value} {l : List It} (h : OwnsI B w v l) (hb : Below B' w w') (hB : w.heap.size ≤ B') : OwnsI B w' v l := by
  refine World.ownsRow.kept (row := none) h ⟨hb.os, hb.tape, hb.output, hb.size, fun k hk _ => hb.block k (by omega)⟩ ?_
  cases v.ownBlock
  · exact Or.inl rfl
  · exact Or.inr (by simp)
theorem OwnsI.fault {k B : Nat} {w : World} {v : Value} {l : List It} (h : OwnsI B w v l) (hf : FBox k w) (a b : Value) : OwnsI B ((w.setCell ⟨k, 0, none⟩ a).setCell ⟨k, 1, none⟩ b) v l := by
  refine World.ownsRow.kept (row := some k) h ⟨rfl, rfl, rfl, by simp, fun j hj hne => ?_⟩ ?_
  · rw [Below.heap_setCell _ _ _ _ (fun e => hne (by rw [e])), Below.heap_setCell _ _ _ _ (fun e => hne (by rw [e]))]
  · obtain ⟨_, ⟨rfl, _⟩ | ⟨g, cp, cur, rfl, _, hh, _⟩⟩ := h
    · exact Or.inl rfl
    · refine Or.inr fun e => ?_
      simp [Value.ownBlock] at e
      subst e
      unfold FBox at hf
      rw [hh] at hf
      simp at hf
set_option maxHeartbeats 2000000 in
set_option maxRecDepth 100000 in
theorem decode_any (b : ByteArray) (w : World) (hb : b.size ≤ 9223372036854775807) :
    Calls Try.prog 44 #[.string b] w fun e w' => ∃ v, e = .returned (.tuple #[v, .agg #[.int .i64 (decS b.data.toList).2.1, .int .i64 (decS b.data.toList).2.2]]) ∧ OwnsI w.heap.size w' v (decS b.data.toList).1 ∧ Below w.heap.size w w' := by
  generalize hR : decS b.data.toList = R
  have hbl : b.data.toList.length = b.size := Array.length_toList
  unfold decS at hR
  rw [hbl] at hR
  clear hbl
  by_cases hbig : 262144 < b.size
  · rw [if_pos hbig] at hR
    subst hR
    go_enter Try.func44, Try.ntmps44
    go_wp2
    refine bodyPost_ret (v := .tuple #[.slice none 0 0, .agg #[.int .i64 0, .int .i64 2]]) (by simp [results, Try.results44, go_sem]) rfl ⟨_, rfl, OwnsI.nil _ _, (Below.refl _ _).alloc (Nat.le_refl _) _⟩
  · rw [if_neg hbig] at hR
    have HR := hide hR
    clear hR
    obtain ⟨i0, hi, hz0, hz1, hz2⟩ := info_parts info_Item
    go_enter Try.func44, Try.ntmps44
    go_wp2_with fail
    go_loopw [4, 5] (fun v p wr => ∃ (j f : Nat) (acc : List It), j ≤ b.size ∧ p = .int .i64 (j : Int) ∧ OwnsI w.heap.size wr v acc ∧ Below w.heap.size w wr ∧ FBox w.heap.size wr ∧ acc.length ≤ 4096 ∧ b.size - j ≤ f ∧ Hid (decF f (b.data.toList.drop j) j acc = R)) (fun _ p _ => b.size - (intOf p).toNat)
    case atStart => exact ⟨0, b.size, [], Nat.zero_le _, rfl, OwnsI.nil _ _, (Below.refl _ _).alloc (Nat.le_refl _) _, heap_alloc_new _ _, by simp, by omega, HR⟩
    case round =>
      obtain ⟨j, f, acc, hj, rfl, hown, hbel, hfb, hacc, hf, HD⟩ := hrel
      obtain ⟨av, cv, rfl⟩ := hown.form
      have hfc := hfb.cells
      have hfl := hfb.lt
      by_cases hlt : j < b.size
      · obtain ⟨f, rfl⟩ : ∃ f', f = f' + 1 := ⟨f - 1, by omega⟩
        have hne : b.data.toList.drop j ≠ [] := fun e => by
          have := congrArg List.length e
          rw [List.length_drop, Array.length_toList] at this
          have : b.data.size = b.size := rfl
          simp at *; omega
        have hd := unhide HD
        rw [decF, if_neg hne] at hd
        clear HD hne
        by_cases hful : acc.length = 4096
        · rw [if_pos hful] at hd
          subst hd
          have hq : ((acc.length : Int) == 4096) = true := by simp; omega
          clear hful HR
          go_wp2
          exact bodyPost_ret (v := .tuple #[.slice none 0 0, .agg #[.int .i64 (j : Int), .int .i64 2]]) (by simp [results, Try.results44, go_sem, hfc]) rfl ⟨_, rfl, OwnsI.nil _ _, (hbel.setCell (Nat.le_refl _) _).setCell (Nat.le_refl _) _⟩
        · rw [if_neg hful] at hd
          have hq : ((acc.length : Int) == 4096) = false := by simp; omega
          have hfull : acc.length < 4096 := by omega
          clear hful HR
          have hri := readItem_any b j wr hlt (by omega)
          have hok := rdI_ok (b.data.toList.drop j)
          rw [List.length_drop, Array.length_toList, show b.data.size = b.size from rfl] at hok
          generalize rdI (b.data.toList.drop j) = Q at *
          obtain ⟨⟨t, n, s⟩, m, code⟩ := Q
          dsimp only at hd hri hok
          by_cases hcode : code = 0
          · subst hcode
            rw [if_neg (by simp)] at hd
            have hm := hok rfl
            clear hok
            have hri' : Calls Try.prog 58 #[.string b, .int .i64 (j : Int)] wr fun e w' => e = .returned (.tuple #[.agg #[.bool t, .int .i64 n, .string s], .int .i64 ((j + m : Nat) : Int), .int .i64 0]) ∧ Below wr.heap.size wr w' := hri
            have HC := hide hri'
            have HD := hide hd
            clear hri hri' hd
            go_wp2_with fail
            refine (unhide HC).mono ?_
            rintro e w1 ⟨rfl, hb1⟩
            have hfb1 := hfb.below hb1 hfl
            have hfl1 := hfb1.lt
            have hbel1 : Below w.heap.size w w1 := hbel.trans (hb1.mono (Nat.le_of_lt hfl))
            have hown1 := hown.below hb1 (Nat.le_refl _)
            have HFB := hide hfb1
            clear hfb hfc hown hbel hb1 hfb1
            go_wp2_with (at_builtin; refine wpList_append_own _ rfl _ _ 49 rfl w.heap.size 47 i0 (.agg #[.bool false, .int .i64 0, .string ⟨#[]⟩]) 3 32 Try.underlying49 hi hz0 hz1 hz2 rfl (by decide) _ _ _ rfl ((hown1.alloc _).alloc _) ⟨w1.heap.size + 1, 0, none⟩ 1 1 [.bool t, .int .i64 n, .string s] rfl rfl ?c1 ?c2 ?c3 ?c4 ?c5 ?_)
            case c1 =>
              intro q u hq
              match q, hq with
              | 0, hq => simp at hq; subst hq; simp [Addr.add]
              | 1, hq => simp at hq; subst hq; simp [Addr.add]
              | 2, hq => simp at hq; subst hq; simp [Addr.add]
            case c2 => intro u hu; simp at hu; rcases hu with rfl | rfl | rfl <;> rfl
            case c3 => unfold maxLen; omega
            case c4 => omega
            case c5 => simp; omega
            intro v' w2 hown2 hgrow _
            have hfr : Fr w.heap.size 47 w1 w2 := (((Fr.refl _ _ w1).alloc (Nat.le_of_lt hfl1) _).alloc (by simp; omega) _).grown ((hown1.alloc _).alloc _) hgrow (by simp; omega)
            have hfb2 : FBox w.heap.size w2 := hfr.keep (unhide HFB) (by decide)
            have hown3 : OwnsI w.heap.size w2 v' (acc ++ [⟨t, n, s⟩]) := by
              unfold OwnsI
              rw [itemC_append, List.length_append]
              exact hown2
            have hbel2 := hbel1.trans hfr.below
            clear hown2 hgrow hown1 hfr hbel1 HFB
            have HFB := hide hfb2
            clear hfb2
            rw [List.drop_drop] at HD
            go_wp2
            go_roundw
            case rel => exact ⟨j + m, f, acc ++ [⟨t, n, s⟩], by omega, by go_num, hown3, hbel2, unhide HFB, by simp; omega, by omega, HD⟩
            case measure => simp [intOf]; omega
          · rw [if_pos hcode] at hd
            subst hd
            have gc : (code != 0) = true := by rw [bne_iff_ne]; exact hcode
            have hri' : Calls Try.prog 58 #[.string b, .int .i64 (j : Int)] wr fun e w' => e = .returned (.tuple #[.agg #[.bool t, .int .i64 n, .string s], .int .i64 0, .int .i64 code]) ∧ Below wr.heap.size wr w' := by
              have e0 : riE j (⟨t, n, s⟩, m, code) = 0 := by unfold riE; rw [if_neg hcode]
              rw [e0] at hri
              exact hri
            have HC := hide hri'
            clear hri hri' hok hcode
            go_wp2_with fail
            refine (unhide HC).mono ?_
            rintro e w1 ⟨rfl, hb1⟩
            have hfb1 := hfb.below hb1 hfl
            have hfc1 := hfb1.cells
            have hfl1 := hfb1.lt
            have hbel1 : Below w.heap.size w w1 := hbel.trans (hb1.mono (Nat.le_of_lt hfl))
            clear hfb hfc hown hbel hb1
            go_wp2
            have k0 : (((w1.setCell ⟨w.heap.size, 0, none⟩ (.int .i64 (j : Int))).setCell ⟨w.heap.size, 1, none⟩ (.int .i64 code)).alloc (.cells #[.bool t, .int .i64 n, .string s] 47)).cell? ⟨w.heap.size, 0, none⟩ = some (.int .i64 (j : Int)) := by
              rw [World.cell?_alloc_past]
              · simp [go_sem, hfc1]
              · simpa using hfl1
            have k1 : (((w1.setCell ⟨w.heap.size, 0, none⟩ (.int .i64 (j : Int))).setCell ⟨w.heap.size, 1, none⟩ (.int .i64 code)).alloc (.cells #[.bool t, .int .i64 n, .string s] 47)).cell? ⟨w.heap.size, 1, none⟩ = some (.int .i64 code) := by
              rw [World.cell?_alloc_past]
              · simp [go_sem, hfc1]
              · simpa using hfl1
            exact bodyPost_ret (v := .tuple #[.slice none 0 0, .agg #[.int .i64 (j : Int), .int .i64 code]]) (by simp [results, Try.results44, go_sem, k0, k1]) rfl ⟨_, rfl, OwnsI.nil _ _, ((hbel1.setCell (Nat.le_refl _) _).setCell (Nat.le_refl _) _).alloc (by simp; omega) _⟩
      · have hd := unhide HD
        rw [List.drop_of_length_le (by simp; omega), decF_nil] at hd
        subst hd
        clear HD HR
        go_wp2
        exact bodyPost_ret (v := .tuple #[.slice av acc.length cv, .agg #[.int .i64 0, .int .i64 0]]) (by simp [results, Try.results44, go_sem, hfc]) rfl ⟨_, rfl, hown.fault hfb _ _, (hbel.setCell (Nat.le_refl _) _).setCell (Nat.le_refl _) _⟩
end Go.Proofs.Ytpfcoaimciojjaa
namespace Go.Proofs.Ytpfcoaimciojjaa
open Go.RowKit

theorem itemC_get (l : List It) (i : Nat) (h : i < l.length) : (itemC l)[i * 3]? = some (.bool l[i].t) ∧ (itemC l)[i * 3 + 1]? = some (.int .i64 l[i].n) ∧ (itemC l)[i * 3 + 2]? = some (.string l[i].s) := by
  induction l generalizing i with
  | nil => simp at h
  | cons x r ih =>
    have e : itemC (x :: r) = [.bool x.t, .int .i64 x.n, .string x.s] ++ itemC r := by unfold itemC; rw [List.flatMap_cons]
    cases i with
    | zero => rw [e]; simp
    | succ i =>
      have hi : i < r.length := by simpa using h
      obtain ⟨a, b, c⟩ := ih i hi
      rw [e]
      simp only [List.getElem_cons_succ]
      refine ⟨?_, ?_, ?_⟩
      · rw [List.getElem?_append_right (by simp; omega)]; rw [← a]; congr 1; simp; omega
      · rw [List.getElem?_append_right (by simp; omega)]; rw [← b]; congr 1; simp; omega
      · rw [List.getElem?_append_right (by simp; omega)]; rw [← c]; congr 1; simp; omega
theorem OwnsI.items {B : Nat} {w : World} {v : Value} {l : List It} (h : OwnsI B w v l) : ∃ ad cp, v = .slice ad l.length cp ∧ ItemsAt w ad l := by
  obtain ⟨_, ⟨rfl, h0⟩ | ⟨g, cp, cur, rfl, r⟩⟩ := id h
  · refine ⟨none, 0, by rw [h0], fun hne => ?_⟩
    exact absurd (List.eq_nil_of_length_eq_zero h0) hne
  · have hl := World.ownsRow.lt h g rfl
    refine ⟨_, _, rfl, fun _ => ⟨g, 0, rfl, hl.2, fun i hi => ?_⟩⟩
    obtain ⟨a, b, c⟩ := itemC_get l i hi
    simp only [Nat.zero_add]
    refine ⟨?_, ?_, ?_⟩
    · rw [World.ownsRow.cellAt h (i * 3) (by omega)]; exact a
    · rw [World.ownsRow.cellAt h (i * 3 + 1) (by omega)]; exact b
    · rw [World.ownsRow.cellAt h (i * 3 + 2) (by omega)]; exact c
end Go.Proofs.Ytpfcoaimciojjaa
namespace Go.Proofs.Ytpfcoaimciojjaa
open Go.RowKit

set_option maxHeartbeats 400000 in
set_option maxRecDepth 100000 in
theorem turned_any (n : Int) (w : World) (h0 : -9223372036854775808 ≤ n) (h1 : n < 9223372036854775808) :
    Calls Try.prog 69 #[.int .i64 n] w fun e w' => e = .returned (.int .u64 (zig n : Nat)) ∧ w' = w := by
  by_cases hn : n < 0
  · have e := zig_neg hn
    go_enter Try.func69, Try.ntmps69
    go_wp2
    all_goals go_ret
    all_goals exact ⟨ret_int (by omega), rfl⟩
  · have hn' : 0 ≤ n := by omega
    have e := zig_pos hn'
    go_enter Try.func69, Try.ntmps69
    go_wp2
    all_goals go_ret
    all_goals exact ⟨ret_int (by omega), rfl⟩
set_option maxHeartbeats 400000 in
set_option maxRecDepth 100000 in
theorem back_any (u : Nat) (w : World) (h1 : u < 18446744073709551616) :
    Calls Try.prog 67 #[.int .u64 (u : Int)] w fun e w' => e = .returned (.int .i64 (unzig u)) ∧ w' = w := by
  by_cases hu : u % 2 = 1
  · have hb : (((u : Int) % 2) == 1) = true := beq_iff_eq.2 (by omega)
    have e : unzig u = -((u / 2 : Nat) : Int) - 1 := by unfold unzig; rw [if_pos hu]
    go_enter Try.func67, Try.ntmps67
    go_wp2
    all_goals go_ret
    all_goals exact ⟨ret_int (by omega), rfl⟩
  · have hb : (((u : Int) % 2) == 1) = false := beq_eq_false_iff_ne.2 (by omega)
    have e : unzig u = ((u / 2 : Nat) : Int) := by unfold unzig; rw [if_neg hu]
    go_enter Try.func67, Try.ntmps67
    go_wp2
    all_goals go_ret
    all_goals exact ⟨ret_int (by omega), rfl⟩
/-- A row of one byte as a string. -/
theorem conv1 (w : World) (c : Nat) (_hc : c < 256) : (convert 74 9 (.slice (some ⟨w.heap.size, 0, none⟩) 1 1)).run Try.prog (w.alloc (.cells #[.int .u8 (c : Int)] 5)) = .ok (.string ⟨#[UInt8.ofNat c]⟩) (w.alloc (.cells #[.int .u8 (c : Int)] 5)) := by
  have := run_convert_bytes_arg (P := Try.prog) (w.alloc (.cells #[.int .u8 (c : Int)] 5)) 74 5 Try.underlying74 Try.underlying5 w.heap.size 0 1 1 [(c : Int)] rfl (fun i hi => by
    match i, hi with
    | 0, _ => simp) 9 Try.underlying9
  rw [show strOfNums [(c : Int)] = ⟨#[UInt8.ofNat c]⟩ by simp [strOfNums]] at this
  exact this
set_option maxHeartbeats 1000000 in
set_option maxRecDepth 100000 in
theorem refNumber_any (n : Int) (w : World) (h0 : -9223372036854775808 ≤ n) (h1 : n < 9223372036854775808) :
    Calls Try.prog 64 #[.int .i64 n] w fun e w' => e = .returned (.string ⟨(numB (zig n)).toArray⟩) ∧ Below w.heap.size w w' := by
  have hu : zig n < 18446744073709551616 := zig_lt h0 h1
  have ht := turned_any n w h0 h1
  have hnl := (numB_length (u := zig n) hu).2
  generalize zig n = u at *
  have HT := hide ht
  clear ht h0 h1
  obtain ⟨c, hc, ec, hd⟩ : ∃ c : Nat, c < 128 ∧ (u : Int) % 128 = (c : Int) ∧ numB u = hiB (u / 128) ++ [UInt8.ofNat c] := ⟨u % 128, by omega, by omega, rfl⟩
  have hcv := conv1 w c (by omega)
  generalize hR : numB u = R at *
  have HD := hide hd
  clear hd hR
  go_enter Try.func64, Try.ntmps64
  go_wp2_with fail
  refine (unhide HT).mono ?_
  rintro e w1 ⟨rfl, rfl⟩
  go_wp2_with fail
  go_loopw [3, 4] (fun u s wr => ∃ (U : Nat) (S : ByteArray), U < 18446744073709551616 ∧ u = .int .u64 (U : Int) ∧ s = .string S ∧ Below w1.heap.size w1 wr ∧ Hid (R = hiB U ++ S.data.toList)) (fun u _ _ => (intOf u).toNat)
  case atStart => exact ⟨u / 128, _, by omega, rfl, rfl, (Below.refl _ _).alloc (Nat.le_refl _) _, HD⟩
  case round =>
    clear hcv ec hc HD HT hu
    obtain ⟨U, S, hU, rfl, rfl, hbel, HS⟩ := hrel
    have hsz := hbel.size
    have hS : S.size ≤ 10 := by
      have := congrArg List.length (unhide HS)
      have e : S.data.toList.length = S.size := Array.length_toList
      rw [List.length_append] at this
      omega
    by_cases h0 : U = 0
    · subst h0
      go_wp2
      go_ret
      exact ⟨by rw [unhide HS, hiB_zero]; rfl, hbel⟩
    · obtain ⟨d, hd, ed, hst⟩ : ∃ d : Nat, d < 256 ∧ (U : Int) % 128 + 128 = (d : Int) ∧ hiB U = hiB (U / 128) ++ [UInt8.ofNat d] := ⟨U % 128 + 128, by omega, by omega, hiB_step h0⟩
      have hcv := conv1 wr d hd
      have hpos : (0 : Int) < (U : Int) := by omega
      have q1 : ({ data := #[UInt8.ofNat d] } : ByteArray).size + S.size ≤ 9223372036854775807 := by
        have : ({ data := #[UInt8.ofNat d] } : ByteArray).size = 1 := rfl
        omega
      have q2 : 1 + S.size ≤ 9223372036854775807 := by omega
      have HN : Hid (R = hiB (U / 128) ++ (({ data := #[UInt8.ofNat d] } : ByteArray) ++ S).data.toList) := hide (by
        rw [Joins.data_append, unhide HS, hst, List.append_assoc])
      clear hst HS h0
      go_wp2
      go_roundw
      case rel => exact ⟨U / 128, _, by omega, by go_num, rfl, hbel.alloc hsz _, HN⟩
      case measure => simp [intOf]; omega
end Go.Proofs.Ytpfcoaimciojjaa
namespace Go.Proofs.Ytpfcoaimciojjaa
open Go.RowKit

theorem BoxAt.below {k B : Nat} {t : Bool} {n : Int} {s : ByteArray} {w w' : World} (h : BoxAt k t n s w) (hb : Below B w w') (hB : k < B) : BoxAt k t n s w' := by unfold BoxAt; rw [hb.block k hB]; exact h
theorem ba_list {l : List UInt8} {b : ByteArray} (h : b.data.toList = l) : (⟨l.toArray⟩ : ByteArray) = b := by
  apply ByteArray.ext; apply Array.ext'; exact h.symm
theorem numS_size {n : Int} (h0 : -9223372036854775808 ≤ n) (h1 : n < 9223372036854775808) : (⟨(numB (zig n)).toArray⟩ : ByteArray).size ≤ 10 := by
  show (List.toArray _).size ≤ 10
  rw [List.size_toArray]
  exact (numB_length (u := zig n) (zig_lt h0 h1)).2
set_option maxHeartbeats 1000000 in
set_option maxRecDepth 100000 in
theorem refOne_num (n : Int) (s : ByteArray) (w : World) (h0 : -9223372036854775808 ≤ n) (h1 : n < 9223372036854775808) :
    Calls Try.prog 57 #[.agg #[.bool false, .int .i64 n, .string s]] w fun e w' => e = .returned (.string ⟨(itemB false n s).toArray⟩) ∧ Below w.heap.size w w' := by
  have hz := fun w => refNumber_any n w h0 h1
  have hsz := numS_size h0 h1
  rw [show (⟨(itemB false n s).toArray⟩ : ByteArray) = ⟨#[1]⟩ ++ ⟨(numB (zig n)).toArray⟩ from ba_list (by rw [Joins.data_append]; rfl)]
  generalize (⟨(numB (zig n)).toArray⟩ : ByteArray) = Z at *
  have HZ := hide hz
  have q1 : 1 + Z.size ≤ 9223372036854775807 := by omega
  have q2 : ({ data := #[1] } : ByteArray).size + Z.size ≤ 9223372036854775807 := q1
  clear hz hsz
  go_enter Try.func57, Try.ntmps57
  go_wp2_with fail
  refine (unhide HZ _).mono ?_
  rintro e w1 ⟨rfl, hb1⟩
  go_wp2
  go_ret
  exact ⟨rfl, ((Below.refl _ _).alloc (Nat.le_refl _) _).trans (hb1.mono (by simp))⟩
set_option maxHeartbeats 1000000 in
set_option maxRecDepth 100000 in
theorem refOne_text (n : Int) (s : ByteArray) (w : World) (hs : s.size ≤ 140737488351232) :
    Calls Try.prog 57 #[.agg #[.bool true, .int .i64 n, .string s]] w fun e w' => e = .returned (.string ⟨(itemB true n s).toArray⟩) ∧ Below w.heap.size w w' := by
  have hz := fun w => refNumber_any (s.size : Int) w (by omega) (by omega)
  have hsz := numS_size (n := (s.size : Int)) (by omega) (by omega)
  rw [show (⟨(itemB true n s).toArray⟩ : ByteArray) = ⟨#[2]⟩ ++ ⟨(numB (zig (s.size : Int))).toArray⟩ ++ s from ba_list (by rw [Joins.data_append, Joins.data_append]; rfl)]
  generalize (⟨(numB (zig (s.size : Int))).toArray⟩ : ByteArray) = Z at *
  have HZ := hide hz
  have q1 : 1 + Z.size ≤ 9223372036854775807 := by omega
  have q2 : ({ data := #[2] } : ByteArray).size + Z.size ≤ 9223372036854775807 := q1
  have q3 : (({ data := #[2] } : ByteArray) ++ Z).size + s.size ≤ 9223372036854775807 := by rw [ByteArray.size_append]; have : ({ data := #[2] } : ByteArray).size = 1 := rfl; omega
  have a1 : ∀ w, (Op.stringOp .add ⟨#[2]⟩ Z).run Try.prog w = .ok (.string (⟨#[2]⟩ ++ Z)) w := fun w => run_string_add_sum w _ _ q2
  have a2 : ∀ w, (Op.stringOp .add (⟨#[2]⟩ ++ Z) s).run Try.prog w = .ok (.string (⟨#[2]⟩ ++ Z ++ s)) w := fun w => run_string_add_sum w _ _ q3
  clear hz
  go_enter Try.func57, Try.ntmps57
  go_wp2_with fail
  have hblk : BoxAt w.heap.size true n s (w.alloc (.cells #[.bool true, .int .i64 n, .string s] 47)) := heap_alloc_new w _
  have hbl : Below w.heap.size w (w.alloc (.cells #[.bool true, .int .i64 n, .string s] 47)) := (Below.refl _ _).alloc (Nat.le_refl _) _
  have hsz2 : w.heap.size < (w.alloc (.cells #[.bool true, .int .i64 n, .string s] 47)).heap.size := by simp
  generalize w.alloc (.cells #[.bool true, .int .i64 n, .string s] 47) = W at *
  have hcW := hblk.cells
  go_region_held3 (fun w' => BoxAt w.heap.size true n s w' ∧ w'.cell? ⟨w.heap.size, 1, none⟩ = some (.int .i64 n) ∧ w'.cell? ⟨w.heap.size, 2, none⟩ = some (.string s)) (first | exact HoldS.of hblk | exact HoldS.of (BoxAt.below (w := W.drew) hblk hb1 hsz2))
    (first | (go_at_call 64; refine (unhide HZ _).mono ?_; rintro e w1 ⟨rfl, hb1⟩))
  go_wp2
  go_ret
  exact ⟨rfl, hbl.drew.trans (hb1.mono hbl.size)⟩
theorem refOne_any (t : Bool) (n : Int) (s : ByteArray) (w : World) (h0 : -9223372036854775808 ≤ n) (h1 : n < 9223372036854775808) (hs : s.size ≤ 140737488351232) :
    Calls Try.prog 57 #[.agg #[.bool t, .int .i64 n, .string s]] w fun e w' => e = .returned (.string ⟨(itemB t n s).toArray⟩) ∧ Below w.heap.size w w' := by
  cases t
  · exact refOne_num n s w h0 h1
  · exact refOne_text n s w hs
end Go.Proofs.Ytpfcoaimciojjaa
