/-
  EventGrows: plain facts: a match with an event more at its end, and one whose places are all as much later.
  Check of events: it returns what the plain function says.
  Check of events, and the chapter's examples (works): they return what they should, and nothing that was there has changed.
  Plain facts on worlds: what stays but for some blocks, a block of cells, append to a row of the call's own and where the new row lies. Of no program.
-/
import Derived.Test.YtpfcoaimciojjaaG03
import Derived.Test.YtpfcoaimciojjaaG02
import Derived.Test.YtpfcoaimciojjaaG01
import Derived.WalkLawsBesides
import Derived.Deep.AppendLies
namespace Go.Proofs.Ytpfcoaimciojjaa
open Go.RowKit

/-- All places, as much later. -/
def laterP (B : Int) (p : List Int) : List Int := p.map (· + B)
def laterL (B : Int) (ss : List (List Int)) : List (List Int) := ss.map (laterP B)
/-- One event more at the end. -/
def moreL (B : Int) (ss : List (List Int)) : List (List Int) := ss.set (ss.length - 1) (ss.getD (ss.length - 1) [] ++ [lastM ss + B])
theorem moreL_len (B : Int) (ss : List (List Int)) : (moreL B ss).length = ss.length := by unfold moreL; exact List.length_set ..
theorem laterL_len (B : Int) (ss : List (List Int)) : (laterL B ss).length = ss.length := by unfold laterL; exact List.length_map ..
theorem lastI_snoc (p : List Int) (x : Int) : lastI (p ++ [x]) = x := by
  unfold lastI
  rw [List.length_append]
  simp
theorem lastI_later (B : Int) (p : List Int) (h : 0 < p.length) : lastI (laterP B p) = lastI p + B := by
  have h2 : 0 < (laterP B p).length := by unfold laterP; rw [List.length_map]; exact h
  rw [lastI_get h2, lastI_get h]
  simp [laterP]
theorem lastM_more (B : Int) (ss : List (List Int)) (h : 0 < ss.length) : lastM (moreL B ss) = lastM ss + B := by
  have e : (moreL B ss).getD ((moreL B ss).length - 1) [] = ss.getD (ss.length - 1) [] ++ [lastM ss + B] := by
    rw [moreL_len, List.getD_eq_getElem?_getD]
    unfold moreL
    rw [List.getElem?_set_self (by omega)]
    rfl
  have : lastM (moreL B ss) = lastI ((moreL B ss).getD ((moreL B ss).length - 1) []) := rfl
  rw [this, e, lastI_snoc]
theorem lastM_later (B : Int) (ss : List (List Int)) (h : 0 < ss.length) (hne : ∀ p ∈ ss, 0 < p.length) : lastM (laterL B ss) = lastM ss + B := by
  have hl : ss.length - 1 < ss.length := by omega
  have e : (laterL B ss).getD ((laterL B ss).length - 1) [] = laterP B ss[ss.length - 1] := by
    rw [laterL_len, List.getD_eq_getElem?_getD]
    unfold laterL
    rw [List.getElem?_map, List.getElem?_eq_getElem hl]
    rfl
  have e2 : ss.getD (ss.length - 1) [] = ss[ss.length - 1] := by rw [List.getD_eq_getElem?_getD, List.getElem?_eq_getElem hl]; rfl
  have h1 : lastM (laterL B ss) = lastI ((laterL B ss).getD ((laterL B ss).length - 1) []) := rfl
  have h2 : lastM ss = lastI (ss.getD (ss.length - 1) []) := rfl
  rw [h1, e, lastI_later B _ (hne _ (List.getElem_mem _)), h2, e2]
theorem riseB_bnd : ∀ (a : Int) (p : List Int), -1 ≤ a → riseB a p = true → ∀ x ∈ p, 0 ≤ x ∧ x ≤ 1073741824
  | _, [], _, _, x, hx => by cases hx
  | a, q :: r, ha, h, x, hx => by
    rw [riseB] at h
    split at h
    · cases h
    · rename_i hn
      have hq : 0 ≤ q ∧ q ≤ 1073741824 := ⟨by omega, by omega⟩
      rcases List.mem_cons.1 hx with rfl | hx
      · exact hq
      · exact riseB_bnd q r (by omega) h x hx
theorem lastI_bnd (p : List Int) (h : ∀ x ∈ p, 0 ≤ x ∧ x ≤ 1073741824) : 0 ≤ lastI p := by
  unfold lastI
  rw [List.getD_eq_getElem?_getD]
  cases e : p[p.length - 1]? with
  | none => exact Int.le_refl _
  | some y => exact (h y (List.mem_of_getElem? e)).1
theorem stagesB_bnd : ∀ (x a : Int) (ss : List (List Int)), x ≤ 256 → -1 ≤ a → stagesB x a ss = true → ∀ p ∈ ss, p.length ≤ 256 ∧ ∀ y ∈ p, 0 ≤ y ∧ y ≤ 1073741824
  | _, _, [], _, _, _, p, hp => by cases hp
  | x, a, q :: r, hx, ha, h, p, hp => by
    rw [stagesB] at h
    split at h
    · cases h
    · rename_i hn
      have hr : riseB a q = true := by
        cases e : riseB a q with
        | true => rfl
        | false => exact absurd (Or.inr (Or.inr e)) hn
      have hq := riseB_bnd a q ha hr
      have hle : (q.length : Int) ≤ x := by
        rcases Int.lt_or_le x (q.length : Int) with e | e
        · exact absurd (Or.inr (Or.inl e)) hn
        · exact e
      rcases List.mem_cons.1 hp with rfl | hp
      · exact ⟨by omega, hq⟩
      · exact stagesB_bnd _ _ r (by omega) (by have := lastI_bnd q hq; omega) h p hp
theorem mayM_bnd {k : ByteArray} {ss : List (List Int)} (h : mayM k ss = true) : ∀ p ∈ ss, p.length ≤ 256 ∧ ∀ y ∈ p, 0 ≤ y ∧ y ≤ 1073741824 := by
  unfold mayM at h
  simp only [Bool.and_eq_true, decide_eq_true_eq] at h
  exact stagesB_bnd _ _ _ (by decide) (by decide) h.2
theorem cM_before (k1 : ByteArray) (s1 : List (List Int)) (k2 : ByteArray) (s2 : List (List Int)) (h : lastM s1 < lastM s2) : cM k1 s1 k2 s2 = -1 := by
  unfold cM
  have e : Lib.compareInt (lastM s1) (lastM s2) = -1 := by unfold Lib.compareInt; rw [if_pos h]
  rw [e]
  unfold orI
  simp
end Go.Proofs.Ytpfcoaimciojjaa
namespace Go.Proofs.Ytpfcoaimciojjaa
open Go.RowKit

def mayE (k t x : ByteArray) : Bool := nameB k && nameB t && decide (x.size ≤ 256)
def chkE (k t x : ByteArray) : Int := if mayE k t x = true then 0 else 20
set_option maxHeartbeats 1000000 in
theorem check_any (k t x : ByteArray) (n0 n1 n2 n3 : Int) (w : World) (hk : k.size ≤ 9223372036854775807) (ht : t.size ≤ 9223372036854775807) (hx : x.size ≤ 9223372036854775807) :
    Calls Try.prog 10 #[.agg #[.string k, .string t, .int .i64 n0, .int .i64 n1, .int .i64 n2, .int .i64 n3, .string x]] w fun e w' => e = .returned (.int .i64 (chkE k t x)) ∧ w' = w.alloc (.cells #[.string k, .string t, .int .i64 n0, .int .i64 n1, .int .i64 n2, .int .i64 n3, .string x] 24) := by
  have nk := fun w => isName_any k w hk
  have nt := fun w => isName_any t w ht
  by_cases b1 : nameB k = true
  · by_cases b2 : nameB t = true
    · simp only [b1] at nk
      simp only [b2] at nt
      have NK := hide nk
      have NT := hide nt
      by_cases b3 : x.size ≤ 256
      · have e : chkE k t x = 0 := by unfold chkE mayE; simp [b1, b2, b3]
        rw [e]
        clear nk nt b1 b2 e
        go_enter Try.func10, Try.ntmps10
        go_wp2_with fail
        refine (unhide NK _).mono ?_
        rintro e w1 ⟨rfl, rfl⟩
        go_wp2_with fail
        refine (unhide NT _).mono ?_
        rintro e w1 ⟨rfl, rfl⟩
        go_wp2
        go_ret
        exact ⟨rfl, rfl⟩
      · have e : chkE k t x = 20 := by unfold chkE mayE; simp [b3]
        rw [e]
        clear nk nt b1 b2 e
        go_enter Try.func10, Try.ntmps10
        go_wp2_with fail
        refine (unhide NK _).mono ?_
        rintro e w1 ⟨rfl, rfl⟩
        go_wp2_with fail
        refine (unhide NT _).mono ?_
        rintro e w1 ⟨rfl, rfl⟩
        go_wp2
        go_ret
        exact ⟨rfl, rfl⟩
    · have b2' : nameB t = false := by simpa using b2
      have e : chkE k t x = 20 := by unfold chkE mayE; simp [b2']
      rw [e]
      simp only [b1] at nk
      simp only [b2'] at nt
      have NK := hide nk
      have NT := hide nt
      clear nk nt b1 b2 b2' e
      go_enter Try.func10, Try.ntmps10
      go_wp2_with fail
      refine (unhide NK _).mono ?_
      rintro e w1 ⟨rfl, rfl⟩
      go_wp2_with fail
      refine (unhide NT _).mono ?_
      rintro e w1 ⟨rfl, rfl⟩
      go_wp2
      go_ret
      exact ⟨rfl, rfl⟩
  · have b1' : nameB k = false := by simpa using b1
    have e : chkE k t x = 20 := by unfold chkE mayE; simp [b1']
    rw [e]
    simp only [b1'] at nk
    have NK := hide nk
    clear nk nt b1 b1' e
    go_enter Try.func10, Try.ntmps10
    go_wp2_with fail
    refine (unhide NK _).mono ?_
    rintro e w1 ⟨rfl, rfl⟩
    go_wp2
    go_ret
    exact ⟨rfl, rfl⟩
end Go.Proofs.Ytpfcoaimciojjaa
namespace Go.Proofs.Ytpfcoaimciojjaa
open Go.RowKit

theorem ints_new (w : World) (x : List Int) (X : Array Value) (t : TypeId) (hX : X = (x.map (Value.int .i64)).toArray) : IntsAt (w.alloc (.cells X t)) (some ⟨w.heap.size, 0, none⟩) x := fun _ => by
  refine ⟨w.heap.size, 0, rfl, by simp, fun i hi => ?_⟩
  have h := heap_alloc_new w (.cells X t)
  rw [Nat.zero_add]
  subst hX
  generalize w.alloc (.cells (x.map (Value.int .i64)).toArray t) = W at *
  simp [World.cell?, h, hi]
theorem below_new (w : World) (o : Obj) : Below w.heap.size w (w.alloc o) := (Below.refl _ _).alloc (Nat.le_refl _) o
theorem below_new3 (w : World) (o1 o2 o3 : Obj) : Below w.heap.size w (((w.alloc o1).alloc o2).alloc o3) := ((below_new w o1).alloc (by simp) o2).alloc (by simp; omega) o3
/-- Two stages, just laid. -/
theorem stages_new (w : World) (x y : List Int) (X Y : Array Value) (tI tS : TypeId) (nx ny : Nat) (hX : X = (x.map (Value.int .i64)).toArray) (hY : Y = (y.map (Value.int .i64)).toArray) (hx : nx = x.length) (hy : ny = y.length) :
    StagesAt (((w.alloc (.cells X tI)).alloc (.cells Y tI)).alloc (.cells #[.slice (some ⟨w.heap.size, 0, none⟩) nx nx, .slice (some ⟨w.heap.size + 1, 0, none⟩) ny ny] tS)) (some ⟨w.heap.size + 1 + 1, 0, none⟩) [x, y] := fun _ => by
  have h1 := (ints_new w x X tI hX).below (below_new _ (.cells Y tI)) (Nat.le_refl _)
  have h2 := ints_new (w.alloc (.cells X tI)) y Y tI hY
  have hs1 : (w.alloc (.cells X tI)).heap.size = w.heap.size + 1 := by simp
  have hs2 : ((w.alloc (.cells X tI)).alloc (.cells Y tI)).heap.size = w.heap.size + 1 + 1 := by simp
  rw [hs1] at h2
  generalize (w.alloc (.cells X tI)).alloc (.cells Y tI) = W at *
  have h1' := h1.below (below_new W (.cells #[.slice (some ⟨w.heap.size, 0, none⟩) nx nx, .slice (some ⟨w.heap.size + 1, 0, none⟩) ny ny] tS)) (Nat.le_refl _)
  have h2' := h2.below (below_new W (.cells #[.slice (some ⟨w.heap.size, 0, none⟩) nx nx, .slice (some ⟨w.heap.size + 1, 0, none⟩) ny ny] tS)) (Nat.le_refl _)
  refine ⟨w.heap.size + 1 + 1, 0, rfl, by simp; omega, fun i hi => ?_⟩
  rw [← hs2]
  match i, hi with
  | 0, _ => exact ⟨_, nx, by subst hx; simp, h1'⟩
  | 1, _ => exact ⟨_, ny, by subst hy; simp, h2'⟩
theorem mtOk_small (k : ByteArray) (ss : List (List Int)) (h : decide (k.size ≤ 100 ∧ ss.length ≤ 100) = true) (h2 : ss.all (fun p => decide (p.length ≤ 100)) = true) : MtOk k ss := by
  have := of_decide_eq_true h
  refine ⟨by omega, by omega, fun p hp => ?_⟩
  have := of_decide_eq_true (List.all_eq_true.1 h2 p hp)
  omega
set_option maxHeartbeats 4000000 in
theorem evWorks_any (w : World) : Calls Try.prog 12 #[] w fun e w' => e = .returned (.bool true) ∧ Below w.heap.size w w' := by
  go_enter Try.func12, Try.ntmps12
  go_wp2_with fail
  have hA := stages_new w [0] [1, 3] #[.int .i64 0] #[.int .i64 1, .int .i64 3] 3 61 1 2 rfl rfl rfl rfl
  have hs3 : (((w.alloc (.cells #[.int .i64 0] 3)).alloc (.cells #[.int .i64 1, .int .i64 3] 3)).alloc (.cells #[.slice (some ⟨w.heap.size, 0, none⟩) 1 1, .slice (some ⟨w.heap.size + 1, 0, none⟩) 2 2] 61)).heap.size = w.heap.size + 1 + 1 + 1 := by simp
  have hb3 : Below w.heap.size w (((w.alloc (.cells #[.int .i64 0] 3)).alloc (.cells #[.int .i64 1, .int .i64 3] 3)).alloc (.cells #[.slice (some ⟨w.heap.size, 0, none⟩) 1 1, .slice (some ⟨w.heap.size + 1, 0, none⟩) 2 2] 61)) := below_new3 _ _ _ _
  generalize (((w.alloc (.cells #[.int .i64 0] 3)).alloc (.cells #[.int .i64 1, .int .i64 3] 3)).alloc (.cells #[.slice (some ⟨w.heap.size, 0, none⟩) 1 1, .slice (some ⟨w.heap.size + 1, 0, none⟩) 2 2] 61)) = W3 at *
  have bA : MBox (w.heap.size + 1 + 1 + 1) ⟨#[107]⟩ (some ⟨w.heap.size + 1 + 1, 0, none⟩) 2 2 (W3.alloc (.cells #[.string ⟨#[107]⟩, .slice (some ⟨w.heap.size + 1 + 1, 0, none⟩) 2 2] 35)) := by
    have := heap_alloc_new W3 (.cells #[.string ⟨#[107]⟩, .slice (some ⟨w.heap.size + 1 + 1, 0, none⟩) 2 2] 35)
    rw [hs3] at this
    exact this
  have hA4 := hA.below (below_new W3 (.cells #[.string ⟨#[107]⟩, .slice (some ⟨w.heap.size + 1 + 1, 0, none⟩) 2 2] 35)) (Nat.le_refl _)
  have hb4 := hb3.alloc hb3.size (.cells #[.string ⟨#[107]⟩, .slice (some ⟨w.heap.size + 1 + 1, 0, none⟩) 2 2] 35)
  have hs4 : (W3.alloc (.cells #[.string ⟨#[107]⟩, .slice (some ⟨w.heap.size + 1 + 1, 0, none⟩) 2 2] 35)).heap.size = w.heap.size + 1 + 1 + 1 + 1 := by simp; omega
  generalize (W3.alloc (.cells #[.string ⟨#[107]⟩, .slice (some ⟨w.heap.size + 1 + 1, 0, none⟩) 2 2] 35)) = W4 at *
  clear hA hb3 hs3
  have hB := stages_new W4 [0] [2, 3] #[.int .i64 0] #[.int .i64 2, .int .i64 3] 3 61 1 2 rfl rfl rfl rfl
  rw [hs4] at hB
  have hb7 : Below W4.heap.size W4 (((W4.alloc (.cells #[.int .i64 0] 3)).alloc (.cells #[.int .i64 2, .int .i64 3] 3)).alloc (.cells #[.slice (some ⟨w.heap.size + 1 + 1 + 1 + 1, 0, none⟩) 1 1, .slice (some ⟨w.heap.size + 1 + 1 + 1 + 1 + 1, 0, none⟩) 2 2] 61)) := below_new3 _ _ _ _
  generalize (((W4.alloc (.cells #[.int .i64 0] 3)).alloc (.cells #[.int .i64 2, .int .i64 3] 3)).alloc (.cells #[.slice (some ⟨w.heap.size + 1 + 1 + 1 + 1, 0, none⟩) 1 1, .slice (some ⟨w.heap.size + 1 + 1 + 1 + 1 + 1, 0, none⟩) 2 2] 61)) = W7 at *
  have hA7 := hA4.below hb7 (Nat.le_refl _)
  have bA7 := bA.below hb7 bA.lt
  have hb7' := hb4.trans (hb7.mono hb4.size)
  have hA8 := hA7.below (below_new W7 (.cells #[.string ⟨#[107]⟩, .slice (some ⟨w.heap.size + 1 + 1 + 1 + 1 + 1 + 1, 0, none⟩) 2 2] 35)) (Nat.le_refl _)
  have hB8 := hB.below (below_new W7 (.cells #[.string ⟨#[107]⟩, .slice (some ⟨w.heap.size + 1 + 1 + 1 + 1 + 1 + 1, 0, none⟩) 2 2] 35)) (Nat.le_refl _)
  have bA8 := bA7.alloc (.cells #[.string ⟨#[107]⟩, .slice (some ⟨w.heap.size + 1 + 1 + 1 + 1 + 1 + 1, 0, none⟩) 2 2] 35)
  have hb8 := hb7'.alloc hb7'.size (.cells #[.string ⟨#[107]⟩, .slice (some ⟨w.heap.size + 1 + 1 + 1 + 1 + 1 + 1, 0, none⟩) 2 2] 35)
  generalize (W7.alloc (.cells #[.string ⟨#[107]⟩, .slice (some ⟨w.heap.size + 1 + 1 + 1 + 1 + 1 + 1, 0, none⟩) 2 2] 35)) = W8 at *
  clear hA4 bA hb4 hs4 hB hb7 hA7 bA7 hb7'
  have c1 := compare_any ⟨#[107]⟩ (some ⟨w.heap.size + 1 + 1, 0, none⟩) 2 [[0], [1, 3]] ⟨#[107]⟩ (some ⟨w.heap.size + 1 + 1 + 1 + 1 + 1 + 1, 0, none⟩) 2 [[0], [2, 3]] W8 (mtOk_small _ _ (by decide) (by decide)) (mtOk_small _ _ (by decide) (by decide)) hA8 hB8
  rw [show cmpV ⟨#[107]⟩ [[0], [1, 3]] ⟨#[107]⟩ [[0], [2, 3]] = -1 by decide +kernel, show cmpE ⟨#[107]⟩ [[0], [1, 3]] ⟨#[107]⟩ [[0], [2, 3]] = 0 by decide +kernel] at c1
  refine c1.mono ?_
  rintro e w9 ⟨rfl, hb9⟩
  have hA9 := hA8.below hb9 (Nat.le_refl _)
  have bA9 := bA8.below hb9 bA8.lt
  have hb9' := hb8.trans (hb9.mono hb8.size)
  clear c1 hA8 hB8 bA8 hb8 hb9
  have hC := stages_new w9 [0, 1] [3] #[.int .i64 0, .int .i64 1] #[.int .i64 3] 3 61 2 1 rfl rfl rfl rfl
  have hb12 := below_new3 w9 (.cells #[.int .i64 0, .int .i64 1] 3) (.cells #[.int .i64 3] 3) (.cells #[.slice (some ⟨w9.heap.size, 0, none⟩) 2 2, .slice (some ⟨w9.heap.size + 1, 0, none⟩) 1 1] 61)
  have bA12 := bA9.below hb12 bA9.lt
  have hA12 := hA9.below hb12 (Nat.le_refl _)
  have hb12' := hb9'.trans (hb12.mono hb9'.size)
  have fA := bA12.cells
  clear hA9 bA9 hb9' hb12
  go_wp2_with fail
  generalize (((w9.alloc (.cells #[.int .i64 0, .int .i64 1] 3)).alloc (.cells #[.int .i64 3] 3)).alloc (.cells #[.slice (some ⟨w9.heap.size, 0, none⟩) 2 2, .slice (some ⟨w9.heap.size + 1, 0, none⟩) 1 1] 61)) = W12 at *
  have c2 := compare_any ⟨#[107]⟩ (some ⟨w9.heap.size + 1 + 1, 0, none⟩) 2 [[0, 1], [3]] ⟨#[107]⟩ (some ⟨w.heap.size + 1 + 1, 0, none⟩) 2 [[0], [1, 3]] W12 (mtOk_small _ _ (by decide) (by decide)) (mtOk_small _ _ (by decide) (by decide)) hC hA12
  rw [show cmpV ⟨#[107]⟩ [[0, 1], [3]] ⟨#[107]⟩ [[0], [1, 3]] = 1 by decide +kernel, show cmpE ⟨#[107]⟩ [[0, 1], [3]] ⟨#[107]⟩ [[0], [1, 3]] = 0 by decide +kernel] at c2
  refine c2.mono ?_
  rintro e w13 ⟨rfl, hb13⟩
  have hb13' := hb12'.trans (hb13.mono hb12'.size)
  have hz := hb13'.size
  clear c2 hC hA12 fA bA12 hb12' hb13
  have k1 := fun w => check_any ⟨#[107]⟩ ⟨#[116]⟩ ⟨#[]⟩ 0 0 0 0 w (by decide) (by decide) (by decide)
  have k2 := fun w => check_any ⟨#[75]⟩ ⟨#[116]⟩ ⟨#[]⟩ 0 0 0 0 w (by decide) (by decide) (by decide)
  rw [show chkE ⟨#[107]⟩ ⟨#[116]⟩ ⟨#[]⟩ = 0 by decide +kernel] at k1
  rw [show chkE ⟨#[75]⟩ ⟨#[116]⟩ ⟨#[]⟩ = 20 by decide +kernel] at k2
  have K1 := hide k1
  have K2 := hide k2
  clear k1 k2
  go_wp2_with fail
  refine (unhide K1 _).mono ?_
  rintro e w14 ⟨rfl, rfl⟩
  go_wp2_with fail
  refine (unhide K2 _).mono ?_
  rintro e w15 ⟨rfl, rfl⟩
  go_wp2
  go_ret
  exact ⟨rfl, (hb13'.alloc hz _).alloc (by simp; omega) _⟩
end Go.Proofs.Ytpfcoaimciojjaa
namespace Go.Proofs.Ytpfcoaimciojjaa
open Go.RowKit

/-- What stays: all blocks but some. -/
structure Kp (F : List Nat) (w w' : World) : Prop where
  os : w'.os = w.os
  tape : w'.tape = w.tape
  output : w'.output = w.output
  size : w.heap.size ≤ w'.heap.size
  block : ∀ k, k < w.heap.size → k ∉ F → w'.heap[k]? = w.heap[k]?
theorem Kp.refl (F : List Nat) (w : World) : Kp F w w := ⟨rfl, rfl, rfl, Nat.le_refl _, fun _ _ _ => rfl⟩
theorem Kp.trans {F G : List Nat} {a b c : World} (h : Kp F a b) (k : Kp G b c) (hG : ∀ x ∈ G, x ∈ F ∨ a.heap.size ≤ x) : Kp F a c :=
  ⟨k.os.trans h.os, k.tape.trans h.tape, k.output.trans h.output, Nat.le_trans h.size k.size, fun i hi hn =>
    (k.block i (Nat.lt_of_lt_of_le hi h.size) (fun hm => (hG i hm).elim hn (fun h1 => by omega))).trans (h.block i hi hn)⟩
theorem Kp.mono {F G : List Nat} {a b : World} (h : Kp F a b) (hG : ∀ x ∈ F, x ∈ G) : Kp G a b := ⟨h.os, h.tape, h.output, h.size, fun i hi hn => h.block i hi (fun hm => hn (hG i hm))⟩
theorem Kp.of {w w' : World} {row : Option Nat} (h : w.grownBy w' row) : Kp row.toList w w' := ⟨h.os, h.tape, h.output, h.size, fun i hi hn => h.block i hi (fun e => hn (by rw [← e]; simp))⟩
theorem Kp.alloc (w : World) (o : Obj) : Kp [] w (w.alloc o) := Kp.of (World.grownBy_alloc w o none)
theorem Kp.drew (w : World) : Kp [] w w.drew := ⟨rfl, rfl, rfl, Nat.le_refl _, fun _ _ _ => rfl⟩
theorem Kp.below {F : List Nat} {B : Nat} {w w' : World} (h : Kp F w w') (hB : B ≤ w.heap.size) (hF : ∀ k ∈ F, B ≤ k) : Below B w w' :=
  ⟨h.os, h.tape, h.output, h.size, fun k hk => h.block k (by omega) (fun hm => by have := hF k hm; omega)⟩
theorem Kp.ofBelow {w w' : World} (h : Below w.heap.size w w') : Kp [] w w' := ⟨h.os, h.tape, h.output, h.size, fun k hk _ => h.block k hk⟩
theorem Kp.cell {F : List Nat} {w w' : World} (h : Kp F w w') {p : Addr} {v : Value} (hc : w.cell? p = some v) (hp : p.block ∉ F) : w'.cell? p = some v :=
  (World.cell?_of_block (h.block p.block (World.block_lt_of_cell? w p hc) hp)).trans hc
/-- The box of a change lies there. -/
def CBox (g : Nat) (cs : Array Value) (t : TypeId) (w : World) : Prop := w.heap[g]? = some (.cells cs t (0, 0))
theorem CBox.cell {g : Nat} {cs : Array Value} {t : TypeId} {w : World} (h : CBox g cs t w) {i : Nat} {v : Value} (hv : cs[i]? = some v) : w.cell? ⟨g, i, none⟩ = some v := by
  unfold CBox at h
  simp [World.cell?, h, hv]
theorem CBox.kp {g : Nat} {cs : Array Value} {t : TypeId} {w w' : World} {F : List Nat} (h : CBox g cs t w) (hk : Kp F w w') (hF : g ∉ F) : CBox g cs t w' := (hk.block g (Array.getElem?_eq_some_iff.1 h).1 hF).trans h
theorem CBox.new (w : World) (cs : Array Value) (t : TypeId) : CBox w.heap.size cs t (w.alloc (.cells cs t)) := heap_alloc_new w _
theorem CBox.set {g : Nat} {cs : Array Value} {t : TypeId} {w : World} (h : CBox g cs t w) (i : Nat) (v : Value) : CBox g (cs.setIfInBounds i v) t (w.setCell ⟨g, i, none⟩ v) := by
  unfold CBox at *
  unfold World.setCell
  simp [h, Array.getElem?_modify]
theorem CBox.froz {g : Nat} {cs : Array Value} {t : TypeId} {w : World} (h : CBox g cs t w) (i : Nat) : w.frozen? ⟨g, i, none⟩ = false := by
  unfold CBox at h
  simp [World.frozen?, h]
theorem Kp.set (w : World) (p i : Nat) (v : Value) : Kp [p] w (w.setCell ⟨p, i, none⟩ v) :=
  ⟨rfl, rfl, rfl, by simp [World.setCell], fun k _ hn => Below.heap_setCell _ _ _ _ (by simpa using hn)⟩
theorem Kp.drewQ (w : World) (n : Nat) : Kp [] w (w.drewN n) := ⟨rfl, rfl, rfl, Nat.le_refl _, fun _ _ _ => rfl⟩
/-- append to a row of the call's own, as one step of a statement whose order is drawn; where the new row lies. -/
theorem step_append_lies {P : Program} {ops : Array Oper} {o : Oper} {a : Act} {w : World} {K : Act → World → Prop} {Q : Exit → Act → World → Prop} {E : Prop}
    (hg : o.guard = none) (s x : Operand) (t : TypeId) (hop : o.op = Op.call { callee := Callee.builtin Builtin.append, args := #[s, x], argTypes := #[t, t] })
    (base : Nat) (e : TypeId) (i : TypeInfo) (z : Value) (size bytes : Nat) (h1 : P.underlying t = some (.slice e)) (h2 : P.info? e = some i) (h3 : i.zero = some z) (h4 : i.size = size) (h5 : i.bytes = bytes) (h6 : z.cells.size = size) (h7 : 0 < size)
    (v : Value) (n : Nat) (xs : List Value) (hs : a.eval s = v) (hown : w.ownsRow base e size v n xs)
    (ad : Addr) (m c : Nat) (news : List Value) (hx : a.eval x = .slice (some ad) m c) (hn : news.length = m * size) (hc : ∀ j u, news[j]? = some u → w.cell? (ad.add j) = some u) (h1c : ∀ u ∈ news, u.oneCell' = true) (hm : 0 < m)
    (b1 : n + m ≤ maxLen) (b2 : (n + m) * bytes ≤ 140737488355328) (hb : base ≤ w.heap.size)
    (hK : ∀ g cap w', w'.ownsRow base e size (.slice (some ⟨g, 0, none⟩) (n + m) cap) (n + m) (xs ++ news) → w.grownBy w' v.ownBlock → (v.ownBlock = some g ∨ g = w.heap.size) → K (a.put o.dst (.slice (some ⟨g, 0, none⟩) (n + m) cap)) w') :
    if Region.wanted o (yielded ops a.tmps) = true then Oper.wp P o a w K Q else E := by
  have hw : Region.wanted o (yielded ops a.tmps) = true := by simp [Region.wanted, hg]
  rw [if_pos hw]
  obtain ⟨g, cap, w', hrun, r1, r2, r3, _⟩ := run_append_lies (P := P) (w := w) t o.type base e i z size bytes h1 h2 h3 h4 h5 h6 h7 v n xs hown ad m c news hn hc h1c hm b1 b2 hb _ rfl
  unfold Oper.wp
  simp [execOp, hop, resolve, invoke, builtin, hs, hx, hrun, Result.andThen]
  exact hK g cap w' r1 r2 r3
theorem one_new (w : World) (x : Value) (t : TypeId) : ∀ (j : Nat) (u : Value), [x][j]? = some u → (w.alloc (.cells #[x] t)).cell? ((⟨w.heap.size, 0, none⟩ : Addr).add j) = some u := fun j u hj => by
  match j, hj with
  | 0, hj =>
    simp at hj
    subst hj
    exact (CBox.new w #[x] t).cell rfl
end Go.Proofs.Ytpfcoaimciojjaa
