/-
  Check: what an expression is, and whether it may be.
-/
import Derived.Test.YtogklmljllocbabGreatDoorF19
namespace Go.Proofs.YtogklmljllocbabGreatDoor
open Go.RowKit Go.Shelf

theorem Ex.dn_flat (t : Ex) : t.dn ≤ t.flat.length := by
  induction t with
  | lf p => simp [Ex.dn, Ex.flat]
  | un p a ih => simp only [Ex.dn, Ex.flat, List.length_cons]; omega
  | bi p a b iha ihb => simp only [Ex.dn, Ex.flat, List.length_cons, List.length_append]; omega
theorem Ex.sh_ok (t : Ex) (h : t.flat.length ≤ 200) : (t.val shp).ok := by
  have h1 := t.kd_range
  have h2 := t.dp_pos
  have h3 := t.dp_dn
  have h4 := t.dn_flat
  exact ⟨h1, by show 0 ≤ t.dp; omega, by show t.dp ≤ _; omega⟩
theorem shapeOf_each {xs : List Pt} (hl : xs.length ≤ 200) {w : World} (hT : TbE w) (hfit : ∀ p ∈ xs, p.fit) (p : Pt) (ts : List Ex) (W : World) (hp : p ∈ xs) (_ : ∀ t ∈ ts, t.wf ∧ ∀ q ∈ t.flat, q ∈ xs) (hn : (ts.flatMap Ex.flat).length + 1 ≤ xs.length) (hs : ts.length = sds p.kd) (hb : Below w.heap.size w W) :
    Calls Tryz.prog 85 #[p.v, .agg (rowC p.kd), .agg (sdCS (ts.map (Ex.val shp)))] W fun e w' => e = .returned (.agg (shE (shp p (ts.map (Ex.val shp)))).toArray) ∧ Below W.heap.size W w' := by
  have hW := hT.below hb hT.low
  have z : Sh.ok ⟨0, 0⟩ := ⟨⟨by decide, by decide⟩, by decide, by decide⟩
  have h2 := sds_le p.kd
  match ts, hs with
  | [], hs =>
    have := shapeOf_any p ⟨0, 0⟩ ⟨0, 0⟩ W hW (hfit p hp) z z (fun _ => rfl)
    rw [← hs] at this
    exact this
  | [a], hs =>
    have := shapeOf_any p (a.val shp) ⟨0, 0⟩ W hW (hfit p hp) (a.sh_ok (by simp at hn; omega)) z (fun _ => rfl)
    rw [← hs] at this
    exact this
  | [a, b], hs =>
    have := shapeOf_any p (a.val shp) (b.val shp) W hW (hfit p hp) (a.sh_ok (by simp at hn; omega)) (b.sh_ok (by simp at hn; omega)) (fun e => by rw [e] at hs; simp at hs)
    rw [← hs] at this
    exact this
  | a :: b :: c :: r, hs => simp at hs; omega
theorem fold_shapes (ad : Option Addr) (cap : Nat) (xs : List Pt) (hsz : xs.length ≤ 200) (w : World) (hc : PtsAt w ad xs) (hT : TbE w) (hfit : ∀ p ∈ xs, p.fit) :
    Calls Tryz.prog 84 #[.slice ad xs.length cap, .func (.func 85) #[] #[]] w fun e w' => e = .returned (foRS (fdX shp xs)) ∧ Below w.heap.size w w' :=
  callsIn_wide.1 (foldS_in 85 ad cap xs hsz w (PtsLow.of hc) (enters_of Tryz.func85 (by kernel_rfl) rfl) (shapeOf_each hsz hT hfit))
theorem fdX_range {xs : List Pt} {s : Sh} (h : fdX shp xs = some s) : (0 ≤ s.kd ∧ s.kd ≤ 3) := by
  obtain ⟨t, _, _, rfl⟩ := fdX_some h
  exact t.kd_range
set_option maxRecDepth 100000 in
set_option maxHeartbeats 1000000 in
theorem check_any (ad : Option Addr) (cap : Nat) (xs : List Pt) (w : World) (hc : PtsAt w ad xs) (hT : TbE w) (hfit : ∀ p ∈ xs, p.fit) :
    Calls Tryz.prog 45 #[.slice ad xs.length cap] w fun e w' => e = .returned (.tuple #[.int .i64 (ckK xs), .int .i64 (if ckK xs = 0 then 110 else 0)]) ∧ Below w.heap.size w w' := by
  by_cases hl : 200 < xs.length
  · have hk : ckK xs = 0 := by unfold ckK; rw [if_pos hl]
    rw [hk, if_pos rfl]
    have h1 : ((200 : Int) < (xs.length : Int)) = True := by simp; omega
    clear hc hT hfit hk hl
    go_enter Tryz.func45, Tryz.ntmps45
    go_wp2
    exact bodyPost_ret (results_tmp2 rfl _ _ _) rfl ⟨rfl, Below.refl _ _⟩
  · have h1 : ((200 : Int) < (xs.length : Int)) = False := by simp; omega
    have F1 := hide (fold_shapes ad cap xs (by omega) w hc hT hfit)
    have hk : ckK xs = match fdX shp xs with | some s => if s.dp > 32 then 0 else s.kd | none => 0 := by unfold ckK; rw [if_neg hl]; rfl
    have hr := fun s => fdX_range (xs := xs) (s := s)
    rw [hk]
    clear hc hT hfit hk
    generalize fdX shp xs = r at *
    have HR := hide hr
    clear hr hl
    go_enter Tryz.func45, Tryz.ntmps45
    go_wp2_with fail
    refine (unhide F1).mono ?_
    rintro e w1 ⟨rfl, hb⟩
    cases r with
    | none =>
      clear F1 HR
      unfold foRS
      dsimp only
      go_wp2
      exact bodyPost_ret (results_tmp2 rfl _ _ _) rfl ⟨rfl, hb.alloc hb.size _⟩
    | some s =>
      obtain ⟨k1, k2⟩ := unhide HR s rfl
      obtain ⟨kd, dp⟩ := s
      dsimp only at k1 k2
      unfold foRS shE
      dsimp only
      by_cases h0 : kd = 0
      · subst h0
        clear F1 HR
        go_wp2
        exact bodyPost_ret (results_tmp2 rfl _ _ _) rfl ⟨rfl, hb.alloc hb.size _⟩
      · by_cases hd : dp > 32
        · have hd2 : ((32 : Int) < dp) = True := by simp; omega
          clear F1 HR
          go_wp2
          exact bodyPost_ret (results_tmp2 rfl _ _ _) rfl ⟨by first | rfl | (dsimp only; rw [if_pos hd, if_pos rfl]; rfl) | (simp [hd]), hb.alloc hb.size _⟩
        · have hd2 : ((32 : Int) < dp) = False := by simp; omega
          clear F1 HR
          go_wp2
          exact bodyPost_ret (results_tmp2 rfl _ _ _) rfl ⟨by first | rfl | (dsimp only; rw [if_neg hd, if_neg h0]; rfl) | (simp [hd, h0]), hb.alloc hb.size _⟩
end Go.Proofs.YtogklmljllocbabGreatDoor
