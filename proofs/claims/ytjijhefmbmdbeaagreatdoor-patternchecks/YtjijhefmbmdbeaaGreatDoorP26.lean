/-
  Reading a text as an expression, plainly; what is written is read back.
  Patterns, plainly: which may be, how tokens are read as one.
  Is a text empty?
  Stages: which stages an expression asks for, as the plain function has it.
-/
import Derived.Test.YtjijhefmbmdbeaaGreatDoorP25
import Derived.Test.YtjijhefmbmdbeaaGreatDoorP20
import Derived.Test.YtjijhefmbmdbeaaGreatDoorP08
import Derived.Test.YtjijhefmbmdbeaaGreatDoorP06
import Derived.Test.YtjijhefmbmdbeaaGreatDoorP18
import Derived.Deep.QuietTactic
namespace Go.Proofs.YtjijhefmbmdbeaaGreatDoor
open Go.RowKit

/-- How tokens are read from the first on. -/
def psR (l : List Tk) : PR := pRd (mRd 0 l) 0 0 [] l
def hdPl : List Tk → Int
  | [] => 0
  | t :: _ => t.pl
def hdKd : List Tk → Int
  | [] => 0
  | t :: _ => t.kd
/-- What Read tells: the parts, the place and the number of a fault. -/
structure RO where
  x : List Pt
  at_ : Int
  c : Int
/-- Of tokens that may be all parts may be held. -/
def PR.fits : PR → Prop
  | .bad _ => True
  | .good x _ => ∀ p ∈ x, p.ok
theorem e0 : (txt []).size = 0 := rfl
theorem opP_ok {k : Int} (h : -100 ≤ k ∧ k ≤ 100) : (opP k).ok := by
  unfold opP Pt.ok
  dsimp only
  rw [e0]
  omega
theorem opA_ok {n : Nat} {s : List UInt8} {k : Int} (h : opA n s = some k) : (opP k).ok := by
  have h1 := (opA_some h).1
  apply opP_ok
  unfold lvO at h1
  repeat' split at h1
  all_goals first | (simp at h1; omega) | simp at h1
theorem fldOf_rng (s : List UInt8) : -1 ≤ fldOf s ∧ fldOf s ≤ 5 := by
  unfold fldOf
  repeat' split
  all_goals omega
theorem fdE_fits (st : ByteArray) (hst : st.size ≤ 9223372036854775807) (ts : List Tk) : (fdE st ts).fits := by
  cases ts with
  | nil => trivial
  | cons c r =>
    rw [fdE]
    split
    · intro p hp
      simp only [List.mem_singleton] at hp
      subst hp
      have := fldOf_rng (wdT c)
      unfold Pt.ok
      dsimp only
      rw [e0]
      omega
    · trivial
theorem fdR_fits (t : Tk) (ht : t.ok) (r : List Tk) : (fdR t r).fits := by
  unfold fdR
  split
  · cases r with
    | nil => trivial
    | cons c q =>
      dsimp only
      split
      · exact fdE_fits t.s (by unfold Tk.ok at ht; omega) q
      · trivial
  · exact fdE_fits (txt []) (by rw [e0]; omega) _
theorem shut_fits (x : List Pt) (hx : ∀ p ∈ x, p.ok) (q : List Tk) : (shut x q).fits := by
  cases q with
  | nil => trivial
  | cons c q =>
    rw [shut]
    split
    · exact hx
    · trivial
theorem suf_mem {a b : List Tk} (h : a <:+ b) {Q : Tk → Prop} (hb : ∀ t ∈ b, Q t) : ∀ t ∈ a, Q t := fun t ht => hb t (h.mem ht)
theorem cons_ok {k : Int} {x : List Pt} (h : (opP k).ok) (hx : ∀ p ∈ x, p.ok) : ∀ p ∈ opP k :: x, p.ok := by
  intro p hp
  rcases List.mem_cons.1 hp with rfl | hp
  · exact h
  · exact hx p hp
theorem app_ok {x y : List Pt} (hx : ∀ p ∈ x, p.ok) (hy : ∀ p ∈ y, p.ok) : ∀ p ∈ x ++ y, p.ok := by
  intro p hp
  rcases List.mem_append.1 hp with hp | hp
  · exact hx p hp
  · exact hy p hp
theorem pRd_fits (f : Nat) : ∀ (m d : Nat) (acc : List Pt) (ts : List Tk), (∀ t ∈ ts, t.ok) → (∀ p ∈ acc, p.ok) → (pRd f m d acc ts).fits := by
  induction f with
  | zero => intro m d acc ts _ _; rw [pRd]; trivial
  | succ f ih =>
    intro m d acc ts hts hacc
    have ih' : ∀ (m d : Nat) (acc : List Pt) (ts' : List Tk), ts' <:+ ts → (∀ p ∈ acc, p.ok) → (pRd f m d acc ts').fits := fun m d acc ts' hs ha => ih m d acc ts' (suf_mem hs hts) ha
    have suf := fun (m d : Nat) (acc : List Pt) (ts' : List Tk) => pRd_suf f m d acc ts'
    have nil : ∀ p ∈ ([] : List Pt), p.ok := fun p hp => by cases hp
    cases ts with
    | nil => rw [pRd]; trivial
    | cons t r =>
      have ht := hts t (by simp)
      have hr : r <:+ t :: r := List.suffix_cons t r
      have hrf : t :: r <:+ t :: r := List.suffix_refl _
      rw [pRd]
      by_cases h6 : m = 6
      · rw [if_pos h6]
        split
        · intro p hp
          simp only [List.mem_singleton] at hp
          subst hp
          unfold Tk.ok at ht
          unfold Pt.ok
          dsimp only
          rw [e0]
          omega
        · split
          · intro p hp
            simp only [List.mem_singleton] at hp
            subst hp
            unfold Tk.ok at ht
            unfold Pt.ok
            dsimp only
            rw [e0]
            omega
          · split
            · exact fdR_fits t ht r
            · split
              · split
                · have h1 := ih' 0 (d + 1) [] r hr nil
                  cases hE : pRd f 0 (d + 1) [] r with
                  | bad q => trivial
                  | good x q => rw [hE] at h1; exact shut_fits x h1 q
                · trivial
              · trivial
      · rw [if_neg h6]
        split
        · split
          · rename_i kk hk
            split
            · have h1 := ih' 2 (d + 1) [] r hr nil
              cases hE : pRd f 2 (d + 1) [] r with
              | bad q => trivial
              | good x q => rw [hE] at h1; exact cons_ok (opA_ok hk) h1
            · trivial
          · exact ih' 3 d [] (t :: r) hrf nil
        · split
          · have h1 := ih' 4 d [] (t :: r) hrf nil
            have s1 := suf 4 d [] (t :: r)
            cases hE : pRd f 4 d [] (t :: r) with
            | bad q => trivial
            | good x q =>
              rw [hE] at h1 s1
              cases q with
              | nil => trivial
              | cons c q' =>
                dsimp only
                split
                · exact h1
                · rename_i kk hk
                  have h2 := ih' 4 d [] q' ((List.suffix_cons c q').trans s1) nil
                  cases hE2 : pRd f 4 d [] q' with
                  | bad s => trivial
                  | good y s => rw [hE2] at h2; exact cons_ok (opA_ok hk) (app_ok h1 h2)
          · split
            · have h1 := ih' (m + 1) d [] (t :: r) hrf nil
              have s1 := suf (m + 1) d [] (t :: r)
              cases hE : pRd f (m + 1) d [] (t :: r) with
              | bad q => trivial
              | good x q => rw [hE] at h1 s1; exact ih' (m + 10) d x q s1 h1
            · split
              · exact hacc
              · rename_i kk hk
                have h1 := ih' (m - 10 + 1) d [] r hr nil
                have s1 := suf (m - 10 + 1) d [] r
                cases hE : pRd f (m - 10 + 1) d [] r with
                | bad q => trivial
                | good y q => rw [hE] at h1 s1; exact ih' m d _ q (s1.trans hr) (cons_ok (opA_ok hk) (app_ok hacc h1))
theorem endd_snoc (ts : List Tk) (n : Nat) : Endd (ts ++ [endZ n]) := ⟨ts, endZ n, rfl, rfl⟩
end Go.Proofs.YtjijhefmbmdbeaaGreatDoor
namespace Go.Proofs.YtjijhefmbmdbeaaGreatDoor
open Go.RowKit Go.Shelf

structure Stg where
  nm : ByteArray
  hw : Int
  mn : Bool
  cd : List Pt
structure Ptn where
  ss : List Stg
  wi : Int
def noP : Ptn := ⟨[], 0⟩
/-- May a condition be asked behind stages of these names? -/
def cdOk (x : List Pt) (ah : List ByteArray) : Bool := decide (ckK x = 3) && (stgS x).all (hasN ah)
def hwOk (h : Int) (n : Nat) : Bool := decide (0 ≤ h) && (decide (h ≤ 3) && (decide (h = 0) == decide (n = 0)))
/-- May a stage stand behind stages of these names? -/
def stOk (s : Stg) (ah : List ByteArray) : Bool := isSg s.nm && (!hasN ah s.nm && (hwOk s.hw ah.length && cdOk s.cd ah))
def nmsOf (l : List Stg) : List ByteArray := l.map (·.nm)
/-- The first stage that may not be. -/
def bad1 : List Stg → List ByteArray → Nat → Option Nat
  | [], _, _ => none
  | s :: r, ah, i => if stOk s ah then bad1 r (ah ++ [s.nm]) (i + 1) else some i
def wiOk (n : Int) : Bool := decide (1 ≤ n) && decide (n ≤ 256)
/-- What Check tells. -/
def pcR (p : Ptn) : Int × Int := if p.ss.length < 1 ∨ 8 < p.ss.length then (0, 120) else match bad1 p.ss [] 0 with
  | some i => ((i : Int), 120)
  | none => if wiOk p.wi then (0, 0) else ((p.ss.length : Int), 120)
theorem bad1_next {l : List Stg} {k : Nat} (h : k < l.length) : bad1 (l.drop k) (nmsOf (l.take k)) k = if stOk l[k] (nmsOf (l.take k)) then bad1 (l.drop (k + 1)) (nmsOf (l.take (k + 1))) (k + 1) else some k := by
  rw [List.drop_eq_getElem_cons h, bad1, List.take_succ_eq_append_getElem h]
  unfold nmsOf
  rw [List.map_append]
  rfl
theorem bad1_end (l : List Stg) : bad1 (l.drop l.length) (nmsOf (l.take l.length)) l.length = none := by rw [List.drop_length]; rfl
theorem nmsOf_len (l : List Stg) : (nmsOf l).length = l.length := by unfold nmsOf; rw [List.length_map]
theorem nmsOf_next {l : List Stg} {k : Nat} (h : k < l.length) : nmsOf (l.take (k + 1)) = nmsOf (l.take k) ++ [l[k].nm] := by
  unfold nmsOf
  rw [List.take_succ_eq_append_getElem h, List.map_append]
  rfl
/-! A name by itself. -/
theorem name_ck (s : ByteArray) : ckK [⟨3, 0, ⟨#[]⟩, s, 0⟩] = if emptyB s = true ∨ isSg s = true then 1 else 0 := by
  have h1 : fdX shp [⟨3, 0, ⟨#[]⟩, s, 0⟩] = some ⟨lfK ⟨3, 0, ⟨#[]⟩, s, 0⟩, 1⟩ := rfl
  unfold ckK
  rw [if_neg (by simp), h1]
  dsimp only
  rw [if_neg (by omega)]
  unfold lfK
  rw [if_neg (by dsimp only; omega), if_neg (by dsimp only; omega)]
  dsimp only
  have e0 : emptyB (⟨#[]⟩ : ByteArray) = true := rfl
  by_cases h : emptyB s = true ∨ isSg s = true
  · rw [if_pos ⟨rfl, rfl, e0, h⟩, if_pos h]
    rfl
  · rw [if_neg (fun hh => h hh.2.2.2), if_neg h]
theorem sg_ne {s : ByteArray} (h : isSg s = true) : emptyB s = false := by
  have := (isSg_size h).1
  unfold emptyB
  rw [beq_eq_false_iff_ne]
  omega
theorem name_is (s : ByteArray) : isSg s = (!emptyB s && decide ((if ckK [⟨3, 0, ⟨#[]⟩, s, 0⟩] = 0 then (110 : Int) else 0) = 0)) := by
  rw [name_ck]
  cases h : isSg s with
  | true => rw [sg_ne h]; simp
  | false =>
    cases h2 : emptyB s with
    | true => rfl
    | false => simp
/-! The reader. -/
def wdL : List Tk → List UInt8
  | [] => []
  | t :: _ => wdT t
def wdM : List Tk → ByteArray
  | [] => ⟨#[]⟩
  | t :: _ => wdS t
/-- How a stage follows that begins with a word. -/
def hwOf (s : List UInt8) : Option Int := if s = [97, 110, 121] then some 3 else if s = [116, 104, 101, 110] then some 2 else if s = [110, 101, 120, 116] then some 1 else if s = [115, 116, 97, 114, 116] then some 0 else none
inductive SRd where
  | bad (a c : Int)
  | good (s : Stg) (r : List Tk)
def cdR (h : Int) (nm : ByteArray) (m : Bool) (l : List Tk) : SRd := match psR l with
  | .bad q => .bad (hdPl q) 110
  | .good x q => if ckK x = 0 then .bad 0 110 else if wdL q = [59] then .good ⟨nm, h, m, x⟩ (q.drop 1) else .bad (hdPl q) 120
def clR (h : Int) (nm : ByteArray) (m : Bool) (l : List Tk) : SRd := if wdL l = [58] then cdR h nm m (l.drop 1) else .bad (hdPl l) 120
def mnR (h : Int) (nm : ByteArray) (l : List Tk) : SRd := if wdL l = [43] then clR h nm true (l.drop 1) else clR h nm false l
def nmR (h : Int) (l : List Tk) : SRd := if isSg (wdM l) then mnR h (wdM l) (l.drop 1) else .bad (hdPl l) 120
def stgR (l : List Tk) : SRd := match hwOf (wdL l) with
  | none => .bad (hdPl l) 120
  | some h => nmR h (l.drop 1)
def witW : List UInt8 := [119, 105, 116, 104, 105, 110]
inductive PRd where
  | bad (a c : Int)
  | good (p : Ptn)
def nbR (acc : List Stg) : List Tk → PRd
  | [] => .bad 0 120
  | t :: r => if t.kd = 2 then (if hdKd r = 0 then .good ⟨acc, if 257 < t.n then 257 else t.n⟩ else .bad (hdPl r) 120) else .bad (hdPl (t :: r)) 120
def ptR : Nat → List Stg → List Tk → PRd
  | 0, _, l => .bad (hdPl l) 120
  | f + 1, acc, l => if wdL l = witW then nbR acc (l.drop 1) else if acc.length = 8 then .bad (hdPl l) 120 else match stgR l with
    | .bad a c => .bad a c
    | .good s r => ptR f (acc ++ [s]) r
structure PO where
  p : Ptn
  at_ : Int
  c : Int
def rdPG (n : Nat) (ts : List Tk) : PO := match ptR 9 [] (ts ++ [endZ n]) with
  | .bad a c => ⟨noP, a, c⟩
  | .good p => if (pcR p).2 = 0 then ⟨p, 0, 0⟩ else ⟨noP, 0, 120⟩
/-- What Read tells. -/
def rdP (s : ByteArray) : PO := match tsR s with
  | .bad p q => ⟨noP, (p : Int), q⟩
  | .good ts => rdPG s.size ts
end Go.Proofs.YtjijhefmbmdbeaaGreatDoor
namespace Go.Proofs.YtjijhefmbmdbeaaGreatDoor

theorem emp_toList (s : ByteArray) : s.toList.isEmpty = emptyB s := emp_list s
theorem emp_str (s : ByteArray) : (s.toList == ([] : List UInt8)) = emptyB s := by
  rw [toList_data]
  unfold emptyB
  rw [Bool.eq_iff_iff, beq_iff_eq, beq_iff_eq]
  exact List.length_eq_zero_iff.symm
end Go.Proofs.YtjijhefmbmdbeaaGreatDoor
namespace Go.Proofs.YtjijhefmbmdbeaaGreatDoor
open Go.RowKit Go.Shelf

set_option maxHeartbeats 2000000 in
set_option maxRecDepth 100000 in
theorem stages_any (ad : Option Addr) (cap : Nat) (xs : List Pt) (w : World) (hc : PtsAt w ad xs) (hT : TbE w) (hfit : ∀ p ∈ xs, p.fit) :
    Calls Tryz.prog 82 #[.slice ad xs.length cap] w fun e w' => ∃ v, e = .returned (.tuple #[v, .int .i64 (if ckK xs = 0 then 110 else 0)]) ∧ OwnsW w.heap.size w' v (stgS xs) ∧ Below w.heap.size w w' := by
  have CK := hide (check_any ad cap xs w hc hT hfit)
  by_cases h0 : ckK xs = 0
  · have hs : stgS xs = [] := by unfold stgS; rw [if_pos h0]
    rw [hs]
    rw [h0, if_pos rfl] at CK
    rw [if_pos h0]
    clear hc hT hfit h0 hs
    go_enter Tryz.func82, Tryz.ntmps82
    go_wp2_with fail
    refine (unhide CK).mono ?_
    rintro e w1 ⟨rfl, hb⟩
    clear CK
    go_wp2
    exact bodyPost_ret (results_tmp2 rfl _ _ _) rfl ⟨_, rfl, OwnsW.nil _ _, hb⟩
  · have hs : stgS xs = stgL xs := by unfold stgS; rw [if_neg h0]
    rw [hs]
    rw [if_neg h0] at CK
    rw [if_neg h0]
    have HST := hide (ck_st h0)
    obtain ⟨_, _, _, _, _, hx, _⟩ := ckK_leaves h0
    have HC := hide hc
    have HTK := hide (fun k (hk : k < xs.length) => stgL_take xs k hk)
    have HLN := hide (fun k => Nat.le_trans (stgL_len (xs.take k)) (by rw [List.length_take]; omega : (xs.take k).length ≤ 200))
    have HEN : Hid (stgL (xs.take xs.length) = stgL xs) := hide (by rw [List.take_length])
    clear hc hT hfit h0 hs
    generalize ckK xs = ck at *
    obtain ⟨n, hn⟩ : ∃ n, xs.length = n := ⟨_, rfl⟩
    have HN := hide hn
    rw [hn] at hx CK HEN ⊢
    clear hn
    go_enter Tryz.func82, Tryz.ntmps82
    go_wp2_with fail
    refine (unhide CK).mono ?_
    rintro e w1 ⟨rfl, hb1⟩
    have HB1 := hide hb1
    clear CK hb1
    go_wp2_with fail
    go_loopw [6, 19] (fun v i wr => ∃ (k : Nat) (a : Option Addr) (c NL : Nat), k ≤ n ∧ i = .int .i64 (k : Int) ∧ v = .slice a NL c ∧ NL = (stgL (xs.take k)).length ∧ Hid (OwnsW w.heap.size wr (.slice a NL c) (stgL (xs.take k))) ∧ Below w.heap.size w wr) (fun _ i _ => n - (intOf i).toNat)
    case atStart => exact ⟨0, none, 0, 0, Nat.zero_le _, rfl, rfl, rfl, hide (OwnsW.nil _ _), unhide HB1⟩
    case round =>
      obtain ⟨k, a, c, NL, hk, rfl, rfl, hNL, HO, hb⟩ := hrel
      by_cases hlt : k < n
      · have hkx : k < xs.length := by rw [unhide HN]; exact hlt
        have hli : (k : Int) < (n : Int) := by omega
        obtain ⟨b, off, rfl, hbl, x0, x1, x2, x3, x4⟩ := ((unhide HC).kp (Kp.ofBelow hb)).at k hkx
        have HSG := hide (unhide HST _ (List.getElem_mem hkx))
        have HNX := hide (unhide HTK k hkx)
        have hl2 := unhide HLN k
        unfold stgA at HNX
        clear HTK HLN HST HEN HC HB1
        generalize xs[k] = p at *
        obtain ⟨pk, pn, ps, pt, pf⟩ := p
        dsimp only at x0 x1 x2 x3 x4 HSG HNX
        have hb2 : Below w.heap.size w (wr.alloc (.cells #[.int .i64 pk, .int .i64 pn, .string ps, .string pt, .int .i64 pf] 86)) := hb.alloc hb.size _
        have ho2 := (unhide HO).kp (Kp.alloc wr (.cells #[.int .i64 pk, .int .i64 pn, .string ps, .string pt, .int .i64 pf] 86))
        have c3 : (wr.alloc (.cells #[.int .i64 pk, .int .i64 pn, .string ps, .string pt, .int .i64 pf] 86)).cell? ⟨wr.heap.size, 3, none⟩ = some (.string pt) := (CBox.new wr _ _).cell rfl
        generalize stgL (xs.take k) = L at *
        obtain ⟨a', c', hv, hnm, _⟩ := ho2.at
        injection hv with e1 e2 e3
        subst e1 e3
        have CT := hide (contains_any a c L pt _ (by omega) hnm)
        rw [← hNL] at CT
        have HB2 := hide hb2
        have HO2 := hide ho2
        have HNL := hide hNL
        have hwl : wr.heap.size < (wr.alloc (.cells #[.int .i64 pk, .int .i64 pn, .string ps, .string pt, .int .i64 pf] 86)).heap.size := by simp
        clear hb hb2 ho2 HO hnm hNL e2
        have g1 := emp_toList pt
        have g2 := emp_str pt
        cases hE : emptyB pt with
        | true =>
          rw [hE] at g1 g2
          rw [hE, Bool.true_or, if_pos rfl] at HNX
          clear hE CT
          go_wp2_with fail
          go_roundw
          case rel => exact ⟨k + 1, a, c, NL, by omega, by go_num, rfl, by rw [unhide HNX]; exact unhide HNL, by rw [unhide HNX]; exact HO2, unhide HB2⟩
          case measure => simp [intOf]; omega
        | false =>
          rw [hE] at g1 g2
          rw [hE, Bool.false_or] at HNX
          clear hE
          cases hH : hasN L pt with
          | true =>
            rw [hH] at CT HNX
            rw [if_pos rfl] at HNX
            clear hH
            go_wp2_with fail
            refine (unhide CT).mono ?_
            rintro e w4 ⟨rfl, rfl⟩
            clear CT
            go_wp2
            go_roundw
            case rel => exact ⟨k + 1, a, c, NL, by omega, by go_num, rfl, by rw [unhide HNX]; exact unhide HNL, by rw [unhide HNX]; exact HO2, unhide HB2⟩
            case measure => simp [intOf]; omega
          | false =>
            rw [hH] at CT HNX
            rw [if_neg (by simp)] at HNX
            clear hH
            have hpz : pt.size ≤ 32 := (unhide HSG).2
            have CL := hide (fun W => clone_any pt W (by omega))
            go_wp2_with fail
            refine (unhide CT).mono ?_
            rintro e w4 ⟨rfl, rfl⟩
            clear CT
            generalize wr.alloc (.cells #[.int .i64 pk, .int .i64 pn, .string ps, .string pt, .int .i64 pf] 86) = W2 at *
            go_wp2_with fail
            refine (unhide CL _).mono ?_
            rintro e w5 ⟨rfl, hb5⟩
            have k5 := (Kp.ofBelow hb5).trans (Kp.alloc w5 (.cells #[.string pt] 9)) (by simp)
            have hb6 := (unhide HB2).trans (k5.below (unhide HB2).size (by simp))
            have ho6 := (unhide HO2).kp k5
            obtain ⟨g', cap', w', hrun, hO', hbw, _⟩ := OwnsW.app (c := 1) ho6 hb6.size pt (g := w5.heap.size) ((CBox.new w5 _ _).cell rfl) (by omega) 68
            rw [← unhide HNL] at hrun hO'
            have HRUN := hide hrun
            have HO' := hide hO'
            have HBW := hide (hb6.trans hbw)
            clear hrun hO' hbw hb6 ho6 k5 hb5 CL
            dsimp only
            go_wp2_with (at_builtin; refine wpList_app_run rfl _ _ _ rfl rfl rfl (unhide HRUN) ?_)
            go_roundw
            case rel => exact ⟨k + 1, _, cap', NL + 1, by omega, by go_num, rfl, by rw [unhide HNX, List.length_append, ← unhide HNL]; rfl, by rw [unhide HNX]; exact HO', unhide HBW⟩
            case measure => simp [intOf]; omega
      · obtain rfl : k = n := by omega
        have HE := unhide HEN
        rw [HE] at HO
        clear HE HEN HTK HLN HST HC HB1 hNL
        go_wp2
        exact bodyPost_ret (results_tmp2 rfl _ _ _) rfl ⟨_, rfl, unhide HO, hb⟩
end Go.Proofs.YtjijhefmbmdbeaaGreatDoor
