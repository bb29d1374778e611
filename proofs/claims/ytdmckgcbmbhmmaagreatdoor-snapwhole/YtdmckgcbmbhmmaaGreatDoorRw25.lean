/-
  SnapFew: whatever the shots and the other file's name, the law returns true.
-/
import Derived.Test.YtdmckgcbmbhmmaaGreatDoorRw23
import Derived.Test.YtdmckgcbmbhmmaaGreatDoorRw24
import Derived.Deep.CutBlock
import Derived.Deep.DeepCutAuto
namespace Go.Proofs.YtdmckgcbmbhmmaaGreatDoor
open Go.RowKit

theorem Few.zero : Few 0 0 (fun _ => none) := ⟨Or.inl ⟨rfl, rfl⟩, fun _ h => (by cases h), fun _ _ _ h => (by cases h)⟩
/-- What Few says, with the disk. -/
def FewD (w W : World) (p k c l : Nat) : Prop := ∃ d j g, j ≤ 10 * k ∧ OwnD w W p d ∧ Gn fA j g d ∧ Few c l g
def FewT (w W : World) (p k c l t : Nat) (f : Nat → ByteArray) : Prop := ∃ d j g, j ≤ 10 * k + 2 * t ∧ OwnD w W p d ∧ Gn fA j g d ∧ Few c l g ∧ TkN g c t f
/-- With another file, or without. -/
def FewK (w W : World) (p c l : Nat) (o : ByteArray) (K : Bool) : Prop := ∃ d j g gd, j ≤ 200 ∧ OwnD w W p d ∧ Gn (if K = true then o :: fA else fA) j gd d ∧ Few c l g ∧ (K = true → Foreign o ∧ dnm o = true) ∧ gd = if K = true then gSet o (some bx.data.toList) g else g
theorem FewD.k0 {w W : World} {p k c l : Nat} {o : ByteArray} (h : FewD w W p k c l) (hk : k ≤ 6) : FewK w W p c l o false := let ⟨d, j, g, a, b, e, q⟩ := h; ⟨d, j, g, g, by omega, b, e, q, fun h => (by cases h), rfl⟩
theorem FewD.kp {w W W' : World} {p k c l : Nat} (h : FewD w W p k c l) (hk : Kp [] W W') : FewD w W' p (k + 1) c l := let ⟨d, j, g, a, b, e⟩ := h; ⟨d, j, g, by omega, b.kp hk, e⟩
theorem FewD.start {w W W' : World} {p k c l : Nat} (h : FewD w W p k c l) (hk : Kp [] W W') (f : Nat → ByteArray) : FewT w W' p k (c + 1) l 0 f := let ⟨d, j, g, a, b, e, q⟩ := h; ⟨d, j, g, by omega, b.kp hk, e, q.more, fun _ ht => absurd ht (by omega)⟩
/-- A name of another file: what is known of its first byte. -/
theorem foreign_of {o : ByteArray} (h : o ≠ ⟨#[]⟩) : ∃ b r, o.data.toList = b :: r := by
  cases ho : o.data.toList with
  | nil => exact absurd (by rw [← snA o, ho]) h
  | cons b r => exact ⟨b, r, rfl⟩
set_option maxHeartbeats 8000000 in
set_option maxRecDepth 100000 in
theorem sfew_walk (ad : Option Addr) (cap : Nat) (l : List Shot) (o : ByteArray) (w : World) (_hl : l.length ≤ 9223372036854775807) (hI : ShAt w ad l) (hok : ∀ y ∈ l, y.ok) (ho : o.size ≤ 9223372036854775807) (hT : TabW w) :
    Calls Tryz.prog 5 #[.slice ad l.length cap, .string o] w fun e w' => e = .returned (.bool true) ∧ Kp [] w w' := by
  have NW := hide (new_own w)
  have WK := hide (fun W (hk : Kp [] w W) => works_any W (hT.kp' hk))
  have II := hide (fun W (hk : Kp [] w W) => hI.kp hk)
  have HOK := hide hok
  have PT := hide (fun W p d c t b (h : OwnD w W p d) (hc : 1 ≤ c ∧ c < 100) (ht : t ≤ 32) (hb : b.size ≤ 65536) => put_any h hT c t b hc ht hb)
  have CM := hide (fun W p d c n s (h : OwnD w W p d) (hc : 1 ≤ c ∧ c < 100) (hn : 1 ≤ n ∧ n ≤ 33) (hs : s.size ≤ 500) => commit_any h hT c n s hc hn hs)
  have LA := hide (fun W p d (h : OwnD w W p d) => latest_any h hT)
  have CO := hide (fun W p d (h : OwnD w W p d) => coll_any h hT)
  have RE := hide (fun W p d c t (h : OwnD w W p d) (hc : 1 ≤ c ∧ c < 100) (ht : t ≤ 32) => read_sn h hT c t hc ht)
  have WR := hide (fun W p d (h : OwnD w W p d) => h.wr2 o 0 ⟨#[120]⟩ ho (by decide) (by decide) (by decide))
  have HB := hide hI
  clear hI hT hok ho
  go_enter Tryz.func5, Tryz.ntmps5
  go_wp2_with fail
  refine (unhide NW).mono ?_
  rintro e w1 ⟨p, rfl, o1⟩
  have O1 := hide o1
  clear o1
  go_wp2_with fail
  refine (unhide WK w1 (unhide O1).bel).mono ?_
  rintro e w2 ⟨rfl, k2⟩
  have HI : Hid (FewD w w2 p 0 0 0) := hide ⟨_, 0, _, Nat.zero_le _, (unhide O1).kp k2, Gn.new, Few.zero⟩
  clear k2 O1 NW WK
  go_wp2
  go_loopw [7, 6, 8, 9, 10] (fun i cv _ _ _ wr => ∃ k c lst : Nat, k ≤ l.length ∧ k ≤ 6 ∧ c ≤ k ∧ lst ≤ c ∧ i = .int .i64 (k : Int) ∧ cv = .int .i64 (c : Int) ∧ Hid (FewD w wr p k c lst)) (fun i _ _ _ _ _ => 6 - (intOf i).toNat)
  case atStart => exact ⟨0, 0, 0, Nat.zero_le _, Nat.zero_le _, Nat.zero_le _, Nat.zero_le _, rfl, rfl, HI⟩
  case round =>
    obtain ⟨k, c, lst, hk, hk6, hck, hlc, rfl, rfl, HK⟩ := hrel
    clear HI
    obtain ⟨W0, hW0⟩ : ∃ W0, W0 = wr := ⟨_, rfl⟩
    subst hW0
    by_cases hgo : k < l.length ∧ k < 6
    · obtain ⟨hlt, h6⟩ := hgo
      have hli : (k : Int) < (l.length : Int) := by omega
      have h6i : (k : Int) < 6 := by omega
      have hbel : Kp [] w W0 := let ⟨_, _, _, _, od, _⟩ := unhide HK; od.bel
      obtain ⟨b, off, rfl, _, c0, c1, c2, c3, c4, _⟩ := (unhide II W0 hbel).at k hlt
      have hSb : StrsAt w l[k].a l[k].L := let ⟨_, _, _, _, _, _, _, _, _, h⟩ := (unhide HB).at k hlt; h
      have hxok := unhide HOK l[k] (List.getElem_mem hlt)
      generalize l[k] = x at *
      obtain ⟨xa, xc, xl, xs, xf, xk, xt⟩ := x
      dsimp only at c0 c1 c2 c3 c4 hSb
      obtain ⟨⟨hx1, hx2⟩, hx3, _⟩ := hxok
      dsimp only at hx1 hx2 hx3
      have k1 := Kp.alloc W0 (.cells #[.slice xa xl.length xc, .string xs, .int .i64 xf, .int .i64 xk, .int .i64 xt] 44)
      have mb := CBox.new W0 #[.slice xa xl.length xc, .string xs, .int .i64 xf, .int .i64 xk, .int .i64 xt] 44
      have m0 := mb.cell (i := 0) (v := .slice xa xl.length xc) rfl
      have m1 := mb.cell (i := 1) (v := .string xs) rfl
      by_cases hgood : (1 ≤ xl.length ∧ xl.length ≤ 5) ∧ xs.size ≤ 500
      · obtain ⟨⟨hn1, hn5⟩, hs5⟩ := hgood
        have e0 : ((xl.length : Int) == 0) = false := beq_eq_false_iff_ne.2 (by omega)
        have e5 : ¬ (5 : Int) < (xl.length : Int) := by omega
        have es : ¬ (500 : Int) < (xs.size : Int) := by omega
        have HF : Hid (∀ i (h : i < xl.length), xl.getD i ⟨#[]⟩ = xl[i]) := hide (fun i h => by simp [h])
        generalize hf : (fun i => xl.getD i ⟨#[]⟩) = f at *
        have HF' : Hid (∀ i (h : i < xl.length), f i = xl[i]) := hide (fun i h => by rw [← hf]; exact unhide HF i h)
        clear HF hf
        have HT0 := hide ((unhide HK).start k1 f)
        have MB := hide mb
        have HSB := hide hSb
        have HX2 := hide hx2
        clear HK k1 mb hSb hx2 hbel
        obtain ⟨c', hc'⟩ : ∃ c', c' = c + 1 := ⟨_, rfl⟩
        have HC : Hid ((c' : Int) = (c : Int) + 1) := hide (by omega)
        rw [← hc'] at HT0
        have hc1 : 1 ≤ c' ∧ c' ≤ 6 := by omega
        have hl1 : lst < c' := by omega
        have hck' : c' ≤ k + 1 := by omega
        have hcb : c ≤ 6 := by omega
        clear hc' hck hlc
        generalize hW1 : W0.alloc (.cells #[.slice xa xl.length xc, .string xs, .int .i64 xf, .int .i64 xk, .int .i64 xt] 44) = W1 at *
        go_wp2
        rw [← unhide HC]
        go_loopw [72, 9, 10] (fun i _ _ wr => ∃ t : Nat, t ≤ xl.length ∧ i = .int .i64 (t : Int) ∧ Hid (FewT w wr p k c' lst t f ∧ CBox W0.heap.size #[.slice xa xl.length xc, .string xs, .int .i64 xf, .int .i64 xk, .int .i64 xt] 44 wr)) (fun i _ _ _ => xl.length - (intOf i).toNat)
        case atStart => exact ⟨0, Nat.zero_le _, rfl, hide ⟨unhide HT0, unhide MB⟩⟩
        case round =>
          obtain ⟨t, ht, rfl, HR⟩ := hrel
          clear HT0 MB
          obtain ⟨⟨d, j, g, hj, od, gd, fw, tk⟩, cb⟩ := unhide HR
          clear HR
          by_cases hlt2 : t < xl.length
          · have hli2 : (t : Int) < (xl.length : Int) := by omega
            obtain ⟨b2, off2, rfl, _, hc2⟩ := ((unhide HSB).kp od.bel) (by intro e; rw [e] at hlt2; simp at hlt2)
            have s1 := hc2 t hlt2
            clear hc2
            have hft := unhide HF' t hlt2
            have hbz := unhide HX2 xl[t] (List.getElem_mem hlt2)
            generalize xl[t] = bt at *
            by_cases hbig : 500 < bt.size
            · have hbi : (500 : Int) < (bt.size : Int) := by omega
              have HE := hide od.bel
              clear od gd fw tk cb
              go_wp2
              go_ret
              exact ⟨rfl, unhide HE⟩
            · have hbi : ¬ (500 : Int) < (bt.size : Int) := by omega
              subst hft
              obtain ⟨e1, g1⟩ := gd.put (t := t) (b := f t) (by omega) (by have := fA_len; omega) (fw.lt (by omega)) ⟨hc1.1, by omega⟩ hl1 (by omega) (fA_nm hc1.1 hc1.2 (by omega)) (by omega)
              have pu := unhide PT wr p d c' t (f t) od (by omega) (by omega) (by omega)
              rw [e1] at pu
              have PU : Hid (Calls Tryz.prog _ _ wr fun e w' => e = .returned (.int .i64 0) ∧ FewT w w' p k c' lst (t + 1) f ∧ CBox W0.heap.size #[.slice (some ⟨b2, off2, none⟩) xl.length xc, .string xs, .int .i64 xf, .int .i64 xk, .int .i64 xt] 44 w') := hide (pu.mono fun _ _ ⟨a, b, q⟩ => ⟨a, ⟨_, _, _, by omega, b, g1, fw.put hc1 (by omega) (by omega), tk.put hc1 (by omega) (by omega)⟩, cb.oth q (by decide) (by decide) (by decide) (by simp)⟩)
              clear pu e1 g1 od gd fw tk cb hj
              go_wp2_with fail
              refine (unhide PU).mono ?_
              rintro e w4 ⟨rfl, h4⟩
              have HN := hide h4
              clear h4 PU
              go_wp2
              go_roundw
              case rel => exact ⟨t + 1, by omega, by go_num, HN⟩
              case measure => simp [intOf]; omega
          · obtain rfl : t = xl.length := by omega
            have hr3 : (k : Int).tmod 3 = ((k % 3 : Nat) : Int) := rfl
            have n0 := cb.cell (i := 0) (v := .slice xa xl.length xc) rfl
            have n1 := cb.cell (i := 1) (v := .string xs) rfl
            by_cases h3 : k % 3 = 2
            · have r2 : (k : Int).tmod 3 = 2 := by rw [hr3, h3]; rfl
              have HN : Hid (FewD w wr p (k + 1) c' lst) := hide ⟨d, j, g, by omega, od, gd, fw⟩
              clear od gd fw tk cb hj hr3
              go_wp2
              go_roundw
              case rel => exact ⟨k + 1, c', lst, by omega, by omega, by omega, by omega, by go_num, rfl, HN⟩
              case measure => simp [intOf]; omega
            · have r2 : ((k : Int).tmod 3 != 2) = true := by rw [hr3, bne_iff_ne]; omega
              obtain ⟨e1, g1⟩ := gd.commit (n := xl.length) (s := xs) (f := f) (by omega) fA_m fA_new (by have := fA_len; omega) (fw.lt (by omega)) ⟨hc1.1, by omega⟩ hl1 ⟨by omega, by omega⟩ (by omega) tk
              have cm := unhide CM wr p d c' xl.length xs od (by omega) ⟨by omega, by omega⟩ (by omega)
              rw [e1] at cm
              have CU : Hid (Calls Tryz.prog _ _ wr fun e w' => e = .returned (.int .i64 0) ∧ FewD w w' p (k + 1) c' c') := hide (cm.mono fun _ _ ⟨a, b, _⟩ => ⟨a, _, _, _, by omega, b, g1, fw.commit hc1 ⟨hn1, hn5⟩ hs5 tk⟩)
              clear cm e1 g1 od gd fw tk cb hj hr3
              go_wp2_with fail
              refine (unhide CU).mono ?_
              rintro e w4 ⟨rfl, h4⟩
              have HN := hide h4
              clear h4 CU
              go_wp2
              go_roundw
              case rel => exact ⟨k + 1, c', c', by omega, by omega, by omega, by omega, by go_num, rfl, HN⟩
              case measure => simp [intOf]; omega
      · have HN := hide ((unhide HK).kp k1)
        clear HK k1 mb hSb hx2 hbel
        have hbad : xl.length = 0 ∨ (xl.length ≠ 0 ∧ 5 < xl.length) ∨ (xl.length ≠ 0 ∧ ¬ 5 < xl.length ∧ 500 < xs.size) := by omega
        clear hgood
        rcases hbad with h | ⟨h0, h⟩ | ⟨h0, h5, h⟩
        · have e0 : ((xl.length : Int) == 0) = true := by rw [h]; rfl
          clear h
          go_wp2
          go_roundw
          case rel => exact ⟨k + 1, c, lst, by omega, by omega, by omega, by omega, by go_num, rfl, HN⟩
          case measure => simp [intOf]; omega
        · have e0 : ((xl.length : Int) == 0) = false := beq_eq_false_iff_ne.2 (by omega)
          have e5 : (5 : Int) < (xl.length : Int) := by omega
          go_wp2
          go_roundw
          case rel => exact ⟨k + 1, c, lst, by omega, by omega, by omega, by omega, by go_num, rfl, HN⟩
          case measure => simp [intOf]; omega
        · have e0 : ((xl.length : Int) == 0) = false := beq_eq_false_iff_ne.2 (by omega)
          have e5 : ¬ (5 : Int) < (xl.length : Int) := by omega
          have es : (500 : Int) < (xs.size : Int) := by omega
          go_wp2
          go_roundw
          case rel => exact ⟨k + 1, c, lst, by omega, by omega, by omega, by omega, by go_num, rfl, HN⟩
          case measure => simp [intOf]; omega
    · have hex : ¬ k < l.length ∨ (k < l.length ∧ ¬ k < 6) := by
        rcases Nat.lt_or_ge k l.length with h | h
        · exact Or.inr ⟨h, fun h6 => hgo ⟨h, h6⟩⟩
        · exact Or.inl (by omega)
      clear hgo
      rcases hex with h | ⟨h, h6⟩
      · have hli : ¬ (k : Int) < (l.length : Int) := by omega
        go_upto_region 19 with fail
        go_cut [11] (fun v wc => ∃ K : Bool, v = .bool K ∧ Hid (FewK w wc p c lst o K))
        case first =>
          by_cases h0 : o = ⟨#[]⟩
          · subst h0
            have HN := hide ((unhide HK).k0 (o := ⟨#[]⟩) hk6)
            clear HK
            go_wp2_with fail
            go_meet
            exact ⟨_, rfl, HN⟩
          · obtain ⟨b, r, hb⟩ := foreign_of h0
            have hem : o.toList.isEmpty = false := by rw [ByteArray.toList_eq, hb]; rfl
            have hsz : 0 < o.size := by rw [← snL, hb]; simp
            have hb0 : (o[0]'hsz) = b := by
              have e1 : o.data.toList[0]? = some b := by rw [hb]; rfl
              have e2 : o.data.toList[0]? = some (o[0]'hsz) := by rw [List.getElem?_eq_getElem (by rw [snL]; exact hsz)]; rfl
              rw [e2] at e1
              injection e1
            by_cases h1 : b.toNat = 115
            · have x1 : (((o[0]'hsz).toNat : Nat) : Int) = 115 := by rw [hb0, h1]; rfl
              have HN := hide ((unhide HK).k0 (o := o) hk6)
              clear HK hb hb0 h0 WR
              go_wp2_with fail
              go_meet
              exact ⟨_, rfl, HN⟩
            · have x1 : ¬ (((o[0]'hsz).toNat : Nat) : Int) = 115 := by rw [hb0]; omega
              by_cases h2 : b.toNat = 109
              · have x2 : (((o[0]'hsz).toNat : Nat) : Int) = 109 := by rw [hb0, h2]; rfl
                have HN := hide ((unhide HK).k0 (o := o) hk6)
                clear HK hb hb0 h0 WR
                go_wp2_with fail
                go_meet
                exact ⟨_, rfl, HN⟩
              · have x2 : ¬ (((o[0]'hsz).toNat : Nat) : Int) = 109 := by rw [hb0]; omega
                have hfo : Foreign o := ⟨b, r, hb, fun e => h1 (by rw [e]; rfl), fun e => h2 (by rw [e]; rfl)⟩
                obtain ⟨d, j, g, hj, od, gd, fw⟩ := unhide HK
                have wr0 := unhide WR W0 p d od
                have hoth := few_other gd (by omega) fw o hfo
                rw [show (⟨#[120]⟩ : ByteArray) = bx from rfl] at wr0
                clear HK hb hb0 h0 WR
                have y1 : ((((o[0]'hsz).toNat : Nat) : Int) != 115) = true := by rw [bne_iff_ne]; exact x1
                have y2 : ((((o[0]'hsz).toNat : Nat) : Int) != 109) = true := by rw [bne_iff_ne]; exact x2
                rcases hoth with ⟨e1, g1, dn⟩ | ⟨e1, e2⟩
                · rw [e1] at wr0
                  have WU : Hid (Calls Tryz.prog 20 #[.pointer (some ⟨p, 0, none⟩), .string o, .int .i64 0, .string ⟨#[120]⟩] W0 fun e w' => e = .returned (.int .i64 0) ∧ FewK w w' p c lst o true) := hide (wr0.mono fun _ _ ⟨a, b, _⟩ => ⟨a, _, _, _, _, by omega, b, g1, fw, fun _ => ⟨hfo, dn⟩, rfl⟩)
                  clear wr0 e1 g1 od gd fw hj hfo
                  go_wp2_with fail
                  refine (unhide WU).mono ?_
                  rintro e w4 ⟨rfl, h4⟩
                  have HN := hide h4
                  clear h4 WU
                  go_wp2_with fail
                  go_meet
                  exact ⟨true, rfl, HN⟩
                · rw [e1, e2] at wr0
                  have WU : Hid (Calls Tryz.prog 20 #[.pointer (some ⟨p, 0, none⟩), .string o, .int .i64 0, .string ⟨#[120]⟩] W0 fun e w' => e = .returned (.int .i64 30) ∧ FewK w w' p c lst o false) := hide (wr0.mono fun _ _ ⟨a, b, _⟩ => ⟨a, d, j, g, g, by omega, b, gd, fw, fun h => (by cases h), rfl⟩)
                  clear wr0 e1 e2 od gd fw hj hfo
                  go_wp2_with fail
                  refine (unhide WU).mono ?_
                  rintro e w4 ⟨rfl, h4⟩
                  have HN := hide h4
                  clear h4 WU
                  go_wp2_with fail
                  go_meet
                  exact ⟨_, rfl, HN⟩
        case rest =>
          obtain ⟨K, rfl, HK2⟩ := hcut
          clear HK II HOK PT CM HB WR
          obtain ⟨d, j, g, gg, hj, od, gn, fw, hK, hg⟩ := unhide HK2
          clear HK2
          by_cases hl0 : lst = 0
          · have hm : gg mNm = none := by
              rw [hg]
              rcases fw.last with ⟨_, q⟩ | ⟨q, _⟩
              · cases K with
                | true => rw [if_pos rfl, gSet_ne ((hK rfl).1.m.1).symm]; exact q
                | false => rw [if_neg (by decide)]; exact q
              · omega
            obtain ⟨q1, q2⟩ := la_none (d := d) ((gn.get _).trans hm)
            have la := unhide LA wc p d od
            rw [q1, q2] at la
            have LU := hide la
            have CU : Hid (∀ W, OwnD w W p d → Calls Tryz.prog 11 #[.pointer (some ⟨p, 0, none⟩)] W fun e w' => e = .returned (.tuple #[.int .i64 0, .int .i64 5]) ∧ Kp [] w w') := hide (fun W h => by
              have co := unhide CO W p d h
              have hC : d.coll = (0, d.laE, d) := if_neg (by rw [q1]; decide)
              rw [hC, q1] at co
              exact co.mono fun _ _ ⟨a, b, _⟩ => ⟨a, b.bel⟩)
            have OD := hide od
            clear la od gn fw hK hg hj hm q1 q2 LA CO RE
            dsimp only [Mf.z] at LU
            go_wp2_with fail
            refine (unhide LU).mono ?_
            rintro e w4 ⟨rfl, k4⟩
            have O4 := hide ((unhide OD).kp k4)
            clear k4 OD LU
            go_wp2_with fail
            refine (unhide CU w4 (unhide O4)).mono ?_
            rintro e w5 ⟨rfl, k5⟩
            have K5 := hide k5
            clear k5 O4 CU
            go_wp2
            go_ret
            exact ⟨rfl, unhide K5⟩
          · obtain ⟨n, s, m, fe⟩ := few_end (d := d) (o := o) K (by cases K <;> simp <;> have := fA_len <;> omega) (by
              intro x hx
              cases K with
              | false => rw [if_neg (by decide)] at hx; exact fA_dnm x hx
              | true =>
                rw [if_pos rfl, List.mem_cons] at hx
                rcases hx with rfl | hx
                · exact (hK rfl).2
                · exact fA_dnm x hx) gn hj fw (by omega) hl0 (fun h => (hK h).1) hg
            obtain ⟨⟨f1, f2⟩, f3, ⟨gq, f4, f5⟩, ⟨f6, f7⟩, ⟨f8, f9⟩, f10, f11, f12, f13⟩ := fe
            have hl1 : 1 ≤ lst ∧ lst < 100 := by omega
            have la := unhide LA wc p d od
            rw [f1, f2] at la
            have LU := hide la
            have CU : Hid (∀ W, OwnD w W p d → Calls Tryz.prog 11 #[.pointer (some ⟨p, 0, none⟩)] W fun e w' => (∃ y, e = .returned (.tuple #[.int .i64 y, .int .i64 0])) ∧ OwnD w w' p d.coll.2.2) := hide (fun W h => by
              have co := unhide CO W p d h
              rw [f3] at co
              exact co.mono fun _ _ ⟨a, b, _⟩ => ⟨⟨_, a⟩, b⟩)
            have RU : Hid (∀ W (t : Nat), t ≤ 32 → OwnD w W p d.coll.2.2 → Calls Tryz.prog 10 #[.pointer (some ⟨p, 0, none⟩), .int .i64 (lst : Int), .int .i64 (t : Int)] W fun e w' => (∃ z, e = .returned (.tuple #[.string z, .int .i64 (if (gq (sNm lst t)).isSome = true then 0 else 5)])) ∧ Kp [] W w') := hide (fun W t ht h => by
              have re := unhide RE W p _ lst t h hl1 ht
              rw [f4 t ht] at re
              exact re.mono fun _ _ ⟨a, b⟩ => ⟨⟨_, a⟩, b⟩)
            have LV : Hid (∀ W, OwnD w W p d.coll.2.2 → Calls Tryz.prog 9 #[.pointer (some ⟨p, 0, none⟩)] W fun e w' => e = .returned (.tuple #[.int .i64 (lst : Int), .int .i64 (n : Int), .string s, .int .i64 0]) ∧ Kp [] W w') := hide (fun W h => by
              have la := unhide LA W p _ h
              rw [f6, f7] at la
              exact la)
            have CV : Hid (∀ W, OwnD w W p d.coll.2.2 → Calls Tryz.prog 11 #[.pointer (some ⟨p, 0, none⟩)] W fun e w' => e = .returned (.tuple #[.int .i64 0, .int .i64 0]) ∧ OwnD w w' p d.coll.2.2.coll.2.2) := hide (fun W h => by
              have co := unhide CO W p _ h
              rw [f8, f9] at co
              exact co.mono fun _ _ ⟨a, b, _⟩ => ⟨a, b⟩)
            have NV : Hid (∀ W, OwnD w W p d.coll.2.2.coll.2.2 → Calls Tryz.prog 21 #[.pointer (some ⟨p, 0, none⟩)] W fun e w' => (∃ g cap, e = .returned (.slice (some ⟨g, 0, none⟩) (1 + m + if K = true then 1 else 0) cap)) ∧ OwnD w w' p d.coll.2.2.coll.2.2) := hide (fun W h => h.nlen f10 (by omega))
            have OD := hide od
            have PS := hide (prs_succ gq lst)
            have PL := hide (prs_le gq lst)
            have PM := hide f5
            have P0 : Hid (prs gq lst 0 = 0) := hide rfl
            clear la od gn fw hK hg hj f1 f2 f3 f4 f5 f6 f7 f8 f9 f10 LA CO RE
            generalize d.coll.2.2.coll.2.2 = d3 at *
            generalize d.coll.2.2 = d2 at *
            generalize prs gq lst = P at *
            go_wp2_with fail
            refine (unhide LU).mono ?_
            rintro e w4 ⟨rfl, k4⟩
            have O4 := hide ((unhide OD).kp k4)
            clear k4 OD LU
            go_wp2_with fail
            refine (unhide CU w4 (unhide O4)).mono ?_
            rintro e w5 ⟨⟨y, rfl⟩, o5⟩
            have O5 := hide o5
            clear o5 O4 CU
            go_wp2
            go_loopw [151, 20, 21, 22, 23] (fun i mv _ _ _ wr => ∃ t mm : Nat, t ≤ 33 ∧ mm ≤ 34 ∧ i = .int .i64 (t : Int) ∧ mv = .int .i64 (mm : Int) ∧ Hid (mm = 1 + P t ∧ OwnD w wr p d2)) (fun i _ _ _ _ _ => 33 - (intOf i).toNat)
            case atStart => exact ⟨0, 1, by decide, by decide, rfl, rfl, hide ⟨by rw [unhide P0], unhide O5⟩⟩
            case round =>
              obtain ⟨t, mm, ht, hmm, rfl, rfl, HT⟩ := hrel
              clear O5
              by_cases hlt : t < 33
              · have hti : (t : Int) < 33 := by omega
                have RD := hide (unhide RU wr t (by omega) (unhide HT).2)
                have hps := unhide PS t
                have hpl := unhide PL t
                have hm1 := (unhide HT).1
                by_cases hs : (gq (sNm lst t)).isSome = true
                · rw [if_pos hs] at RD hps
                  have HM : Hid (mm + 1 = 1 + P (t + 1)) := hide (by omega)
                  have hm2 : mm + 1 ≤ 34 := by omega
                  clear hs hps hpl hm1
                  go_wp2_with fail
                  refine (unhide RD).mono ?_
                  rintro e w6 ⟨⟨z, rfl⟩, k6⟩
                  have HN := hide (And.intro (unhide HM) ((unhide HT).2.kp k6))
                  clear k6 HT RD HM
                  go_wp2
                  go_roundw
                  case rel => exact ⟨t + 1, mm + 1, by omega, hm2, by go_num, by go_num, HN⟩
                  case measure => simp [intOf]; omega
                · rw [if_neg hs] at RD hps
                  have HM : Hid (mm = 1 + P (t + 1)) := hide (by omega)
                  clear hs hps hpl hm1
                  go_wp2_with fail
                  refine (unhide RD).mono ?_
                  rintro e w6 ⟨⟨z, rfl⟩, k6⟩
                  have HN := hide (And.intro (unhide HM) ((unhide HT).2.kp k6))
                  clear k6 HT RD HM
                  go_wp2
                  go_roundw
                  case rel => exact ⟨t + 1, mm, by omega, hmm, by go_num, rfl, HN⟩
                  case measure => simp [intOf]; omega
              · obtain rfl : t = 33 := by omega
                have hmm1 : mm = 1 + m := by rw [(unhide HT).1, unhide PM]
                subst hmm1
                have O6 := hide (unhide HT).2
                have hgt : (n : Int) < ((1 + m : Nat) : Int) := by omega
                have hgt2 : (n : Int) < ((1 + m + 1 : Nat) : Int) := by omega
                clear HT
                cases K with
                | true =>
                  rw [if_pos rfl] at NV
                  go_wp2_with fail
                  refine (unhide LV _ (unhide O6)).mono ?_
                  rintro e w7 ⟨rfl, k7⟩
                  have O7 := hide ((unhide O6).kp k7)
                  clear k7 O6 LV
                  go_wp2_with fail
                  refine (unhide CV w7 (unhide O7)).mono ?_
                  rintro e w8 ⟨rfl, o8⟩
                  have O8 := hide o8
                  clear o8 O7 CV
                  go_wp2_with fail
                  refine (unhide NV w8 (unhide O8)).mono ?_
                  rintro e w9 ⟨⟨g9, c9, rfl⟩, o9⟩
                  have HE := hide o9.bel
                  clear o9 O8 NV
                  go_wp2
                  go_ret
                  exact ⟨rfl, unhide HE⟩
                | false =>
                  rw [if_neg (by decide)] at NV
                  go_wp2_with fail
                  refine (unhide LV _ (unhide O6)).mono ?_
                  rintro e w7 ⟨rfl, k7⟩
                  have O7 := hide ((unhide O6).kp k7)
                  clear k7 O6 LV
                  go_wp2_with fail
                  refine (unhide CV w7 (unhide O7)).mono ?_
                  rintro e w8 ⟨rfl, o8⟩
                  have O8 := hide o8
                  clear o8 O7 CV
                  go_wp2_with fail
                  refine (unhide NV w8 (unhide O8)).mono ?_
                  rintro e w9 ⟨⟨g9, c9, rfl⟩, o9⟩
                  have HE := hide o9.bel
                  clear o9 O8 NV
                  go_wp2
                  go_ret
                  exact ⟨rfl, unhide HE⟩
      · have hli : (k : Int) < (l.length : Int) := by omega
        have h6i : ¬ (k : Int) < 6 := by omega
        go_upto_region 19 with fail
        go_cut [11] (fun v wc => ∃ K : Bool, v = .bool K ∧ Hid (FewK w wc p c lst o K))
        case first =>
          by_cases h0 : o = ⟨#[]⟩
          · subst h0
            have HN := hide ((unhide HK).k0 (o := ⟨#[]⟩) hk6)
            clear HK
            go_wp2_with fail
            go_meet
            exact ⟨_, rfl, HN⟩
          · obtain ⟨b, r, hb⟩ := foreign_of h0
            have hem : o.toList.isEmpty = false := by rw [ByteArray.toList_eq, hb]; rfl
            have hsz : 0 < o.size := by rw [← snL, hb]; simp
            have hb0 : (o[0]'hsz) = b := by
              have e1 : o.data.toList[0]? = some b := by rw [hb]; rfl
              have e2 : o.data.toList[0]? = some (o[0]'hsz) := by rw [List.getElem?_eq_getElem (by rw [snL]; exact hsz)]; rfl
              rw [e2] at e1
              injection e1
            by_cases h1 : b.toNat = 115
            · have x1 : (((o[0]'hsz).toNat : Nat) : Int) = 115 := by rw [hb0, h1]; rfl
              have HN := hide ((unhide HK).k0 (o := o) hk6)
              clear HK hb hb0 h0 WR
              go_wp2_with fail
              go_meet
              exact ⟨_, rfl, HN⟩
            · have x1 : ¬ (((o[0]'hsz).toNat : Nat) : Int) = 115 := by rw [hb0]; omega
              by_cases h2 : b.toNat = 109
              · have x2 : (((o[0]'hsz).toNat : Nat) : Int) = 109 := by rw [hb0, h2]; rfl
                have HN := hide ((unhide HK).k0 (o := o) hk6)
                clear HK hb hb0 h0 WR
                go_wp2_with fail
                go_meet
                exact ⟨_, rfl, HN⟩
              · have x2 : ¬ (((o[0]'hsz).toNat : Nat) : Int) = 109 := by rw [hb0]; omega
                have hfo : Foreign o := ⟨b, r, hb, fun e => h1 (by rw [e]; rfl), fun e => h2 (by rw [e]; rfl)⟩
                obtain ⟨d, j, g, hj, od, gd, fw⟩ := unhide HK
                have wr0 := unhide WR W0 p d od
                have hoth := few_other gd (by omega) fw o hfo
                rw [show (⟨#[120]⟩ : ByteArray) = bx from rfl] at wr0
                clear HK hb hb0 h0 WR
                have y1 : ((((o[0]'hsz).toNat : Nat) : Int) != 115) = true := by rw [bne_iff_ne]; exact x1
                have y2 : ((((o[0]'hsz).toNat : Nat) : Int) != 109) = true := by rw [bne_iff_ne]; exact x2
                rcases hoth with ⟨e1, g1, dn⟩ | ⟨e1, e2⟩
                · rw [e1] at wr0
                  have WU : Hid (Calls Tryz.prog 20 #[.pointer (some ⟨p, 0, none⟩), .string o, .int .i64 0, .string ⟨#[120]⟩] W0 fun e w' => e = .returned (.int .i64 0) ∧ FewK w w' p c lst o true) := hide (wr0.mono fun _ _ ⟨a, b, _⟩ => ⟨a, _, _, _, _, by omega, b, g1, fw, fun _ => ⟨hfo, dn⟩, rfl⟩)
                  clear wr0 e1 g1 od gd fw hj hfo
                  go_wp2_with fail
                  refine (unhide WU).mono ?_
                  rintro e w4 ⟨rfl, h4⟩
                  have HN := hide h4
                  clear h4 WU
                  go_wp2_with fail
                  go_meet
                  exact ⟨true, rfl, HN⟩
                · rw [e1, e2] at wr0
                  have WU : Hid (Calls Tryz.prog 20 #[.pointer (some ⟨p, 0, none⟩), .string o, .int .i64 0, .string ⟨#[120]⟩] W0 fun e w' => e = .returned (.int .i64 30) ∧ FewK w w' p c lst o false) := hide (wr0.mono fun _ _ ⟨a, b, _⟩ => ⟨a, d, j, g, g, by omega, b, gd, fw, fun h => (by cases h), rfl⟩)
                  clear wr0 e1 e2 od gd fw hj hfo
                  go_wp2_with fail
                  refine (unhide WU).mono ?_
                  rintro e w4 ⟨rfl, h4⟩
                  have HN := hide h4
                  clear h4 WU
                  go_wp2_with fail
                  go_meet
                  exact ⟨_, rfl, HN⟩
        case rest =>
          obtain ⟨K, rfl, HK2⟩ := hcut
          clear HK II HOK PT CM HB WR
          obtain ⟨d, j, g, gg, hj, od, gn, fw, hK, hg⟩ := unhide HK2
          clear HK2
          by_cases hl0 : lst = 0
          · have hm : gg mNm = none := by
              rw [hg]
              rcases fw.last with ⟨_, q⟩ | ⟨q, _⟩
              · cases K with
                | true => rw [if_pos rfl, gSet_ne ((hK rfl).1.m.1).symm]; exact q
                | false => rw [if_neg (by decide)]; exact q
              · omega
            obtain ⟨q1, q2⟩ := la_none (d := d) ((gn.get _).trans hm)
            have la := unhide LA wc p d od
            rw [q1, q2] at la
            have LU := hide la
            have CU : Hid (∀ W, OwnD w W p d → Calls Tryz.prog 11 #[.pointer (some ⟨p, 0, none⟩)] W fun e w' => e = .returned (.tuple #[.int .i64 0, .int .i64 5]) ∧ Kp [] w w') := hide (fun W h => by
              have co := unhide CO W p d h
              have hC : d.coll = (0, d.laE, d) := if_neg (by rw [q1]; decide)
              rw [hC, q1] at co
              exact co.mono fun _ _ ⟨a, b, _⟩ => ⟨a, b.bel⟩)
            have OD := hide od
            clear la od gn fw hK hg hj hm q1 q2 LA CO RE
            dsimp only [Mf.z] at LU
            go_wp2_with fail
            refine (unhide LU).mono ?_
            rintro e w4 ⟨rfl, k4⟩
            have O4 := hide ((unhide OD).kp k4)
            clear k4 OD LU
            go_wp2_with fail
            refine (unhide CU w4 (unhide O4)).mono ?_
            rintro e w5 ⟨rfl, k5⟩
            have K5 := hide k5
            clear k5 O4 CU
            go_wp2
            go_ret
            exact ⟨rfl, unhide K5⟩
          · obtain ⟨n, s, m, fe⟩ := few_end (d := d) (o := o) K (by cases K <;> simp <;> have := fA_len <;> omega) (by
              intro x hx
              cases K with
              | false => rw [if_neg (by decide)] at hx; exact fA_dnm x hx
              | true =>
                rw [if_pos rfl, List.mem_cons] at hx
                rcases hx with rfl | hx
                · exact (hK rfl).2
                · exact fA_dnm x hx) gn hj fw (by omega) hl0 (fun h => (hK h).1) hg
            obtain ⟨⟨f1, f2⟩, f3, ⟨gq, f4, f5⟩, ⟨f6, f7⟩, ⟨f8, f9⟩, f10, f11, f12, f13⟩ := fe
            have hl1 : 1 ≤ lst ∧ lst < 100 := by omega
            have la := unhide LA wc p d od
            rw [f1, f2] at la
            have LU := hide la
            have CU : Hid (∀ W, OwnD w W p d → Calls Tryz.prog 11 #[.pointer (some ⟨p, 0, none⟩)] W fun e w' => (∃ y, e = .returned (.tuple #[.int .i64 y, .int .i64 0])) ∧ OwnD w w' p d.coll.2.2) := hide (fun W h => by
              have co := unhide CO W p d h
              rw [f3] at co
              exact co.mono fun _ _ ⟨a, b, _⟩ => ⟨⟨_, a⟩, b⟩)
            have RU : Hid (∀ W (t : Nat), t ≤ 32 → OwnD w W p d.coll.2.2 → Calls Tryz.prog 10 #[.pointer (some ⟨p, 0, none⟩), .int .i64 (lst : Int), .int .i64 (t : Int)] W fun e w' => (∃ z, e = .returned (.tuple #[.string z, .int .i64 (if (gq (sNm lst t)).isSome = true then 0 else 5)])) ∧ Kp [] W w') := hide (fun W t ht h => by
              have re := unhide RE W p _ lst t h hl1 ht
              rw [f4 t ht] at re
              exact re.mono fun _ _ ⟨a, b⟩ => ⟨⟨_, a⟩, b⟩)
            have LV : Hid (∀ W, OwnD w W p d.coll.2.2 → Calls Tryz.prog 9 #[.pointer (some ⟨p, 0, none⟩)] W fun e w' => e = .returned (.tuple #[.int .i64 (lst : Int), .int .i64 (n : Int), .string s, .int .i64 0]) ∧ Kp [] W w') := hide (fun W h => by
              have la := unhide LA W p _ h
              rw [f6, f7] at la
              exact la)
            have CV : Hid (∀ W, OwnD w W p d.coll.2.2 → Calls Tryz.prog 11 #[.pointer (some ⟨p, 0, none⟩)] W fun e w' => e = .returned (.tuple #[.int .i64 0, .int .i64 0]) ∧ OwnD w w' p d.coll.2.2.coll.2.2) := hide (fun W h => by
              have co := unhide CO W p _ h
              rw [f8, f9] at co
              exact co.mono fun _ _ ⟨a, b, _⟩ => ⟨a, b⟩)
            have NV : Hid (∀ W, OwnD w W p d.coll.2.2.coll.2.2 → Calls Tryz.prog 21 #[.pointer (some ⟨p, 0, none⟩)] W fun e w' => (∃ g cap, e = .returned (.slice (some ⟨g, 0, none⟩) (1 + m + if K = true then 1 else 0) cap)) ∧ OwnD w w' p d.coll.2.2.coll.2.2) := hide (fun W h => h.nlen f10 (by omega))
            have OD := hide od
            have PS := hide (prs_succ gq lst)
            have PL := hide (prs_le gq lst)
            have PM := hide f5
            have P0 : Hid (prs gq lst 0 = 0) := hide rfl
            clear la od gn fw hK hg hj f1 f2 f3 f4 f5 f6 f7 f8 f9 f10 LA CO RE
            generalize d.coll.2.2.coll.2.2 = d3 at *
            generalize d.coll.2.2 = d2 at *
            generalize prs gq lst = P at *
            go_wp2_with fail
            refine (unhide LU).mono ?_
            rintro e w4 ⟨rfl, k4⟩
            have O4 := hide ((unhide OD).kp k4)
            clear k4 OD LU
            go_wp2_with fail
            refine (unhide CU w4 (unhide O4)).mono ?_
            rintro e w5 ⟨⟨y, rfl⟩, o5⟩
            have O5 := hide o5
            clear o5 O4 CU
            go_wp2
            go_loopw [151, 20, 21, 22, 23] (fun i mv _ _ _ wr => ∃ t mm : Nat, t ≤ 33 ∧ mm ≤ 34 ∧ i = .int .i64 (t : Int) ∧ mv = .int .i64 (mm : Int) ∧ Hid (mm = 1 + P t ∧ OwnD w wr p d2)) (fun i _ _ _ _ _ => 33 - (intOf i).toNat)
            case atStart => exact ⟨0, 1, by decide, by decide, rfl, rfl, hide ⟨by rw [unhide P0], unhide O5⟩⟩
            case round =>
              obtain ⟨t, mm, ht, hmm, rfl, rfl, HT⟩ := hrel
              clear O5
              by_cases hlt : t < 33
              · have hti : (t : Int) < 33 := by omega
                have RD := hide (unhide RU wr t (by omega) (unhide HT).2)
                have hps := unhide PS t
                have hpl := unhide PL t
                have hm1 := (unhide HT).1
                by_cases hs : (gq (sNm lst t)).isSome = true
                · rw [if_pos hs] at RD hps
                  have HM : Hid (mm + 1 = 1 + P (t + 1)) := hide (by omega)
                  have hm2 : mm + 1 ≤ 34 := by omega
                  clear hs hps hpl hm1
                  go_wp2_with fail
                  refine (unhide RD).mono ?_
                  rintro e w6 ⟨⟨z, rfl⟩, k6⟩
                  have HN := hide (And.intro (unhide HM) ((unhide HT).2.kp k6))
                  clear k6 HT RD HM
                  go_wp2
                  go_roundw
                  case rel => exact ⟨t + 1, mm + 1, by omega, hm2, by go_num, by go_num, HN⟩
                  case measure => simp [intOf]; omega
                · rw [if_neg hs] at RD hps
                  have HM : Hid (mm = 1 + P (t + 1)) := hide (by omega)
                  clear hs hps hpl hm1
                  go_wp2_with fail
                  refine (unhide RD).mono ?_
                  rintro e w6 ⟨⟨z, rfl⟩, k6⟩
                  have HN := hide (And.intro (unhide HM) ((unhide HT).2.kp k6))
                  clear k6 HT RD HM
                  go_wp2
                  go_roundw
                  case rel => exact ⟨t + 1, mm, by omega, hmm, by go_num, rfl, HN⟩
                  case measure => simp [intOf]; omega
              · obtain rfl : t = 33 := by omega
                have hmm1 : mm = 1 + m := by rw [(unhide HT).1, unhide PM]
                subst hmm1
                have O6 := hide (unhide HT).2
                have hgt : (n : Int) < ((1 + m : Nat) : Int) := by omega
                have hgt2 : (n : Int) < ((1 + m + 1 : Nat) : Int) := by omega
                clear HT
                cases K with
                | true =>
                  rw [if_pos rfl] at NV
                  go_wp2_with fail
                  refine (unhide LV _ (unhide O6)).mono ?_
                  rintro e w7 ⟨rfl, k7⟩
                  have O7 := hide ((unhide O6).kp k7)
                  clear k7 O6 LV
                  go_wp2_with fail
                  refine (unhide CV w7 (unhide O7)).mono ?_
                  rintro e w8 ⟨rfl, o8⟩
                  have O8 := hide o8
                  clear o8 O7 CV
                  go_wp2_with fail
                  refine (unhide NV w8 (unhide O8)).mono ?_
                  rintro e w9 ⟨⟨g9, c9, rfl⟩, o9⟩
                  have HE := hide o9.bel
                  clear o9 O8 NV
                  go_wp2
                  go_ret
                  exact ⟨rfl, unhide HE⟩
                | false =>
                  rw [if_neg (by decide)] at NV
                  go_wp2_with fail
                  refine (unhide LV _ (unhide O6)).mono ?_
                  rintro e w7 ⟨rfl, k7⟩
                  have O7 := hide ((unhide O6).kp k7)
                  clear k7 O6 LV
                  go_wp2_with fail
                  refine (unhide CV w7 (unhide O7)).mono ?_
                  rintro e w8 ⟨rfl, o8⟩
                  have O8 := hide o8
                  clear o8 O7 CV
                  go_wp2_with fail
                  refine (unhide NV w8 (unhide O8)).mono ?_
                  rintro e w9 ⟨⟨g9, c9, rfl⟩, o9⟩
                  have HE := hide o9.bel
                  clear o9 O8 NV
                  go_wp2
                  go_ret
                  exact ⟨rfl, unhide HE⟩
end Go.Proofs.YtdmckgcbmbhmmaaGreatDoor
