/-
  Names of a disk, all that it has, and whether texts are the same.
-/
import Derived.Test.YtpbmkbfcnhekoaaDkNm
import Derived.Deep.AppendLies
namespace Go.Proofs.Ytpbmkbfcnhekoaa
open Go.RowKit

set_option maxHeartbeats 1000000 in
theorem names_any (p : Nat) (d : Dk) (F : List Nat) (w : World) (h : DiskAt w p d F) :
    Calls Try.prog 35 #[.pointer (some ⟨p, 0, none⟩)] w fun e w' => ∃ v, e = .returned v ∧ TxRow w' v (nmL d.now) ∧ Kp [] w w' ∧ ∀ k, v.ownBlock = some k → w.heap.size ≤ k := by
  have hroom := h.inv.now
  obtain ⟨bs, bn, wv, Ls, Ln, ha, rfl, _⟩ := h
  have c := ha.cells
  have nf := names_files bn d.now Ln w ha.now hroom
  have NF := hide nf
  clear nf ha hroom
  go_enter Try.func35, Try.ntmps35
  go_wp2_with fail
  refine (unhide NF).mono ?_
  rintro e w1 ⟨v, rfl, h1, h2, h3⟩
  have H1 := hide h1
  have H3 := hide h3
  clear h1 h3 c
  go_wp2
  go_ret
  exact ⟨v, rfl, unhide H1, h2, unhide H3⟩
/-- What each file has: its name, its bytes. -/
def alP (fs : Fs) (n : ByteArray) : List ByteArray := [n, ⟨(hasF fs n).toArray⟩]
def alL (fs : Fs) : List ByteArray := (nmL fs).flatMap (alP fs)
theorem alL_take {fs : Fs} {k : Nat} (hk : k < (nmL fs).length) : ((nmL fs).take (k + 1)).flatMap (alP fs) = ((nmL fs).take k).flatMap (alP fs) ++ alP fs (nmL fs)[k] := by
  rw [List.take_succ_eq_append_getElem hk, List.flatMap_append]; simp
theorem alL_len (fs : Fs) (l : List ByteArray) : (l.flatMap (alP fs)).length = 2 * l.length := by
  induction l with
  | nil => rfl
  | cons a l ih => rw [List.flatMap_cons, List.length_append, ih, List.length_cons]; simp [alP]; omega
theorem info_str : (Try.prog.info? 9).map (fun i => (i.zero, i.size, i.bytes)) = some (some (.string ⟨#[]⟩), 1, 16) := by kernel_rfl
theorem two_cells (W : World) (a b : Value) (t : TypeId) : ∀ j u, [a, b][j]? = some u → (W.alloc (.cells #[a, b] t)).cell? ((⟨W.heap.size, 0, none⟩ : Addr).add j) = some u := by
  intro j u hj
  have hb := CBox.new W #[a, b] t
  rw [Go.WideShapes.add_plain, Nat.zero_add]
  exact hb.cell (by simpa using hj)
theorem nmL_read {d : Dk} (hr : Room d.now) (hn : (d.now.map (·.1)).Nodup) {s : ByteArray} (hs : s ∈ nmL d.now) : d.rdE s = 0 ∧ d.rdS s = ⟨(hasF d.now s).toArray⟩ ∧ s.size ≤ 32 := by
  obtain ⟨x, hx⟩ := nmL_mem hs
  have hd := hr.2 _ hx
  have e := badN_0 (d := d) hd (by rw [getF_mem hn hx]; rfl)
  exact ⟨e, by unfold Dk.rdS; rw [if_pos e], dnm_len hd⟩
set_option maxHeartbeats 4000000 in
set_option maxRecDepth 100000 in
theorem all_any (p : Nat) (d : Dk) (F : List Nat) (w : World) (h : DiskAt w p d F) :
    Calls Try.prog 23 #[.pointer (some ⟨p, 0, none⟩)] w fun e w' => ∃ v, e = .returned v ∧ TxRow w' v (alL d.now) ∧ Kp [] w w' ∧ ∀ k, v.ownBlock = some k → w.heap.size ≤ k := by
  have hroom := h.inv.now
  have hnd := h.nodup
  have nm := names_any p d F w h
  have hrd := fun W s (hk : Kp [] w W) (hs : s ∈ nmL d.now) => read_any s p d F W (h.kp hk (by simp)) (by have := (nmL_read hroom hnd hs).2.2; omega)
  have hrs := fun s (hs : s ∈ nmL d.now) => nmL_read hroom hnd hs
  have hl64 : (nmL d.now).length ≤ 64 := by rw [nmL_len]; exact hroom.1.2
  have htk := fun k => alL_take (fs := d.now) (k := k)
  have hal : alL d.now = (nmL d.now).flatMap (alP d.now) := rfl
  have hln := alL_len d.now
  rw [hal]
  have hpe : ∀ s, alP d.now s = [s, ⟨(hasF d.now s).toArray⟩] := fun _ => rfl
  generalize nmL d.now = NS at *
  generalize alP d.now = AP at *
  have NM := hide nm
  have HRD := hide hrd
  have HRS := hide hrs
  have HTK := hide htk
  have HPE := hide hpe
  have HLN := hide hln
  obtain ⟨i0, hi, hz0, hz1, hz2⟩ := info_parts info_str
  clear h nm hrd hrs htk hal hpe hroom hnd hln
  go_enter Try.func23, Try.ntmps23
  go_wp2_with fail
  refine (unhide NM).mono ?_
  rintro e w1 ⟨v, rfl, h1, hk1, h3⟩
  have H1 := hide h1
  obtain ⟨_, ⟨rfl, h0⟩ | ⟨g, cap, cur, rfl, _, hh, hnc, hcm, hcs, htk⟩⟩ := h1
  · obtain rfl : NS = [] := List.eq_nil_of_length_eq_zero h0
    go_wp2
    go_loopw [11, 3, 5, 6, 7] (fun i o _ _ _ wr => i = .int .i64 0 ∧ wr = w1 ∧ o = .slice none 0 0) (fun _ _ _ _ _ _ => 0)
    case atStart => exact ⟨rfl, rfl, rfl⟩
    case round =>
      obtain ⟨rfl, rfl, rfl⟩ := hrel
      go_wp2
      go_ret
      exact ⟨_, rfl, World.ownsRow_nil _ _ _ _, hk1, fun k hk => by simp [Value.ownBlock] at hk⟩
  · unfold maxLen at hcm
    have hgb := h3 g rfl
    clear hh hcs htk h3
    go_wp2
    go_loopw [11, 3, 5, 6, 7] (fun i o _ _ _ wr => ∃ (k : Nat) (ov : Value), k ≤ NS.length ∧ i = .int .i64 (k : Int) ∧ ov = o ∧ Hid (TxRow wr (.slice (some ⟨g, 0, none⟩) NS.length cap) NS) ∧ Kp [] w wr ∧ TxRow wr ov ((NS.take k).flatMap AP) ∧ Hid (∀ j, ov.ownBlock = some j → w.heap.size ≤ j ∧ j ≠ g) ∧ g < wr.heap.size) (fun i _ _ _ _ _ => NS.length - (intOf i).toNat)
    case atStart => exact ⟨0, .slice none 0 0, by omega, rfl, rfl, H1, hk1, World.ownsRow_nil _ _ _ _, hide (fun j hj => by simp [Value.ownBlock] at hj), (World.ownsRow.lt (unhide H1) g rfl).2⟩
    case round =>
      obtain ⟨k, ov, hk, rfl, rfl, HT, hkk, hT, HB, hgl⟩ := hrel
      by_cases hlt : k < NS.length
      · have hli : (k : Int) < (NS.length : Int) := by omega
        have c1 := (unhide HT).cell k hlt
        have hmem := List.getElem_mem hlt
        obtain ⟨r1, r2, _⟩ := unhide HRS NS[k] hmem
        have rd := unhide HRD wr NS[k] hkk hmem
        rw [r1, r2] at rd
        have hst := unhide HTK k hlt
        rw [unhide HPE NS[k]] at hst
        have hlen := unhide HLN (NS.take k)
        rw [List.length_take, Nat.min_eq_left (by omega)] at hlen
        have RD := hide rd
        have HST := hide hst
        have hlb : ((NS.take k).flatMap AP).length ≤ 128 := by omega
        clear rd hst r1 r2 hmem hlen
        generalize NS[k] = s at *
        generalize (⟨(hasF d.now s).toArray⟩ : ByteArray) = bs at *
        generalize (NS.take k).flatMap AP = TK at *
        have hown : wr.ownsRow 0 9 1 ov TK.length (TK.map Value.string) := hT
        go_wp2_with fail
        refine (unhide RD).mono ?_
        rintro e w2 ⟨rfl, rfl⟩
        go_wp2_with (at_builtin; refine wpList_append_lies _ rfl _ _ 45 rfl 0 9 i0 (.string ⟨#[]⟩) 1 16 Try.underlying45 hi hz0 hz1 hz2 rfl (by decide) ov TK.length (TK.map Value.string) rfl (hown.alloc _) ⟨w2.heap.size, 0, none⟩ 2 2 [.string s, .string bs] rfl rfl (two_cells _ _ _ _) (by intro u hu; simp at hu; rcases hu with rfl | rfl <;> rfl) (by omega) (by unfold maxLen; omega) (by omega) (by simp) _ rfl ?_; intro g3 cap3 w3 hown' hgrow hat3 hlt3; have HAT := hide hat3; clear hat3)
        have hal := Kp.alloc w2 (.cells #[.string s, .string bs] 9)
        have hz : (w2.alloc (.cells #[.string s, .string bs] 9)).heap.size = w2.heap.size + 1 := by simp
        have hszw := hkk.size
        have hk3 : Kp [] w w3 := (hkk.trans hal (by simp)).trans (Kp.of hgrow) (fun x hx => Or.inr (unhide HB x (by simpa using hx)).1)
        have hT3 : TxRow w3 (.slice (some ⟨g3, 0, none⟩) (TK.length + 2) cap3) (TK ++ [s, bs]) := by
          unfold TxRow
          rw [List.length_append, List.map_append]
          exact hown'
        have HN3 : Hid (TxRow w3 (.slice (some ⟨g, 0, none⟩) NS.length cap) NS) := hide (((unhide HT).kp hal (by simp)).kp (Kp.of hgrow) (fun k hk hm => by
          have e1 : g = k := by simpa [Value.ownBlock] using hk
          exact (unhide HB k (by simpa using hm)).2 e1.symm))
        have HB3 : Hid (∀ j, (Value.slice (some ⟨g3, 0, none⟩) (TK.length + 2) cap3).ownBlock = some j → w.heap.size ≤ j ∧ j ≠ g) := hide (fun j hj => by
          have e1 : g3 = j := by simpa [Value.ownBlock] using hj
          subst e1
          rcases unhide HAT with h1 | h1
          · exact unhide HB g3 h1
          · rw [hz] at h1; omega)
        have hg3 : g < w3.heap.size := by have := hgrow.size; omega
        have HT3 := hide hT3
        clear hT hown hT3
        rw [← unhide HST] at HT3
        go_wp2
        go_roundw
        case rel => exact ⟨k + 1, _, by omega, by go_num, rfl, HN3, hk3, unhide HT3, HB3, hg3⟩
        case measure => simp [intOf]; omega
      · obtain rfl : k = NS.length := by omega
        rw [List.take_length] at hT
        have HTT := hide hT
        clear hT
        go_wp2
        go_ret
        exact ⟨_, rfl, unhide HTT, hkk, fun j hj => (unhide HB j hj).1⟩
end Go.Proofs.Ytpbmkbfcnhekoaa
