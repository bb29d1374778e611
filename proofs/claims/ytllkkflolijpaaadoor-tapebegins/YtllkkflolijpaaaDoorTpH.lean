/-
  Append: the inner function, where all goes well.
-/
import Derived.Test.YtllkkflolijpaaaDoorTpG
import Derived.Deep.AppendLies
import Derived.Deep.RegionLaw
namespace Go.Proofs.YtllkkflolijpaaaDoor
open Go.RowKit

/-- append to a row of the call's own, as one step of a statement whose order is drawn; where the new row lies. -/
theorem step_append_lies {P : Program} {ops : Array Oper} {o : Oper} {a : Act} {w : World} {K : Act → World → Prop} {Q : Exit → Act → World → Prop} {E : Prop}
    (hg : o.guard = none) (s x : Operand) (t : TypeId) (hop : o.op = Op.call { callee := Callee.builtin Builtin.append, args := #[s, x], argTypes := #[t, t] })
    (base : Nat) (e : TypeId) (i : TypeInfo) (z : Value) (size bytes : Nat) (h1 : P.underlying t = some (.slice e)) (h2 : P.info? e = some i) (h3 : i.zero = some z) (h4 : i.size = size) (h5 : i.bytes = bytes) (h6 : z.cells.size = size) (h7 : 0 < size)
    (v : Value) (n : Nat) (xs : List Value) (hs : a.eval s = v) (hown : w.ownsRow base e size v n xs)
    (ad : Addr) (m c : Nat) (news : List Value) (hx : a.eval x = .slice (some ad) m c) (hn : news.length = m * size) (hc : ∀ j u, news[j]? = some u → w.cell? (ad.add j) = some u) (h1c : ∀ u ∈ news, u.oneCell' = true) (hm : 0 < m)
    (b1 : n + m ≤ maxLen) (b2 : (n + m) * bytes ≤ 140737488355328) (hb : base ≤ w.heap.size)
    (hK : ∀ g cap w', w'.ownsRow base e size (.slice (some ⟨g, 0, none⟩) (n + m) cap) (n + m) (xs ++ news) → w.grownBy w' v.ownBlock → (v.ownBlock = some g ∨ g = w.heap.size) → K (a.put o.dst (.slice (some ⟨g, 0, none⟩) (n + m) cap)) w') :
    if Region.wanted o (yielded ops a.tmps) = true then Oper.wp P o a w K Q else E := by
  have hw : Region.wanted o (yielded ops a.tmps) = true := by simp [Region.wanted, hg]
  rw [if_pos hw]
  obtain ⟨g, cap, w', hrun, r1, r2, r3, _⟩ := run_append_lies (P := P) (w := w) t o.type base e i z size bytes h1 h2 h3 h4 h5 h6 h7 v n xs hown ad m c news hn hc h1c hm b1 b2 hb _ rfl
  unfold Oper.wp
  simp [execOp, hop, resolve, invoke, builtin, hs, hx, hrun, Result.andThen]
  exact hK g cap w' r1 r2 r3
theorem one_new (w : World) (x : Value) (t : TypeId) : ∀ (j : Nat) (u : Value), [x][j]? = some u → (w.alloc (.cells #[x] t)).cell? ((⟨w.heap.size, 0, none⟩ : Addr).add j) = some u := fun j u hj => by
  match j, hj with
  | 0, hj =>
    simp at hj
    subst hj
    exact (CBox.new w #[x] t).cell rfl
theorem added_of {w w5 w6 w7 : World} {F : List Nat} {p t : Nat} {d2 : Dk} {n s : ByteArray} {v : Value} {ts : List (List UInt8)} {ad : Option Addr} {cap g7 cap7 : Nat} (hd : Did w F p d2 w5) (ht : TpAt w5 t p n v ts) (hv : v = .slice ad ts.length cap) (hs : s.size ≤ 65536) (hk6 : Kp [] w5 w6)
    (hown : w7.ownsRow 0 9 1 (.slice (some ⟨g7, 0, none⟩) (ts.length + 1) cap7) (ts.length + 1) (textC ts ++ [.string s])) (hg : (w6.alloc (.cells #[.string s] 9)).grownBy w7 (Value.slice ad ts.length cap).ownBlock) (hat : (Value.slice ad ts.length cap).ownBlock = some g7 ∨ g7 = (w6.alloc (.cells #[.string s] 9)).heap.size)
    (hb : CBox t #[.pointer (some ⟨p, 0, none⟩), .string n, .slice ad ts.length cap] 63 w7) : Added w F p d2 n t v (ts ++ [s.data.toList]) (w7.setCell ⟨t, 2, none⟩ (.slice (some ⟨g7, 0, none⟩) (ts.length + 1) cap7)) := by
  subst hv
  obtain ⟨F5, hD5, hk5, hF5⟩ := hd
  obtain ⟨htF, hvF⟩ := ht.no hD5
  have hkA := hk6.trans (Kp.alloc w6 (.cells #[.string s] 9)) (by simp)
  have hk7 : Kp (Value.slice ad ts.length cap).ownBlock.toList w5 w7 := (hkA.mono (by simp)).trans (Kp.of hg) (fun x hx => Or.inl hx)
  have hk8 : Kp (t :: (Value.slice ad ts.length cap).ownBlock.toList) w5 (w7.setCell ⟨t, 2, none⟩ (.slice (some ⟨g7, 0, none⟩) (ts.length + 1) cap7)) := (hk7.mono (fun x hx => List.mem_cons_of_mem _ hx)).trans (Kp.set w7 t 2 _) (fun x hx => by simp at hx; subst hx; simp)
  have hz : (w6.alloc (.cells #[.string s] 9)).heap.size = w6.heap.size + 1 := by simp
  have hs5 := hk5.size
  have hs6 := hk6.size
  have hg7t : g7 ≠ t := by
    rcases hat with h1 | h1
    · exact (hvF g7 h1).2
    · have := ht.lt; omega
  have hrow : Txs w7 (.slice (some ⟨g7, 0, none⟩) (ts.length + 1) cap7) (ts ++ [s.data.toList]) := by
    unfold Txs OwnsS
    rw [List.length_append, textC_append]
    have e : textC [s.data.toList] = [.string s] := by simp [textC]
    rw [e]
    exact hown
  refine ⟨F5, _, hD5.kp hk8 (fun k hk hm => ?_), ⟨hb.set 2 _, hrow.kp (Kp.set w7 t 2 _) (fun k hk => ?_), ht.nm, fun x hx => ?_⟩, ?_, hF5, ?_⟩
  · rw [List.mem_cons] at hm
    rcases hm with rfl | hm
    · exact htF hk
    · exact (hvF k (by simpa using hm)).1 hk
  · have e1 : g7 = k := by simpa [Value.ownBlock] using hk
    subst e1
    simpa using hg7t
  · rw [List.mem_append, List.mem_singleton] at hx
    rcases hx with hx | rfl
    · exact ht.small x hx
    · rw [Array.length_toList]; exact hs
  · refine (hk5.mono (fun x hx => by simp [hx])).trans hk8 (fun x hx => Or.inl (by
      rw [List.mem_cons] at hx ⊢
      rcases hx with h1 | h1
      · exact Or.inl h1
      · exact Or.inr (List.mem_append_left _ h1)))
  · rcases hat with h1 | h1
    · exact Or.inl (by rw [h1]; rfl)
    · refine Or.inr fun k hk => ?_
      have e1 : g7 = k := by simpa [Value.ownBlock] using hk
      omega
set_option maxHeartbeats 1000000 in
set_option maxRecDepth 100000 in
theorem add_ok (t p : Nat) (n : ByteArray) (v : Value) (ts : List (List UInt8)) (s : ByteArray) (d : Dk) (F : List Nat) (w : World) (h : TpAt w t p n v ts) (hd : DiskAt w p d F) (hl : ¬ 65536 < s.size) (hT : TabW w) (hts : ts.length ≤ 1000000) (he : d.wrE n ((hasF d.now n).length : Int) (frS s) = 0) :
    Calls Tryd.prog 26 #[.pointer (some ⟨t, 0, none⟩), .string s] w fun r w' => r = .returned (.tuple #[]) ∧ Added w F p (d.wrD n ((hasF d.now n).length : Int) (frS s)) n t v (ts ++ [s.data.toList]) w' := by
  have fr := frame_any s w (by omega) hT
  have e0 : frE s = 0 := by unfold frE; rw [if_neg hl]
  rw [e0] at fr
  have FR := hide fr
  have hn := h.nm
  have hnl := dnm_len hn
  have hsz := hasF_sz hd n
  have hfs := frS_size s
  have hsl : s.size ≤ 281474976710656 := by omega
  have HSS : Hid (s.size ≤ 65536) := hide (by omega)
  obtain ⟨ad, cap, hvf, _⟩ := h.row.texts
  have HH := hide h
  have HD := hide hd
  have HBO := hide (fun W (hW : DiskAt W p d F) => bytesOf_any p n d F W hW hn)
  have HWR := hide (fun W (hW : DiskAt W p d F) => write_any n ((hasF d.now n).length : Int) (frS s) p d F W hW (by omega) (by omega) (by omega) (by omega))
  rw [he] at HWR
  have hz := strSize (hasF d.now n)
  generalize d.wrD n ((hasF d.now n).length : Int) (frS s) = d2 at *
  rw [← hz] at HWR
  clear hz he hsz
  generalize (⟨(hasF d.now n).toArray⟩ : ByteArray) = b at *
  generalize frS s = f at *
  clear fr hT e0 hl h hd hn
  go_enter Tryd.func26, Tryd.ntmps26
  go_wp2_with fail
  refine (unhide FR).mono ?_
  rintro r w1 ⟨rfl, hb1⟩
  have HK1 := hide (Kp.ofBelow hb1)
  clear hb1
  go_wp2_with fail
  refine (mustBeOK_ok w1).mono ?_
  rintro r w2 ⟨rfl, rfl⟩
  have hk2 := (unhide HK1).trans (Kp.drew w2) (by simp)
  have cA : w2.drew.cell? ⟨t, 0, none⟩ = some (.pointer (some ⟨p, 0, none⟩)) ∧ w2.drew.cell? ⟨t, 1, none⟩ = some (.string n) := ⟨((unhide HH).kp hk2 (by simp) (by simp)).cells.1, ((unhide HH).kp hk2 (by simp) (by simp)).cells.2.1⟩
  have BO := hide (unhide HBO w2.drew ((unhide HD).kp hk2 (by simp)))
  have HK2 := hide hk2
  clear hk2
  go_wp2_with fail
  go_region_held3 (fun W => W.cell? ⟨t, 0, none⟩ = some (.pointer (some ⟨p, 0, none⟩)) ∧ W.cell? ⟨t, 1, none⟩ = some (.string n)) (first | with_reducible exact cA)
    (first
      | (go_at_call 38; refine (unhide BO).mono ?_; rintro r w3 ⟨rfl, rfl⟩))
  clear cA BO
  generalize w2.drew = W3 at *
  have hk3 := (unhide HK2).trans (Kp.drew W3) (by simp)
  have cA : W3.drew.cell? ⟨t, 0, none⟩ = some (.pointer (some ⟨p, 0, none⟩)) ∧ W3.drew.cell? ⟨t, 1, none⟩ = some (.string n) := ⟨((unhide HH).kp hk3 (by simp) (by simp)).cells.1, ((unhide HH).kp hk3 (by simp) (by simp)).cells.2.1⟩
  have hd3 := (unhide HD).kp hk3 (by simp)
  have hh3 := (unhide HH).kp hk3 (by simp) (by simp)
  have WR : Hid (Calls Tryd.prog 17 #[.pointer (some ⟨p, 0, none⟩), .string n, .int .i64 (b.size : Int), .string f] W3.drew fun r w4 => r = .returned (.int .i64 0) ∧ Did w F p d2 w4 ∧ TpAt w4 t p n v ts ∧ w4.cell? ⟨t, 0, none⟩ = some (.pointer (some ⟨p, 0, none⟩)) ∧ w4.cell? ⟨t, 1, none⟩ = some (.string n)) := hide ((unhide HWR W3.drew hd3).mono fun r w4 ⟨h1, h2⟩ => by
    have hk4 : Kp F _ w4 := (let ⟨_, _, a, _⟩ := h2; a)
    have ht4 := hh3.kp hk4 (hh3.no hd3).1 (fun k hk => ((hh3.no hd3).2 k hk).1)
    exact ⟨h1, Did.pre hk3 h2, ht4, ht4.cells.1, ht4.cells.2.1⟩)
  rename_i hHeld
  clear hk3 hd3 hh3 HWR HBO HD HH hHeld hnl FR hfs HK1 HK2
  go_wp2_with fail
  go_region_held3 (fun W => W.cell? ⟨t, 0, none⟩ = some (.pointer (some ⟨p, 0, none⟩)) ∧ W.cell? ⟨t, 1, none⟩ = some (.string n)) (first | with_reducible exact cA | with_reducible exact cB)
    (first
      | (go_at_call 23; refine (mustBeOK_ok w4).mono ?_; rintro r w5 ⟨rfl, rfl⟩)
      | (go_at_call 17; refine (unhide WR).mono ?_; rintro r w4 ⟨rfl, hd4, ht4, cB⟩; have HD4 := hide hd4; have HT4 := hide ht4; clear hd4 ht4))
  rename_i hHeld2
  have ht4 := unhide HT4
  have hk5 := Kp.drew w5
  have ht5 := ht4.kp hk5 (by simp) (by simp)
  have cV : w5.drew.cell? ⟨t, 2, none⟩ = some (.slice ad ts.length cap) := by rw [← hvf]; exact ht5.cells.2.2
  have CL : Hid (Calls Tryd.prog 35 #[.string s] w5.drew fun r w6 => r = .returned (.string s) ∧ Kp [] w5 w6 ∧ w6.cell? ⟨t, 2, none⟩ = some (.slice ad ts.length cap) ∧ (w6.alloc (.cells #[.string s] 9)).cell? ⟨t, 2, none⟩ = some (.slice ad ts.length cap) ∧ (w6.alloc (.cells #[.string s] 9)).ownsRow 0 9 1 (.slice ad ts.length cap) ts.length (textC ts) ∧
      (∀ W, (w6.alloc (.cells #[.string s] 9)).grownBy W (Value.slice ad ts.length cap).ownBlock → W.frozen? ⟨t, 2, none⟩ = false ∧ W.cell? ⟨t, 2, none⟩ = some (.slice ad ts.length cap) ∧ CBox t #[.pointer (some ⟨p, 0, none⟩), .string n, .slice ad ts.length cap] 63 W)) := hide ((clone_any s w5.drew hsl).mono fun r w6 ⟨h1, h2⟩ => by
    have hk6 := hk5.trans (Kp.ofBelow h2) (by simp)
    have hk7 := hk6.trans (Kp.alloc w6 (.cells #[.string s] 9)) (by simp)
    have ht6 := ht4.kp hk6 (by simp) (by simp)
    have ht7 := ht4.kp hk7 (by simp) (by simp)
    rw [hvf] at ht6 ht7
    refine ⟨h1, hk6, ht6.cells.2.2, ht7.cells.2.2, ht7.row, fun W hg => ?_⟩
    have hb : W.heap[t]? = _ := (hg.block t ht7.lt (fun e => by
      obtain ⟨_, _, cur, hc⟩ := ht7.row.block e.symm
      have hb : (w6.alloc (.cells #[.string s] 9)).heap[t]? = _ := ht7.box
      rw [hc] at hb
      injection hb with e; injection e with _ e; exact absurd e (by decide))).trans ht7.box
    have hB : CBox t #[.pointer (some ⟨p, 0, none⟩), .string n, .slice ad ts.length cap] 63 W := hb
    exact ⟨hB.froz 2, hB.cell rfl, hB⟩)
  obtain ⟨i0, hi, hz0, hz1, hz2⟩ := info_parts info_string
  have HVF := hide hvf
  clear hHeld2 cA WR ht4 hk5 ht5 hvf
  go_wp2_with fail
  go_region_law
    (first
      | (refine step_append_lies rfl (.tmp 40) (.tmp 43) 26 rfl 0 9 i0 (.string ⟨#[]⟩) 1 16 Tryd.underlying26 hi hz0 hz1 hz2 rfl (by decide) (.slice ad ts.length cap) ts.length (textC ts) rfl own6 ⟨w6.heap.size, 0, none⟩ 1 1 [.string s] rfl rfl (one_new w6 (.string s) 9) (by intro u hu; simp at hu; subst hu; rfl) (by omega) (by unfold maxLen; omega) (by omega) (Nat.zero_le _) ?_; intro g7 cap7 w7 hown7 hg7 hat7; obtain ⟨fr7, c7, b7⟩ := unhide HPC w7 hg7; have HOWN7 := hide hown7; have HG7 := hide hg7; have HAT7 := hide hat7; have HB7 := hide b7; clear hown7 hg7 hat7 b7)
      | (go_simp; go_at_call 35; refine (unhide CL).mono ?_; rintro r w6 ⟨rfl, hk6, cB, cC, own6, hpc⟩; have HK6 := hide hk6; have HPC := hide hpc; clear hk6 hpc))
  all_goals
    have HA : Hid (Added w F p d2 n t v (ts ++ [s.data.toList]) (w7.setCell ⟨t, 2, none⟩ (.slice (some ⟨g7, 0, none⟩) (ts.length + 1) cap7))) := hide (added_of (unhide HD4) (unhide HT4) (unhide HVF) (unhide HSS) (unhide HK6) (unhide HOWN7) (unhide HG7) (unhide HAT7) (unhide HB7))
    clear HD4 HT4 HVF HSS HK6 HOWN7 HG7 HAT7 HB7 HPC own6 cC
    go_wp2
    go_end0
    exact ⟨rfl, unhide HA⟩
end Go.Proofs.YtllkkflolijpaaaDoor
