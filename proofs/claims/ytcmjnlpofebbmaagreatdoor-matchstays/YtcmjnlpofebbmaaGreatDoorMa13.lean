/-
  Walks and plain facts, made small.
-/
import Derived.Test.YtcmjnlpofebbmaaGreatDoorMa12
import Derived.Shelf.Spec.SlicesInsertGrow
import Derived.Laws.CopyRow
set_option maxRecDepth 100000
set_option maxHeartbeats 8000000
set_option linter.unusedSimpArgs false
namespace Go.Proofs.YtcmjnlpofebbmaaGreatDoor
open Go.RowKit Go.Shelf
theorem q1c {P:Program}(w:World)(dT sT ty elem:TypeId)(sz g o dLen dCap:Nat)(a:Addr)(sLen sCap m:Nat)(cur:Array Value)(t:TypeId)(cs:List Value)
  (hu:P.underlying dT=some (.slice elem)) (hs:(P.info? elem).map (·.size)=some sz)
  (hg:w.heap[g]?=some (.cells cur t (0,0))) (hm:Nat.min sLen dLen=m) (hn:cs.length=m * sz)
  (hsrc: ∀j v,cs[j]?=some v->w.cell? (a.add j)=some v) (hfit:o+cs.length<=cur.size) (h1: ∀v∈cs,v.oneCell'=true):
  (Builtin.copy_ #[dT,sT] ty #[.slice (some ⟨g,o,none⟩) dLen dCap, .slice (some a) sLen sCap]).run P w=
   .ok (goInt m) (w.setRow g (cur.toList.take o++cs++cur.toList.drop (o+cs.length)).toArray):=by
 have hl:=run_loadCells_list (P:=P) w a cs hsrc
 have hst:=run_storeCells_at P g o t cs 0 cur w hg (by simpa using hfit) h1
 cases hq:P.info? elem with
 |none=>simp[hq]at hs
 |some i=>
  have hi:i.size=sz:=by simpa [hq] using hs
  simp[Builtin.copy_,run_underlying hu,Builtin.lenOf,Builtin.firstCells,sizeOf,typeInfo,hq,hi,hm, <-hn,hl,hst]
theorem q29:(Tryz.prog.info? 166).map (·.size)=some 5:=by kernel_rfl
theorem q2y (xs:List Pt): ∀v∈xs.flatMap ptE,v.oneCell'=true:=by
 intro v hv
 obtain ⟨p,_,hp⟩:=List.mem_flatMap.1 hv
 simp only[ptE,List.mem_cons,List.not_mem_nil,or_false]at hp
 rcases hp with rfl|rfl|rfl|rfl|rfl <;> rfl
theorem q36 {α:Type}(enc:α->List Value)(sz:Nat)(he: ∀a,(enc a).length=sz)(l:List α)(m:Nat):(l.flatMap enc).drop (m * sz)=(l.drop m).flatMap enc:=by
 induction l generalizing m with
 |nil=>simp
 |cons a r ih=>
  cases m with
  |zero=>simp
  |succ m=>
   rw[List.flatMap_cons,List.drop_succ_cons, <-ih m,List.drop_append,he,List.drop_eq_nil_of_le (by rw[he,Nat.add_mul];omega),List.nil_append,show (m+1) * sz-sz=m * sz by rw[Nat.add_mul];omega]
theorem qaU (A X P D:List Value)(n i c:Nat)(hA:A.length=c * 5)(hX:A.take (n * 5)=X)(hD:D=X.drop (i * 5))(hP:P.length=5)(hi:i<n)(hc:n+1<=c)(A1 A2:List Value)(h1:A1=A.take ((i+1) * 5)++D++A.drop ((i+1) * 5+D.length))(h2:A2=A1.take (i * 5)++P++A1.drop (i * 5+P.length)):
  A1.length=c * 5/\A2.length=c * 5/\A2.take ((n+1) * 5)=X.take (i * 5)++(P++D)/\D.length=(n-i) * 5:=by
 have lX:X.length=n * 5:=by rw[<-hX,List.length_take,hA];omega
 have lD:D.length=(n-i) * 5:=by rw[hD,List.length_drop,lX];omega
 have l1:A1.length=c * 5:=by rw[h1];simp only[List.length_append,List.length_take,List.length_drop,hA,lD];omega
 have t1:A1.take (i * 5)=X.take (i * 5):=by
  rw[h1,List.append_assoc,List.take_append_of_le_length (by rw[List.length_take,hA];omega),List.take_take, <-hX,List.take_take]
  congr 1
  omega
 have d1:A1.drop (i * 5+P.length)=D++A.drop ((i+1) * 5+D.length):=by
  rw[h1,List.append_assoc,List.drop_append_of_le_length (by rw[List.length_take,hA,hP];omega),List.drop_eq_nil_of_le (by rw[List.length_take,hA,hP];omega),List.nil_append]
 have l2:A2.length=c * 5:=by rw[h2];simp only[List.length_append,List.length_take,List.length_drop,l1,hP];omega
 refine ⟨l1,l2,?_,lD⟩
 rw[h2,t1,d1, <-List.append_assoc, <-List.append_assoc,List.take_append_of_le_length (by simp only[List.length_append,List.length_take,lX,hP,lD];omega),List.take_of_length_le (by simp only[List.length_append,List.length_take,lX,hP,lD];omega)]
theorem q3J {w:World}{g n i:Nat}{cur:Array Value}{t:TypeId}{xs:List Pt}(hg:w.heap[g]?=some (.cells cur t (0,0)))(hx:cur.toList.take (n * 5)=xs.flatMap ptE):
  ∀j v,((xs.drop i).flatMap ptE)[j]?=some v->w.cell? ((⟨g,i * 5,none⟩:Addr).add j)=some v:=fun j v hj=>by
 rw[Addr.add_lit]
 rw[<-q36 ptE 5 q0S,List.getElem?_drop, <-hx,List.getElem?_take]at hj
 split at hj
 ·simp only[World.cell?,hg]
  rw[<-Array.getElem?_toList]
  exact hj
 ·cases hj
theorem q5T (g n c i vb vc:Nat)(cur:Array Value)(xs:List Pt)(p:Pt)(w:World)(hn:xs.length=n)(hi:i<n)(hroom:n+1<=c)(hc:c<=maxLen)(hg:w.heap[g]?=some (.cells cur 166 (0,0)))(hcs:cur.size=c * 5)(hx:cur.toList.take (n * 5)=xs.flatMap ptE)(hv:CBox vb (ptE p).toArray 166 w)(hne:vb≠g):
  Calls Tryz.prog 197 #[.slice (some ⟨g,0,none⟩) n c, .int .i64 (i:Int), .slice (some ⟨vb,0,none⟩) 1 vc] w fun e w'=>e= .returned (.slice (some ⟨g,0,none⟩) (n+1) c)/\ ∃cur':Array Value,w'=w.drew.setRow g cur'/\cur'.size=c * 5/\cur'.toList.take ((n+1) * 5)=(xs.take i++p::xs.drop i).flatMap ptE:=by
 have hc63:c<=9223372036854775807:=by unfold maxLen at hc;omega
 have hov: ∀lb cb,(callFunc 205 #[.slice (some ⟨vb,0,none⟩) 1 vc, .slice (some ⟨g,(i+1) * 5,none⟩) lb cb]).run Tryz.prog w= .ok (.value (.bool false)) w:=fun lb cb=>by
  rw[run_callFunc_extern Tryz.func205 (by kernel_rfl) (by kernel_rfl) (by kernel_rfl) (e:=Extern.SlicesOverlaps.overlaps #[84,84] #[4]) (by kernel_rfl),
   Lib.run_overlaps_apart w 84 4 166 Tryz.underlying84 5 Tryz.sizeOf166 ⟨vb,0,none⟩ ⟨g,(i+1) * 5,none⟩ 1 vc lb cb hne 166 166 5 (c * 5) (by unfold CBox at hv;simp[World.shape?,hv,ptE]) (by simp[World.shape?,hg,hcs]) (by omega) (hv.froz 0) (hv.froz 5)]
  rfl
 have hw1:IntKind.i64.wrap ((i:Int)+1)=(i:Int)+1:=by rw[IntKind.wrap_i64];omega
 have hb1:(0:Int)<=(i:Int)+1:=by omega
 have htn:((i:Int)+1).toNat=i+1:=by omega
 have hin:i<=n:=by omega
 have hz2: ¬ ((i:Int)=(n:Int)):=by omega
 have hb2: ¬ (c=i+1):=by omega
 have hb4: ¬ (c=i):=by omega
 have hb3:(i:Int)<=(n:Int)+1:=by omega
 have hlen:cur.toList.length=c * 5:=by rw[Array.length_toList];exact hcs
 obtain ⟨A1,hA1⟩: ∃A1,A1=cur.toList.take ((i+1) * 5)++(xs.drop i).flatMap ptE++cur.toList.drop ((i+1) * 5+((xs.drop i).flatMap ptE).length):=⟨_,rfl⟩
 obtain ⟨A2,hA2⟩: ∃A2,A2=A1.take (i * 5)++ptE p++A1.drop (i * 5+(ptE p).length):=⟨_,rfl⟩
 obtain ⟨l1,l2,l3,l4⟩:=qaU cur.toList (xs.flatMap ptE) (ptE p) ((xs.drop i).flatMap ptE) n i c hlen hx (q36 ptE 5 q0S xs i).symm rfl hi hroom A1 A2 hA1 hA2
 have hcp1: ∀ty dc sc,(Builtin.copy_ #[84,84] ty #[.slice (some ⟨g,(i+1) * 5,none⟩) (n-i) dc, .slice (some ⟨g,i * 5,none⟩) (n+1-i) sc]).run Tryz.prog w.drew= .ok (goInt ((n-i:Nat):Int)) (w.drew.setRow g A1.toArray):=fun ty dc sc=>by
  rw[hA1]
  exact q1c w.drew _ _ ty 166 5 g ((i+1) * 5) (n-i) dc ⟨g,i * 5,none⟩ (n+1-i) sc (n-i) cur 166 _ Tryz.underlying84 q29 hg (by simp only[Nat.min_def];split <;> omega) l4 (q3J (w:=w.drew) hg hx) (by rw[l4,hcs];omega) (q2y _)
 have hg1:(w.drew.setRow g A1.toArray).heap[g]?=some (.cells A1.toArray 166 (0,0)):=setRow_heap w.drew g cur _ _ _ hg
 have hcp2: ∀ty dc,(Builtin.copy_ #[84,84] ty #[.slice (some ⟨g,i * 5,none⟩) (n+1-i) dc, .slice (some ⟨vb,0,none⟩) 1 vc]).run Tryz.prog (w.drew.setRow g A1.toArray)= .ok (goInt 1) (w.drew.setRow g A2.toArray):=fun ty dc=>by
  have:=q1c (P:=Tryz.prog) (w.drew.setRow g A1.toArray) 84 84 ty 166 5 g (i * 5) (n+1-i) dc ⟨vb,0,none⟩ 1 vc 1 A1.toArray 166 (ptE p) Tryz.underlying84 q29 hg1 (by simp only[Nat.min_def];split <;> omega) rfl (fun j v hj=>by
   rw[Addr.add_lit]
   refine (World.cell?_of_block ?_).trans (hv.cell (i:=0+j) (by rw[Nat.zero_add];simpa using hj))
   simp[World.setRow,Array.getElem?_modify,hne.symm]
   rfl) (by rw[q0S];simp[l1];omega) (fun v hv=>q2y [p] v (by simpa using hv))
  rw[this,setRow_setRow,hA2]
  rfl
 have HF:=hZq (And.intro l2 l3)
 have mixed:Tryz.prog.follows .mixedOrders=true:=by kernel_rfl
 clear hA1 hA2 l1 l2 l3 l4 hg1 hlen hx hcs hv hg
 go_enter Tryz.func197,Tryz.ntmps197
 go_wp2_with (simp only[hov])
 go_region_law_o (refine step_copy_runI rfl _ _ 84 84 rfl _ _ (by simp[Act.eval,Act.put]) (by simp[Act.eval,Act.put]) (hcp1 _ _ _) ?_)
 go_wp2_with (at_builtin;refine wpList_copy_runI _ rfl _ _ 84 84 rfl _ _ rfl rfl (hcp2 _ _) ?_)
 go_ret
 obtain ⟨l2,l3⟩:=uQ HF
 refine ⟨rfl,A2.toArray,rfl,by simpa using l2,?_⟩
 rw[List.flatMap_append,List.flatMap_cons, <-q28 ptE 5 q0S]
 exact l3
open Go.RowKit Go.Shelf
theorem Kp.setRow (w:World)(g:Nat)(cs:Array Value):Kp [g] w (w.setRow g cs):=⟨rfl,rfl,rfl,by simp[World.setRow],fun j _ hn=>by
 simp only[List.mem_singleton]at hn
 simp[World.setRow,Array.getElem?_modify,show ¬ g=j by omega]⟩
theorem q3h: ∃i0:TypeInfo,Tryz.prog.info? 166=some i0/\i0.zero=some (.agg #[.int .i64 0, .int .i64 0, .string { data:=#[] }, .string { data:=#[] }, .int .i64 0])/\i0.size=5/\i0.bytes=56:=
 info_parts (by kernel_rfl)
theorem q9a (X Z P D R:List Value)(n i G:Nat)(hX:X.length=n * 5)(hR:R=X.take (i * 5)++Z)(hRl:R.length=G * 5)(hD:D=X.drop (i * 5))(hP:P.length=5)(hi:i<n)(hc:n+1<=G)(A1 A2:List Value)(h1:A1=R.take (i * 5)++P++R.drop (i * 5+P.length))(h2:A2=A1.take ((i+1) * 5)++D++A1.drop ((i+1) * 5+D.length)):
  A1.length=G * 5/\A2.length=G * 5/\A2.take ((n+1) * 5)=X.take (i * 5)++(P++D)/\D.length=(n-i) * 5:=by
 have lD:D.length=(n-i) * 5:=by rw[hD,List.length_drop,hX];omega
 have l1:A1.length=G * 5:=by rw[h1];simp only[List.length_append,List.length_take,List.length_drop,hRl,hP];omega
 have l2:A2.length=G * 5:=by rw[h2];simp only[List.length_append,List.length_take,List.length_drop,l1,lD];omega
 have t0:R.take (i * 5)=X.take (i * 5):=by rw[hR,List.take_append_of_le_length (by rw[List.length_take,hX];omega),List.take_take];congr 1;omega
 have t1:A1.take ((i+1) * 5)=X.take (i * 5)++P:=by
  rw[h1,t0,List.take_append_of_le_length (by simp only[List.length_append,List.length_take,hX,hP];omega),List.take_of_length_le (by simp only[List.length_append,List.length_take,hX,hP];omega)]
 refine ⟨l1,l2,?_,lD⟩
 rw[h2,t1,List.take_append_of_le_length (by simp only[List.length_append,List.length_take,hX,hP,lD];omega),List.take_of_length_le (by simp only[List.length_append,List.length_take,hX,hP,lD];omega),List.append_assoc]
theorem q6S (g n c i vb vc:Nat)(cur:Array Value)(xs:List Pt)(p:Pt)(w:World)(hn:xs.length=n)(hi:i<n)(hnc:n<=c)(hroom:c<n+1)(hbig:n<=100000000)(hg:w.heap[g]?=some (.cells cur 166 (0,0)))(hx:cur.toList.take (n * 5)=xs.flatMap ptE)(hv:CBox vb (ptE p).toArray 166 w):
  Calls Tryz.prog 197 #[.slice (some ⟨g,0,none⟩) n c, .int .i64 (i:Int), .slice (some ⟨vb,0,none⟩) 1 vc] w fun e w'=> ∃(G:Nat) (cur':Array Value),e= .returned (.slice (some ⟨w.heap.size,0,none⟩) (n+1) G)/\w'.heap[w.heap.size]?=some (.cells cur' 166 (0,0))/\n+1<=G/\G<=maxLen/\cur'.size=G * 5/\cur'.toList.take ((n+1) * 5)=(xs.take i++p::xs.drop i).flatMap ptE/\Kp [] w w':=by
 obtain ⟨i0,hi0,hz0,hzs,hzb⟩:=q3h
 have hgw:g<w.heap.size:=(Array.getElem?_eq_some_iff.1 hg).1
 have hvw:vb<w.heap.size:=(Array.getElem?_eq_some_iff.1 hv).1
 have hXl:(xs.flatMap ptE).length=n * 5:=by rw[q1W ptE 5 q0S,hn]
 have hold:(Builtin.firstCells i0.size i (.slice (some ⟨g,0,none⟩) i c)).run Tryz.prog w.drew= .ok ((xs.flatMap ptE).take (i * 5)).toArray w.drew:=by
  rw[hzs]
  exact run_firstCells_some w.drew 5 i ⟨g,0,none⟩ i c _ (by rw[List.length_take,hXl];omega) (fun j v hj=>by
   rw[List.getElem?_take]at hj
   split at hj
   ·have:=q3J (i:=0) hg hx j v (by simpa using hj)
    rw[Nat.zero_mul]at this
    exact this
   ·cases hj)
 have hik:i+(n+1-i)=n+1:=by omega
 have hkk:(n:Int)+1-(i:Int)=((n+1-i:Nat):Int):=by omega
 obtain ⟨G,hG⟩: ∃G,G=grownCap w (n+1) c 166:=⟨_,rfl⟩
 obtain ⟨Z,hZ⟩: ∃Z:List Value,Z=(Builtin.zeroCells (Value.agg #[.int .i64 0, .int .i64 0, .string { data:=#[] }, .string { data:=#[] }, .int .i64 0]).cells (n+1-i)++Builtin.zeroCells (Value.agg #[.int .i64 0, .int .i64 0, .string { data:=#[] }, .string { data:=#[] }, .int .i64 0]).cells (G-(n+1))).toList:=⟨_,rfl⟩
 have hGn:n+1<=G:=by rw[hG];exact grownCap_ge w _ _ _
 have hGm:G<=maxLen:=by rw[hG];exact grownCap_le_maxLen w (n+1) c _ (by unfold maxLen;omega)
 have hG63:G<=9223372036854775807:=by unfold maxLen at hGm;omega
 obtain ⟨R,hR⟩: ∃R,R=(xs.flatMap ptE).take (i * 5)++Z:=⟨_,rfl⟩
 have hZl:Z.length=(G-i) * 5:=by
  rw[hZ]
  simp[Builtin.zeroCells,Value.cells]
  omega
 have hRl:R.length=G * 5:=by rw[hR,List.length_append,List.length_take,hXl,hZl];omega
 have hrz: ∀ty,(Builtin.append_ #[84,3] ty #[.slice (some ⟨g,0,none⟩) i c, .int .i64 ((n:Int)+1-(i:Int))]).run Tryz.prog w=
   .ok (.slice (some ⟨w.heap.size,0,none⟩) (n+1) G) (w.drew.alloc (.cells R.toArray 166)):=fun ty=>by
  have h:=Lib.run_append_grow_zeros w 84 3 ty 166 i0 _ .i64 .i64 Tryz.underlying84 Tryz.underlying3 hi0 hz0 (some ⟨g,0,none⟩) i c _ hold (n+1-i) (by omega) (by omega) (by omega) (by omega) (by rw[hzb];omega) (by rw[hzb,hik];exact growslice_fits hroom (by omega))
  rw[hik, <-hG]at h
  rw[hkk,h,hR,hZ]
  congr 4
  simp
 obtain ⟨A1,hA1⟩: ∃A1,A1=R.take (i * 5)++ptE p++R.drop (i * 5+(ptE p).length):=⟨_,rfl⟩
 obtain ⟨A2,hA2⟩: ∃A2,A2=A1.take ((i+1) * 5)++(xs.drop i).flatMap ptE++A1.drop ((i+1) * 5+((xs.drop i).flatMap ptE).length):=⟨_,rfl⟩
 obtain ⟨l1,l2,l3,l4⟩:=q9a (xs.flatMap ptE) Z (ptE p) ((xs.drop i).flatMap ptE) R n i G hXl hR hRl (q36 ptE 5 q0S xs i).symm rfl hi hGn A1 A2 hA1 hA2
 have hcpA: ∀(W:World),W.heap=(w.alloc (.cells R.toArray 166)).heap-> ∀ty dc,(Builtin.copy_ #[84,84] ty #[.slice (some ⟨w.heap.size,i * 5,none⟩) (n+1-i) dc, .slice (some ⟨vb,0,none⟩) 1 vc]).run Tryz.prog W= .ok (goInt 1) (W.setRow w.heap.size A1.toArray):=fun W hW ty dc=>by
  have:=q1c (P:=Tryz.prog) W 84 84 ty 166 5 w.heap.size (i * 5) (n+1-i) dc ⟨vb,0,none⟩ 1 vc 1 R.toArray 166 (ptE p) Tryz.underlying84 q29 (by rw[hW];exact heap_alloc_new w _) (by simp only[Nat.min_def];split <;> omega) rfl (fun j v hj=>by
   rw[Addr.add_lit]
   refine (World.cell?_of_block ?_).trans (hv.cell (i:=0+j) (by rw[Nat.zero_add];simpa using hj))
   rw[hW]
   exact Below.heap_alloc _ _ _ hvw) (by rw[q0S];simp[hRl];omega) (fun v hv=>q2y [p] v (by simpa using hv))
  rw[this,hA1]
  rfl
 have hg2: ∀(W:World),W.heap=((w.alloc (.cells R.toArray 166)).setRow w.heap.size A1.toArray).heap->W.heap[w.heap.size]?=some (.cells A1.toArray 166 (0,0)):=fun W hW=>by rw[hW];exact setRow_heap _ _ _ _ _ _ (heap_alloc_new w _)
 have hgo: ∀(W:World),W.heap=((w.alloc (.cells R.toArray 166)).setRow w.heap.size A1.toArray).heap->W.heap[g]?=some (.cells cur 166 (0,0)):=fun W hW=>by
  rw[hW, <-hg, <-Below.heap_alloc w (.cells R.toArray 166) g hgw]
  simp[World.setRow,Array.getElem?_modify,show ¬ w.heap.size=g by omega]
 have hcpB: ∀(W:World),W.heap=((w.alloc (.cells R.toArray 166)).setRow w.heap.size A1.toArray).heap-> ∀ty dc sc,(Builtin.copy_ #[84,84] ty #[.slice (some ⟨w.heap.size,(i+1) * 5,none⟩) (n-i) dc, .slice (some ⟨g,i * 5,none⟩) (n-i) sc]).run Tryz.prog W= .ok (goInt ((n-i:Nat):Int)) (W.setRow w.heap.size A2.toArray):=fun W hW ty dc sc=>by
  have:=q1c (P:=Tryz.prog) W 84 84 ty 166 5 w.heap.size ((i+1) * 5) (n-i) dc ⟨g,i * 5,none⟩ (n-i) sc (n-i) A1.toArray 166 ((xs.drop i).flatMap ptE) Tryz.underlying84 q29 (hg2 W hW) (by simp only[Nat.min_def];split <;> omega) l4 (q3J (hgo W hW) hx) (by rw[l4];simp[l1];omega) (q2y _)
  rw[this,hA2]
 have HF:=hZq (And.intro l2 (And.intro l3 (And.intro hGn hGm)))
 have HG2:=hZq hg2
 have mixed:Tryz.prog.follows .mixedOrders=true:=by kernel_rfl
 have hz2: ¬ ((i:Int)=(n:Int)):=by omega
 have hz3:(c:Int)<(n:Int)+1:=by omega
 have hGi: ¬ (G=i):=by omega
 have hGim: ¬ (G=i+1):=by omega
 have hci: ¬ (c=i):=by omega
 have hw1:IntKind.i64.wrap ((i:Int)+1)=(i:Int)+1:=by rw[IntKind.wrap_i64];omega
 have hb1:(0:Int)<=(i:Int)+1:=by omega
 have hin:i<=n:=by omega
 have htn:((i:Int)+1).toNat=i+1:=by omega
 have hb3:(i:Int)<=(n:Int):=by omega
 have hb5:(i:Int)<=(n:Int)+1:=by omega
 clear hA1 hA2 l1 l2 l3 l4 hg2 hgo hG hZ hR hRl hZl hkk hik hold hx hXl hv hg hz0 hzs hzb hi0
 go_enter Tryz.func197,Tryz.ntmps197
 go_wp2_with (at_builtin;refine Lib.wpList_append_run _ rfl _ _ _ _ rfl _ _ rfl rfl _ _ (hrz _) ?_)
 rw[hcpA (w.alloc (.cells R.toArray 166)).drew rfl]
 simp only[Result.andThen_ok]
 rw[Oper.upon_value]
 go_wp2
 go_region_law_o (refine step_copy_runI rfl _ _ 84 84 rfl (.slice (some ⟨w.heap.size,(i+1) * 5,none⟩) (n-i) (G-(i+1))) (.slice (some ⟨g,i * 5,none⟩) (n-i) (c-i)) (by simp[Act.eval,Act.put]) (by simp[Act.eval,Act.put]) (hcpB ((w.alloc (.cells R.toArray 166)).drew.setRow w.heap.size A1.toArray).drew rfl 3 (G-(i+1)) (c-i)) ?_)
 go_wp2
 go_ret
 obtain ⟨l2,l3,q1,q2⟩:=uQ HF
 refine ⟨G,A2.toArray,rfl,setRow_heap _ _ A1.toArray _ _ _ (uQ HG2 _ rfl),q1,q2,by simpa using l2,?_,?_⟩
 ·rw[List.flatMap_append,List.flatMap_cons, <-q28 ptE 5 q0S]
  exact l3
 ·exact ((((Kp.alloc w _).trans (Kp.drew _) (by simp)).trans (Kp.setRow _ _ _) (by simp)).trans (Kp.drew _) (by simp)).trans (Kp.setRow _ _ _) (by simp)
theorem q8f (B:Nat)(v:Value)(xs:List Pt)(p:Pt)(vb vc:Nat)(w:World)(hown:w.ownsRow B 166 5 v xs.length (xs.flatMap ptE))(hbig:xs.length<=100000000)(hv:CBox vb (ptE p).toArray 166 w)(hB:B<=w.heap.size):
  Calls Tryz.prog 197 #[v, .int .i64 (xs.length:Int), .slice (some ⟨vb,0,none⟩) 1 vc] w fun e w'=> ∃v',e= .returned v'/\w'.ownsRow B 166 5 v' (xs.length+1) ((xs++[p]).flatMap ptE)/\Kp v.ownBlock.toList w w':=by
 obtain ⟨i0,hi0,hz0,hzs,hzb⟩:=q3h
 obtain ⟨g,cap,w',hr,r1,r2,_,_⟩:=run_append_lies (P:=Tryz.prog) (w:=w) 84 84 B 166 i0 _ 5 56 Tryz.underlying84 hi0 hz0 hzs hzb rfl (by decide) v xs.length _ hown ⟨vb,0,none⟩ 1 vc (ptE p) rfl (fun j u hj=>by
  rw[Addr.add_lit]
  exact hv.cell (i:=0+j) (by rw[Nat.zero_add];simpa using hj)) (fun u hu=>q2y [p] u (by simpa using hu)) (by decide) (by unfold maxLen;omega) (by omega) hB _ rfl
 have HE:Hid (w'.ownsRow B 166 5 (.slice (some ⟨g,0,none⟩) (xs.length+1) cap) (xs.length+1) ((xs++[p]).flatMap ptE)/\Kp v.ownBlock.toList w w'):=hZq ⟨by rw[List.flatMap_append];simpa using r1,Kp.of r2⟩
 have hform:v= .slice none 0 0/\xs.length=0\/ ∃g cap,v= .slice (some ⟨g,0,none⟩) xs.length cap/\xs.length<=cap/\cap<=9223372036854775807:=by
  obtain ⟨_,⟨e,h0⟩|⟨g,cap,cur,e,_,_,h5,h6,_⟩⟩:=hown
  ·exact Or.inl ⟨e,h0⟩
  ·exact Or.inr ⟨g,cap,e,h5,by unfold maxLen at h6;omega⟩
 clear r1 r2 hown hv hi0 hz0 hzs hzb
 generalize xs.length=n at *
 generalize (xs++[p]).flatMap ptE=Y at *
 generalize v.ownBlock.toList=F at *
 rcases hform with ⟨rfl,rfl⟩|⟨g0,c0,rfl,h5,h6⟩
 ·go_enter Tryz.func197,Tryz.ntmps197
  go_wp2_with (at_builtin;refine Lib.wpList_append_run _ rfl _ _ _ _ rfl _ _ rfl rfl _ _ hr ?_)
  go_ret
  exact ⟨_,rfl,uQ HE⟩
 ·go_enter Tryz.func197,Tryz.ntmps197
  go_wp2_with (at_builtin;refine Lib.wpList_append_run _ rfl _ _ _ _ rfl _ _ rfl rfl _ _ hr ?_)
  all_goals (go_ret;exact ⟨_,rfl,uQ HE⟩)
theorem q8e (B:Nat)(v:Value)(xs:List Pt)(i:Nat)(p:Pt)(vb vc:Nat)(w:World)(hown:w.ownsRow B 166 5 v xs.length (xs.flatMap ptE))(hi:i<=xs.length)(hbig:xs.length<=100000000)(hv:CBox vb (ptE p).toArray 166 w)(hne:v.ownBlock≠some vb)(hB:B<=w.heap.size):
  Calls Tryz.prog 197 #[v, .int .i64 (i:Int), .slice (some ⟨vb,0,none⟩) 1 vc] w fun e w'=> ∃v',e= .returned v'/\w'.ownsRow B 166 5 v' (xs.length+1) ((xs.take i++p::xs.drop i).flatMap ptE)/\Kp v.ownBlock.toList w w':=by
 rcases Nat.lt_or_ge i xs.length with h|h
 ·have hl:((xs.take i++p::xs.drop i).flatMap ptE).length=(xs.length+1) * 5:=by
   rw[q1W ptE 5 q0S]
   simp
   omega
  obtain ⟨_,⟨_,h0⟩|⟨g,cap,cur,rfl,h3,h4,h5,h6,h7,h8⟩⟩:=hown
  ·omega
  ·rcases Nat.lt_or_ge xs.length cap with hr|hr
   ·refine (q5T g xs.length cap i vb vc cur xs p w rfl h hr h6 h4 h7 h8 hv (fun e=>hne (by rw[e];rfl))).mono ?_
    rintro e w' ⟨rfl,cur',rfl,q1,q2⟩
    exact ⟨_,rfl,⟨hl,Or.inr ⟨g,cap,cur',rfl,h3,setRow_heap _ _ cur _ _ _ h4,hr,h6,q1,q2⟩⟩,((Kp.drew w).mono (by simp)).trans (Kp.setRow _ _ _) (by simp[Value.ownBlock])⟩
   ·refine (q6S g xs.length cap i vb vc cur xs p w rfl h h5 (by omega) hbig h4 h8 hv).mono ?_
    rintro e w' ⟨G,cur',rfl,q0,q1,q2,q3,q4,q5⟩
    exact ⟨_,rfl,⟨hl,Or.inr ⟨w.heap.size,G,cur',rfl,hB,q0,q1,q2,q3,q4⟩⟩,q5.mono (by simp)⟩
 ·obtain rfl:i=xs.length:=by omega
  rw[List.take_of_length_le (Nat.le_refl _),List.drop_eq_nil_of_le (Nat.le_refl _)]
  exact q8f B v xs p vb vc w hown hbig hv hB
open Go.RowKit Go.Shelf
attribute [local irreducible] opsV
theorem Rd.parts {gr:Nat}{lv tk:Value}{l:List Tk}{k d:Nat}{ps ps':List Pt}{W W':World}{pv pv':Value}(h:Rd gr lv tk l k d ps W)(hb:CBox gr (rdC lv tk k d pv) 238 W')(hbl:Below gr W W')(ho:W'.ownsRow (gr+1) 166 5 pv' ps'.length (ps'.flatMap ptE)):Rd gr lv tk l k d ps' (W'.setCell ⟨gr,74,none⟩ pv'):=by
 have c:=hb.set 74 pv'
 rw[qeF]at c
 have hlt:=(Array.getElem?_eq_some_iff.1 hb).1
 exact ⟨(h.env.below hbl).below ((Kp.set W' gr 74 _).below (by omega) (by simp)),pv',c,q02 ho (Kp.set _ _ _ _) (fun g hg=>by have:=(ho.lt g hg).1;simp;omega)⟩
theorem q2S {gr:Nat}{lv tk:Value}{l:List Tk}{k d:Nat}{ps:List Pt}{W:World}(h:Rd gr lv tk l k d ps W)(p:Pt)(hk:k<=100000)(hps:ps.length<=1000000):
  Calls Tryz.prog 187 #[.pointer (some ⟨gr,0,none⟩),p.v] W fun e w'=>e= .returned (.bool true)/\Rd gr lv tk l (k+1) d (ps++[p]) w'/\Below gr W w':=by
 obtain ⟨pv,hb,ho⟩:=h.box
 have hgl:=(Array.getElem?_eq_some_iff.1 hb).1
 have HR:=hZq h
 obtain ⟨kd,n,s,st,fl⟩:=p
 unfold Pt.v
 dsimp only
 obtain ⟨W1,hW1⟩: ∃W1,W1=W.alloc (.cells #[.int .i64 kd, .int .i64 n, .string s, .string st, .int .i64 fl] 166):=⟨_,rfl⟩
 have k1:Kp [] W W1:=by rw[hW1];exact Kp.alloc _ _
 have hbx:CBox W.heap.size #[.int .i64 kd, .int .i64 n, .string s, .string st, .int .i64 fl] 166 W1:=by rw[hW1];exact CBox.new _ _ _
 have hsW1:W1.heap.size=W.heap.size+1:=by rw[hW1];simp
 have hdis:gr∉pv.ownBlock.toList/\W.heap.size∉pv.ownBlock.toList:=⟨fun hx=>by have:=(ho.lt gr (by simpa using hx)).1;omega,fun hx=>by have:=(ho.lt _ (by simpa using hx)).2;omega⟩
 have HS:Hid (∀W',Kp pv.ownBlock.toList W1 W'->W'.cell? ⟨gr,74,none⟩=some pv/\W'.cell? ⟨W.heap.size,0,none⟩=some (.int .i64 kd)/\W'.cell? ⟨W.heap.size,1,none⟩=some (.int .i64 n)/\W'.cell? ⟨W.heap.size,2,none⟩=some (.string s)/\W'.cell? ⟨W.heap.size,3,none⟩=some (.string st)/\W'.cell? ⟨W.heap.size,4,none⟩=some (.int .i64 fl)):=hZq (fun W' hk'=>by
  have c1:=(hb.kp k1 (by simp)).kp hk' hdis.1
  have c2:=hbx.kp hk' hdis.2
  exact ⟨c1.cell (q1Z lv tk k d pv),c2.cell rfl,c2.cell rfl,c2.cell rfl,c2.cell rfl,c2.cell rfl⟩)
 have HO:=hZq (q02 ho k1 (by simp))
 have HB:=hZq (hb.kp k1 (by simp))
 have HK1:=hZq k1
 obtain ⟨i0,hi0,hz0,hzs,hzb⟩:=q3h
 have hne: ∀g,pv.ownBlock=some g->gr+1<=g:=fun g hg=>(ho.lt g hg).1
 have HNE:=hZq hne
 clear h hb ho k1 hbx hne hdis
 go_enter Tryz.func187,Tryz.ntmps187
 go_wp2
 rw[<-hW1]
 clear hW1
 have hS:=uQ HS W1.drew ((Kp.drew _).mono (by simp))
 refine q0m (fun W'=>W'.cell? ⟨gr,74,none⟩=some pv/\W'.cell? ⟨W.heap.size,0,none⟩=some (.int .i64 kd)/\W'.cell? ⟨W.heap.size,1,none⟩=some (.int .i64 n)/\W'.cell? ⟨W.heap.size,2,none⟩=some (.string s)/\W'.cell? ⟨W.heap.size,3,none⟩=some (.string st)/\W'.cell? ⟨W.heap.size,4,none⟩=some (.int .i64 fl)) 10 (by kernel_rfl) ?_
 show q0a _ _ _ _ _ _ 11 (Array.replicate 11 false) _ _
 refine zzL (i:=0) (v:=?_) rfl (fun _ _ _ h=>h) (Or.inl ⟨by rfl,?_⟩) hS ?_
 rotate_left 1
 ·intro w0 hSw;(try dsimp only at hSw);go_simp;(try with_reducible rfl)
 try simp only[Act.put,zz1,zz2,zz3]
 refine zzL (i:=1) (v:=?_) rfl (fun _ _ _ h=>h) (Or.inl ⟨by rfl,?_⟩) hS ?_
 rotate_left 1
 ·intro w0 hSw;(try dsimp only at hSw);go_simp;(try with_reducible rfl)
 try simp only[Act.put,zz1,zz2,zz3]
 refine zzL (i:=2) (v:=?_) rfl (fun _ _ _ h=>h) (Or.inl ⟨by rfl,?_⟩) hS ?_
 rotate_left 1
 ·intro w0 hSw;(try dsimp only at hSw);go_simp;(try with_reducible rfl)
 try simp only[Act.put,zz1,zz2,zz3]
 refine zzL (i:=3) (v:=?_) rfl (fun _ _ _ h=>h) (Or.inl ⟨by rfl,?_⟩) hS ?_
 rotate_left 1
 ·intro w0 hSw;(try dsimp only at hSw);go_simp;(try with_reducible rfl)
 try simp only[Act.put,zz1,zz2,zz3]
 refine zzL (i:=4) (v:=?_) rfl (fun _ _ _ h=>h) (Or.inl ⟨by rfl,?_⟩) hS ?_
 rotate_left 1
 ·intro w0 hSw;(try dsimp only at hSw);go_simp;(try with_reducible rfl)
 try simp only[Act.put,zz1,zz2,zz3]
 refine zzL (i:=5) (v:=?_) rfl (fun _ _ _ h=>h) (Or.inl ⟨by rfl,?_⟩) hS ?_
 rotate_left 1
 ·intro w0 hSw;(try dsimp only at hSw);go_simp;(try with_reducible rfl)
 try simp only[Act.put,zz1,zz2,zz3]
 refine q01 (i:=6) rfl (by kernel_rfl) (fun K hK=>?_)
 go_simp
 have k2:Kp [] W1 (W1.alloc (.cells #[.int .i64 kd, .int .i64 n, .string s, .string st, .int .i64 fl] 166)).drew:=(Kp.alloc _ _).trans (Kp.drew _) (by simp)
 have hn2:CBox W1.heap.size #[.int .i64 kd, .int .i64 n, .string s, .string st, .int .i64 fl] 166 (W1.alloc (.cells #[.int .i64 kd, .int .i64 n, .string s, .string st, .int .i64 fl] 166)).drew:=CBox.new W1 _ _
 rw[hsW1]at hn2
 have hown:=q02 (uQ HO) k2 (by simp)
 have hsz2:gr+1<=(W1.alloc (.cells #[.int .i64 kd, .int .i64 n, .string s, .string st, .int .i64 fl] 166)).drew.heap.size:=by have:=k2.size;omega
 clear hS
 have hS:=uQ HS _ (k2.mono (by simp))
 refine hK _ _ (Or.inr hS) ?_
 try simp only[Act.put,zz1,zz2,zz3]
 generalize (W1.alloc (.cells #[.int .i64 kd, .int .i64 n, .string s, .string st, .int .i64 fl] 166)).drew=W2 at *
 refine q01 (i:=7) rfl (by kernel_rfl) (fun K hK=>?_)
 refine q0N rfl (.tmp 9) (.tmp 11) 84 rfl (gr+1) 166 i0 _ 5 56 Tryz.underlying84 hi0 hz0 hzs hzb rfl (by decide) pv ps.length _ rfl hown ⟨W.heap.size+1,0,none⟩ 1 1 [.int .i64 kd, .int .i64 n, .string s, .string st, .int .i64 fl] rfl rfl (fun j u hj=>by
  rw[Addr.add_lit]
  exact hn2.cell (i:=0+j) (by rw[Nat.zero_add];simpa using hj)) (by simp[Value.oneCell']) (by decide) (by unfold maxLen;omega) (by omega) hsz2 ?_
 rintro g5 cap5 w5 hw5 hgr hg5
 have hne:=uQ HNE
 have k5:Kp pv.ownBlock.toList W1 w5:=(k2.mono (by simp)).trans (Kp.of hgr) (fun x hx=>Or.inl hx)
 have hlow: ∀x∈pv.ownBlock.toList,gr+1<=x:=fun x hx=>hne x (by simpa using hx)
 have hb5:=(uQ HB).kp k5 (fun hx=>by have:=hlow _ hx;omega)
 have hbl5:Below gr W w5:=((uQ HK1).below (by omega) (by simp)).trans (k5.below (by omega) (fun x hx=>by have:=hlow x hx;omega))
 have HR6:=hZq (Rd.parts (pv':= .slice (some ⟨g5,0,none⟩) (ps.length+1) cap5) (ps':=ps++[⟨kd,n,s,st,fl⟩]) (uQ HR) hb5 hbl5 (by rw[List.length_append,List.flatMap_append];exact hw5))
 have HB6:=hZq (hbl5.setCell (p:=⟨gr,74,none⟩) (Nat.le_refl _) (.slice (some ⟨g5,0,none⟩) (ps.length+1) cap5))
 have c74:=hb5.cell (q1Z lv tk k d pv)
 have f74:=hb5.froz
 clear hS
 have hS:=uQ HS _ k5
 refine hK _ _ (Or.inr hS) ?_
 try simp only[Act.put,zz1,zz2,zz3]
 refine q01 (i:=8) rfl (by kernel_rfl) (fun K hK=>?_)
 go_simp
 refine hK _ _ (Or.inr hS) ?_
 try simp only[Act.put,zz1,zz2,zz3]
 refine q01 (i:=9) rfl (by kernel_rfl) (fun K hK=>?_)
 go_simp
 refine hK _ _ (Or.inr hS) ?_
 try simp only[Act.put,zz1,zz2,zz3]
 refine q01 (i:=10) rfl (by kernel_rfl) (fun K hK=>?_)
 go_simp
 refine hK _ _ (Or.inl rfl) ?_
 refine q0c (by kernel_rfl) ?_ _
 obtain ⟨c72,_,f72,_⟩:=(uQ HR6).cells
 clear hS c74 f74 hb5 hbl5 hw5 hgr hg5 hown hn2 k5 k2 hlow hne
 generalize w5.setCell ⟨gr,74,none⟩ (.slice (some ⟨g5,0,none⟩) (ps.length+1) cap5)=W6 at *
 go_wp2
 exact bodyPost_ret (results_tmp rfl _ _ _) rfl ⟨rfl,(uQ HR6).next,(uQ HB6).setCell (p:=⟨gr,72,none⟩) (Nat.le_refl _) _⟩
end Go.Proofs.YtcmjnlpofebbmaaGreatDoor
namespace Go.Proofs.YtcmjnlpofebbmaaGreatDoor
open Go.RowKit Go.Shelf
attribute [local irreducible] opsV
theorem q9t {n:Nat}{k:Int}(h:k∈lvO n):4<=k/\k<=13:=by
 unfold lvO at h
 repeat' split at h
 all_goals simp at h
 all_goals omega
theorem qcQ (n:Nat):(lvO n).length<=4:=by
 unfold lvO
 repeat' split
 all_goals simp
theorem qd6 {lv tk pv:Value}{k d:Nat}{kd:Nat}(h:kd<14):(rdC lv tk k d pv)[1+kd * 5]?=some (.string (txt (sgO (kd:Int)))):=by
 rw[qe5 _ _ _ _ _ _ (by omega)]
 exact (q6d ⟨kd,h⟩).1
theorem qb8 {n j:Nat}{s:List UInt8}(hj:j=(lvO n).length)(h: ∀x∈(lvO n).take j,s≠sgO x):opA n s=none:=by
 unfold opA
 rw[List.find?_eq_none]
 intro x hx
 rw[hj,List.take_length]at h
 simpa using h x hx
theorem qcW {n j:Nat}{s:List UInt8}(hj:j<(lvO n).length)(h: ∀x∈(lvO n).take j,s≠sgO x)(he:s=sgO ((lvO n)[j])):opA n s=some ((lvO n)[j]):=by
 unfold opA
 generalize lvO n=L at *
 induction L generalizing j with
 |nil=>simp at hj
 |cons a r ih=>
  cases j with
  |zero=>rw[List.find?_cons_of_pos (by simpa using he)];rfl
  |succ j=>
   have ha:=h a (by simp)
   rw[List.find?_cons_of_neg (by simpa using ha)]
   exact ih (by simpa using hj) (fun x hx=>h x (by simp[hx])) (by simpa using he)
def TkO (gr:Nat)(lv tk:Value)(l:List Tk)(k d:Nat)(ps:List Pt)(fr:Nat)(W:World)(o:Option Int)(e:Ending)(w':World):Prop:=match o with
 |some kk=>e= .returned (.bool true)/\Rd gr lv tk l (k+1) d (ps.take fr++opP kk::ps.drop fr) w'/\Below gr W w'
 |none=>e= .returned (.bool false)/\Rd gr lv tk l k d ps w'/\Below gr W w'
theorem q2R {gr:Nat}{lv tk:Value}{l:List Tk}{k d:Nat}{ps:List Pt}{W:World}(h:Rd gr lv tk l k d ps W){t:Tk}{r:List Tk}(ht:l.drop k=t::r)(n:Nat)(hn:n<6)(fr:Nat)(hf:fr<=ps.length)(hps:ps.length<=1000000):
  Calls Tryz.prog 185 #[.pointer (some ⟨gr,0,none⟩), .int .i64 (n:Int), .int .i64 (fr:Int)] W (TkO gr lv tk l k d ps fr W (opA n (wdT t))):=by
 obtain ⟨pv,hb,_⟩:=h.box
 have c0:=hb.cell (qbW lv tk k d pv)
 have HR:=hZq h
 have HT:=hZq ht
 have HLV:=hZq (fun W' (hb:Below gr W W')=>h.env.lvs.below hb)
 obtain ⟨gl,hlv,hgl,hc⟩:=h.env.lvs
 obtain ⟨_,ov,c1,hov⟩:=hc n (by omega)
 obtain ⟨he,_⟩|⟨go,rfl,hgo,hco⟩:=hov
 ·exfalso
  unfold lvO at he
  repeat' split at he
  all_goals simp at he
  omega
 have HCO:=hZq (fun W' (hb:Below gr W W') (i:Nat) (hi:i<(lvO n).length)=>(hb.cell (p:=⟨go,i,none⟩) hgo).trans (hco i hi))
 have hlen:=qcQ n
 rw[hlv]at c0
 have HLT:=hZq hlv
 obtain ⟨L,hL⟩: ∃L,(lvO n).length=L:=⟨_,rfl⟩
 rw[hL]at c1 hlen
 have HL:=hZq hL
 clear h ht hb hc hco hlv hL HLV
 go_enter Tryz.func185,Tryz.ntmps185
 go_wp2
 go_loopw [18] (fun i wr=> ∃j:Nat,j<=L/\i= .int .i64 (j:Int)/\Hid (Rd gr lv tk l k d ps wr/\Below gr W wr/\ ∀x∈(lvO n).take j,wdT t≠sgO x)) (fun i _=>L-(intOf i).toNat)
 case atStart=>exact ⟨0,Nat.zero_le _,rfl,hZq ⟨uQ HR,Below.refl _ _,by simp⟩⟩
 case round=>
  obtain ⟨j,hj,rfl,HI⟩:=hrel
  by_cases hjL:j<L
  ·have hjl:j<(lvO n).length:=by rw[uQ HL];exact hjL
   have cj:=uQ HCO wr (uQ HI).2.1 j hjl
   have hrg:=q9t (List.getElem_mem hjl)
   have HHIT:=hZq (qcW hjl (uQ HI).2.2)
   have HMISS:Hid (wdT t≠sgO ((lvO n)[j])-> ∀x∈(lvO n).take (j+1),wdT t≠sgO x):=hZq (fun hne x hx=>by
    rw[List.take_succ_eq_append_getElem hjl]at hx
    rcases List.mem_append.1 hx with hx|hx
    ·exact (uQ HI).2.2 x hx
    ·rw[List.mem_singleton.1 hx];exact hne)
   generalize (lvO n)[j]=kk at *
   obtain ⟨q,rfl⟩: ∃q:Nat,kk=q:=⟨kk.toNat,by omega⟩
   have hq:q<14:=by omega
   obtain ⟨pw,hbw,how⟩:=(uQ HI).1.box
   have cs:=hbw.cell (qd6 (lv:=lv) (tk:=tk) (k:=k) (d:=d) (pv:=pw) hq)
   have SK:=hZq (q2O (uQ HI).1 (uQ HT) (txt (sgO (q:Int))))
   rw[q0y]at SK
   clear hbw how HCO
   generalize txt (sgO (q:Int))=SG at *
   by_cases he:wdT t=sgO (q:Int)
   ·rw[if_pos he,decide_eq_true he]at SK
    have HOP:Hid (opA n (wdT t)=some (q:Int)):=hZq (uQ HHIT he)
    clear HHIT HMISS he
    go_wp2_with fail
    refine (uQ SK).mono ?_
    rintro e w1 ⟨rfl,hr1,hb1⟩
    obtain ⟨pv1,hx1,ho1⟩:=hr1.box
    have hlt1:=(Array.getElem?_eq_some_iff.1 hx1).1
    have c74:=hx1.cell (q1Z lv tk (k+1) d pv1)
    have hal:=Kp.alloc w1 (.cells #[.int .i64 (q:Int), .int .i64 0, .string { data:=#[] }, .string { data:=#[] }, .int .i64 0] 166)
    have IN:=hZq (q8e (gr+1) pv1 ps fr (opP (q:Int)) w1.heap.size 1 (w1.alloc (.cells #[.int .i64 (q:Int), .int .i64 0, .string { data:=#[] }, .string { data:=#[] }, .int .i64 0] 166)) (q02 ho1 hal (by simp)) hf (by omega) (CBox.new w1 _ _) (fun e=>by have:=(ho1.lt _ e).2;omega) (by simp;omega))
    have HX:=hZq (And.intro (hx1.kp hal (by simp)) (And.intro (hal.below (B:=gr) (by omega) (by simp)) (And.intro hr1 (fun g hg=>(ho1.lt g hg).1))))
    have HW1:=hZq ((uQ HI).2.1.trans hb1)
    clear hr1 hb1 hx1 ho1 hal SK cs cj
    go_wp2_with fail
    refine (uQ IN).mono ?_
    rintro e w2 ⟨v',rfl,ho2,k2⟩
    obtain ⟨hx2,hbl2,hr1,hlow⟩:=uQ HX
    have hlow2: ∀x∈pv1.ownBlock.toList,gr+1<=x:=fun x hx=>hlow x (by simpa using hx)
    have hx3:=hx2.kp k2 (fun hx=>by have:=hlow2 _ hx;omega)
    have hbl3:=hbl2.trans (k2.below (by simp;omega) (fun x hx=>by have:=hlow2 x hx;omega))
    obtain ⟨g2,cap2,rfl,_,_⟩:=ho2.form (by omega)
    have c74':=hx3.cell (q1Z lv tk (k+1) d pv1)
    have f74:=hx3.froz
    have HF:=hZq (And.intro hr1 (And.intro hx3 (And.intro hbl3 ho2)))
    clear hx2 hbl2 hlow hlow2 hx3 hbl3 ho2 k2 hr1 HX IN
    go_wp2
    refine bodyPost_ret (results_tmp rfl _ _ _) rfl ?_
    obtain ⟨hr1,hx3,hbl3,ho2⟩:=uQ HF
    unfold TkO
    rw[uQ HOP]
    have hll:(ps.take fr++opP (q:Int)::ps.drop fr).length=ps.length+1:=by simp;omega
    exact ⟨rfl,Rd.parts hr1 hx3 hbl3 (by rw[hll];exact ho2),((uQ HW1).trans hbl3).setCell (p:=⟨gr,74,none⟩) (Nat.le_refl _) _⟩
   ·rw[if_neg he,decide_eq_false he]at SK
    have HM2:=hZq (uQ HMISS he)
    clear HHIT HMISS he
    go_wp2_with fail
    refine (uQ SK).mono ?_
    rintro e w1 ⟨rfl,hr1,hb1⟩
    have HI2:=hZq (And.intro hr1 (And.intro ((uQ HI).2.1.trans hb1) (uQ HM2)))
    clear hr1 hb1 SK HI cs cj
    go_wp2
    go_roundw
    case rel=>exact ⟨j+1,by omega,by go_num,HI2⟩
    case measure=>simp[intOf];omega
  ·obtain rfl:j=L:=by omega
   have HN:Hid (opA n (wdT t)=none):=hZq (qb8 (uQ HL).symm (uQ HI).2.2)
   clear HCO
   go_wp2
   refine bodyPost_ret (results_tmp rfl _ _ _) rfl ?_
   unfold TkO
   rw[uQ HN]
   exact ⟨rfl,(uQ HI).1,(uQ HI).2.1⟩
end Go.Proofs.YtcmjnlpofebbmaaGreatDoor
namespace Go.Proofs.YtcmjnlpofebbmaaGreatDoor
open Go.RowKit Go.Shelf
attribute [local irreducible] opsV
def PR.rest:PR->List Tk
 | .bad r=>r
 | .good _ r=>r
theorem q0F {a r:List Tk}(t:Tk)(h:a<:+r):a<:+t::r:=h.trans (List.suffix_cons t r)
theorem q7o (st:ByteArray)(ts:List Tk):(fdE st ts).rest<:+ts:=by
 cases ts with
 |nil=>exact List.suffix_refl _
 |cons c r=>
  rw[fdE]
  split
  ·exact List.suffix_cons c r
  ·exact List.suffix_refl _
theorem qcb (t:Tk)(r:List Tk):(fdR t r).rest<:+t::r:=by
 unfold fdR
 split
 ·cases r with
  |nil=>exact q0F t (List.suffix_refl _)
  |cons c q=>
   dsimp only
   split
   ·exact q0F t (q0F c (q7o _ _))
   ·exact q0F t (List.suffix_refl _)
 ·exact q7o _ _
theorem qbm (x:List Pt)(q:List Tk):(shut x q).rest<:+q:=by
 cases q with
 |nil=>exact List.suffix_refl _
 |cons c q=>
  rw[shut]
  split
  ·exact List.suffix_cons c q
  ·exact List.suffix_refl _
theorem q7H (f:Nat): ∀(m d:Nat) (acc:List Pt) (ts:List Tk),(pRd f m d acc ts).rest<:+ts:=by
 induction f with
 |zero=>intro m d acc ts;rw[pRd];exact List.suffix_refl _
 |succ f ih=>
  intro m d acc ts
  cases ts with
  |nil=>rw[pRd];exact List.suffix_refl _
  |cons t r=>
   rw[pRd]
   by_cases h6:m=6
   ·rw[if_pos h6]
    split
    ·exact List.suffix_cons t r
    ·split
     ·exact List.suffix_cons t r
     ·split
      ·exact qcb t r
      ·split
       ·split
        ·have h1:=ih 0 (d+1) [] r
         cases hE:pRd f 0 (d+1) [] r with
         |bad q=>rw[hE]at h1;exact q0F t h1
         |good x q=>rw[hE]at h1;exact q0F t ((qbm x q).trans h1)
        ·exact List.suffix_cons t r
       ·exact List.suffix_refl _
   ·rw[if_neg h6]
    split
    ·split
     ·split
      ·have h1:=ih 2 (d+1) [] r
       cases hE:pRd f 2 (d+1) [] r with
       |bad q=>rw[hE]at h1;exact q0F t h1
       |good x q=>rw[hE]at h1;exact q0F t h1
      ·exact List.suffix_cons t r
     ·exact ih 3 d [] (t::r)
    ·split
     ·have h1:=ih 4 d [] (t::r)
      cases hE:pRd f 4 d [] (t::r)with
      |bad q=>rw[hE]at h1;exact h1
      |good x q=>
       rw[hE]at h1
       cases q with
       |nil=>exact h1
       |cons c q'=>
        dsimp only
        split
        ·exact h1
        ·have h2:=ih 4 d [] q'
         cases hE2:pRd f 4 d [] q' with
         |bad s=>rw[hE2]at h2;exact h2.trans ((List.suffix_cons c q').trans h1)
         |good y s=>rw[hE2]at h2;exact h2.trans ((List.suffix_cons c q').trans h1)
     ·split
      ·have h1:=ih (m+1) d [] (t::r)
       cases hE:pRd f (m+1) d [] (t::r)with
       |bad q=>rw[hE]at h1;exact h1
       |good x q=>rw[hE]at h1;exact (ih (m+10) d x q).trans h1
      ·split
       ·exact List.suffix_refl _
       ·have h1:=ih (m-10+1) d [] r
        cases hE:pRd f (m-10+1) d [] r with
        |bad q=>rw[hE]at h1;exact q0F t h1
        |good y q=>rw[hE]at h1;exact (ih m d _ q).trans (q0F t h1)
def RdR (gr:Nat)(lv tk:Value)(l:List Tk)(d:Nat)(ps:List Pt)(W:World)(o:PR)(e:Ending)(w':World):Prop:=match o with
 | .good x q=>e= .returned (.bool true)/\(∃k,l.drop k=q/\k<=l.length/\Rd gr lv tk l k d (ps++x) w')/\Below gr W w'
 | .bad q=>e= .returned (.bool false)/\(∃k ps',l.drop k=q/\k<=l.length/\Rd gr lv tk l k d ps' w')/\Below gr W w'
end Go.Proofs.YtcmjnlpofebbmaaGreatDoor
