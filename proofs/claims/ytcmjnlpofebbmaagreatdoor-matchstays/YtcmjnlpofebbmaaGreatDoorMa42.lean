/-
  Walks and plain facts, made small.
-/
import Derived.Test.YtcmjnlpofebbmaaGreatDoorMa41
import Derived.SizedLaws
import Derived.ChangeArms
set_option maxRecDepth 100000
set_option maxHeartbeats 8000000
set_option linter.unusedSimpArgs false
namespace Go.Proofs.YtcmjnlpofebbmaaGreatDoor
open Go.RowKit Go.Shelf
structure SyE (w:World)(g cap:Nat)(es:List Ev)(wr:World):Prop where
 row:OwnsX w.heap.size wr (.slice (some ⟨g,0,none⟩) es.length cap) es
 kp:Kp [] w wr
theorem SyE.up {w wr w':World}{g cap:Nat}{es:List Ev}(h:SyE w g cap es wr)(hk:Kp [] wr w'):SyE w g cap es w':=⟨q02 h.row hk (by simp),h.kp.trans hk (by simp)⟩
theorem SyE.at {w wr:World}{g cap:Nat}{es:List Ev}(h:SyE w g cap es wr):EvsAt wr (some ⟨g,0,none⟩) es:=by
 obtain ⟨ad,cp,e,h1⟩:=h.row.at
 injection e with e1 _ _
 rw[<-e1]at h1
 exact h1
theorem SyE.cap {w wr:World}{g cap:Nat}{es:List Ev}(h:SyE w g cap es wr):es.length<=cap:=by
 obtain ⟨_,⟨e,_⟩|⟨g',c',cur,e,_,_,hn,_⟩⟩:=h.row
 ·cases e
 ·cases e
  exact hn
theorem qat {w:World}{a:Option Addr}{es:List Ev}(h:EvsAt w a es)(c:Nat):EvsAt w a (es.take c):=fun hne=>by
 obtain ⟨b,off,e,hlt,hc⟩:=h (fun e=>hne (by rw[e];simp))
 refine ⟨b,off,e,hlt,fun i x hi=>hc i x ?_⟩
 rw[List.getElem?_take]at hi
 split at hi
 ·exact hi
 ·cases hi
theorem qc4 {w:World}{x:Cp}(h:CpAt w x)(h0:x.T≠[])(hn: ∀l∈x.T,l≠[]){key:ByteArray}(hok:MtOk key (Mt.toZ x.T)): ∃tn sb so q c,x.T.length=tn+1/\tn+1<=9223372036854775807/\q+1<=9223372036854775807/\w.cell? ⟨x.g,tn,none⟩=some (.slice (some ⟨sb,so,none⟩) (q+1) c)/\w.cell? ⟨sb,so+q,none⟩=some (.int .i64 (Mt.endT x.T:Int)):=by
 have hp:=List.length_pos_iff.2 h0
 obtain ⟨tn,htn⟩: ∃tn,x.T.length=tn+1:=⟨x.T.length-1,by omega⟩
 obtain ⟨b,off,e,_,hc⟩:=h.stages (List.length_pos_iff.1 (by rw[q0I];exact hp))
 cases e
 have hi:tn<(Mt.toZ x.T).length:=by rw[q0I];omega
 obtain ⟨a,c,h1,h2⟩:=hc tn hi
 have hti:tn<x.T.length:=by omega
 have eL:(Mt.toZ x.T)[tn]=x.T[tn].map Int.ofNat:=by
  have:(Mt.toZ x.T)[tn]?=some (x.T[tn].map Int.ofNat):=by
   unfold Mt.toZ
   rw[List.getElem?_map,List.getElem?_eq_getElem hti]
   rfl
  exact Option.some.inj ((List.getElem?_eq_getElem hi).symm.trans this)
 have hL:=hn x.T[tn] (List.getElem_mem _)
 have hend:Mt.endT x.T=Mt.lst x.T[tn]:=by
  unfold Mt.endT
  have e1:x.T.getLastD []=x.T[tn]:=by
   rw[List.getLastD_eq_getLast?,List.getLast?_eq_getElem?,htn,Nat.add_sub_cancel,List.getElem?_eq_getElem hti]
   rfl
  rw[e1]
 have hpl:=hok.2.2 _ (List.getElem_mem hi)
 have htl:=hok.2.1
 rw[q0I]at htl
 rw[eL]at h1 h2 hpl
 rw[hend]
 rw[List.length_map]at hpl
 generalize x.T[tn]=P at *
 have hLp:=List.length_pos_iff.2 hL
 obtain ⟨q,hq⟩: ∃q,P.length=q+1:=⟨P.length-1,by omega⟩
 obtain ⟨sb,so,e2,_,h3⟩:=h2 (by simpa using hL)
 have h4:=h3 q (by rw[List.length_map];omega)
 have hlst:Mt.lst P=P[q]'(by omega):=by
  unfold Mt.lst
  have e3:P.length-1=q:=by omega
  rw[List.getLastD_eq_getLast?,List.getLast?_eq_getElem?,e3,List.getElem?_eq_getElem (by omega)]
  rfl
 refine ⟨tn,sb,so,q,c,htn,by omega,by omega,?_,?_⟩
 ·rw[Nat.zero_add]at h1
  rw[h1,List.length_map,hq,e2]
 ·rw[h4,hlst]
  simp
theorem qcT {W:World}{B n:Nat}{v:Value}{zs:List Cp}{key:ByteArray}(ho:W.ownsRow B 37 2 v n (zs.flatMap (mtE key)))(hl:n<=5000)(hB:B<=W.heap.size){x:Cp}{g:Nat}(hg:CBox g #[.string key,x.v] 37 W):
  ∃g' cap w',(Builtin.append_ #[31,31] 31 #[v, .slice (some ⟨g,0,none⟩) 1 1]).run Tryz.prog W= .ok (.slice (some ⟨g',0,none⟩) (n+1) cap) w'/\w'.ownsRow B 37 2 (.slice (some ⟨g',0,none⟩) (n+1) cap) (n+1) ((zs++[x]).flatMap (mtE key))/\Kp v.ownBlock.toList W w'/\ ∀b∈v.ownBlock,B<=b:=by
 obtain ⟨i0,hi,hz0,hz1,hz2⟩:=info_parts q7z
 obtain ⟨g',cap,w6,hrun,r1,r2,r3,_⟩:=run_append_lies (P:=Tryz.prog) (w:=W) 31 31 B 37 i0 _ 2 40 Tryz.underlying31 hi hz0 hz1 hz2 rfl (by decide) v n (zs.flatMap (mtE key)) ho ⟨g,0,none⟩ 1 1 (mtE key x) rfl (fun j u hj=>by
  rw[Go.WideShapes.add_plain,Nat.zero_add]
  refine hg.cell ?_
  unfold mtE at hj
  simpa using hj) (fun u hu=>by
   unfold mtE Cp.v at hu
   simp only[List.mem_cons,List.not_mem_nil,or_false]at hu
   rcases hu with rfl|rfl <;> rfl) (by omega) (by unfold maxLen;omega) (by omega) hB _ rfl
 refine ⟨g',cap,w6,hrun,?_,Kp.of r2,fun b hb=>(ho.lt b (by simpa using hb)).1⟩
 rw[List.flatMap_append]
 simpa [mtE] using r1
structure SyW (w6:World)(key:ByteArray)(f:Cp->Bool)(zs:List Cp)(j n:Nat)(wv:Value)(wr:World):Prop where
 row:wr.ownsRow w6.heap.size 37 2 wv n (((zs.take j).filter f).flatMap (mtE key))
 ln:n=((zs.take j).filter f).length
 kp:Kp [] w6 wr
theorem q4P {f:Cp->Bool}{zs:List Cp}{j:Nat}(hj:j<zs.length):(zs.take (j+1)).filter f=(zs.take j).filter f++(if f zs[j]=true then [zs[j]] else []):=by
 rw[List.take_succ_eq_append_getElem hj,List.filter_append]
 congr 1
 rw[List.filter_cons]
 split <;> simp
theorem SyW.skip {w6 wr w':World}{key:ByteArray}{f:Cp->Bool}{zs:List Cp}{j n:Nat}{wv:Value}(h:SyW w6 key f zs j n wv wr)(hj:j<zs.length)(hf:f zs[j]=false)(hk:Kp [] wr w'):SyW w6 key f zs (j+1) n wv w':=by
 have e:=q4P (f:=f) hj
 rw[hf]at e
 simp at e
 exact ⟨by rw[e];exact q02 h.row hk (by simp),by rw[e];exact h.ln,h.kp.trans hk (by simp)⟩
theorem SyW.take {w6 wr W:World}{key:ByteArray}{f:Cp->Bool}{zs:List Cp}{j n:Nat}{wv:Value}(h:SyW w6 key f zs j n wv wr)(hj:j<zs.length)(hf:f zs[j]=true)(hk:Kp [] wr W)(hl:zs.length<=4096){g:Nat}(hg:CBox g #[.string key,zs[j].v] 37 W):
  ∃g' cap w',(Builtin.append_ #[31,31] 31 #[wv, .slice (some ⟨g,0,none⟩) 1 1]).run Tryz.prog W= .ok (.slice (some ⟨g',0,none⟩) (n+1) cap) w'/\SyW w6 key f zs (j+1) (n+1) (.slice (some ⟨g',0,none⟩) (n+1) cap) w':=by
 have hn:n<=4096:=by
  rw[h.ln]
  have h1:=List.length_filter_le f (zs.take j)
  rw[List.length_take]at h1
  omega
 have kW:=h.kp.trans hk (by simp)
 obtain ⟨g',cap,w',hr,h1,h2,h3⟩:=qcT (q02 h.row hk (by simp)) (by omega) kW.size hg
 have e:=q4P (f:=f) hj
 rw[hf,if_pos rfl]at e
 refine ⟨g',cap,w',hr,by rw[e];exact h1,by rw[e,List.length_append, <-h.ln];rfl,kW.trans h2 (fun b hb=>Or.inr (h3 b (by simpa using hb)))⟩
theorem q6W (sa:Option Addr)(sc:Nat)(l:List SR)(wi:Int)(ea:Option Addr)(ec:Nat)(es:List Ev)(cut:Int)(w:World)(hl:l.length<=9223372036854775807)(h:StsAt w sa l)(hok: ∀r∈l,r.s.ok)(hsc:l.length<=sc)(hle:es.length<=9223372036854775807)(hE:EvsAt w ea es)(hoke: ∀y∈es,y.ok)(hca:ea=none->ec=0)(hT:TbE w):
  Calls Tryz.prog 3 #[.agg #[.slice sa l.length sc, .int .i64 wi], .slice ea es.length ec, .int .i64 cut] w fun e w'=>e= .returned (.bool true)/\Kp [] w w':=by
 obtain ⟨W1,hW1⟩: ∃W1,W1=w.alloc (.cells #[.slice sa l.length sc, .int .i64 wi] 24):=⟨_,rfl⟩
 have k1:Kp [] w W1:=by rw[hW1];exact Kp.alloc _ _
 have b1:CBox w.heap.size #[.slice sa l.length sc, .int .i64 wi] 24 W1:=by rw[hW1];exact CBox.new _ _ _
 have WK:=hZq (q8n W1 (hT.kp k1 (by simp)))
 have hfit: ∀r∈l, ∀q∈r.s.cd,q.fit:=fun r hr q hq=>((hok r hr).2.2 q hq).2.2.2.1
 have FD:=hZq (fun (fa:Option Addr) (fc:Nat) (fs:List Ev) (W:World) (hk:Kp [] w W) (hf:EvsAt W fa fs) (hfl:fs.length<=9) (hfs: ∀e∈fs,evSz e)=>q5M sa sc l wi fa fc fs ⟨#[107]⟩ W (h.kp hk) hf (hT.kp hk (by simp)) hok hfit hsc hl (by omega) hfs (by decide))
 have HCP:=hZq (fun W (hk:Kp [] w W) (h9:es.length<=9)=>q6r (hE.kp hk (by simp)) hca (by omega) 25)
 have HSZ:Hid (∀e∈es.map (q0M ⟨#[107]⟩),evSz e):=hZq (fun e he=>by
  rw[List.mem_map]at he
  obtain ⟨y,hy,rfl⟩:=he
  have:=hoke y hy
  exact ⟨by show (⟨#[107]⟩:ByteArray).size<=_;decide,this.2.1,this.2.2.1⟩)
 have HB1:=hZq (And.intro b1 k1)
 obtain ⟨p,hp⟩: ∃p:Ptn,p=⟨stgs l,wi⟩:=⟨_,rfl⟩
 rw[<-hp]at FD
 clear h hok hE hoke hca hT hfit b1 k1 hp hsc
 obtain ⟨ln,hln⟩: ∃ln,ln=l.length:=⟨_,rfl⟩
 rw[<-hln]at hW1 HB1 FD hl ⊢
 obtain ⟨n,hn⟩: ∃n,n=es.length:=⟨_,rfl⟩
 have HN:=hZq hn
 rw[<-hn]at HCP hle ⊢
 clear hln hn
 go_enter Tryz.func3,Tryz.ntmps3
 go_upto_region 1 with fail
 rw[<-hW1]
 clear hW1
 go_wp2_with fail
 refine (uQ WK).mono ?_
 rintro e w2 ⟨rfl,hk2⟩
 have HK2:=hZq ((uQ HB1).2.trans hk2 (by simp))
 have HB2:=hZq ((uQ HB1).1.kp hk2 (by simp))
 clear WK hk2 HB1
 by_cases h9:9<n
 ·have h9i:(9:Int)<(n:Int):=by omega
  clear FD HCP
  go_wp2
  go_ret
  exact ⟨rfl,uQ HK2⟩
 ·have h9i: ¬ (9:Int)<(n:Int):=by omega
  obtain ⟨g,cap,w3,hrun,ho,hk3⟩:=uQ HCP w2 (uQ HK2) (by omega)
  have HRUN:=hZq hrun
  have HS3:Hid (SyE w2 g cap (evJ ⟨#[107]⟩ es 0) w3):=hZq ⟨by rw[q1R, <-uQ HN,qas];exact ho,hk3⟩
  clear HCP hrun ho hk3
  go_wp2_with (at_builtin;refine q0e rfl _ _ _ rfl rfl rfl (uQ HRUN) ?_)
  clear HRUN
  go_loopw [27] (fun iv wr=> ∃j:Nat,j<=n/\iv= .int .i64 (j:Int)/\Hid (SyE w2 g cap (evJ ⟨#[107]⟩ es j) wr)) (fun iv _=>n-(intOf iv).toNat)
  case atStart=>exact ⟨0,Nat.zero_le _,rfl,HS3⟩
  case round=>
   obtain ⟨j,hj,rfl,HS⟩:=hrel
   by_cases hlt:j<n
   ·have hli:(j:Int)<(n:Int):=by omega
    have hje:j<es.length:=by rw[<-uQ HN];exact hlt
    have hrow:=(uQ HS).row
    have hgw:w2.heap.size<=g:=(World.ownsRow.lt hrow g rfl).1
    have hjl:j<(evJ ⟨#[107]⟩ es j).length:=by rw[q1R];exact hje
    have hc:=q0t q1h hrow j 0 hjl (by omega)
    rw[Nat.add_zero]at hc
    have hcs:wr.cell? ⟨g,j * 7,none⟩=some (.string ((evJ ⟨#[107]⟩ es j)[j]).k):=hc
    have hfz:wr.frozen? ⟨g,j * 7,none⟩=false:=by
     obtain ⟨_,⟨e,_⟩|⟨g',c',cur,e,_,hb,_⟩⟩:=hrow
     ·cases e
     ·cases e
      exact (show CBox g cur 29 wr from hb).froz _
    have HN1:Hid (SyE w2 g cap (evJ ⟨#[107]⟩ es (j+1)) (wr.setCell ⟨g,j * 7,none⟩ (.string ⟨#[107]⟩))):=hZq ⟨by
     rw[q1R]at hrow ⊢
     exact OwnsX.key hrow rfl hje,(uQ HS).kp.trans (Kp.set _ _ _ _) (fun x hx=>Or.inr (by rw[List.mem_singleton]at hx;omega))⟩
    generalize ((evJ ⟨#[107]⟩ es j)[j]).k=kk at *
    clear hrow hc HS HS3 FD HSZ
    go_wp2
    go_roundw
    case rel=>exact ⟨j+1,by omega,by go_num,HN1⟩
    case measure=>simp[intOf];omega
   ·obtain rfl:j=n:=by omega
    have HS4:Hid (SyE w2 g cap (es.map (q0M ⟨#[107]⟩)) wr):=hZq (by have:=uQ HS;rw[uQ HN,qc7]at this;exact this)
    obtain ⟨c,hcuq,hcn⟩: ∃c:Nat,wrap64 ((IntKind.u64.wrap cut).tmod ((j:Int)+1))=(c:Int)/\c<=j:=by
     have h1:0<=IntKind.u64.wrap cut:=by simp[IntKind.wrap,IntKind.bits,IntKind.signed];omega
     have h2:=Int.tmod_nonneg ((j:Int)+1) h1
     have h3:=Int.tmod_lt_of_pos (IntKind.u64.wrap cut) (show (0:Int)<(j:Int)+1 by omega)
     refine ⟨((IntKind.u64.wrap cut).tmod ((j:Int)+1)).toNat,?_,by omega⟩
     unfold wrap64
     omega
    have hlen:(es.map (q0M ⟨#[107]⟩)).length=j:=by rw[List.length_map];exact (uQ HN).symm
    have hcap:=(uQ HS4).cap
    rw[hlen]at hcap
    have hpc:=((uQ HB2).kp (uQ HS4).kp (by simp))
    have p0:=hpc.cell (i:=0) (v:= .slice sa ln sc) rfl
    have p1:=hpc.cell (i:=1) (v:= .int .i64 wi) rfl
    have HPB:=hZq hpc
    have kwr:=(uQ HK2).trans (uQ HS4).kp (by simp)
    have F1:=hZq (uQ FD (some ⟨g,0,none⟩) cap (es.map (q0M ⟨#[107]⟩)) wr kwr (uQ HS4).at (by rw[hlen];omega) (uQ HSZ))
    rw[hlen]at F1
    have HS5:Hid (∀W,Kp [] wr W->Calls Tryz.prog 5 #[.agg #[.slice sa ln sc, .int .i64 wi], .string ⟨#[107]⟩, .slice (some ⟨g,0,none⟩) c cap] W fun e w'=> ∃v zs,e= .returned (.tuple #[v, .int .i64 (fiE p ⟨#[107]⟩ ((es.map (q0M ⟨#[107]⟩)).take c))])/\FdP W ⟨#[107]⟩ (fiL p ⟨#[107]⟩ ((es.map (q0M ⟨#[107]⟩)).take c)) v zs w'):=hZq (fun W hk=>by
     have hl2:((es.map (q0M ⟨#[107]⟩)).take c).length=c:=by rw[List.length_take,hlen];omega
     have:=uQ FD (some ⟨g,0,none⟩) cap ((es.map (q0M ⟨#[107]⟩)).take c) W (kwr.trans hk (by simp)) (qat ((uQ HS4).up hk).at c) (by rw[hl2];omega) (fun e he=>uQ HSZ e (List.mem_of_mem_take he))
     rw[hl2]at this
     exact this)
    obtain ⟨fs,hfs⟩: ∃fs,fs=es.map (q0M ⟨#[107]⟩):=⟨_,rfl⟩
    rw[<-hfs]at F1 HS5 hlen
    have HKWR:=hZq kwr
    have hcfs:c<=fs.length:=by omega
    have HTK:=hZq (fun he=>qch p ⟨#[107]⟩ fs c hcfs he)
    obtain ⟨E,hE⟩: ∃E,E=fiE p ⟨#[107]⟩ fs:=⟨_,rfl⟩
    rw[<-hE]at F1 HTK
    have HEN:Hid (E≠0->fiL p ⟨#[107]⟩ fs=[]):=hZq (fun h=>qcg (by rw[<-hE];exact h))
    obtain ⟨E2,hE2⟩: ∃E2,E2=fiE p ⟨#[107]⟩ (fs.take c):=⟨_,rfl⟩
    rw[<-hE2]at HS5 HTK
    have HFU:=hZq (fun (gs:List Ev) (T:List (List Nat)) (h:T∈fiL p ⟨#[107]⟩ gs)=>qcf h)
    have HLE:=hZq (fun (gs:List Ev)=>qdx (p:=p) (k:=⟨#[107]⟩) (es:=gs))
    clear HS HS3 HS4 FD HB2 HSZ hpc kwr hfs hE hE2 hcfs hlen HN
    go_wp2_with fail
    refine (uQ F1).mono ?_
    rintro e w5 ⟨v1,zs1,rfl,hP1⟩
    obtain ⟨va,vc,rfl,hvg⟩:=q0Z hP1.row
    have HPC:Hid (∀W,Kp [] w5 W->W.cell? ⟨w.heap.size,0,none⟩=some (.slice sa ln sc)/\W.cell? ⟨w.heap.size,1,none⟩=some (.int .i64 wi)):=hZq (fun W hk=>⟨((uQ HPB).kp (hP1.kp.trans hk (by simp)) (by simp)).cell rfl,((uQ HPB).kp (hP1.kp.trans hk (by simp)) (by simp)).cell rfl⟩)
    obtain ⟨V,hV⟩: ∃V,V=w5.drew:=⟨_,rfl⟩
    have kV:Kp [] w5 V:=by rw[hV];exact Kp.drew _
    have F2:=hZq (uQ HS5 V (hP1.kp.trans kV (by simp)))
    have hS0:=uQ HPC V kV
    have HP1:=hZq hP1
    have HVG:=hZq hvg
    have hcc:c<=cap:=by omega
    obtain ⟨z1,hz1⟩: ∃z1,z1=zs1.length:=⟨_,rfl⟩
    have HZ1:=hZq hz1
    rw[<-hz1]
    clear F1 HS5 HPB hP1 hvg p0 p1 hz1
    go_upto_region 13 with fail
    go_cut [11,12] (fun lv ev wc=> ∃zs2,ev= .int .i64 E2/\(∃a m k,lv= .slice a m k)/\Hid (FdP V ⟨#[107]⟩ (fiL p ⟨#[107]⟩ (fs.take c)) lv zs2 wc/\Kp [] w5 V))
    case first=>
     refine wp_region_held_drew (S:=fun W=>W.cell? ⟨w.heap.size,0,none⟩=some (.slice sa ln sc)/\W.cell? ⟨w.heap.size,1,none⟩=some (.int .i64 wi)) (by kernel_rfl) (by rw[<-hV];exact hS0) (fun hHeld=>?_)
     rw[<-hV]at hHeld ⊢
     clear hV
     show wpAnyH _ _ _ _ _ 10 (Array.replicate 10 false) _ _
     refine wpAnyH_take (i:=0) (oi:=⟨some 50,Op.load 24 (.tmp 3),24,"theorems.go:51",#[],none⟩) (v:=?_) rfl (by kernel_rfl) (by kernel_rfl) (by kernel_rfl) (fun _ _ _ h=>h) (Or.inl ⟨by rfl,?_⟩) (by assumption) ?_
     rotate_left 1
     ·intro w0 hSw
      (try dsimp only at hSw)
      go_simp
      (try with_reducible rfl)
     try simp only[Act.put,zz1,zz2,zz3]
     refine wpAnyH_take (i:=1) (oi:=⟨some 51,Op.move (.tmp 7),25,"theorems.go:51",#[],none⟩) (v:=?_) rfl (by kernel_rfl) (by kernel_rfl) (by kernel_rfl) (fun _ _ _ h=>h) (Or.inl ⟨by rfl,?_⟩) (by assumption) ?_
     rotate_left 1
     ·intro w0 hSw
      (try dsimp only at hSw)
      go_simp
      (try with_reducible rfl)
     try simp only[Act.put,zz1,zz2,zz3]
     refine wpAnyH_take (i:=2) (oi:=⟨some 52,Op.move (.tmp 2),3,"theorems.go:51",#[],none⟩) (v:=?_) rfl (by kernel_rfl) (by kernel_rfl) (by kernel_rfl) (fun _ _ _ h=>h) (Or.inl ⟨by rfl,?_⟩) (by assumption) ?_
     rotate_left 1
     ·intro w0 hSw
      (try dsimp only at hSw)
      go_simp
      (try with_reducible rfl)
     try simp only[Act.put,zz1,zz2,zz3]
     refine wpAnyH_take (i:=3) (oi:=⟨some 53,Op.slice 25 (.tmp 51) none (some (.tmp 52)) none,25,"theorems.go:51",#[⟨1, .data⟩,⟨2, .data⟩],none⟩) (v:=?_) rfl (by kernel_rfl) (by kernel_rfl) (by kernel_rfl) (fun _ _ _ h=>h) (Or.inl ⟨by rfl,?_⟩) (by assumption) ?_
     rotate_left 1
     ·intro w0 hSw
      (try dsimp only at hSw)
      go_simp
      (try with_reducible rfl)
     try simp only[Act.put,zz1,zz2,zz3]
     refine wpAnyH_ready (rs:=[4]) (by kernel_rfl) (by simp) ?_
     refine AllReadyH.cons (o:=⟨some 54,Op.call { callee:= .value (.func 5),args:=#[.tmp 50, .const (Value.string { data:=#[107] }), .tmp 53],argTypes:=#[24,9,25] },33,"theorems.go:51",#[⟨0, .data⟩,⟨3, .data⟩],none⟩) rfl (fun K hK=>?_) AllReadyH.nil
     go_simp
     refine (uQ F2).mono ?_
     rintro e w6 ⟨v2,zs2,rfl,hP2⟩
     have hS6:=uQ HPC w6 (kV.trans hP2.kp (by simp))
     have HP2:=hZq hP2
     clear F2 hP2
     refine hK.out _ _ ?_ (fun hHeld=>?_)
     ·exact hS6
     clear hK K
     try simp only[Act.put,zz1,zz2,zz3]
     refine wpAnyH_take (i:=5) (oi:=⟨some 49,Op.move (.tmp 54),33,"theorems.go:51",#[⟨4, .data⟩],none⟩) (v:=?_) rfl (by kernel_rfl) (by kernel_rfl) (by kernel_rfl) (fun _ _ _ h=>h) (Or.inl ⟨by rfl,?_⟩) (by assumption) ?_
     rotate_left 1
     ·intro w0 hSw
      (try dsimp only at hSw)
      go_simp
      (try with_reducible rfl)
     try simp only[Act.put,zz1,zz2,zz3]
     refine wpAnyH_take (i:=6) (oi:=⟨some 55,Op.extract (.tmp 49) 0,31,"theorems.go:51",#[⟨5, .data⟩],none⟩) (v:=?_) rfl (by kernel_rfl) (by kernel_rfl) (by kernel_rfl) (fun _ _ _ h=>h) (Or.inl ⟨by rfl,?_⟩) (by assumption) ?_
     rotate_left 1
     ·intro w0 hSw
      (try dsimp only at hSw)
      go_simp
      (try with_reducible rfl)
     try simp only[Act.put,zz1,zz2,zz3]
     refine wpAnyH_take (i:=7) (oi:=⟨some 56,Op.extract (.tmp 49) 1,32,"theorems.go:51",#[⟨5, .data⟩,⟨8, .gcOnly Departure.lateStores⟩],none⟩) (v:=?_) rfl (by kernel_rfl) (by kernel_rfl) (by kernel_rfl) (fun _ _ _ h=>h) (Or.inl ⟨by rfl,?_⟩) (by assumption) ?_
     rotate_left 1
     ·intro w0 hSw
      (try dsimp only at hSw)
      go_simp
      (try with_reducible rfl)
     try simp only[Act.put,zz1,zz2,zz3]
     refine wpAnyH_take (i:=8) (oi:=⟨some 11,Op.assign (.tmp 55),31,"theorems.go:51",#[⟨6, .data⟩,⟨4, .chain⟩,⟨0, .phase⟩,⟨1, .phase⟩,⟨2, .phase⟩,⟨3, .phase⟩,⟨4, .phase⟩,⟨5, .phase⟩,⟨6, .phase⟩,⟨7, .textOnly Departure.lateStores⟩],none⟩) (v:=?_) rfl (by kernel_rfl) (by kernel_rfl) (by kernel_rfl) (fun _ _ _ h=>h) (Or.inl ⟨by rfl,?_⟩) (by assumption) ?_
     rotate_left 1
     ·intro w0 hSw
      (try dsimp only at hSw)
      go_simp
      (try with_reducible rfl)
     try simp only[Act.put,zz1,zz2,zz3]
     refine wpAnyH_take (i:=9) (oi:=⟨some 12,Op.assign (.tmp 56),32,"theorems.go:51",#[⟨7, .data⟩,⟨8, .chain⟩,⟨0, .phase⟩,⟨1, .phase⟩,⟨2, .phase⟩,⟨3, .phase⟩,⟨4, .phase⟩,⟨5, .phase⟩,⟨6, .phase⟩,⟨7, .phase⟩,⟨8, .phase⟩],none⟩) (v:=?_) rfl (by kernel_rfl) (by kernel_rfl) (by kernel_rfl) (fun _ _ _ h=>h) (Or.inl ⟨by rfl,?_⟩) (by assumption) ?_
     rotate_left 1
     ·intro w0 hSw
      (try dsimp only at hSw)
      go_simp
      (try with_reducible rfl)
     try simp only[Act.put,zz1,zz2,zz3]
     refine wpAnyH_done (by kernel_rfl) ?_ _
     obtain ⟨a2,c2,e2,_⟩:=q0Z (uQ HP2).row
     have HKF:Hid (FdP V ⟨#[107]⟩ (fiL p ⟨#[107]⟩ (fs.take c)) v2 zs2 w6/\Kp [] w5 V):=hZq ⟨uQ HP2,kV⟩
     clear HPC HP1 HP2 hHeld hS6 hS0
     go_wp2
     go_meet
     exact ⟨zs2,rfl,⟨a2,_,c2,e2⟩,HKF⟩
    case rest=>
    obtain ⟨zs2,rfl,⟨la,lm,lk,rfl⟩,HP2⟩:=hcut
    have k15:Kp [] w5 wc:=(uQ HP2).2.trans (uQ HP2).1.kp (by simp)
    have HK15:=hZq k15
    have HKC:=hZq (((uQ HKWR).trans (uQ HP1).kp (by simp)).trans k15 (by simp))
    clear k15 HPC F2 hS0 hV kV HKWR HK2
    by_cases h0:E=0
    ·obtain ⟨t1,t2⟩:=uQ HTK h0
     subst h0
     obtain rfl:E2=0:=t1
     have HM1:Hid (MsR ⟨#[107]⟩ wc (.slice va z1 vc) zs1):=hZq (by
      rw[uQ HZ1]
      exact MsR.up ⟨q3K (uQ HP1).row,(uQ HP1).cp⟩ (uQ HK15))
     have HM2:Hid (MsR ⟨#[107]⟩ wc (.slice la lm lk) zs2):=hZq ⟨q3K (uQ HP2).1.row,(uQ HP2).1.cp⟩
     have HEQ:Hid (zs2.map (·.T)=(zs1.filter fun x=>decide (Mt.endT x.T<c)).map (·.T)):=hZq (by
      rw[(uQ HP2).1.ts,t2, <-(uQ HP1).ts,List.filter_map]
      rfl)
     have HF1:Hid (∀x∈zs1,x.T≠[]/\(∀l∈x.T,l≠[])/\MtOk ⟨#[107]⟩ (Mt.toZ x.T)):=hZq (fun x hx=>by
      have:=uQ HFU fs x.T (by rw[<-(uQ HP1).ts];exact List.mem_map_of_mem hx)
      exact ⟨this.1,this.2.1,this.2.2.1⟩)
     have HF2:Hid (∀x∈zs2,MtOk ⟨#[107]⟩ (Mt.toZ x.T)):=hZq (fun x hx=>(uQ HFU (fs.take c) x.T (by rw[<-(uQ HP2).1.ts];exact List.mem_map_of_mem hx)).2.2.1)
     have HL1:Hid (zs1.length<=4096):=hZq (by have:=uQ HLE fs;rw[<-(uQ HP1).ts,List.length_map]at this;exact this)
     have HL2:Hid (zs2.length<=4096):=hZq (by have:=uQ HLE (fs.take c);rw[<-(uQ HP2).1.ts,List.length_map]at this;exact this)
     have hz1i:z1<=4096:=by rw[uQ HZ1];exact uQ HL1
     clear HP1 HP2 HTK HEN HFU HLE t2 HK15
     go_wp2_with fail
     go_loopw [64,13] (fun iv ov wr=> ∃j k:Nat,j<=z1/\iv= .int .i64 (j:Int)/\(∃a cc,ov= .slice a k cc)/\Hid (SyW wc ⟨#[107]⟩ (fun x=>decide (Mt.endT x.T<c)) zs1 j k ov wr)) (fun iv _ _=>z1-(intOf iv).toNat)
     case atStart=>exact ⟨0,0,Nat.zero_le _,rfl,⟨none,0,rfl⟩,hZq ⟨World.ownsRow_nil _ _ _ _,rfl,Kp.refl _ _⟩⟩
     case round=>
      obtain ⟨j2,k,hj2,rfl,⟨oa,oc,rfl⟩,HW⟩:=hrel
      by_cases hlt2:j2<z1
      ·have hli2:(j2:Int)<(z1:Int):=by omega
       have hjz:j2<zs1.length:=by rw[<-uQ HZ1];exact hlt2
       obtain ⟨vg,rfl⟩:=uQ HVG (by omega)
       have hms:=(uQ HM1).up (uQ HW).kp
       obtain ⟨c0,c1⟩:=hms.cell (uQ HZ1) j2 hjz
       have hmem:=List.getElem_mem hjz
       obtain ⟨f1,f2,f3⟩:=uQ HF1 _ hmem
       obtain ⟨tn,sb,so,q,lc,htn,htb,hqb,d0,d1⟩:=qc4 (hms.cp _ hmem) f1 f2 f3
       have em:(((tn+1:Nat)):Int)-1=(tn:Int):=by omega
       have eq:(((q+1:Nat)):Int)-1=(q:Int):=by omega
       have hxv:zs1[j2].v= .slice (some ⟨zs1[j2].g,0,none⟩) (tn+1) (tn+1):=by unfold Cp.v;rw[htn]
       obtain ⟨W2,hW2⟩: ∃W2,W2=wr.alloc (.cells #[.string ⟨#[107]⟩, .slice (some ⟨zs1[j2].g,0,none⟩) (tn+1) (tn+1)] 37):=⟨_,rfl⟩
       have k2:Kp [] wr W2:=by rw[hW2];exact Kp.alloc _ _
       have bx:CBox wr.heap.size #[.string ⟨#[107]⟩, .slice (some ⟨zs1[j2].g,0,none⟩) (tn+1) (tn+1)] 37 W2:=by rw[hW2];exact CBox.new _ _ _
       have x0:=bx.cell (i:=0) (v:= .string ⟨#[107]⟩) rfl
       have x1:=bx.cell (i:=1) (v:= .slice (some ⟨zs1[j2].g,0,none⟩) (tn+1) (tn+1)) rfl
       have y0:=k2.cell d0 (by simp)
       have y1:=k2.cell d1 (by simp)
       have HTA:=hZq (fun (hf:decide (Mt.endT zs1[j2].T<c)=true)=>(uQ HW).take (W:=W2.alloc (.cells #[.string ⟨#[107]⟩, .slice (some ⟨zs1[j2].g,0,none⟩) (tn+1) (tn+1)] 37)) hjz hf (k2.trans (Kp.alloc _ _) (by simp)) (uQ HL1) (g:=W2.heap.size) (by rw[hxv];exact CBox.new _ _ _))
       have HSK:=hZq (fun (hf:decide (Mt.endT zs1[j2].T<c)=false)=>(uQ HW).skip hjz hf k2)
       rw[hxv]at c1
       clear hms hmem f1 f2 f3 d0 d1 bx k2 hxv htn HW HM1 HM2 HEQ HF1 HF2 HL1 HL2
       generalize zs1[j2].g=xg at *
       generalize Mt.endT zs1[j2].T=en at *
       go_upto_region 20 with fail
       rw[<-hW2]
       clear hW2 c0 c1
       by_cases hd:en<c
       ·have hdi:(en:Int)<(c:Int):=by omega
        obtain ⟨g',cp',w',hrun,hn'⟩:=uQ HTA (decide_eq_true hd)
        have HRUN:=hZq hrun
        have HN':=hZq hn'
        clear HTA HSK hrun hn'
        go_wp2_with (at_builtin;refine q0e rfl _ _ _ rfl rfl rfl (uQ HRUN) ?_)
        clear HRUN
        go_roundw
        case rel=>exact ⟨j2+1,k+1,by omega,by go_num,⟨_,_,rfl⟩,HN'⟩
        case measure=>simp[intOf];omega
       ·have hdi: ¬ (en:Int)<(c:Int):=by omega
        have HN':=hZq (uQ HSK (decide_eq_false hd))
        clear HTA HSK
        go_wp2
        go_roundw
        case rel=>exact ⟨j2+1,k,by omega,by go_num,⟨_,_,rfl⟩,HN'⟩
        case measure=>simp[intOf];omega
      ·obtain rfl:j2=z1:=by omega
       have hW:=uQ HW
       have hfl:zs1.take j2=zs1:=List.take_of_length_le (by rw[uQ HZ1];exact Nat.le_refl _)
       have hrow:=hW.row
       have hkl:=hW.ln
       rw[hfl]at hrow hkl
       have HMW:MsR ⟨#[107]⟩ wr (.slice oa k oc) (zs1.filter fun x=>decide (Mt.endT x.T<c)):=⟨by rw[<-hkl];exact q3K hrow,fun x hx=>((uQ HM1).up hW.kp).cp x ((List.mem_filter.1 hx).1)⟩
       have SM:=hZq (q8y ⟨#[107]⟩ _ _ zs2 _ wr ((uQ HM2).up hW.kp) HMW (uQ HF2) (fun x hx=>(uQ HF1 x ((List.mem_filter.1 hx).1)).2.2) (by have:=uQ HL2;omega) (by have h1:=List.length_filter_le (fun x:Cp=>decide (Mt.endT x.T<c)) zs1;have:=uQ HL1;omega))
       rw[decide_eq_true (uQ HEQ)]at SM
       have HKE:=hZq ((uQ HKC).trans hW.kp (by simp))
       clear hW hfl hrow hkl HMW HW HM1 HM2 HEQ HF1 HF2 HL1 HL2 HKC
       go_wp2_with fail
       refine (uQ SM).mono ?_
       rintro e w9 ⟨rfl,hk9⟩
       have HKF:=hZq ((uQ HKE).trans hk9 (by simp))
       clear SM hk9 HKE
       go_wp2
       go_ret
       exact ⟨rfl,uQ HKF⟩
    ·have hz0:z1=0:=by
      have:=(uQ HP1).ts
      rw[uQ HEN h0]at this
      have:=congrArg List.length this
      rw[List.length_map]at this
      rw[uQ HZ1]
      simpa using this
     subst hz0
     clear HTK HEN HFU HLE HP1 HP2 HVG HZ1 HK15
     go_wp2
     go_ret
     exact ⟨rfl,uQ HKC⟩
open Go.RowKit Go.Deep
theorem qaf:Tryz.prog.bytesOf 166=56:=by kernel_rfl
theorem q1B {H:Type}{P:Program}{e:TypeId}{ds:List (DataW H)}{d:DataW H}{n:Nat}(hd:d∈ds)(hn:n∈d.weights P e):n∈DataW.weightsAll P e ds:=by
 induction ds with
 |nil=>cases hd
 |cons x r ih=>
  simp only[DataW.weightsAll,List.mem_append]
  rcases List.mem_cons.1 hd with rfl|h
  ·exact Or.inl hn
  ·exact Or.inr (ih h)
theorem q9A {H:Type}{enc:TypeId × Value->H}{W:World}{spare:Nat->Bool}{held:Bool}{fuel:Nat}{v:Value}{x:DataW H × List MemPlace}
  (h:DataW.trod enc Tryz.prog W 0 spare held fuel 84 [v]=some x) (hw: ∀n∈x.1.weights Tryz.prog 84,n<=reachBytes):
  ∃(ad:Option Addr) (cap:Nat) (l:List Pt),v= .slice ad l.length cap/\l.length * 56<=140737488351232/\l.length<=cap/\PtsAt W ad l/\(∀y∈l,y.ok)/\(ad=none->cap=0)/\ ∀y∈l,y.s.size<=140737488351232/\y.st.size<=140737488351232:=by
 obtain ⟨ad,cap,l,hv,h1,h2,h3⟩:=q6a h
 obtain ⟨f0,f1,f2,f3,f4,hu,t0,t1,t2,t3,t4,o0,o1,o2,o3,o4⟩:=q2b
 rcases open_slice Tryz.underlying84 h with ⟨hcs,_⟩|⟨a,len,cap',m,n,D,Pl,hcs,hb,hl,hm,hmm,rfl,hx⟩
 ·simp only[List.cons.injEq,and_true]at hcs
  rw[hv]at hcs
  simp only[Value.slice.injEq]at hcs
  have hl0:l=[]:=List.eq_nil_of_length_eq_zero hcs.2.1
  subst hl0
  exact ⟨ad,cap,[],hv,by simp,by simp,h2,h3,fun _=>hcs.2.2,by simp⟩
 ·simp only[List.cons.injEq,and_true]at hcs
  rw[hv]at hcs
  simp only[Value.slice.injEq]at hcs
  obtain ⟨rfl,hll,rfl⟩:=hcs
  have hlm:len<=m:=by rw[hmm];split <;> omega
  have hw0:(len+(m-len)) * 56<=reachBytes:=by
   have:=hw ((len+(m-len)) * 56) (by simp[DataW.weights,Tryz.underlying84,qaf])
   exact this
  have hreach:reachBytes=140737488351232:=by decide
  refine ⟨some a,cap,l,hv,by omega,by omega,h2,h3,(by intro e;cases e),fun y hy=>?_⟩
  obtain ⟨i,hi,rfl⟩:=List.mem_iff_getElem.1 hy
  obtain ⟨b,off,ea,_,hc⟩:=h2 (fun e=>by rw[e]at hi;simp at hi)
  obtain rfl:=Option.some.inj ea
  obtain ⟨cs',k1,k2⟩:=hx i (by omega)
  rw[q2v]at k1
  obtain ⟨_,hlen,hcell⟩:=World.cells?_some k1
  obtain ⟨xs,k,hk,hxy,_,hxl,hf⟩:=DataW.trod_struct hu k2
  match xs,hxl,cs',hlen with
  |[y0,y1,y2,y3,y4],_,[v0,v1,v2,v3,v4],_=>
   have g2:=hf 2 f2 rfl
   have g3:=hf 3 f3 rfl
   simp[o2,o3,t2,t3,q0G]at g2 g3
   have e2:=hcell 2 (by omega)
   have e3:=hcell 3 (by omega)
   rw[Go.Deep.add_add]at e2 e3
   obtain ⟨s,q2,q3,_⟩:=DataW.trod_string Tryz.underlying9 g2
   obtain ⟨s',q2',q3',_⟩:=DataW.trod_string Tryz.underlying9 g3
   simp only[List.cons.injEq,and_true]at q2 q2'
   subst q2 q2'
   have c2:=(hc i hi).2.2.1
   have c3:=(hc i hi).2.2.2.1
   rw[Go.WideShapes.add_plain]at e2 e3
   have e2':W.cell? ⟨b,off+i * 5+2,none⟩=some (.string s):=by rw[Nat.add_assoc];simpa using e2
   have e3':W.cell? ⟨b,off+i * 5+3,none⟩=some (.string s'):=by rw[Nat.add_assoc];simpa using e3
   rw[c2]at e2'
   rw[c3]at e3'
   simp only[Option.some.injEq,Value.string.injEq]at e2' e3'
   rw[e2',e3']
   have hD:D i= .agg [y0.1,y1.1,y2.1,y3.1,y4.1]:=by have:=congrArg Prod.fst hxy;simpa using this
   have hwt:s.size∈(D i).weights Tryz.prog 166:=by
    rw[hD]
    simp only[DataW.weights,hu]
    refine DataW.weights_mem_each (j:=2) (t:=9) (d:=y2.1) (by simp[t2]) rfl _ ?_
    rw[q3]
    simp[DataW.weights]
   have hwt':s'.size∈(D i).weights Tryz.prog 166:=by
    rw[hD]
    simp only[DataW.weights,hu]
    refine DataW.weights_mem_each (j:=3) (t:=9) (d:=y3.1) (by simp[t3]) rfl _ ?_
    rw[q3']
    simp[DataW.weights]
   have r1:=hw s.size (by
    simp only[DataW.weights,Tryz.underlying84,List.mem_cons,List.mem_append]
    exact Or.inr (Or.inl (q1B (List.mem_map.2 ⟨i,List.mem_range.2 (by omega),rfl⟩) hwt)))
   have r2:=hw s'.size (by
    simp only[DataW.weights,Tryz.underlying84,List.mem_cons,List.mem_append]
    exact Or.inr (Or.inl (q1B (List.mem_map.2 ⟨i,List.mem_range.2 (by omega),rfl⟩) hwt')))
   exact ⟨by omega,by omega⟩
open Go.RowKit Go.Deep
theorem q6K:Tryz.prog.cellsOf 86=4:=by kernel_rfl
theorem q59:Tryz.prog.cellsOf 24=2:=by kernel_rfl
theorem q6L:Tryz.prog.cellsOf 4=1:=by kernel_rfl
theorem q5u:Tryz.prog.cellsOf 84=1:=by kernel_rfl
theorem q2U:Tryz.prog.cellsOf 22=1:=by kernel_rfl
theorem q6J:Tryz.prog.bytesOf 86=56:=by kernel_rfl
theorem q5L: ∃f0 f1 f2 f3:Field,Tryz.prog.underlying 86=some (.struct #[f0,f1,f2,f3])/\f0.type=9/\f1.type=3/\f2.type=4/\f3.type=84/\f0.offset=0/\f1.offset=1/\f2.offset=2/\f3.offset=3:=
 ⟨_,_,_,_,Tryz.underlying86,rfl,rfl,rfl,rfl,rfl,rfl,rfl,rfl⟩
theorem q2r: ∃f0 f1:Field,Tryz.prog.underlying 24=some (.struct #[f0,f1])/\f0.type=22/\f1.type=3/\f0.offset=0/\f1.offset=1:=
 ⟨_,_,Tryz.underlying24,rfl,rfl,rfl,rfl⟩
def SR.hv (r:SR):Prop:=r.s.cd.length * 56<=140737488351232/\r.s.cd.length<=r.c/\(r.ad=none->r.c=0)/\ ∀y∈r.s.cd,y.s.size<=140737488351232/\y.st.size<=140737488351232
section
variable {H:Type} {enc:TypeId × Value->H} {W:World} {spare:Nat->Bool} {held:Bool} {fuel:Nat} {v:Value} {x:DataW H × List MemPlace}
theorem q9B (h:DataW.trod enc Tryz.prog W 0 spare held fuel 84 [v]=some x):
  ∃(ad:Option Addr) (cap:Nat) (l:List Pt),v= .slice ad l.length cap/\l.length<=9223372036854775807/\PtsAt W ad l/\(∀y∈l,y.ok)/\((∀n∈x.1.weights Tryz.prog 84,n<=reachBytes)->l.length * 56<=140737488351232/\l.length<=cap/\(ad=none->cap=0)/\ ∀y∈l,y.s.size<=140737488351232/\y.st.size<=140737488351232):=by
 by_cases hw: ∀n∈x.1.weights Tryz.prog 84,n<=reachBytes
 ·obtain ⟨ad,cap,l,h1,h2,h3,h4,h5,h6,h7⟩:=q9A h hw
  exact ⟨ad,cap,l,h1,by omega,h4,h5,fun _=>⟨h2,h3,h6,h7⟩⟩
 ·obtain ⟨ad,cap,l,h1,h2,h3,h4⟩:=q6a h
  exact ⟨ad,cap,l,h1,h2,h3,h4,fun h=>absurd h hw⟩
theorem q8r {cs:Array Value}(hsz:cs.size=4)(h:DataW.trod enc Tryz.prog W 0 spare held fuel 86 cs.toList=some x):
  ∃r:SR,cs=#[.string r.s.nm, .int .i64 r.s.hw, .bool r.s.mn, .slice r.ad r.s.cd.length r.c]/\r.s.ok/\PtsAt W r.ad r.s.cd/\((∀m∈x.1.weights Tryz.prog 86,m<=reachBytes)->r.hv):=by
 obtain ⟨f0,f1,f2,f3,hu,t0,t1,t2,t3,o0,o1,o2,o3⟩:=q5L
 obtain ⟨xs,n,_,hxe,_,hxl,hf⟩:=DataW.trod_struct hu h
 obtain ⟨l⟩:=cs
 match xs,hxl,l,hsz with
 |[y0,y1,y2,y3],_,[v0,v1,v2,v3],_=>
  have g0:=hf 0 f0 rfl
  have g1:=hf 1 f1 rfl
  have g2:=hf 2 f2 rfl
  have g3:=hf 3 f3 rfl
  simp[o0,o1,o2,o3,t0,t1,t2,t3,q0G,q0W,q6L,q5u]at g0 g1 g2 g3
  obtain ⟨k0,q0,_,w0⟩:=DataW.trod_string Tryz.underlying9 g0
  obtain ⟨k1,q1,_,w1⟩:=DataW.trod_int Tryz.underlying3 g1
  obtain ⟨k2,q2,_⟩:=DataW.trod_bool Tryz.underlying4 g2
  obtain ⟨ad,cp,cd,rfl,h2,h3,h4,h5⟩:=q9B g3
  simp only[List.cons.injEq,and_true]at q0 q1 q2
  subst q0 q1 q2
  have u1:=bounds_i64 w1
  unfold maxLen at w0
  refine ⟨⟨⟨k0,k1,k2,cd⟩,ad,cp⟩,rfl,⟨by show k0.size<=_;omega,⟨u1.1,by show k1<=_;omega⟩,h4⟩,h3,fun hw=>h5 (fun m hm=>hw m ?_)⟩
  rw[hxe]
  simp only[DataW.weights,hu]
  exact DataW.weights_mem_each (j:=3) (t:=84) (d:=y3.1) (by simp[t3]) rfl m hm
theorem q6Y (h:DataW.trod enc Tryz.prog W 0 spare held fuel 22 [v]=some x):
  ∃(ad:Option Addr) (cap:Nat) (l:List SR),v= .slice ad l.length cap/\l.length<=9223372036854775807/\StsAt W ad l/\(∀r∈l,r.s.ok)/\((∀m∈x.1.weights Tryz.prog 22,m<=reachBytes)->l.length * 56<=140737488351232/\(ad=none->cap=0)/\ ∀r∈l,r.hv):=by
 rcases open_slice Tryz.underlying22 h with ⟨hcs,_⟩|⟨a,len,cap,m,n,D,Pl,hcs,hb,hl,hm,hmm,hxe,hx⟩
 ·simp only[List.cons.injEq,and_true]at hcs
  subst hcs
  exact ⟨none,0,[],rfl,by simp,fun hne=>absurd rfl hne,by simp,fun _=>⟨by simp,fun _=>rfl,by simp⟩⟩
 ·simp only[List.cons.injEq,and_true]at hcs
  subst hcs
  have hlm:len<=m:=by rw[hmm];split <;> omega
  have each: ∀i,i<len-> ∃y:SR,(W.cell? (a.add (i * 4))=some (.string y.s.nm)/\W.cell? (a.add (i * 4+1))=some (.int .i64 y.s.hw)/\W.cell? (a.add (i * 4+2))=some (.bool y.s.mn)/\W.cell? (a.add (i * 4+3))=some (.slice y.ad y.s.cd.length y.c))/\y.s.ok/\PtsAt W y.ad y.s.cd/\((∀m∈(D i).weights Tryz.prog 86,m<=reachBytes)->y.hv):=by
   intro i hi
   obtain ⟨cs',h1,h2⟩:=hx i (by omega)
   rw[q6K]at h1
   obtain ⟨_,hlen,hcell⟩:=World.cells?_some h1
   obtain ⟨y,hy,hok⟩:=q8r (cs:=cs'.toArray) (by simpa using hlen) (by simpa using h2)
   refine ⟨y,?_,hok⟩
   have hy':cs'=[.string y.s.nm, .int .i64 y.s.hw, .bool y.s.mn, .slice y.ad y.s.cd.length y.c]:=by simpa using congrArg Array.toList hy
   subst hy'
   have e0:=hcell 0 (by omega)
   have e1:=hcell 1 (by omega)
   have e2:=hcell 2 (by omega)
   have e3:=hcell 3 (by omega)
   rw[Go.Deep.add_add]at e0 e1 e2 e3
   exact ⟨by simpa using e0,by simpa using e1,by simpa using e2,by simpa using e3⟩
  have hinh:Inhabited SR:=⟨⟨⟨⟨#[]⟩,0,false,[]⟩,none,0⟩⟩
  obtain ⟨q,hq⟩:=choose_lt each
  refine ⟨some a,cap,(List.range len).map q,by simp,by simp;unfold maxLen at hm;omega,fun hne=>?_,fun y hy=>?_,fun hw=>⟨?_,(by intro e;cases e),fun y hy=>?_⟩⟩
  ·have h0:0<len:=by
    rcases Nat.eq_zero_or_pos len with e|e
    ·subst e;simp at hne
    ·exact e
   obtain ⟨b,off,spot⟩:=a
   have hc0:=(hq 0 h0).1.1
   have hspot:spot=none:=by simpa [Addr.add] using World.cell?_spot hc0
   subst hspot
   refine ⟨b,off,rfl,?_,fun i hi=>?_⟩
   ·rcases Nat.lt_or_ge b W.heap.size with hlt|hge
    ·exact hlt
    ·exfalso
     rw[Go.WideShapes.add_plain]at hc0
     simp[World.cell?,Array.getElem?_eq_none hge]at hc0
   ·have hi':i<len:=by simpa using hi
    obtain ⟨⟨c0,c1,c2,c3⟩,_,c4,_⟩:=hq i hi'
    rw[Go.WideShapes.add_plain]at c0 c1 c2 c3
    simp only[List.getElem_map,List.getElem_range]
    exact ⟨c0,by rw[Nat.add_assoc];exact c1,by rw[Nat.add_assoc];exact c2,by rw[Nat.add_assoc];exact c3,c4⟩
  ·obtain ⟨i,hi,rfl⟩:=List.mem_map.1 hy
   exact (hq i (List.mem_range.1 hi)).2.1
  ·have hw0:(len+(m-len)) * 56<=reachBytes:=hw _ (by rw[hxe];simp[DataW.weights,Tryz.underlying22,q6J])
   have hreach:reachBytes=140737488351232:=by decide
   simp only[List.length_map,List.length_range]
   omega
  ·obtain ⟨i,hi,rfl⟩:=List.mem_map.1 hy
   refine (hq i (List.mem_range.1 hi)).2.2.2 (fun m hm=>hw m ?_)
   rw[hxe]
   simp only[DataW.weights,Tryz.underlying22]
   exact List.mem_cons_of_mem _ (List.mem_append.2 (Or.inl (q1B (List.mem_map.2 ⟨i,hi,rfl⟩) hm)))
theorem q69 {cs:Array Value}(hsz:cs.size=Tryz.prog.cellsOf 24)(h:DataW.trod enc Tryz.prog W 0 spare held fuel 24 cs.toList=some x):
  ∃(sa:Option Addr) (sc:Nat) (l:List SR) (wi:Int),cs=#[.slice sa l.length sc, .int .i64 wi]/\l.length<=9223372036854775807/\StsAt W sa l/\(∀r∈l,r.s.ok)/\(-9223372036854775808<=wi/\wi<=9223372036854775807)/\((∀m∈x.1.weights Tryz.prog 24,m<=reachBytes)->l.length * 56<=140737488351232/\(sa=none->sc=0)/\ ∀r∈l,r.hv):=by
 obtain ⟨f0,f1,hu,t0,t1,o0,o1⟩:=q2r
 rw[q59]at hsz
 obtain ⟨xs,n,_,hxe,_,hxl,hf⟩:=DataW.trod_struct hu h
 obtain ⟨l⟩:=cs
 match xs,hxl,l,hsz with
 |[y0,y1],_,[v0,v1],_=>
  have g0:=hf 0 f0 rfl
  have g1:=hf 1 f1 rfl
  simp[o0,o1,t0,t1,q0W,q2U]at g0 g1
  obtain ⟨k1,q1,_,w1⟩:=DataW.trod_int Tryz.underlying3 g1
  obtain ⟨sa,sc,l,rfl,h2,h3,h4,h5⟩:=q6Y g0
  simp only[List.cons.injEq,and_true]at q1
  subst q1
  have u1:=bounds_i64 w1
  refine ⟨sa,sc,l,k1,rfl,h2,h3,h4,⟨u1.1,by omega⟩,fun hw=>h5 (fun m hm=>hw m ?_)⟩
  rw[hxe]
  simp only[DataW.weights,hu]
  exact DataW.weights_mem_each (j:=0) (t:=22) (d:=y0.1) (by simp[t0]) rfl m hm
end
open Go.RowKit Go.Deep
theorem q2i:Tryz.prog.cellsOf 29=7:=by kernel_rfl
theorem q8S:Tryz.prog.cellsOf 2=1:=by kernel_rfl
theorem q5t:Tryz.prog.cellsOf 27=4:=by kernel_rfl
theorem q80:Tryz.prog.cellsOf 9=1:=by kernel_rfl
theorem q5K: ∃f0 f1 f2 f3:Field,Tryz.prog.underlying 29=some (.struct #[f0,f1,f2,f3])/\f0.type=9/\f1.type=9/\f2.type=27/\f3.type=9/\f0.offset=0/\f1.offset=1/\f2.offset=2/\f3.offset=6:=
 ⟨_,_,_,_,Tryz.underlying29,rfl,rfl,rfl,rfl,rfl,rfl,rfl,rfl⟩
theorem qey {α:Type}: ∀(l:List α),l.length=7-> ∃a b c d e f g,l=[a,b,c,d,e,f,g]
 |[a,b,c,d,e,f,g],_=>⟨a,b,c,d,e,f,g,rfl⟩
theorem qbV {α:Type}: ∀(l:List α),l.length=4-> ∃a b c d,l=[a,b,c,d]
 |[a,b,c,d],_=>⟨a,b,c,d,rfl⟩
section
variable {H:Type} {enc:TypeId × Value->H} {W:World} {spare:Nat->Bool} {held:Bool} {fuel:Nat} {x:DataW H × List MemPlace}
theorem q8q {cs:Array Value}(hsz:cs.size=Tryz.prog.cellsOf 29)(h:DataW.trod enc Tryz.prog W 0 spare held fuel 29 cs.toList=some x):
  ∃e:Ev,cs=e.c/\e.ok:=by
 obtain ⟨f0,f1,f2,f3,hu,t0,t1,t2,t3,o0,o1,o2,o3⟩:=q5K
 rw[q2i]at hsz
 obtain ⟨xs,n,_,_,_,hxl,hf⟩:=DataW.trod_struct hu h
 obtain ⟨l⟩:=cs
 obtain ⟨v0,v1,v2,v3,v4,v5,v6,rfl⟩:=qey l hsz
 obtain ⟨y0,y1,y2,y3,rfl⟩:=qbV xs hxl
 have g0:=hf 0 f0 rfl
 have g1:=hf 1 f1 rfl
 have g2:=hf 2 f2 rfl
 have g3:=hf 3 f3 rfl
 simp[o0,o1,o2,o3,t0,t1,t2,t3,q80,q5t]at g0 g1 g2 g3
 obtain ⟨k,q0,_,hk⟩:=DataW.trod_string Tryz.underlying9 g0
 obtain ⟨t,q1,_,ht⟩:=DataW.trod_string Tryz.underlying9 g1
 obtain ⟨s,q3,_,hs⟩:=DataW.trod_string Tryz.underlying9 g3
 simp only[List.cons.injEq,and_true]at q0 q1 q3
 subst q0 q1 q3
 obtain ⟨zs,m,_,_,_,hzl,hz⟩:=DataW.trod_array Tryz.underlying27 g2
 obtain ⟨z0,z1,z2,z3,rfl⟩:=qbV zs hzl
 have a0:=hz 0 (by omega)
 have a1:=hz 1 (by omega)
 have a2:=hz 2 (by omega)
 have a3:=hz 3 (by omega)
 simp[q8S]at a0 a1 a2 a3
 obtain ⟨n0,p0,_,w0⟩:=DataW.trod_int Tryz.underlying2 a0
 obtain ⟨n1,p1,_,w1⟩:=DataW.trod_int Tryz.underlying2 a1
 obtain ⟨n2,p2,_,w2⟩:=DataW.trod_int Tryz.underlying2 a2
 obtain ⟨n3,p3,_,w3⟩:=DataW.trod_int Tryz.underlying2 a3
 simp only[List.cons.injEq,and_true]at p0 p1 p2 p3
 subst p0 p1 p2 p3
 have u0:=bounds_i64 w0
 have u1:=bounds_i64 w1
 have u2:=bounds_i64 w2
 have u3:=bounds_i64 w3
 unfold maxLen at hk ht hs
 exact ⟨⟨k,t,n0,n1,n2,n3,s⟩,rfl,by show k.size<=_;omega,by show t.size<=_;omega,by show s.size<=_;omega,⟨u0.1,by show n0<_;omega⟩,⟨u1.1,by show n1<_;omega⟩,⟨u2.1,by show n2<_;omega⟩,⟨u3.1,by show n3<_;omega⟩⟩
end
end Go.Proofs.YtcmjnlpofebbmaaGreatDoor
