/-
  Walks and plain facts, made small.
-/
import Derived.Test.YtcmjnlpofebbmaaGreatDoorMa39
set_option maxRecDepth 100000
set_option maxHeartbeats 8000000
set_option linter.unusedSimpArgs false
namespace Go.Proofs.YtcmjnlpofebbmaaGreatDoor
open Go.RowKit Go.Shelf
attribute [local go_sem] Oper.semAt_some
theorem qci (n:Nat)(sa:Option Addr)(sc:Nat)(l:List SR)(wi:Int)(ea:Option Addr)(ec:Nat)(es:List Ev)(key:ByteArray)(w:World)(hst:StsAt w sa l)(hev:EvsAt w ea es)(htb:TbE w)(hok: ∀r∈l,r.s.ok)(hfit: ∀r∈l, ∀q∈r.s.cd,q.fit)(hsc:l.length<=sc)(hl:l.length<=9223372036854775807)(hes:es.length<=9223372036854775807)(hsz: ∀e∈es,evSz e)(hks:key.size<=9223372036854775807):
  CallsIn Fence.wide n Tryz.prog 5 #[.agg #[.slice sa l.length sc, .int .i64 wi], .string key, .slice ea es.length ec] w fun e w'=> ∃v zs,e= .returned (.tuple #[v, .int .i64 (fiE ⟨stgs l,wi⟩ key es)])/\FdP w key (fiL ⟨stgs l,wi⟩ key es) v zs w':=by
 obtain ⟨W1,hW1⟩: ∃W1,W1=(((w.alloc (.cells #[.slice sa l.length sc, .int .i64 wi] 24)).alloc (.cells #[.string key] 9)).alloc (.cells #[.slice none 0 0] 31)).alloc (.cells #[.int .i64 0] 32):=⟨_,rfl⟩
 have k1:Kp [] w W1:=by rw[hW1];exact (((Kp.alloc _ _).trans (Kp.alloc _ _) (by simp)).trans (Kp.alloc _ _) (by simp)).trans (Kp.alloc _ _) (by simp)
 have b0:CBox w.heap.size #[.slice sa l.length sc, .int .i64 wi] 24 W1:=by
  rw[hW1]
  exact (CBox.new w _ _).kp (((Kp.alloc _ _).trans (Kp.alloc _ _) (by simp)).trans (Kp.alloc _ _) (by simp)) (by simp)
 have b1:CBox (w.heap.size+1) #[.string key] 9 W1:=by
  have:=(CBox.new (w.alloc (.cells #[.slice sa l.length sc, .int .i64 wi] 24)) #[.string key] 9).kp ((Kp.alloc _ (.cells #[.slice none 0 0] 31)).trans (Kp.alloc _ (.cells #[.int .i64 0] 32)) (by simp)) (by simp)
  simp only[World.size_alloc]at this
  rw[hW1]
  exact this
 have b2:CBox (w.heap.size+1+1) #[.slice none 0 0] 31 W1:=by
  have:=(CBox.new ((w.alloc (.cells #[.slice sa l.length sc, .int .i64 wi] 24)).alloc (.cells #[.string key] 9)) #[.slice none 0 0] 31).kp (Kp.alloc _ (.cells #[.int .i64 0] 32)) (by simp)
  simp only[World.size_alloc]at this
  rw[hW1]
  exact this
 have b3:CBox (w.heap.size+1+1+1) #[.int .i64 0] 32 W1:=by
  have:=CBox.new (((w.alloc (.cells #[.slice sa l.length sc, .int .i64 wi] 24)).alloc (.cells #[.string key] 9)).alloc (.cells #[.slice none 0 0] 31)) #[.int .i64 0] 32
  simp only[World.size_alloc]at this
  rw[hW1]
  exact this
 have hz1:W1.heap.size=w.heap.size+1+1+1+1:=by rw[hW1];simp
 have CK:=hZq ((callsIn_wide (n:=n-1)).2 (q8m sa sc l wi ea ec es W1 (hst.kp k1) (hev.kp k1 (by simp)) (htb.kp k1 (by simp)) hok hl hes hsz))
 have AR:=hZq (fun W (hk:Kp [] w W)=>(callsIn_wide (n:=n-1)).2 (q8K ea ec es key W (hev.kp hk (by simp)) hes hks))
 have MI:=hZq (fun (WI:Nat) hp hw hw1 hel wB W hk h1 h2 h3=>q60 wB W sa sc l WI ea ec es hk h1 h2 h3 hp hok hfit hsc hw hw1 hel)
 have p0:=b0.cell (i:=0) (v:= .slice sa l.length sc) rfl
 have p1:=b0.cell (i:=1) (v:= .int .i64 wi) rfl
 have HB:=hZq (And.intro b0 (And.intro b1 (And.intro b2 (And.intro b3 (And.intro k1 hz1)))))
 have HIN:=hZq (And.intro hst (And.intro hev htb))
 have HKS:=hZq hks
 obtain ⟨CE,hCE⟩: ∃CE,CE=mckE ⟨stgs l,wi⟩ es:=⟨_,rfl⟩
 have HCE:=hZq hCE
 rw[<-hCE]at CK
 obtain ⟨FE,hFE⟩: ∃FE,FE=fiE ⟨stgs l,wi⟩ key es:=⟨_,rfl⟩
 have HFE:=hZq hFE
 rw[<-hFE]
 obtain ⟨FL,hFL⟩: ∃FL,FL=fiL ⟨stgs l,wi⟩ key es:=⟨_,rfl⟩
 have HFL:=hZq hFL
 rw[<-hFL]
 obtain ⟨ln,hln⟩: ∃ln,ln=l.length:=⟨_,rfl⟩
 have HLN:=hZq hln
 rw[<-hln]at hW1 p0 CK hl hsc ⊢
 obtain ⟨en,hen⟩: ∃en,en=es.length:=⟨_,rfl⟩
 have HEN:=hZq hen
 rw[<-hen]at CK AR hes ⊢
 clear hst hev htb hok hfit hsz hks b0 b1 b2 b3 k1 hz1 hCE hFE hFL hln hen
 refine callsIn_of_wp_marks Tryz.func5 rfl trivial ?_ rfl
 simp only[Tryz.ntmps5,List.size_toArray,List.length_cons,List.length_nil,Nat.reduceAdd,Nat.reduceSub,Array.replicate_succ,Array.replicate_zero,List.push_toArray,List.append_toArray,List.nil_append,List.cons_append]
 gi_wp2_with fail
 refine ⟨trivial,(fun h=>by cases h),?_⟩
 rw[<-hW1]
 refine (uQ CK).mono ?_
 rintro e w2 ⟨rfl,hk2⟩
 have HK2:=hZq hk2
 obtain ⟨b0,b1,b2,b3,k1,hz1⟩:=uQ HB
 have q1:=(b1.kp hk2 (by simp)).cell (i:=0) (v:= .string key) rfl
 have q2:=(b2.kp hk2 (by simp)).cell (i:=0) (v:= .slice none 0 0) rfl
 have q3:=(b3.kp hk2 (by simp)).cell (i:=0) (v:= .int .i64 0) rfl
 have f2:=(b2.kp hk2 (by simp)).froz
 have f3:=(b3.kp hk2 (by simp)).froz
 clear CK hW1 p0 p1 hk2 b0 b1 b2 b3 k1 hz1
 by_cases h0:CE=0
 ·have HEE:Hid (FE=if arE key es=true then (if 4096<(fdS (Mt.pm ⟨stgs l,wi⟩ es) wi.toNat).length then 140 else 0) else 20):=hZq (by
   rw[uQ HFE]
   unfold fiE
   rw[<-uQ HCE,if_pos h0])
  have A1:=hZq (uQ AR w2 ((uQ HB).2.2.2.2.1.trans (uQ HK2) (by simp)))
  obtain ⟨AE,hAE⟩: ∃AE,AE=arE key es:=⟨_,rfl⟩
  rw[<-hAE]at A1 HEE
  have HAE:=hZq hAE
  clear AR hAE
  gi_wp2_with fail
  refine ⟨trivial,(fun h=>by cases h),?_⟩
  refine (uQ A1).mono ?_
  rintro e w3 ⟨rfl,hk3⟩
  have HK3:=hZq ((uQ HK2).trans hk3 (by simp))
  obtain ⟨b0,b1,b2,b3,k1,hz1⟩:=uQ HB
  have r0:=b0.kp (uQ HK3) (by simp)
  have q0:=r0.cell (i:=0) (v:= .slice sa l.length sc) rfl
  have q4:=r0.cell (i:=1) (v:= .int .i64 wi) rfl
  have q1:=(b1.kp (uQ HK3) (by simp)).cell (i:=0) (v:= .string key) rfl
  have q2:=(b2.kp (uQ HK3) (by simp)).cell (i:=0) (v:= .slice none 0 0) rfl
  have q3:=(b3.kp (uQ HK3) (by simp)).cell (i:=0) (v:= .int .i64 0) rfl
  have f2:=(b2.kp (uQ HK3) (by simp)).froz
  have f3:=(b3.kp (uQ HK3) (by simp)).froz
  rw[<-uQ HLN]at q0
  clear A1 hk3 b0 b1 b2 b3 k1 hz1 r0 HK2
  cases AE with
  |true=>
   have z0:=((uQ HB).1.kp ((uQ HK3).trans (Kp.alloc w3 (.cells #[.slice none 0 0] 31)) (by simp)) (by simp)).cell (i:=0) (v:= .slice sa l.length sc) rfl
   have z1:=((uQ HB).1.kp ((uQ HK3).trans (Kp.alloc w3 (.cells #[.slice none 0 0] 31)) (by simp)) (by simp)).cell (i:=1) (v:= .int .i64 wi) rfl
   rw[<-uQ HLN]at z0
   clear q0 q1 q2 q3 q4 f2 f3
   have MT:=hZq (fun W=>(callsIn_wide (n:=n-1)).2 (q6V sa ln sc wi ea en ec W))
   gi_wp2_with fail
   refine ⟨trivial,(fun h=>by cases h),?_⟩
   refine (uQ MT _).mono ?_
   rintro e w5 ⟨rfl,hw5⟩
   gi_wp2_with fail
   rw[<-hw5]
   have HW5:=hZq hw5
   clear MT hw5 z0 z1
   refine qbe (gf:=24) (lb:=#[.pointer (some ⟨w3.heap.size+1,0,none⟩), .pointer (some ⟨w3.heap.size+1+1,0,none⟩)]) rfl (enters_of Tryz.func24 (by kernel_rfl) rfl) ?_
   intro fn r hr
   have hrs:r.state= .ready:=by rw[hr]
   have hrp:r.pending=none:=by rw[hr]
   have hrq:=hrp
   have hpm:r.params=#[24]:=by rw[hr]
   have htm:=congrArg Loop.tmps hr
   have has:=congrArg Loop.assign hr
   have hbd:=congrArg Loop.body hr
   dsimp only at htm has hbd
   clear hr
   obtain ⟨c,hc⟩: ∃c:FdC,c=⟨w5.heap.size+1,w5.heap.size,r,w.heap.size+1,w.heap.size+1+1,w.heap.size+1+1+1,w3.heap.size,key⟩:=⟨_,rfl⟩
   have hname:q0q key=true:=q3x (uQ HAE).symm
   have hk32:key.size<=32:=by
    unfold q0q at hname
    simp only[Bool.and_eq_true,decide_eq_true_eq]at hname
    omega
   have HY:Hid (∀n0,((w5.alloc (.deferred (some []))).alloc (.loop r)).heap.size<=n0-> ∀(m:Nat) (xs:List Cp) (wy:World) (x:Cp),FdJ c n0 true xs wy->CpAt wy x->x.T.length<=8->(∀l∈x.T,l≠[]/\l.length<=4096)->YieldAt Fence.wide m Tryz.prog (w5.heap.size+1) #[x.v] wy fun e w'=> ∃F go,e= .returned (.bool go)/\Kp F wy w'/\(∀b∈F,Yw wy b/\(b∈[c.L,c.rb,c.eb,c.ob]\/n0<=b))/\FdJ c n0 go (xs++[x]) w'):=hZq (by
    intro n0 hn0 m xs wy x hJ _ _ _
    have hT:FdT c n0 xs wy:=by
     rcases hJ with ⟨_,hT⟩|⟨h,_⟩
     ·exact hT
     ·cases h
    obtain ⟨t1,ht1⟩: ∃t1,t1=(r.tmps.setIfInBounds 24 x.v).setIfInBounds 10 x.v:=⟨_,rfl⟩
    have hL:c.L=w5.heap.size+1:=by rw[hc]
    have hcr:c.r=r:=by rw[hc]
    rw[<-hL]
    have hlo:=hT.lo
    rw[hcr]at hlo
    obtain ⟨Q0,hQ0⟩: ∃Q0:Exit->Act->World->Prop,Q0=fun e _ W'=>W'.heap[c.L]?=some (.loop { r with state:= .busy })/\((e= .normal/\(fun (e:Ending) (w':World)=> ∃F go,e= .returned (.bool go)/\Kp F wy w'/\(∀b∈F,Yw wy b/\(b∈[c.L,c.rb,c.eb,c.ob]\/n0<=b))/\FdJ c n0 go (xs++[x]) w') (.returned (.bool true)) (W'.putObj c.L (.loop { r with state:= .ready,pending:=none })))\/(e= .ret/\(fun (e:Ending) (w':World)=> ∃F go,e= .returned (.bool go)/\Kp F wy w'/\(∀b∈F,Yw wy b/\(b∈[c.L,c.rb,c.eb,c.ob]\/n0<=b))/\FdJ c n0 go (xs++[x]) w') (.returned (.bool false)) (W'.putObj c.L (.loop { r with state:= .done,pending:=some .ret })))):=⟨_,rfl⟩
    have HQ0:=hZq hQ0
    have HQP: ∀c a a' w,Q0 (.panic c) a w->Q0 (.panic c) a' w:=by rw[hQ0];exact fun _ _ _ _ h=>h
    refine q7c hlo hrs (by rw[hpm];rfl) { tmps:=t1,defers:=[] } (Q:=Q0) ?_ ?_ (by rw[hQ0];exact fun _ _ _ h=>h)
    ·intro K hK
     rw[has,hpm,htm]
     rw[ht1,htm]at hK
     unfold Cp.v at hK ⊢
     simp only[List.setIfInBounds_toArray,List.set_cons_zero,List.set_cons_succ]at hK
     clear ht1 htm has hbd MI
     gi_wp2
     exact hK
    ·obtain ⟨V,hV⟩: ∃V,V=wy.putObj c.L (.loop { r with state:= .busy }):=⟨_,rfl⟩
     rw[<-hV,hbd]
     rw[htm]at ht1
     unfold Cp.v at ht1
     simp only[List.setIfInBounds_toArray,List.set_cons_zero,List.set_cons_succ]at ht1
     subst ht1
     clear htm has hbd hlo hrp hQ0
     obtain ⟨v,hob,hrow⟩:=hT.ow
     obtain ⟨oa,oc,rfl,_⟩:=q0Z hrow
     have hrs':c.r.state= .ready:=by rw[hcr];exact hrs
     have hrp':c.r.pending=none:=by rw[hcr];exact hrq
     have e4:c.kb=w.heap.size+1:=by rw[hc]
     have e6:c.rb=w.heap.size+1+1:=by rw[hc]
     have e7:c.eb=w.heap.size+1+1+1:=by rw[hc]
     have e9:c.ob=w3.heap.size:=by rw[hc]
     have ek:c.key=key:=by rw[hc]
     have hp:Kp [c.L] wy V:=by rw[hV];exact ⟨rfl,rfl,rfl,by simp,fun k _ hn=>World.putObj_heap_other (by simpa using hn)⟩
     have cb: ∀{b:Nat} {cs:Array Value} {t:TypeId},CBox b cs t wy->CBox b cs t V:=fun h=>by rw[hV];exact h.putObj hT.lo rfl
     have hLV:V.heap[c.L]?=some (.loop { c.r with state:= .busy }):=by rw[hV,hcr];exact World.putObj_heap_same (Array.getElem?_eq_some_iff.1 hT.lo).1
     have o9:=cb hob
     have o4:=cb hT.bk
     have o6:=cb hT.br
     have o7:=cb hT.be
     have HSTO:=hZq (fun W (h4:xs.length=4096) (hW:W=((wy.putObj c.L (.loop { c.r with state:= .busy })).setCell ⟨c.rb,0,none⟩ (.slice none 0 0)).setCell ⟨c.eb,0,none⟩ (.int .i64 140))=>hT.stop h4 x hW)
     have HPU0:=hZq (fun W g hk hl hg hlt=>hT.push (W:=W) (x:=x) hk hl (g:=g) hg hlt hob)
     have HYW:Hid (Yw wy c.L/\Yw wy c.rb/\Yw wy c.eb/\Yw wy c.ob):=hZq ⟨Or.inl ⟨_,hT.lo⟩,Or.inr ⟨_,_,hT.br,by simp⟩,Or.inr ⟨_,_,hT.be,by simp⟩,Or.inr ⟨_,_,hob,by simp⟩⟩
     have HLN4:=hZq hT.ln
     rw[ek]at o4 HPU0
     rw[hcr]at HSTO HPU0 hLV
     have HHP:=hZq hp
     have HHL:=hZq hLV
     rw[<-hV]at HSTO
     have x9:=o9.cell (i:=0) (v:= .slice oa xs.length oc) rfl
     have x4:=o4.cell (i:=0) (v:= .string key) rfl
     have x6:=o6.cell (i:=0) (v:= .slice none 0 0) rfl
     have x7:=o7.cell (i:=0) (v:= .int .i64 0) rfl
     have f6:=o6.froz
     have f7:=o7.froz
     have HO4:=hZq o4
     have HO9:=hZq o9
     rw[e9]at x9
     rw[e4]at x4
     rw[e6]at x6 f6
     rw[e7]at x7 f7
     clear hT hob hrow hp cb hLV o9 o4 o6 o7 hV MI
     by_cases h4:xs.length=4096
     ·have h4i:(xs.length:Int)=4096:=by omega
      have HS:=hZq (uQ HSTO _ h4 rfl)
      clear HSTO HPU0 HO4 HO9
      rw[e6,e7]at HS
      gi_wp2
      obtain ⟨s1,s2,s3⟩:=uQ HS
      show Q0 _ _ _
      rw[uQ HQ0]
      refine ⟨s1,Or.inr ⟨rfl,_,false,rfl,s2,fun b hb=>?_,Or.inr ⟨rfl,s3⟩⟩⟩
      obtain ⟨y1,y2,y3,y4⟩:=uQ HYW
      simp only[List.mem_cons,List.not_mem_nil,or_false]at hb
      rcases hb with rfl|rfl|rfl
      ·exact ⟨y1,Or.inl (by simp)⟩
      ·rw[<-e6];exact ⟨y2,Or.inl (by simp)⟩
      ·rw[<-e7];exact ⟨y3,Or.inl (by simp)⟩
     ·have h4i:((xs.length:Int)=4096)=False:=by simp;omega
      have hlt:xs.length<4096:=by have:=uQ HLN4;omega
      clear HSTO x6 x7 f6 f7
      gi_wp2_with fail
      refine q0l (fun W'=>W'.cell? ⟨w3.heap.size,0,none⟩=some (.slice oa xs.length oc)/\W'.cell? ⟨w.heap.size+1,0,none⟩=some (.string key)) 7 (by kernel_rfl) (by kernel_rfl) (fun ⟨_,_,h⟩=>by
       have h:Q0 _ _ _:=h
       rw[uQ HQ0]at h
       rcases h with ⟨_,⟨h,_⟩|⟨h,_⟩⟩ <;> cases h) ?_
      obtain ⟨V2,hV2⟩: ∃V2,V2=V.drew:=⟨_,rfl⟩
      rw[<-hV2]
      have hS0:V2.cell? ⟨w3.heap.size,0,none⟩=some (.slice oa xs.length oc)/\V2.cell? ⟨w.heap.size+1,0,none⟩=some (.string key):=by rw[hV2];exact ⟨x9,x4⟩
      have kV2:Kp [] V V2:=by rw[hV2];exact Kp.drew _
      have CL:=hZq (q1E key V2 (by omega))
      have HSV:Hid (∀W,Kp [] V2 W->W.cell? ⟨w3.heap.size,0,none⟩=some (.slice oa xs.length oc)/\W.cell? ⟨w.heap.size+1,0,none⟩=some (.string key)):=hZq (fun W hk=>by
       have h9:=((uQ HO9).kp (kV2.trans hk (by simp)) (by simp)).cell (i:=0) (v:= .slice oa xs.length oc) rfl
       have h4:=((uQ HO4).kp (kV2.trans hk (by simp)) (by simp)).cell (i:=0) (v:= .string key) rfl
       rw[e9]at h9
       rw[e4]at h4
       exact ⟨h9,h4⟩)
      have HPU:Hid (∀w6,Below V2.heap.size V2 w6-> ∃g' cap w7,(Builtin.append_ #[31,31] 31 #[.slice oa xs.length oc, .slice (some ⟨w6.heap.size,0,none⟩) 1 1]).run Tryz.prog (w6.alloc (.cells #[.string key, .slice (some ⟨x.g,0,none⟩) x.T.length x.T.length] 37))= .ok (.slice (some ⟨g',0,none⟩) (xs.length+1) cap) w7/\CBox w3.heap.size #[.slice oa xs.length oc] 31 w7/\CBox (w.heap.size+1) #[.string key] 9 w7/\Hid (∀a,Q0 .normal a (w7.setCell ⟨w3.heap.size,0,none⟩ (.slice (some ⟨g',0,none⟩) (xs.length+1) cap)))):=hZq (fun w6 hb=>by
       have ka:=Kp.alloc w6 (.cells #[.string key, .slice (some ⟨x.g,0,none⟩) x.T.length x.T.length] 37)
       have kv:=(kV2.trans (Kp.ofBelow hb) (by simp)).trans ka (by simp)
       obtain ⟨g',cap,w7,hrun,h9,h4,hL7,kp7,yw7,fin⟩:=uQ HPU0 _ w6.heap.size ((uQ HHP).trans kv (by simp)) ((kv.block _ (Array.getElem?_eq_some_iff.1 (uQ HHL)).1 (by simp)).trans (uQ HHL)) (CBox.new w6 _ _) hlt
       rw[e9]at h9 hL7 kp7 fin
       rw[e4]at h4
       refine ⟨g',cap,w7,hrun,h9,h4,hZq (fun a=>?_)⟩
       rw[uQ HQ0]
       refine ⟨hL7,Or.inl ⟨rfl,_,true,rfl,kp7.trans (G:=[c.L]) ⟨rfl,rfl,rfl,by simp,fun k _ hn=>World.putObj_heap_other (by simpa using hn)⟩ (by simp),fun b hb=>?_,Or.inl ⟨rfl,fin _ rfl hrs hrq⟩⟩⟩
       obtain ⟨y1,y2,y3,y4⟩:=uQ HYW
       rw[List.mem_cons,List.mem_cons]at hb
       rcases hb with rfl|rfl|hb
       ·exact ⟨y1,Or.inl (by simp)⟩
       ·rw[<-e9];exact ⟨y4,Or.inl (by simp)⟩
       ·have:=yw7 b (by simpa using hb)
        exact ⟨this.1,Or.inr this.2⟩)
      clear HPU0 HO4 HO9 HHP HHL x9 x4 kV2 hV2
      show q0a _ _ _ _ _ _ 8 (Array.replicate 8 false) _ _
      refine zzL (i:=0) (v:=?_) rfl (fun _ _ _ h=>HQP _ _ _ _ h) (Or.inl ⟨by rfl,?_⟩) hS0 ?_
      rotate_left 1
      ·intro w0 hSw;(try dsimp only at hSw);go_simp;(try with_reducible rfl)
      try simp only[Act.put,zz1,zz2,zz3]
      refine zzL (i:=1) (v:=?_) rfl (fun _ _ _ h=>HQP _ _ _ _ h) (Or.inl ⟨by rfl,?_⟩) hS0 ?_
      rotate_left 1
      ·intro w0 hSw;(try dsimp only at hSw);go_simp;(try with_reducible rfl)
      try simp only[Act.put,zz1,zz2,zz3]
      refine zzL (i:=3) (v:=?_) rfl (fun _ _ _ h=>HQP _ _ _ _ h) (Or.inl ⟨by rfl,?_⟩) hS0 ?_
      rotate_left 1
      ·intro w0 hSw;(try dsimp only at hSw);go_simp;(try with_reducible rfl)
      try simp only[Act.put,zz1,zz2,zz3]
      refine q01 (i:=2) rfl (by kernel_rfl) (fun K hK=>?_)
      go_simp
      refine (uQ CL).mono ?_
      rintro e w6 ⟨rfl,hb6⟩
      obtain ⟨g',cap,w7,hrun,hb7,hk7,HPP⟩:=uQ HPU w6 hb6
      have hS5:=uQ HSV w6 (Kp.ofBelow hb6)
      have hS6:=uQ HSV _ ((Kp.ofBelow hb6).trans (Kp.alloc w6 (.cells #[.string key, .slice (some ⟨x.g,0,none⟩) x.T.length x.T.length] 37)) (by simp))
      have hS7:w7.cell? ⟨w3.heap.size,0,none⟩=some (.slice oa xs.length oc)/\w7.cell? ⟨w.heap.size+1,0,none⟩=some (.string key):=⟨hb7.cell rfl,hk7.cell rfl⟩
      have f7:=hb7.froz
      clear CL HPU HSV hb6 hb7 hk7
      refine hK _ _ (Or.inr hS5) ?_
      clear hK K
      try simp only[Act.put,zz1,zz2,zz3]
      refine zzL (i:=4) (v:=?_) rfl (fun _ _ _ h=>HQP _ _ _ _ h) (Or.inl ⟨by rfl,?_⟩) hS5 ?_
      rotate_left 1
      ·intro w0 hSw;(try dsimp only at hSw);go_simp;(try with_reducible rfl)
      try simp only[Act.put,zz1,zz2,zz3]
      refine q01 (i:=5) rfl (by kernel_rfl) (fun K hK=>?_)
      go_simp
      refine hK _ _ (Or.inr hS6) ?_
      clear hK K
      try simp only[Act.put,zz1,zz2,zz3]
      refine q01 (i:=6) rfl (by kernel_rfl) (fun K hK=>?_)
      refine q11 rfl (.tmp 28) (.tmp 33) 31 rfl rfl rfl hrun ?_
      refine hK _ _ (Or.inr hS7) ?_
      clear hK K
      try simp only[Act.put,zz1,zz2,zz3]
      refine q01 (i:=7) rfl (by kernel_rfl) (fun K hK=>?_)
      go_simp
      refine hK _ _ (Or.inl rfl) ?_
      clear hK K
      try simp only[Act.put,zz1,zz2,zz3]
      refine q0c (by kernel_rfl) ?_ _
      exact uQ HPP _)
   obtain ⟨b0,b1,b2,b3,k1,hz1⟩:=uQ HB
   have hce:mckE ⟨stgs l,wi⟩ es=0:=by rw[<-uQ HCE];exact h0
   have hpc:(pcR ⟨stgs l,wi⟩).2=0:=by
    unfold mckE at hce
    by_cases hh:(pcR ⟨stgs l,wi⟩).2=0
    ·exact hh
    ·rw[if_neg hh]at hce
     exact absurd hce hh
   have hel:es.length<=4096:=by
    unfold mckE at hce
    rw[if_pos hpc]at hce
    by_cases hh:4096<es.length
    ·rw[if_pos hh]at hce
     cases hce
    ·omega
   have hpo:=q1s hpc
   obtain ⟨hN1,hN8,hwb,_⟩:=hpo
   have hN1:1<=(Mt.pm ⟨stgs l,wi⟩ es).N:=hN1
   have hN8:(Mt.pm ⟨stgs l,wi⟩ es).N<=8:=hN8
   have hwb:1<=wi/\wi<=256:=hwb
   obtain ⟨WI,hWI⟩: ∃WI:Nat,wi=(WI:Int):=⟨wi.toNat,by omega⟩
   have hw5:=uQ HW5
   have k5:Kp [] w3 w5:=by rw[hw5];exact ((Kp.alloc _ _).trans (Kp.alloc _ _) (by simp)).trans (Kp.alloc _ _) (by simp)
   have kL:Kp [] w5 ((w5.alloc (.deferred (some []))).alloc (.loop r)):=(Kp.alloc _ _).trans (Kp.alloc _ _) (by simp)
   have kW:Kp [] w ((w5.alloc (.deferred (some []))).alloc (.loop r)):=((k1.trans (uQ HK3) (by simp)).trans k5 (by simp)).trans kL (by simp)
   have hz5:w5.heap.size=w3.heap.size+1+1+1:=by rw[hw5];simp
   have hzW:((w5.alloc (.deferred (some []))).alloc (.loop r)).heap.size=w5.heap.size+1+1:=by simp
   have hz3:=(uQ HK3).size
   have pb:CBox (w3.heap.size+1) #[.slice sa l.length sc, .int .i64 (WI:Int)] 24 ((w5.alloc (.deferred (some []))).alloc (.loop r)):=by
    refine CBox.kp ?_ kL (by simp)
    have:=(CBox.new (w3.alloc (.cells #[.slice none 0 0] 31)) #[.slice sa ln sc, .int .i64 wi] 24).kp (Kp.alloc _ (.cells #[.slice ea en ec] 25)) (by simp)
    rw[<-hw5]at this
    simp only[World.size_alloc]at this
    rw[<-hWI, <-uQ HLN]
    exact this
   have eb:CBox (w3.heap.size+1+1) #[.slice ea es.length ec] 25 ((w5.alloc (.deferred (some []))).alloc (.loop r)):=by
    refine CBox.kp ?_ kL (by simp)
    have:=CBox.new ((w3.alloc (.cells #[.slice none 0 0] 31)).alloc (.cells #[.slice sa ln sc, .int .i64 wi] 24)) #[.slice ea en ec] 25
    rw[<-hw5]at this
    simp only[World.size_alloc]at this
    rw[<-uQ HEN]
    exact this
   have hge:w.heap.size<=c.L/\w.heap.size<=c.rb/\w.heap.size<=c.eb/\w.heap.size<=c.ob/\w.heap.size<=c.D:=by
    rw[hc]
    dsimp only
    omega
   have hlt:c.L<w5.heap.size+1+1/\c.rb<w5.heap.size+1+1/\c.eb<w5.heap.size+1+1/\c.ob<w5.heap.size+1+1:=by
    rw[hc]
    dsimp only
    omega
   have hst0: ∀w0,Kp [] ((w5.alloc (.deferred (some []))).alloc (.loop r)) w0->FdT c w0.heap.size [] w0:=fun w0 h0=>by
    rw[hc]
    exact qax b1 b2 b3 hz1 (uQ HK3) hw5 h0
   have hpc':(pcR ⟨stgs l,(WI:Int)⟩).2=0:=by rw[<-hWI];exact hpc
   have hcall:=uQ MI WI hpc' (by omega) (by omega) hel w _ kW (uQ HIN).1 (uQ HIN).2.1 (uQ HIN).2.2 _ _ pb eb [c.L,c.rb,c.eb,c.ob] (fun b hb=>by
    rw[hzW]
    simp only[List.mem_cons,List.not_mem_nil,or_false]at hb
    rcases hb with rfl|rfl|rfl|rfl <;> omega) (fun b hb=>by
    simp only[List.mem_cons,List.not_mem_nil,or_false]at hb
    rcases hb with rfl|rfl|rfl|rfl <;> omega)
    (fun n0 go xs w'=>((w5.alloc (.deferred (some []))).alloc (.loop r)).heap.size<=n0/\FdJ c n0 go xs w') (fun n0 go xs w w' F h hk hF=>⟨h.1,h.2.keep hk hF⟩) (fun n0 go xs w h=>h.2.len) (fun w0 h0=>⟨h0.size,Or.inl ⟨rfl,hst0 w0 h0⟩⟩)
    (w5.heap.size+1) (fun n0 hn m xs wy x h1 h2 h3 h4=>by
     obtain ⟨fn,tmps,assign,body,hy,hR⟩:=uQ HY n0 hn m xs wy x h1.2 h2 h3 h4
     refine ⟨fn,tmps,assign,body,hy,hR.mono ?_⟩
     rintro e w' ⟨F,go,a1,a2,a3,a4⟩
     exact ⟨F,go,a1,a2,a3,h1.1,a4⟩)
   refine CallsIn.mono (callsIn_wide.2 hcall) ?_
   rw[<-hWI]
   have HGE:=hZq hge
   have HKW:=hZq kW
   have HN:=hZq (And.intro hN1 (And.intro hN8 hwb))
   have HZW:Hid (w.heap.size<=((w5.alloc (.deferred (some []))).alloc (.loop r)).heap.size):=hZq kW.size
   have hWt:wi.toNat=WI:=by omega
   have HWT:=hZq hWt
   have HEL:=hZq hel
   have HHN:=hZq hname
   have e6:c.rb=w.heap.size+1+1:=by rw[hc]
   have e7:c.eb=w.heap.size+1+1+1:=by rw[hc]
   have e9:c.ob=w3.heap.size:=by rw[hc]
   have eD:c.D=w5.heap.size:=by rw[hc]
   have eL:c.L=w5.heap.size+1:=by rw[hc]
   have ek:c.key=key:=by rw[hc]
   have er:c.r=r:=by rw[hc]
   clear hcall MI HY hst0 hlt pb eb hz3 hz5 hzW kW kL k5 hw5 hWI hN1 hN8 hwb hpc hpc' hel hce b0 b1 b2 b3 k1 hz1 hge htm has hbd hc hrs hrp hrq hpm hWt
   rintro e W' ⟨hv,n0,go,ys,⟨hn0,hJ⟩,hcp,hpr,hkF⟩
   refine ⟨hv,?_⟩
   rcases hJ with ⟨rfl,hT⟩|⟨rfl,hF⟩
   ·have hfn:ys.map (·.T)=Mt.fnd (Mt.pm ⟨stgs l,wi⟩ es) WI:=by
     rcases hpr with ⟨_,h⟩|⟨h,_⟩
     ·exact h
     ·cases h
    have hlo:=hT.lo
    rw[er,eL]at hlo
    refine Or.inl ⟨hlo,?_⟩
    obtain ⟨V,hV⟩: ∃V,V=W'.putObj (w5.heap.size+1) (.loop { r with state:= .exhausted }):=⟨_,rfl⟩
    rw[<-hV]
    rw[<-eL]at hV
    obtain ⟨v,hob,hrow⟩:=hT.ow
    obtain ⟨va,vc,rfl,_⟩:=q0Z hrow
    have hmem: ∀x∈ys,x.T∈Mt.fnd (Mt.pm ⟨stgs l,wi⟩ es) WI:=fun x hx=>by
     rw[<-hfn]
     exact List.mem_map_of_mem hx
    have hmay: ∀x∈ys,mayM key (Mt.toZ x.T)=true:=fun x hx=>by
     obtain ⟨n1,n2,n3⟩:=uQ HN
     have hw:=uQ HWT
     exact q7s (by omega) (by omega) n1 n2 (uQ HEL) (uQ HHN) (hmem x hx)
    have hok2: ∀x∈ys,MtOk key (Mt.toZ x.T):=fun x hx=>by
     obtain ⟨m1,m2,m3⟩:=q4x (hmay x hx)
     refine ⟨uQ HKS,by omega,fun p hp=>?_⟩
     have hm:=hmay x hx
     unfold mayM at hm
     simp only[Bool.and_eq_true]at hm
     have:=q2l _ _ _ hm.2 p hp
     omega
    have hrowV:V.ownsRow n0 37 2 (.slice va ys.length vc) ys.length (ys.flatMap (mtE key)):=by
     rw[hV, <-ek]
     exact q02 hrow (q1j _ _ _) (fun b hb hm=>by
      obtain ⟨cs,hcc⟩:=q08 hrow hb
      rw[List.mem_singleton]at hm
      subst hm
      unfold CBox at hcc
      rw[hT.lo]at hcc
      cases hcc)
    have hcpV: ∀x∈ys,CpAt V x:=fun x hx=>by
     rw[hV]
     exact (hcp x hx).kp (q1j _ _ _) (fun b hb hm=>by
      rw[List.mem_singleton]at hm
      subst hm
      obtain ⟨_,_,e,_⟩:=q3l (hcp x hx) hb hT.lo
      cases e)
    have SORT:=hZq ((callsIn_wide (n:=n-1)).2 (qbn hrowV hcpV hmay hok2 (by rw[hfn];exact Mt.fnd_nodup _ _) hT.ln))
    have HMID:=hZq (fun (b:Nat) (cs:Array Value) (t:TypeId) (hb:CBox b cs t W') (ht:t≠37)=>q5J (o:= .loop { r with state:= .exhausted }) hT hV hrow hb ht)
    have x9:=(uQ HMID _ _ _ hob (by decide)).1.cell (i:=0) (v:= .slice va ys.length vc) rfl
    have HOB:=hZq hob
    have HBR:=hZq hT.br
    have HBE:=hZq hT.be
    have HDONE:=hZq (fun (tmps:Array Value) (w8:World) zs h6 h7 hk8 hperm hrow8 hts hE=>qcc (n:=n) (fn:=Tryz.f5) (tmps:=tmps) (zs:=zs) (FE:=FE) (FL:=FL) rfl h6 h7 hT (uQ HKW) hkF (uQ HGE) (Nat.le_trans (uQ HZW) hn0) hV (w8:=w8) hk8 hob hrow hcp hperm hrow8 hts hE)
    have HFIN:Hid (FE=0/\ ∀zs:List Cp,zs.Perm ys->Srt (zs.map (·.T))->zs.map (·.T)=FL):=hZq (by
     have hl:(fdS (Mt.pm ⟨stgs l,wi⟩ es) wi.toNat).length=ys.length:=by
      rw[q7q,uQ HWT, <-hfn,List.length_map]
     have hln:=hT.ln
     have hE:FE=0:=by
      rw[uQ HEE,if_pos trivial,if_neg (by rw[hl];omega)]
     refine ⟨hE,fun zs hp hs=>?_⟩
     rw[uQ HFL]
     unfold fiL
     rw[<-uQ HFE,if_pos hE]
     dsimp only
     rw[uQ HWT]
     refine q4I hs (q3n _ _) ?_
     exact (hp.map _).trans (by rw[hfn];exact (q1V _ _).symm))
    rw[e9]at x9
    clear hlo hT hrow hob hmem hmay hok2 hrowV hcpV hcp hpr hkF hfn hV hn0 hv
    obtain ⟨yn,hyn⟩: ∃yn,yn=ys.length:=⟨_,rfl⟩
    rw[<-hyn]at SORT HMID x9 HOB HDONE
    clear hyn
    gi_wp2_with fail
    refine ⟨trivial,(fun h=>by cases h),?_⟩
    refine (uQ SORT).mono ?_
    rintro e w8 ⟨rfl,hk8,zs,hperm,hsrt,hrow8⟩
    have q9:=((uQ HMID _ _ _ (uQ HOB) (by decide)).2 w8 hk8).cell (i:=0) (v:= .slice va yn vc) rfl
    have c6:=(uQ HMID _ _ _ (uQ HBR) (by decide)).2 w8 hk8
    have c7:=(uQ HMID _ _ _ (uQ HBE) (by decide)).2 w8 hk8
    have q6:=c6.cell (i:=0) (v:= .slice none 0 0) rfl
    have q7:=c7.cell (i:=0) (v:= .int .i64 0) rfl
    have f6:=c6.froz
    have f7:=c7.froz
    rw[e9]at q9
    rw[e6]at q6 f6
    rw[e7]at q7 f7
    have HEND:=hZq (fun tmps h6 h7=>uQ HDONE tmps w8 zs h6 h7 hk8 hperm (by rw[ek];exact hrow8) ((uQ HFIN).2 zs hperm hsrt) (uQ HFIN).1)
    rw[e6,e7,eD,ek]at HEND
    clear SORT HMID hk8 hperm hsrt hrow8 c6 c7 HDONE x9
    gi_wp2
    exact uQ HEND _ rfl rfl
   ·have hlo:=hF.lo
    rw[er,eL]at hlo
    refine Or.inr ⟨hlo,?_⟩
    have HFIN:Hid (FL=[]/\FE=140):=hZq (by
     obtain ⟨z,hz⟩: ∃z,Mt.fnd (Mt.pm ⟨stgs l,wi⟩ es) WI=ys.map (·.T)++z:=by
      rcases hpr with ⟨h,_⟩|⟨_,h⟩
      ·cases h
      ·exact h
     have hl:4097<=(fdS (Mt.pm ⟨stgs l,wi⟩ es) wi.toNat).length:=by
      rw[q7q,uQ HWT,hz,List.length_append,List.length_map,hF.ln]
      omega
     have hE:FE=140:=by rw[uQ HEE,if_pos trivial,if_pos (by omega)]
     refine ⟨?_,hE⟩
     rw[uQ HFL]
     unfold fiL
     rw[<-uQ HFE,hE]
     rfl)
    have HEND:=hZq (fun tmps h6 h7=>qcd (n:=n) (fn:=Tryz.f5) (tmps:=tmps) (FE:=FE) (FL:=FL) (o:= .loop { r with state:= .exhausted,pending:=some .ret }) rfl h6 h7 hF (uQ HKW) hkF (uQ HGE) (uQ HFIN).1 (uQ HFIN).2)
    rw[e6,e7,eD,ek,eL]at HEND
    clear hlo hF hcp hpr hkF hn0 hv
    refine wpIn_ret ?_
    exact uQ HEND _ rfl rfl
  |false=>
   have HE2:Hid (FE=20):=hZq (by rw[uQ HEE];rfl)
   have HL2:Hid (FL=[]):=hZq (by rw[uQ HFL];unfold fiL;rw[<-uQ HFE,uQ HE2];rfl)
   obtain ⟨b0,b1,b2,b3,k1,hz1⟩:=uQ HB
   have HC2:=hZq (b2.kp (uQ HK3) (by simp))
   have HC3:=hZq (b3.kp (uQ HK3) (by simp))
   have HKW:=hZq (k1.trans (uQ HK3) (by simp))
   have HZ:=hZq hz1
   clear MI HEE b0 b1 b2 b3 k1 hz1 HB HK3
   gi_wp2
   exact q5I rfl rfl rfl (uQ HC2) (uQ HC3) (uQ HKW) (by omega) (by omega) (uQ HE2) (uQ HL2)
 ·have HE2:Hid (FE=CE):=hZq (by
   rw[uQ HFE]
   unfold fiE
   rw[<-uQ HCE,if_neg h0])
  have HL2:Hid (FL=[]):=hZq (by rw[uQ HFL];unfold fiL;rw[<-uQ HFE,uQ HE2,if_neg h0])
  obtain ⟨b0,b1,b2,b3,k1,hz1⟩:=uQ HB
  have HC2:=hZq (b2.kp (uQ HK2) (by simp))
  have HC3:=hZq (b3.kp (uQ HK2) (by simp))
  have HKW:=hZq (k1.trans (uQ HK2) (by simp))
  clear MI AR b0 b1 b2 b3 k1 hz1 HB HK2
  gi_wp2
  exact q5I rfl rfl rfl (uQ HC2) (uQ HC3) (uQ HKW) (by omega) (by omega) (uQ HE2) (uQ HL2)
theorem q5M (sa:Option Addr)(sc:Nat)(l:List SR)(wi:Int)(ea:Option Addr)(ec:Nat)(es:List Ev)(key:ByteArray)(w:World)(hst:StsAt w sa l)(hev:EvsAt w ea es)(htb:TbE w)(hok: ∀r∈l,r.s.ok)(hfit: ∀r∈l, ∀q∈r.s.cd,q.fit)(hsc:l.length<=sc)(hl:l.length<=9223372036854775807)(hes:es.length<=9223372036854775807)(hsz: ∀e∈es,evSz e)(hks:key.size<=9223372036854775807):
  Calls Tryz.prog 5 #[.agg #[.slice sa l.length sc, .int .i64 wi], .string key, .slice ea es.length ec] w fun e w'=> ∃v zs,e= .returned (.tuple #[v, .int .i64 (fiE ⟨stgs l,wi⟩ key es)])/\FdP w key (fiL ⟨stgs l,wi⟩ key es) v zs w':=callsIn_wide.1 (qci 0 sa sc l wi ea ec es key w hst hev htb hok hfit hsc hl hes hsz hks)
end Go.Proofs.YtcmjnlpofebbmaaGreatDoor
namespace Go.Proofs.YtcmjnlpofebbmaaGreatDoor
open Go.RowKit Go.Shelf
theorem qd1 (p:Ptn)(es:List Ev)(c:Nat):Mt.Sm (Mt.pm p es) (Mt.pm p (es.take c)) c:=⟨rfl,rfl,rfl,fun t L q hq hL=>by
 show Mt.Hp p (es.take c) t L q=Mt.Hp p es t L q
 unfold Mt.Hp
 have e1: ∀x,x<c->(es.take c).getD x evZ=es.getD x evZ:=fun x hx=>by
  rw[List.getD_eq_getElem?_getD,List.getD_eq_getElem?_getD,List.getElem?_take,if_pos hx]
 have e2:Mt.lasE (es.take c) L=Mt.lasE es L:=by
  unfold Mt.lasE
  exact List.map_congr_left (fun x hx=>e1 x (hL x hx))
 rw[e1 q hq,e2]⟩
theorem q5E: ∀(es:List Ev) (c:Nat),evE es=0->evE (es.take c)=0
 |[],c,_=>by simp[evE]
 |e::r,0,_=>rfl
 |e::r,c+1,h=>by
  rw[List.take_succ_cons]
  unfold evE at h ⊢
  split at h
  ·rename_i h0
   rw[if_pos h0]
   exact q5E r c h
  ·rename_i h0
   exact absurd h h0
theorem qaa {k:ByteArray}{es:List Ev}(c:Nat)(h:arE k es=true):arE k (es.take c)=true:=by
 unfold arE at h ⊢
 split at h
 ·rename_i h0
  rw[if_pos h0]
  unfold othK at h ⊢
  rw[Bool.not_eq_true',List.any_eq_false]at h ⊢
  exact fun x hx=>h x (List.mem_of_mem_take hx)
 ·cases h
theorem qch (p:Ptn)(k:ByteArray)(es:List Ev)(c:Nat)(hc:c<=es.length)(h:fiE p k es=0):fiE p k (es.take c)=0/\fiL p k (es.take c)=(fiL p k es).filter fun T=>decide (Mt.endT T<c):=by
 have hck:mckE p es=0:=by
  unfold fiE at h
  by_cases h0:mckE p es=0
  ·exact h0
  ·rw[if_neg h0]at h
   exact absurd h h0
 have har:arE k es=true:=by
  unfold fiE at h
  rw[if_pos hck]at h
  by_cases h0:arE k es=true
  ·exact h0
  ·rw[if_neg h0]at h
   cases h
 have hln: ¬ 4096<(fdS (Mt.pm p es) p.wi.toNat).length:=by
  unfold fiE at h
  rw[if_pos hck,if_pos har]at h
  intro h0
  rw[if_pos h0]at h
  cases h
 have hpc:(pcR p).2=0:=by
  unfold mckE at hck
  by_cases h0:(pcR p).2=0
  ·exact h0
  ·rw[if_neg h0]at hck
   exact absurd hck h0
 obtain ⟨hN,_,hwb,_⟩:=q1s hpc
 have hft:=qaw (wi:=p.wi.toNat) (qd1 p es c) (show (es.take c).length=c by rw[List.length_take];omega) hc (by omega) hN
 have hck2:mckE p (es.take c)=0:=by
  unfold mckE at hck ⊢
  rw[if_pos hpc]at hck ⊢
  by_cases h0:4096<es.length
  ·rw[if_pos h0]at hck
   cases hck
  ·rw[if_neg h0]at hck
   rw[if_neg (by rw[List.length_take];omega)]
   exact q5E es c hck
 have he:fiE p k (es.take c)=0:=by
  unfold fiE
  rw[if_pos hck2,if_pos (qaa c har),if_neg]
  rw[hft]
  have:=List.length_filter_le (fun T=>decide (Mt.endT T<c)) (fdS (Mt.pm p es) p.wi.toNat)
  omega
 refine ⟨he,?_⟩
 unfold fiL
 rw[if_pos he,if_pos h,hft]
theorem qcg {p:Ptn}{k:ByteArray}{es:List Ev}(h:fiE p k es≠0):fiL p k es=[]:=by unfold fiL;rw[if_neg h]
theorem qdx {p:Ptn}{k:ByteArray}{es:List Ev}:(fiL p k es).length<=4096:=by
 unfold fiL
 split
 ·rename_i h
  unfold fiE at h
  split at h
  ·split at h
   ·split at h
    ·cases h
    ·omega
   ·cases h
  ·rename_i h0
   exact absurd h h0
 ·simp
theorem qcf {p:Ptn}{k:ByteArray}{es:List Ev}{T:List (List Nat)}(h:T∈fiL p k es):T≠[]/\(∀l∈T,l≠[])/\MtOk k (Mt.toZ T)/\mayM k (Mt.toZ T)=true:=by
 unfold fiL at h
 split at h
 rotate_left 1
 ·cases h
 rename_i h0
 have hck:mckE p es=0:=by
  unfold fiE at h0
  by_cases h1:mckE p es=0
  ·exact h1
  ·rw[if_neg h1]at h0
   exact absurd h0 h1
 have har:arE k es=true:=by
  unfold fiE at h0
  rw[if_pos hck]at h0
  by_cases h1:arE k es=true
  ·exact h1
  ·rw[if_neg h1]at h0
   cases h0
 have hpc:(pcR p).2=0:=by
  unfold mckE at hck
  by_cases h1:(pcR p).2=0
  ·exact h1
  ·rw[if_neg h1]at hck
   exact absurd hck h1
 obtain ⟨hN,hN8,hwb,_⟩:=q1s hpc
 have hel:es.length<=4096:=by
  unfold mckE at hck
  rw[if_pos hpc]at hck
  by_cases hh:4096<es.length
  ·rw[if_pos hh]at hck
   cases hck
  ·omega
 have hm:=(q1V _ _).mem_iff.1 h
 obtain ⟨hr,hl,_⟩:=(Mt.fnd_iff (by omega) hN T).1 hm
 have hmay:=q7s (by omega) (by omega) hN hN8 hel (q3x har) hm
 obtain ⟨m1,m2,m3⟩:=q4x hmay
 have hk:=q3x har
 refine ⟨q3b hN hl,hr.full,⟨?_,by omega,fun q hq=>?_⟩,hmay⟩
 ·unfold q0q at hk
  simp only[Bool.and_eq_true,decide_eq_true_eq]at hk
  omega
 ·unfold mayM at hmay
  simp only[Bool.and_eq_true]at hmay
  have:=q2l _ _ _ hmay.2 q hq
  omega
open Go.RowKit
theorem q6A {α:Type}{xs ys:List α}{k:Nat}(h1:k<xs.length)(h2:k<ys.length)(h:xs.take k=ys.take k)(he:xs[k]=ys[k]):xs.take (k+1)=ys.take (k+1):=by
 rw[List.take_succ_eq_append_getElem h1,List.take_succ_eq_append_getElem h2,h,he]
theorem q6u (a1 a2:Option Addr)(c1 c2:Nat)(xs ys:List Int)(w:World)(hl1:xs.length<=9223372036854775807)(_hl2:ys.length<=9223372036854775807)(h1:IntsAt w a1 xs)(h2:IntsAt w a2 ys):
  Calls Tryz.prog 20 #[.slice a1 xs.length c1, .slice a2 ys.length c2] w fun e w'=>e= .returned (.bool (decide (xs=ys)))/\ ∃n,w'=w.drewN n:=by
 have H1:=hZq h1
 have H2:=hZq h2
 clear h1 h2
 by_cases hlen:xs.length=ys.length
 ·rw[<-hlen]
  generalize hR:decide (xs=ys)=R
  have HR:=hZq hR
  have HL:=hZq hlen
  clear hR hlen
  go_enter Tryz.func20,Tryz.ntmps20
  go_wp2
  go_loopw [5] (fun i wr=> ∃k n:Nat,k<=xs.length/\i= .int .i64 (k:Int)/\wr=w.drewN n/\Hid (xs.take k=ys.take k)) (fun i _=>xs.length-(intOf i).toNat)
  case atStart=>exact ⟨0,0,Nat.zero_le _,rfl,rfl,hZq (by simp)⟩
  case round=>
   obtain ⟨k,n,hk,rfl,rfl,HK⟩:=hrel
   by_cases hlt:k<xs.length
   ·have hlt2:k<ys.length:=by have:=uQ HL;omega
    obtain ⟨b1,o1,rfl,_,q1⟩:=uQ H1 (fun e=>by rw[e]at hlt;simp at hlt)
    obtain ⟨b2,o2,rfl,_,q2⟩:=uQ H2 (fun e=>by rw[e]at hlt2;simp at hlt2)
    have x1:=q1 k hlt
    have y1:=q2 k hlt2
    have hstep:=fun he=>q6A hlt hlt2 (uQ HK) he
    have hdiff:xs[k]≠ys[k]->xs≠ys:=fun hne e=>hne (by simp[e])
    have HST:=hZq hstep
    have HDI:=hZq hdiff
    have hli:(k:Int)<(xs.length:Int):=by omega
    clear q1 q2 HK hstep hdiff H1 H2
    generalize xs[k]=x at *
    generalize ys[k]=y at *
    by_cases he:x=y
    ·have HT:=hZq (uQ HST he)
     clear HST HDI
     subst he
     go_wp2
     go_quiet (fail)
     go_wp2
     go_roundw
     case rel=>exact ⟨k+1,_,by omega,by go_num,rfl,HT⟩
     case measure=>simp[intOf];omega
    ·have hR:=uQ HR
     rw[decide_eq_false (uQ HDI he)]at hR
     subst hR
     have g:(x != y)=true:=by rw[bne_iff_ne];exact he
     clear he HR HDI HST
     go_wp2
     go_quiet (fail)
     go_wp2
     go_ret
     exact ⟨rfl,_,World.drewN_drewN _ _ _⟩
   ·have hall:xs=ys:=by
     have:=uQ HK
     have hl:=uQ HL
     rw[List.take_of_length_le (by omega),List.take_of_length_le (by omega)]at this
     exact this
    have hR:=uQ HR
    rw[decide_eq_true hall]at hR
    subst hR
    clear HR HK hall H1 H2 HL
    go_wp2
    go_ret
    exact ⟨rfl,n,rfl⟩
 ·have hne:xs≠ys:=fun e=>hlen (by rw[e])
  rw[decide_eq_false hne]
  have g:((xs.length:Int) != (ys.length:Int))=true:=by rw[bne_iff_ne];omega
  clear hlen hne H1 H2
  go_enter Tryz.func20,Tryz.ntmps20
  go_wp2
  go_ret
  exact ⟨rfl,0,rfl⟩
theorem q30 {B:Nat}{a w:World}(h:Below B a w)(n:Nat):Below B a (w.drewN n):=⟨h.os,h.tape,h.output,h.size,h.block⟩
theorem CmpS.drewN {w:World}{g1 g2:Nat}{k1:ByteArray}{a1:Option Addr}{n1 c1:Nat}{k2:ByteArray}{a2:Option Addr}{n2 c2:Nat}{W:World}(h:CmpS w g1 g2 k1 a1 n1 c1 k2 a2 n2 c2 W)(n:Nat):CmpS w g1 g2 k1 a1 n1 c1 k2 a2 n2 c2 (W.drewN n):=⟨q30 h.bel n,h.b1,h.b2⟩
theorem qem {a b:ByteArray}(h:a≠b):(a.toList==b.toList)=false:=by
 rw[beq_eq_false_iff_ne]
 intro e
 refine h (ByteArray.ext (Array.ext' ?_))
 rw[<-ByteArray.toList_eq, <-ByteArray.toList_eq]
 exact e
open Go.RowKit
theorem q2Y (k1:ByteArray)(a1:Option Addr)(c1:Nat)(s1:List (List Int))(k2:ByteArray)(a2:Option Addr)(c2:Nat)(s2:List (List Int))(w:World)(ok1:MtOk k1 s1)(ok2:MtOk k2 s2)(h1:StagesAt w a1 s1)(h2:StagesAt w a2 s2):
  Calls Tryz.prog 9 #[.agg #[.string k1, .slice a1 s1.length c1], .agg #[.string k2, .slice a2 s2.length c2]] w fun e w'=>e= .returned (.bool (decide (k1=k2/\s1=s2)))/\Below w.heap.size w w':=by
 have s0:CmpS w w.heap.size (w.heap.size+1) k1 a1 s1.length c1 k2 a2 s2.length c2 ((w.alloc (.cells #[.string k1, .slice a1 s1.length c1] 37)).alloc (.cells #[.string k2, .slice a2 s2.length c2] 37)):=by
  refine ⟨((Below.refl _ _).alloc (Nat.le_refl _) _).alloc (by simp) _,MBox.alloc (heap_alloc_new w _) _,?_⟩
  have:=heap_alloc_new (w.alloc (.cells #[.string k1, .slice a1 s1.length c1] 37)) (.cells #[.string k2, .slice a2 s2.length c2] 37)
  unfold MBox
  simpa using this
 by_cases hk:k1=k2
 ·by_cases hlen:s1.length=s2.length
  ·subst hk
   generalize hR:decide (k1=k1/\s1=s2)=R
   have HR:=hZq hR
   have H1:=hZq h1
   have H2:=hZq h2
   have P1:=hZq ok1
   have P2:=hZq ok2
   have h8:=ok1.2.1
   have HL:=hZq hlen
   rw[<-hlen]at s0 ⊢
   clear hR h1 h2 ok1 ok2 hlen
   go_enter Tryz.func9,Tryz.ntmps9
   go_wp2_with fail
   generalize ((w.alloc (.cells #[.string k1, .slice a1 s1.length c1] 37)).alloc (.cells #[.string k1, .slice a2 s1.length c2] 37))=W0 at *
   go_loopw [5] (fun i wr=> ∃k:Nat,k<=s1.length/\i= .int .i64 (k:Int)/\CmpS w w.heap.size (w.heap.size+1) k1 a1 s1.length c1 k1 a2 s1.length c2 wr/\Hid (s1.take k=s2.take k)) (fun i _=>s1.length-(intOf i).toNat)
   case atStart=>exact ⟨0,Nat.zero_le _,rfl,s0,hZq (by simp)⟩
   case round=>
    clear s0
    obtain ⟨k,hk,rfl,s0,HK⟩:=hrel
    have f0:=s0.full.2
    by_cases hlt:k<s1.length
    ·have hlt2:k<s2.length:=by have:=uQ HL;omega
     obtain ⟨b1,o1,rfl,_,q1⟩:=(uQ H1).below s0.bel (Nat.le_refl _) (fun e=>by rw[e]at hlt;simp at hlt)
     obtain ⟨b2,o2,rfl,_,q2⟩:=(uQ H2).below s0.bel (Nat.le_refl _) (fun e=>by rw[e]at hlt2;simp at hlt2)
     obtain ⟨p1,m1,x1,i1⟩:=q1 k hlt
     obtain ⟨p2,m2,y1,i2⟩:=q2 k hlt2
     have l1:=(uQ P1).2.2 s1[k] (List.getElem_mem hlt)
     have l2:=(uQ P2).2.2 s2[k] (List.getElem_mem hlt2)
     have hstep:=fun he=>q6A hlt hlt2 (uQ HK) he
     have hdiff:s1[k]≠s2[k]->s1≠s2:=fun hne e=>hne (by simp[e])
     have HST:=hZq hstep
     have HDI:=hZq hdiff
     have hli:(k:Int)<(s1.length:Int):=by omega
     clear q1 q2 HK hstep hdiff H1 H2 P1 P2
     generalize s1[k]=x at *
     generalize s2[k]=y at *
     have hc:=fun q=>q6u p1 p2 m1 m2 x y (wr.drewN q) l1 l2 i1 i2
     by_cases he:x=y
     ·have HT:=hZq (uQ HST he)
      clear HST HDI
      subst he
      simp only[decide_true]at hc
      have HC:=hZq hc
      clear hc i1 i2
      generalize x.length=nx at *
      go_wp2
      go_quiet (first|(go_at_call 20;exact Calls.quiet_of (uQ HC _)))
      go_wp2
      go_roundw
      case rel=>exact ⟨k+1,by omega,by go_num,s0.drewN _,HT⟩
      case measure=>simp[intOf];omega
     ·have hR:=uQ HR
      rw[decide_eq_false (fun h=>uQ HDI he h.2)]at hR
      subst hR
      simp only[decide_eq_false he]at hc
      have HC:=hZq hc
      clear hc i1 i2 HDI HST he HR
      generalize x.length=nx at *
      generalize y.length=ny at *
      go_wp2
      go_quiet (first|(go_at_call 20;exact Calls.quiet_of (uQ HC _)))
      go_wp2
      go_ret
      exact ⟨rfl,q30 s0.bel _⟩
    ·have hall:s1=s2:=by
      have:=uQ HK
      have hl:=uQ HL
      rw[List.take_of_length_le (by omega),List.take_of_length_le (by omega)]at this
      exact this
     have hR:=uQ HR
     rw[decide_eq_true ⟨trivial,hall⟩]at hR
     subst hR
     clear HR HK hall H1 H2 HL P1 P2
     go_wp2
     go_ret
     exact ⟨rfl,s0.bel⟩
  ·have hne: ¬ (k1=k2/\s1=s2):=fun h=>hlen (by rw[h.2])
   rw[decide_eq_false hne]
   have g:((s1.length:Int) != (s2.length:Int))=true:=by rw[bne_iff_ne];omega
   subst hk
   clear hlen hne h1 h2 ok1 ok2
   go_enter Tryz.func9,Tryz.ntmps9
   go_wp2
   go_ret
   exact ⟨rfl,s0.bel⟩
 ·have hne: ¬ (k1=k2/\s1=s2):=fun h=>hk h.1
  rw[decide_eq_false hne]
  have g:=qem hk
  clear hk hne h1 h2 ok1 ok2
  go_enter Tryz.func9,Tryz.ntmps9
  go_wp2
  go_ret
  exact ⟨rfl,s0.bel⟩
end Go.Proofs.YtcmjnlpofebbmaaGreatDoor
