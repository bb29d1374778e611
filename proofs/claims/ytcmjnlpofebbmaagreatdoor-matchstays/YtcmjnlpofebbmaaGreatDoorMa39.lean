/-
  Walks and plain facts, made small.
-/
import Derived.Shelf.SlSortCmp.NoneTotal
import Derived.Ground.SlsfProg
import Derived.Test.YtcmjnlpofebbmaaGreatDoorMa38
set_option maxRecDepth 100000
set_option maxHeartbeats 8000000
set_option linter.unusedSimpArgs false
namespace Go.Proofs
open Go.Shelf
def Tryz.sortM_ren:Go.Shelf.Ren:=⟨fun|6=>14|15=>29|14=>28|28=>52|29=>53|20=>44|21=>45|22=>46|23=>47|24=>48|25=>49|26=>50|27=>51|46=>83|47=>84|48=>85|49=>86|50=>87|57=>110|n=>n,fun|22=>31|24=>37|25=>56|3=>3|39=>74|0=>0|53=>114|55=>30|4=>4|46=>107|45=>106|50=>111|5=>5|9=>9|66=>148|70=>152|76=>191|77=>192|n=>n,fun|n=>n⟩
theorem Tryz.sortM:Go.Proofs.SlLaysF0.n6 Tryz.prog Tryz.sortM_ren:={
 mixed:=by kernel_rfl
 f6:=⟨Tryz.f14.name,by decide,Tryz.func14.trans (congrArg some (by kernel_rfl))⟩
 f14:=⟨Tryz.f28.name,by decide,Tryz.func28.trans (congrArg some (by kernel_rfl))⟩
 f15:=Tryz.func29.trans (congrArg some (by kernel_rfl))
 f20:=⟨Tryz.f44.name,by decide,Tryz.func44.trans (congrArg some (by kernel_rfl))⟩
 f21:=⟨Tryz.f45.name,by decide,Tryz.func45.trans (congrArg some (by kernel_rfl))⟩
 f22:=⟨Tryz.f46.name,by decide,Tryz.func46.trans (congrArg some (by kernel_rfl))⟩
 f23:=⟨Tryz.f47.name,by decide,Tryz.func47.trans (congrArg some (by kernel_rfl))⟩
 f24:=⟨Tryz.f48.name,by decide,Tryz.func48.trans (congrArg some (by kernel_rfl))⟩
 f25:=⟨Tryz.f49.name,by decide,Tryz.func49.trans (congrArg some (by kernel_rfl))⟩
 f26:=⟨Tryz.f50.name,by decide,Tryz.func50.trans (congrArg some (by kernel_rfl))⟩
 f27:=⟨Tryz.f51.name,by decide,Tryz.func51.trans (congrArg some (by kernel_rfl))⟩
 f28:=Tryz.func52.trans (congrArg some (by kernel_rfl))
 f29:=Tryz.func53.trans (congrArg some (by kernel_rfl))
 f46:=⟨Tryz.f83.name,by decide,Tryz.func83.trans (congrArg some (by kernel_rfl))⟩
 f47:=Tryz.func84.trans (congrArg some (by kernel_rfl))
 f48:=Tryz.func85.trans (congrArg some (by kernel_rfl))
 f49:=⟨Tryz.f86.name,by decide,Tryz.func86.trans (congrArg some (by kernel_rfl))⟩
 f50:=⟨Tryz.f87.name,by decide,Tryz.func87.trans (congrArg some (by kernel_rfl))⟩
 f57:=⟨Tryz.f110.name,by decide,Tryz.func110.trans (congrArg some (by kernel_rfl))⟩
 t0:=Tryz.underlying0
 a0:=Tryz.isAgg0
 z0:=Tryz.sizeOf0
 v0:=Tryz.zeroValue0
 t3:=Tryz.underlying3
 a3:=Tryz.isAgg3
 z3:=Tryz.sizeOf3
 v3:=Tryz.zeroValue3
 t4:=Tryz.underlying4
 a4:=Tryz.isAgg4
 z4:=Tryz.sizeOf4
 v4:=Tryz.zeroValue4
 t5:=Tryz.underlying5
 a5:=Tryz.isAgg5
 z5:=Tryz.sizeOf5
 v5:=Tryz.zeroValue5
 t9:=Tryz.underlying9
 a9:=Tryz.isAgg9
 z9:=Tryz.sizeOf9
 v9:=Tryz.zeroValue9
 t22:=Tryz.underlying31
 a22:=Tryz.isAgg31
 z22:=Tryz.sizeOf31
 v22:=Tryz.zeroValue31
 t25:=Tryz.underlying56
 a25:=Tryz.isAgg56
 z25:=Tryz.sizeOf56
 v25:=Tryz.zeroValue56
 t39:=Tryz.underlying74
 a39:=Tryz.isAgg74
 z39:=Tryz.sizeOf74
 v39:=Tryz.zeroValue74
 t45:=Tryz.underlying106
 a45:=Tryz.isAgg106
 z45:=Tryz.sizeOf106
 v45:=Tryz.zeroValue106
 t46:=Tryz.underlying107
 a46:=Tryz.isAgg107
 z46:=Tryz.sizeOf107
 v46:=Tryz.zeroValue107
 t50:=Tryz.underlying111
 a50:=Tryz.isAgg111
 z50:=Tryz.sizeOf111
 v50:=Tryz.zeroValue111
 t53:=Tryz.underlying114
 a53:=Tryz.isAgg114
 z53:=Tryz.sizeOf114
 v53:=Tryz.zeroValue114
 t55:=Tryz.underlying30
 a55:=Tryz.isAgg30
 z55:=Tryz.sizeOf30
 v55:=Tryz.zeroValue30
 t66:=Tryz.underlying148
 a66:=Tryz.isAgg148
 z66:=Tryz.sizeOf148
 v66:=Tryz.zeroValue148
 t70:=Tryz.underlying152
 a70:=Tryz.isAgg152
 z70:=Tryz.sizeOf152
 v70:=Tryz.zeroValue152
 t76:=Tryz.underlying191
 a76:=Tryz.isAgg191
 z76:=Tryz.sizeOf191
 v76:=Tryz.zeroValue191
 t77:=Tryz.underlying192
 a77:=Tryz.isAgg192
 z77:=Tryz.sizeOf192
 v77:=Tryz.zeroValue192 }
end Go.Proofs
namespace Go.Proofs.YtcmjnlpofebbmaaGreatDoor
section
open Go.RowKit Go.Shelf Go.Lib Go.Sort
theorem CpAt.stages {w:World}{x:Cp}(h:CpAt w x):StagesAt w (some ⟨x.g,0,none⟩) (Mt.toZ x.T):=fun _=>by
 refine ⟨x.g,0,rfl,h.lt x.g (by unfold Cp.B;simp),fun i hi=>?_⟩
 have hv:i<x.vs.length:=by rw[h.ins.1];exact hi
 have hr:=h.ins.2 i _ _ (List.getElem?_eq_getElem hv) (List.getElem?_eq_getElem hi)
 obtain ⟨a,c,e,hI⟩:=hr.at
 refine ⟨a,c,?_,hI⟩
 rw[Nat.zero_add, <-e]
 exact h.row.cell (by simp[hv])
section
variable {α:Type} [Inhabited α] (enc:α->List Value) (w:World) (g m:Nat) (d:Array α) (os:Array Obj)
theorem q7M:Kp [g] w (sortWorldK enc 2 w g 0 m d os):=by
 refine ⟨rfl,rfl,rfl,size_sortWorldK_c enc 2 w g 0 m d os,fun k hk hn=>?_⟩
 have hn:k≠g:=by simpa using hn
 show ((putRowK enc 2 (Sort.ahead w m) g 0 d).heap++os)[k]?=_
 rw[Array.getElem?_append_left (by unfold putRowK;rw[size_putRow];exact hk)]
 unfold putRowK putRow mapBlock
 rw[Array.getElem?_modify,if_neg (Ne.symm hn)]
 rfl
theorem q8C {cur:Array Value}{e:TypeId}(h:w.heap[g]?=some (.cells cur e (0,0))): ∃cur':Array Value,(sortWorldK enc 2 w g 0 m d os).heap[g]?=some (.cells cur' e (0,0))/\cur'.size=cur.size:=by
 have hlt:g<w.heap.size:=(Array.getElem?_eq_some_iff.1 h).1
 refine ⟨putCells id 0 (flatK enc 2 d) cur,?_,by simp[putCells]⟩
 show ((putRowK enc 2 (Sort.ahead w m) g 0 d).heap++os)[g]?=_
 rw[Array.getElem?_append_left (by unfold putRowK;rw[size_putRow];exact hlt)]
 unfold putRowK putRow mapBlock
 rw[Array.getElem?_modify,if_pos rfl,show (Sort.ahead w m).heap[g]?=w.heap[g]? from rfl,h]
 rfl
end
theorem q9M {w:World}{n0 g cap:Nat}{key:ByteArray}{ys:List Cp}(hrow:w.ownsRow n0 37 2 (.slice (some ⟨g,0,none⟩) ys.length cap) ys.length (ys.flatMap (mtE key))) [Inhabited (Fin ys.length)]:
  HoldsK (fun i:Fin ys.length=>mtE key ys[i]) 2 w g 0 (Array.ofFn fun i:Fin ys.length=>i):=by
 intro t ht
 rw[size_flatK,Array.size_ofFn]at ht
 rw[get_flatK _ _ _ _ (by rw[Array.size_ofFn];exact ht)]
 have hj:t / 2<ys.length:=by omega
 have hi:t % 2<2:=Nat.mod_lt _ (by omega)
 have hc:=q0t (enc:=mtE key) (sz:=2) (q15 key) hrow (t / 2) (t % 2) hj hi
 have e:t / 2 * 2+t % 2=t:=by omega
 rw[e]at hc
 obtain ⟨_,⟨e2,_⟩|⟨g',c',cur,e2,_,hb,_⟩⟩:=hrow
 ·cases e2
 ·cases e2
  have hget:(Array.ofFn fun i:Fin ys.length=>i)[t / 2]! =⟨t / 2,hj⟩:=by
   rw[getElem!_pos _ _ (by rw[Array.size_ofFn];exact hj),Array.getElem_ofFn]
  rw[hget,Nat.zero_add]
  refine ⟨?_,(show CBox g cur 37 w from hb).froz t⟩
  rw[hc]
  show (mtE key ys[t / 2])[t % 2]?=some ((mtE key ys[t / 2])[t % 2]!)
  have hl:t % 2<(mtE key ys[t / 2]).length:=by rw[q15];exact hi
  rw[List.getElem?_eq_getElem hl,getElem!_pos (mtE key ys[t / 2]) (t % 2) hl]
theorem q8D {w:World}{n0 g cap:Nat}{key:ByteArray}{ys:List Cp}(hrow:w.ownsRow n0 37 2 (.slice (some ⟨g,0,none⟩) ys.length cap) ys.length (ys.flatMap (mtE key)))(hcp: ∀x∈ys,CpAt w x)(hmay: ∀x∈ys,mayM key (Mt.toZ x.T)=true)(hok: ∀x∈ys,MtOk key (Mt.toZ x.T))(hnd:(ys.map (·.T)).Nodup)(hpos:0<ys.length)(hlen:ys.length<=4096):
  Calls Tryz.prog 14 #[.slice (some ⟨g,0,none⟩) ys.length cap, .func (.func 15) #[] #[]] w fun e w'=>e= .returned (.tuple #[])/\Kp [g] w w'/\ ∃zs:List Cp,zs.Perm ys/\Srt (zs.map (·.T))/\w'.ownsRow n0 37 2 (.slice (some ⟨g,0,none⟩) ys.length cap) ys.length (zs.flatMap (mtE key)):=by
 letI:Inhabited (Fin ys.length):=⟨⟨0,hpos⟩⟩
 have hH:=q9M hrow
 have hds:(Array.ofFn fun i:Fin ys.length=>i).size=ys.length:=Array.size_ofFn
 obtain ⟨hrl,⟨e2,_⟩|⟨g',c',cur,e2,hn0,hb,hnc,hcm,hcs,htk⟩⟩:=hrow
 ·cases e2
 cases e2
 have hblk:g<w.heap.size:=(Array.getElem?_eq_some_iff.1 hb).1
 have hpre:Pre fun i j:Fin ys.length=>cT ys[i].T ys[j].T:=cT_pre.on fun i:Fin ys.length=>ys[i].T
 have eg: ∀args w,(callFunc 15 args).run Tryz.prog w= .ok (.enter 15 args) w:=enters_of Tryz.func15 (by kernel_rfl) rfl
 have hcmp:CmpLays Tryz.prog 15 #[] (fun i:Fin ys.length=>mtE key ys[i]) 2 (fun i j:Fin ys.length=>cT ys[i].T ys[j].T) g 0 (Array.ofFn fun i:Fin ys.length=>i).size w:=by
  intro m os dk _ x y
  have hk:=q7M (fun i:Fin ys.length=>mtE key ys[i]) w g m dk os
  have st: ∀z∈ys, ∀W,Kp [] (sortWorldK (fun i:Fin ys.length=>mtE key ys[i]) 2 w g 0 m dk os) W->StagesAt W (some ⟨z.g,0,none⟩) (Mt.toZ z.T):=fun z hz W hW=>by
   refine (((hcp z hz).kp hk (fun b hb2 hm=>?_)).kp hW (by simp)).stages
   rw[List.mem_singleton]at hm
   subst hm
   obtain ⟨cs,t,h1,h2⟩:=q27 (hcp z hz) hb2
   unfold CBox at h1
   rw[hb]at h1
   cases h1
   revert h2
   decide
  have hx:ys[x]∈ys:=List.getElem_mem _
  have hy:ys[y]∈ys:=List.getElem_mem _
  have hc:=q5Q key (some ⟨ys[x].g,0,none⟩) ys[x].T.length (Mt.toZ ys[x].T) key (some ⟨ys[y].g,0,none⟩) ys[y].T.length (Mt.toZ ys[y].T) _ (hok _ hx) (hok _ hy) (st _ hx) (st _ hy)
  rw[q0I,q0I]at hc
  have hv:cmpV key (Mt.toZ ys[x].T) key (Mt.toZ ys[y].T)=cT ys[x].T ys[y].T:=by
   unfold cmpV
   rw[if_pos ⟨hmay _ hx,hmay _ hy⟩,qdo]
   rfl
  rw[hv]at hc
  exact hc.mono fun e w' h=>⟨h.1,h.2.2⟩
 have hcon:=AnyQ.slices_SortFunc Tryz.sortM 2 (by intro w;kernel_rfl) (by intro w;kernel_rfl) (fun i:Fin ys.length=>mtE key ys[i]) (fun _=>rfl) (fun x v hv=>by
  unfold mtE Cp.v at hv
  simp only[List.mem_cons,List.not_mem_nil,or_false]at hv
  rcases hv with rfl|rfl <;> rfl) (fun i j:Fin ys.length=>cT ys[i].T ys[j].T) (qdf hpre) 15 #[] g 0 cap (Array.ofFn fun i:Fin ys.length=>i) w eg hcmp hH hblk (by rw[hds];omega)
 rw[hds]at hcon
 refine Calls.mono (show Calls Tryz.prog 14 #[.slice (some ⟨g,0,none⟩) ys.length cap, .func (.func 15) #[] #[]] w _ from hcon) ?_
 rintro e w' ⟨rfl,d',n,os,hperm,hsort,rfl⟩
 have hd's:d'.size=ys.length:=by rw[hperm.1,hds]
 have hpl:d'.toList.Perm (Array.ofFn fun i:Fin ys.length=>i).toList:=by
  have:=hperm.2.2
  rw[Array.extract_eq_self_of_le (by rw[hd's];exact Nat.le_refl _),Array.extract_eq_self_of_le (by rw[hds];exact Nat.le_refl _)]at this
  exact this
 have hmapd:(Array.ofFn fun i:Fin ys.length=>i).toList.map (fun i:Fin ys.length=>ys[i])=ys:=by
  apply List.ext_getElem
  ·rw[List.length_map,Array.length_toList,hds]
  ·intro k h1 h2
   rw[List.getElem_map,Array.getElem_toList,Array.getElem_ofFn]
   rfl
 have hzp:(d'.toList.map fun i:Fin ys.length=>ys[i]).Perm ys:=by
  have:=hpl.map (fun i:Fin ys.length=>ys[i])
  rw[hmapd]at this
  exact this
 have hzl:(d'.toList.map fun i:Fin ys.length=>ys[i]).length=ys.length:=hzp.length_eq
 refine ⟨rfl,q7M _ w g n d' os,d'.toList.map (fun i:Fin ys.length=>ys[i]),hzp,?_,?_⟩
 ·have hnd2:((d'.toList.map fun i:Fin ys.length=>ys[i]).map (·.T)).Nodup:=(hzp.map (·.T)).nodup_iff.2 hnd
  unfold Srt
  rw[List.pairwise_iff_getElem]
  intro i j hi hj hij
  have hi':i<d'.size:=by simpa using hi
  have hj':j<d'.size:=by simpa using hj
  have hs:=hsort i j (Nat.zero_le _) hij (by omega)
  rw[getElem!_pos d' j hj',getElem!_pos d' i hi']at hs
  unfold ltOf at hs
  rw[decide_eq_false_iff_not]at hs
  have hs: ¬ cT ys[d'[j]].T ys[d'[i]].T<0:=hs
  have ha:=cT_pre.anti ys[d'[i]].T ys[d'[j]].T
  have hne:cT ys[d'[i]].T ys[d'[j]].T≠0:=fun e=>by
   have e:=(q4q _ _).1 e
   have h1:((d'.toList.map fun i:Fin ys.length=>ys[i]).map (·.T))[i]=((d'.toList.map fun i:Fin ys.length=>ys[i]).map (·.T))[j]:=by simpa using e
   have:=(List.getElem_inj hnd2).1 h1
   omega
  have e1:((d'.toList.map fun i:Fin ys.length=>ys[i]).map (·.T))[i]=ys[d'[i]].T:=by simp
  have e2:((d'.toList.map fun i:Fin ys.length=>ys[i]).map (·.T))[j]=ys[d'[j]].T:=by simp
  rw[e1,e2]
  omega
 ·obtain ⟨cur',hb',hs'⟩:=q8C (fun i:Fin ys.length=>mtE key ys[i]) w g n d' os hb
  have hH':=holdsK_sortWorldK_c (fun i:Fin ys.length=>mtE key ys[i]) 2 w g 0 _ d' n os hH hblk (by rw[hd's,hds])
  have hfl:=q1W (mtE key) 2 (q15 key) (d'.toList.map fun i:Fin ys.length=>ys[i])
  rw[hzl]at hfl
  refine ⟨hfl,Or.inr ⟨g,cap,cur',rfl,hn0,hb',hnc,hcm,by rw[hs',hcs],?_⟩⟩
  apply List.ext_getElem?
  intro t
  by_cases ht:t<ys.length * 2
  ·rw[List.getElem?_take,if_pos ht]
   have hj:t / 2<ys.length:=by omega
   have hi:t % 2<2:=Nat.mod_lt _ (by omega)
   have e:t / 2 * 2+t % 2=t:=by omega
   have hfa:=q3o (mtE key) 2 (q15 key) (d'.toList.map fun i:Fin ys.length=>ys[i]) (t / 2) (t % 2) (by rw[hzl];exact hj) hi
   rw[e]at hfa
   rw[hfa]
   have hc:=(hH'.cell (i:=t / 2) (c:=t % 2) (by rw[hd's];exact hj) hi).1
   rw[Nat.zero_add,e]at hc
   have hcur:cur'[t]?=some ((mtE key ys[d'[t / 2]!])[t % 2]!):=by
    refine Eq.trans ?_ hc
    unfold World.cell?
    dsimp only
    rw[hb']
    simp
   rw[Array.getElem?_toList,hcur]
   have hl:t % 2<(mtE key ys[d'[t / 2]!]).length:=by rw[q15];exact hi
   rw[getElem!_pos (mtE key ys[d'[t / 2]!]) (t % 2) hl, <-List.getElem?_eq_getElem hl]
   have hq:d'[t / 2]! =d'[t / 2]'(by omega):=getElem!_pos _ _ (by omega)
   have hq2:ys[d'[t / 2]!]=(d'.toList.map fun i:Fin ys.length=>ys[i])[t / 2]'(by rw[hzl];exact hj):=by
    rw[List.getElem_map,Array.getElem_toList]
    exact congrArg (fun i:Fin ys.length=>ys[i]) hq
   exact congrArg (fun x=>(mtE key x)[t % 2]?) hq2
  ·rw[List.getElem?_take,if_neg ht,List.getElem?_eq_none (by rw[hfl];omega)]
theorem qbn {w:World}{n0:Nat}{v:Value}{key:ByteArray}{ys:List Cp}(hrow:w.ownsRow n0 37 2 v ys.length (ys.flatMap (mtE key)))(hcp: ∀x∈ys,CpAt w x)(hmay: ∀x∈ys,mayM key (Mt.toZ x.T)=true)(hok: ∀x∈ys,MtOk key (Mt.toZ x.T))(hnd:(ys.map (·.T)).Nodup)(hlen:ys.length<=4096):
  Calls Tryz.prog 14 #[v, .func (.func 15) #[] #[]] w fun e w'=>e= .returned (.tuple #[])/\Kp v.ownBlock.toList w w'/\ ∃zs:List Cp,zs.Perm ys/\Srt (zs.map (·.T))/\w'.ownsRow n0 37 2 v ys.length (zs.flatMap (mtE key)):=by
 rcases Nat.eq_zero_or_pos ys.length with h0|hpos
 ·obtain rfl:=List.eq_nil_of_length_eq_zero h0
  obtain ⟨a,c,rfl⟩: ∃a c,v= .slice a 0 c:=by
   obtain ⟨_,⟨e,_⟩|⟨g,c,cur,e,_⟩⟩:=hrow
   ·exact ⟨_,_,e⟩
   ·exact ⟨_,_,e⟩
  have hn:=AnyF.slices_SortFunc_none Tryz.sortM a c (.func (.func 15) #[] #[]) w
  refine Calls.mono (show Calls Tryz.prog 14 #[.slice a 0 c, .func (.func 15) #[] #[]] w _ from hn) ?_
  rintro e w' ⟨rfl,rfl⟩
  exact ⟨rfl,Kp.refl _ _,[],List.Perm.refl _,List.Pairwise.nil,hrow⟩
 ·obtain ⟨g,c,rfl⟩: ∃g c,v= .slice (some ⟨g,0,none⟩) ys.length c:=by
   obtain ⟨_,⟨_,e⟩|⟨g,c,cur,e,_⟩⟩:=hrow
   ·omega
   ·exact ⟨_,_,e⟩
  refine (q8D hrow hcp hmay hok hnd hpos hlen).mono ?_
  rintro e w' ⟨h1,h2,h3⟩
  exact ⟨h1,h2.mono (by simp[Value.ownBlock]),h3⟩
end
open Go.RowKit Go.Shelf
attribute [local go_sem] Oper.semAt_some
theorem q7C {W:World}{g:Nat}{v:Value}(h:CBox g #[v] 31 W):(loadVar 31 ⟨g,0,none⟩).run Tryz.prog W= .ok v W:=by
 have c:=h.cell (i:=0) (v:=v) rfl
 go_simp
theorem q7B {W:World}{g:Nat}{v:Value}(h:CBox g #[v] 32 W):(loadVar 32 ⟨g,0,none⟩).run Tryz.prog W= .ok v W:=by
 have c:=h.cell (i:=0) (v:=v) rfl
 go_simp
theorem q3w {P:Program}{fn:Func}{p u:Tmp}{ty ty2:TypeId}(h:fn.results=#[.cell p ty, .cell u ty2])(tmps:Array Value)(w:World)(g g2:Nat)(v v2:Value)
  (hp:tmps.getD p undef= .pointer (some ⟨g,0,none⟩)) (h1:(loadVar ty ⟨g,0,none⟩).run P w= .ok v w) (hp2:tmps.getD u undef= .pointer (some ⟨g2,0,none⟩)) (h2:(loadVar ty2 ⟨g2,0,none⟩).run P w= .ok v2 w):
  (results fn tmps).run P w= .ok (.tuple #[v,v2]) w:=by
 have hp':tmps[p]?.getD undef= .pointer (some ⟨g,0,none⟩):=by simpa using hp
 have hp2':tmps[u]?.getD undef= .pointer (some ⟨g2,0,none⟩):=by simpa using hp2
 simp[results,h,hp',hp2',asAddr,h1,h2,Sem.run_bind,Result.andThen]
theorem qce {n:Nat}{fn:Func}{R:Ending->World->Prop}{tmps:Array Value}{W:World}{b1 b2:Nat}{v v2:Value}(h:fn.results=#[.cell 6 31, .cell 7 32])
  (h6:tmps.getD 6 undef= .pointer (some ⟨b1,0,none⟩)) (h7:tmps.getD 7 undef= .pointer (some ⟨b2,0,none⟩)) (c1:CBox b1 #[v] 31 W) (c2:CBox b2 #[v2] 32 W) (hR:R (.returned (.tuple #[v,v2])) W):
  bodyPostM Fence.wide n Tryz.prog fn R .ret { tmps:=tmps,defers:=[] } W:=
 ⟨_,q3w h tmps W b1 b2 v v2 h6 (q7C c1) h7 (q7B c2),hR⟩
theorem q7r {n:Nat}{fn:Func}{R:Ending->World->Prop}{tmps:Array Value}{W:World}{D b1 b2:Nat}{v v2:Value}(h:fn.results=#[.cell 6 31, .cell 7 32])
  (h6:tmps.getD 6 undef= .pointer (some ⟨b1,0,none⟩)) (h7:tmps.getD 7 undef= .pointer (some ⟨b2,0,none⟩)) (hK:W.heap[D]?=some (.deferred (some []))) (c1:CBox b1 #[v] 31 W) (c2:CBox b2 #[v2] 32 W) (hR:R (.returned (.tuple #[v,v2])) (W.putObj D (.deferred none))):
  bodyPostM Fence.wide n Tryz.prog fn R .ret { tmps:=tmps,defers:=[{ target:= .collected D,args:=#[] }] } W:=by
 refine ⟨by simp, .inl ⟨_,_,rfl,run_takeDeferred hK,?_⟩⟩
 have k1:=c1.putObj (o':= .deferred none) hK rfl
 have k2:=c2.putObj (o':= .deferred none) hK rfl
 exact ⟨_,q3w h tmps _ b1 b2 v v2 h6 (q7C k1) h7 (q7B k2),hR⟩
def fiE (p:Ptn)(key:ByteArray)(es:List Ev):Int:=if mckE p es=0 then (if arE key es=true then (if 4096<(fdS (Mt.pm p es) p.wi.toNat).length then 140 else 0) else 20) else mckE p es
def fiL (p:Ptn)(key:ByteArray)(es:List Ev):List (List (List Nat)):=if fiE p key es=0 then fdS (Mt.pm p es) p.wi.toNat else []
structure FdP (w:World)(key:ByteArray)(L:List (List (List Nat)))(v:Value)(zs:List Cp)(w':World):Prop where
 kp:Kp [] w w'
 ts:zs.map (·.T)=L
 cp: ∀x∈zs,CpAt w' x
 row:w'.ownsRow w.heap.size 37 2 v zs.length (zs.flatMap (mtE key))
theorem FdP.none {w w':World}(key:ByteArray)(h:Kp [] w w'):FdP w key [] (.slice none 0 0) [] w':=⟨h,rfl,by simp,World.ownsRow_nil _ _ _ _⟩
theorem q3x {key:ByteArray}{es:List Ev}(h:arE key es=true):q0q key=true:=by
 unfold arE at h
 split at h
 ·rename_i h0
  unfold chkE mayE at h0
  revert h0
  cases q0q key <;> simp
 ·cases h
theorem q0Z {w:World}{B e sz n:Nat}{v:Value}{xs:List Value}(h:w.ownsRow B e sz v n xs): ∃a c,v= .slice a n c/\(0<n-> ∃g,a=some ⟨g,0,none⟩):=by
 obtain ⟨_,⟨e,h0⟩|⟨g,c,cur,e,_⟩⟩:=h
 ·exact ⟨none,0,by rw[e,h0],fun h=>by omega⟩
 ·exact ⟨_,c,e,fun _=>⟨g,rfl⟩⟩
theorem q5I {n:Nat}{fn:Func}{tmps:Array Value}{w W3:World}{b1 b2:Nat}{key:ByteArray}{E FE:Int}{FL:List (List (List Nat))}(h:fn.results=#[.cell 6 31, .cell 7 32])
  (h6:tmps.getD 6 undef= .pointer (some ⟨b1,0,none⟩)) (h7:tmps.getD 7 undef= .pointer (some ⟨b2,0,none⟩)) (c1:CBox b1 #[.slice none 0 0] 31 W3) (c2:CBox b2 #[.int .i64 0] 32 W3) (hk:Kp [] w W3) (hb1:w.heap.size<=b1) (hb2:w.heap.size<=b2) (hE:FE=E) (hL:FL=[]):
  bodyPostM Fence.wide n Tryz.prog fn (fun e w'=> ∃v zs,e= .returned (.tuple #[v, .int .i64 FE])/\FdP w key FL v zs w') .ret { tmps:=tmps,defers:=[] } ((W3.setCell ⟨b1,0,none⟩ (.slice none 0 0)).setCell ⟨b2,0,none⟩ (.int .i64 E)):=by
 subst hE hL
 have hne:b1≠b2:=q0p c1 c2 (by decide)
 have k1:=Kp.set W3 b1 0 (.slice none 0 0)
 have k2:=Kp.set (W3.setCell ⟨b1,0,none⟩ (.slice none 0 0)) b2 0 (.int .i64 FE)
 have d1:CBox b1 #[.slice none 0 0] 31 (W3.setCell ⟨b1,0,none⟩ (.slice none 0 0)):=c1.set 0 (.slice none 0 0)
 have d2:CBox b2 #[.int .i64 FE] 32 ((W3.setCell ⟨b1,0,none⟩ (.slice none 0 0)).setCell ⟨b2,0,none⟩ (.int .i64 FE)):=(c2.kp k1 (by simpa using hne.symm)).set 0 (.int .i64 FE)
 refine qce h h6 h7 (d1.kp k2 (by simpa using hne)) d2 ⟨_,[],rfl,FdP.none key ((hk.trans k1 (fun x hx=>Or.inr ?_)).trans k2 (fun x hx=>Or.inr ?_))⟩
 ·rw[List.mem_singleton]at hx;omega
 ·rw[List.mem_singleton]at hx;omega
theorem q2l: ∀(x a:Int) (ss:List (List Int)),q0x x a ss=true-> ∀p∈ss,(p.length:Int)<=x
 |_,_,[],_,p,hp=>by cases hp
 |x,a,q::r,h,p,hp=>by
  rw[q0x]at h
  split at h
  ·cases h
  ·rename_i hn
   have h2: ¬ x<(q.length:Int):=fun h=>hn (Or.inr (Or.inl h))
   rcases List.mem_cons.1 hp with rfl|hp
   ·omega
   ·have:=q2l _ _ r h p hp
    omega
theorem q9y (w:World)(o:Obj){b:Nat}{p:Obj}(h:w.heap[b]?=some p):(w.alloc o).heap[b]?=some p:=(Below.heap_alloc _ _ _ (Array.getElem?_eq_some_iff.1 h).1).trans h
theorem qax {w W1 w3 w5:World}{key:ByteArray}{r:Loop}{ps es:Obj}(b1:CBox (w.heap.size+1) #[.string key] 9 W1)(b2:CBox (w.heap.size+1+1) #[.slice none 0 0] 31 W1)(b3:CBox (w.heap.size+1+1+1) #[.int .i64 0] 32 W1)(hz:W1.heap.size=w.heap.size+1+1+1+1)(hk:Kp [] W1 w3)
  (h5:w5=((w3.alloc (.cells #[.slice none 0 0] 31)).alloc ps).alloc es) {w0:World} (h0:Kp [] ((w5.alloc (.deferred (some []))).alloc (.loop r)) w0):
  FdT ⟨w5.heap.size+1,w5.heap.size,r,w.heap.size+1,w.heap.size+1+1,w.heap.size+1+1+1,w3.heap.size,key⟩ w0.heap.size [] w0:=by
 have k5:Kp [] w3 w5:=by rw[h5];exact ((Kp.alloc _ _).trans (Kp.alloc _ _) (by simp)).trans (Kp.alloc _ _) (by simp)
 have kL:Kp [] w5 ((w5.alloc (.deferred (some []))).alloc (.loop r)):=(Kp.alloc _ _).trans (Kp.alloc _ _) (by simp)
 have kW:Kp [] W1 w0:=((hk.trans k5 (by simp)).trans kL (by simp)).trans h0 (by simp)
 have ob:CBox w3.heap.size #[.slice none 0 0] 31 w5:=by
  rw[h5]
  exact (CBox.new w3 _ _).kp ((Kp.alloc _ _).trans (Kp.alloc _ _) (by simp)) (by simp)
 have hD:(w5.alloc (.deferred (some []))).heap[w5.heap.size]?=some (.deferred (some [])):=heap_alloc_new _ _
 have hL:((w5.alloc (.deferred (some []))).alloc (.loop r)).heap[w5.heap.size+1]?=some (.loop r):=by
  have:=heap_alloc_new (w5.alloc (.deferred (some []))) (.loop r)
  simpa using this
 have hD2:=q9y _ (.loop r) hD
 have s3:=hk.size
 refine ⟨(h0.block _ (Array.getElem?_eq_some_iff.1 hL).1 (by simp)).trans hL,(h0.block _ (Array.getElem?_eq_some_iff.1 hD2).1 (by simp)).trans hD2,b1.kp kW (by simp),b2.kp kW (by simp),b3.kp kW (by simp),⟨_,ob.kp (kL.trans h0 (by simp)) (by simp),World.ownsRow_nil _ _ _ _⟩,by simp,Nat.le_refl _,by show w.heap.size+1+1≠w3.heap.size;omega⟩
theorem FdT.stop {c:FdC}{n0:Nat}{xs:List Cp}{w W:World}(h:FdT c n0 xs w)(hlen:xs.length=4096)(x:Cp)(hW:W=((w.putObj c.L (.loop { c.r with state:= .busy })).setCell ⟨c.rb,0,none⟩ (.slice none 0 0)).setCell ⟨c.eb,0,none⟩ (.int .i64 140)):
  W.heap[c.L]?=some (.loop { c.r with state:= .busy })/\Kp [c.L,c.rb,c.eb] w (W.putObj c.L (.loop { c.r with state:= .done,pending:=some .ret }))/\FdF c (xs++[x]) (W.putObj c.L (.loop { c.r with state:= .done,pending:=some .ret })):=by
 have hnl: ∀{b:Nat} {cs:Array Value} {t:TypeId},CBox b cs t w->b≠c.L:=fun hb e=>by
  subst e
  unfold CBox at hb
  rw[h.lo]at hb
  cases hb
 have kp: ∀(V:World) (o:Obj),Kp [c.L] V (V.putObj c.L o):=fun V o=>⟨rfl,rfl,rfl,by simp,fun k _ hn=>World.putObj_heap_other (by simpa using hn)⟩
 have hlt:c.L<w.heap.size:=(Array.getElem?_eq_some_iff.1 h.lo).1
 have k1:=kp w (.loop { c.r with state:= .busy })
 have k2:=Kp.set (w.putObj c.L (.loop { c.r with state:= .busy })) c.rb 0 (.slice none 0 0)
 have k3:=Kp.set ((w.putObj c.L (.loop { c.r with state:= .busy })).setCell ⟨c.rb,0,none⟩ (.slice none 0 0)) c.eb 0 (.int .i64 140)
 rw[<-hW]at k3
 have hre:c.rb≠c.eb:=q0p h.br h.be (by decide)
 have hL1:(w.putObj c.L (.loop { c.r with state:= .busy })).heap[c.L]?=some (.loop { c.r with state:= .busy }):=World.putObj_heap_same hlt
 have hL2:=(k2.block c.L (Array.getElem?_eq_some_iff.1 hL1).1 (by simpa using (hnl h.br).symm)).trans hL1
 have hL3:=(k3.block c.L (Array.getElem?_eq_some_iff.1 hL2).1 (by simpa using (hnl h.be).symm)).trans hL2
 have k4:=kp W (.loop { c.r with state:= .done,pending:=some .ret })
 have kA:Kp [c.L,c.rb,c.eb] w (W.putObj c.L (.loop { c.r with state:= .done,pending:=some .ret })):=(((k1.mono (by simp)).trans k2 (by simp)).trans k3 (by simp)).trans k4 (by simp)
 have r1:=h.br.kp k1 (by simpa using hnl h.br)
 have r2:CBox c.rb #[.slice none 0 0] 31 ((w.putObj c.L (.loop { c.r with state:= .busy })).setCell ⟨c.rb,0,none⟩ (.slice none 0 0)):=r1.set 0 (.slice none 0 0)
 have r3:=r2.kp k3 (by simpa using hre)
 have e2:=(h.be.kp k1 (by simpa using hnl h.be)).kp k2 (by simpa using hre.symm)
 have e3:CBox c.eb #[.int .i64 140] 32 W:=by
  rw[hW]
  exact e2.set 0 (.int .i64 140)
 refine ⟨hL3,kA,⟨World.putObj_heap_same (Array.getElem?_eq_some_iff.1 hL3).1,?_,r3.kp k4 (by simpa using hnl h.br),e3.kp k4 (by simpa using hnl h.be),by simp[hlen]⟩⟩
 refine (kA.block _ (Array.getElem?_eq_some_iff.1 h.dm).1 (fun hm=>?_)).trans h.dm
 have hd:=h.dm
 simp only[List.mem_cons,List.not_mem_nil,or_false]at hm
 rcases hm with hm|hm|hm
 ·rw[hm,h.lo]at hd
  cases hd
 ·have:=h.br
  unfold CBox at this
  rw[hm,this]at hd
  cases hd
 ·have:=h.be
  unfold CBox at this
  rw[hm,this]at hd
  cases hd
theorem q5J {c:FdC}{n0:Nat}{ys:List Cp}{W' V:World}{o:Obj}{v:Value}(hT:FdT c n0 ys W')(hV:V=W'.putObj c.L o)(hrow:W'.ownsRow n0 37 2 v ys.length (ys.flatMap (mtE c.key))){b:Nat}{cs:Array Value}{t:TypeId}(hb:CBox b cs t W')(ht:t≠37):CBox b cs t V/\ ∀w8,Kp v.ownBlock.toList V w8->CBox b cs t w8:=by
 have h1:CBox b cs t V:=by rw[hV];exact hb.putObj hT.lo rfl
 exact ⟨h1,fun w8 hk=>h1.kp hk (fun hm=>q0d hrow hb ht (by simpa using hm))⟩
theorem q1j (W:World)(L:Nat)(o:Obj):Kp [L] W (W.putObj L o):=⟨rfl,rfl,rfl,by simp,fun k _ hn=>World.putObj_heap_other (by simpa using hn)⟩
theorem q3l {w:World}{x:Cp}(h:CpAt w x){b:Nat}(hb:b∈x.B){o:Obj}(ho:w.heap[b]?=some o): ∃cs t,o= .cells cs t (0,0)/\t∈[38,3]:=by
 obtain ⟨cs,t,h1,h2⟩:=q27 h hb
 unfold CBox at h1
 rw[ho]at h1
 cases h1
 exact ⟨cs,t,rfl,h2⟩
theorem qcc {n:Nat}{fn:Func}{tmps:Array Value}{w W W' V w8:World}{c:FdC}{n0:Nat}{ys zs:List Cp}{v:Value}{o:Obj}{FE:Int}{FL:List (List (List Nat))}(h:fn.results=#[.cell 6 31, .cell 7 32])
  (h6:tmps.getD 6 undef= .pointer (some ⟨c.rb,0,none⟩)) (h7:tmps.getD 7 undef= .pointer (some ⟨c.eb,0,none⟩)) (hT:FdT c n0 ys W') (kW:Kp [] w W) (kF:Kp [c.L,c.rb,c.eb,c.ob] W W') (g1:w.heap.size<=c.L/\w.heap.size<=c.rb/\w.heap.size<=c.eb/\w.heap.size<=c.ob/\w.heap.size<=c.D) (hn0:w.heap.size<=n0)
  (hV:V=W'.putObj c.L o) (hk8:Kp v.ownBlock.toList V w8) (_hob:CBox c.ob #[v] 31 W') (hrow:W'.ownsRow n0 37 2 v ys.length (ys.flatMap (mtE c.key))) (hcp: ∀x∈ys,CpAt W' x) (hperm:zs.Perm ys) (hrow8:w8.ownsRow n0 37 2 v ys.length (zs.flatMap (mtE c.key))) (hts:zs.map (·.T)=FL) (hE:FE=0):
  bodyPostM Fence.wide n Tryz.prog fn (fun e w'=> ∃v zs,e= .returned (.tuple #[v, .int .i64 FE])/\FdP w c.key FL v zs w') .ret { tmps:=tmps,defers:=[{ target:= .collected c.D,args:=#[] }] } ((w8.setCell ⟨c.rb,0,none⟩ v).setCell ⟨c.eb,0,none⟩ (.int .i64 0)):=by
 subst hE hts
 obtain ⟨gL,gr,ge,go,gD⟩:=g1
 have r8:=(q5J hT hV hrow hT.br (by decide)).2 w8 hk8
 have e8:=(q5J hT hV hrow hT.be (by decide)).2 w8 hk8
 have hre:c.rb≠c.eb:=q0p hT.br hT.be (by decide)
 have k1:=Kp.set w8 c.rb 0 v
 have k2:=Kp.set (w8.setCell ⟨c.rb,0,none⟩ v) c.eb 0 (.int .i64 0)
 have r9:CBox c.rb #[v] 31 (w8.setCell ⟨c.rb,0,none⟩ v):=r8.set 0 v
 have r10:=r9.kp k2 (by simpa using hre)
 have e10:CBox c.eb #[.int .i64 0] 32 ((w8.setCell ⟨c.rb,0,none⟩ v).setCell ⟨c.eb,0,none⟩ (.int .i64 0)):=(e8.kp k1 (by simpa using hre.symm)).set 0 (.int .i64 0)
 have kV:Kp [c.L] W' V:=by rw[hV];exact q1j _ _ _
 have hDL:c.D≠c.L:=fun e=>by
  have:=hT.dm
  rw[e,hT.lo]at this
  cases this
 have hD8:w8.heap[c.D]?=some (.deferred (some [])):=by
  have hDV:=(kV.block _ (Array.getElem?_eq_some_iff.1 hT.dm).1 (by simpa using hDL)).trans hT.dm
  refine (hk8.block _ (Array.getElem?_eq_some_iff.1 hDV).1 (fun hm=>?_)).trans hDV
  obtain ⟨cs,hc⟩:=q08 hrow (by simpa using hm)
  unfold CBox at hc
  rw[hT.dm]at hc
  cases hc
 have nb: ∀{b:Nat} {cs:Array Value} {t:TypeId},CBox b cs t w8->c.D≠b:=fun hb e=>by
  subst e
  unfold CBox at hb
  rw[hD8]at hb
  cases hb
 have hD9:=(k1.block _ (Array.getElem?_eq_some_iff.1 hD8).1 (by simpa using nb r8)).trans hD8
 have hD10:=(k2.block _ (Array.getElem?_eq_some_iff.1 hD9).1 (by simpa using nb e8)).trans hD9
 have k3:=q1j ((w8.setCell ⟨c.rb,0,none⟩ v).setCell ⟨c.eb,0,none⟩ (.int .i64 0)) c.D (.deferred none)
 have own: ∀b∈v.ownBlock.toList,w.heap.size<=b:=fun b hb=>by
  have:=(hrow.lt b (by simpa using hb)).1
  omega
 have K1:Kp [] w W':=kW.trans kF (fun b hb=>Or.inr (by
  simp only[List.mem_cons,List.not_mem_nil,or_false]at hb
  rcases hb with rfl|rfl|rfl|rfl <;> assumption))
 have K2:Kp [] w w8:=(K1.trans kV (fun b hb=>Or.inr (by rw[List.mem_singleton]at hb;omega))).trans hk8 (fun b hb=>Or.inr (own b hb))
 have K3:Kp [] w (((w8.setCell ⟨c.rb,0,none⟩ v).setCell ⟨c.eb,0,none⟩ (.int .i64 0)).putObj c.D (.deferred none)):=((K2.trans k1 (fun b hb=>Or.inr (by rw[List.mem_singleton]at hb;omega))).trans k2 (fun b hb=>Or.inr (by rw[List.mem_singleton]at hb;omega))).trans k3 (fun b hb=>Or.inr (by rw[List.mem_singleton]at hb;omega))
 have k8:Kp [c.rb,c.eb,c.D] w8 (((w8.setCell ⟨c.rb,0,none⟩ v).setCell ⟨c.eb,0,none⟩ (.int .i64 0)).putObj c.D (.deferred none)):=((k1.mono (by simp)).trans k2 (by simp)).trans k3 (by simp)
 have hlz:zs.length=ys.length:=hperm.length_eq
 refine q7r h h6 h7 hD10 r10 e10 ⟨v,zs,rfl,K3,rfl,fun x hx=>?_,?_⟩
 ·have hxy:=hcp x (hperm.subset hx)
  have hxV:=hxy.kp kV (fun b hb hm=>by
   rw[List.mem_singleton]at hm
   subst hm
   obtain ⟨_,_,e,_⟩:=q3l hxy hb hT.lo
   cases e)
  have hx8:=hxV.kp hk8 (fun b hb hm=>by
   obtain ⟨cs,hc⟩:=q08 hrow (by simpa using hm)
   obtain ⟨cs',t,e,ht⟩:=q3l hxy hb hc
   cases e
   revert ht
   decide)
  refine hx8.kp k8 (fun b hb hm=>?_)
  simp only[List.mem_cons,List.not_mem_nil,or_false]at hm
  rcases hm with rfl|rfl|rfl
  ·obtain ⟨_,_,e,ht⟩:=q3l hx8 hb r8
   cases e
   revert ht
   decide
  ·obtain ⟨_,_,e,ht⟩:=q3l hx8 hb e8
   cases e
   revert ht
   decide
  ·obtain ⟨_,_,e,_⟩:=q3l hx8 hb hD8
   cases e
 ·rw[hlz]
  have hf:=q02 hrow8 k8 (fun b hb hm=>by
   obtain ⟨cs,hc⟩:=q08 hrow8 hb
   simp only[List.mem_cons,List.not_mem_nil,or_false]at hm
   rcases hm with rfl|rfl|rfl
   ·exact q0p hc r8 (by decide) rfl
   ·exact q0p hc e8 (by decide) rfl
   ·unfold CBox at hc
    rw[hD8]at hc
    cases hc)
  obtain ⟨h1,h2|⟨g,cap,cur,h2,h3,h4⟩⟩:=hf
  ·exact ⟨h1,Or.inl h2⟩
  ·exact ⟨h1,Or.inr ⟨g,cap,cur,h2,Nat.le_trans hn0 h3,h4⟩⟩
theorem qcd {n:Nat}{fn:Func}{tmps:Array Value}{w W W':World}{c:FdC}{ys:List Cp}{o:Obj}{FE:Int}{FL:List (List (List Nat))}(h:fn.results=#[.cell 6 31, .cell 7 32])
  (h6:tmps.getD 6 undef= .pointer (some ⟨c.rb,0,none⟩)) (h7:tmps.getD 7 undef= .pointer (some ⟨c.eb,0,none⟩)) (hT:FdF c ys W') (kW:Kp [] w W) (kF:Kp [c.L,c.rb,c.eb,c.ob] W W') (g1:w.heap.size<=c.L/\w.heap.size<=c.rb/\w.heap.size<=c.eb/\w.heap.size<=c.ob/\w.heap.size<=c.D) (hts:FL=[]) (hE:FE=140):
  bodyPostM Fence.wide n Tryz.prog fn (fun e w'=> ∃v zs,e= .returned (.tuple #[v, .int .i64 FE])/\FdP w c.key FL v zs w') .ret { tmps:=tmps,defers:=[{ target:= .collected c.D,args:=#[] }] } (W'.putObj c.L o):=by
 subst hE hts
 obtain ⟨gL,gr,ge,go,gD⟩:=g1
 have kV:=q1j W' c.L o
 have hDL:c.D≠c.L:=fun e=>by
  have:=hT.dm
  rw[e,hT.lo]at this
  cases this
 have hDV:=(kV.block _ (Array.getElem?_eq_some_iff.1 hT.dm).1 (by simpa using hDL)).trans hT.dm
 have k3:=q1j (W'.putObj c.L o) c.D (.deferred none)
 have K1:Kp [] w W':=kW.trans kF (fun b hb=>Or.inr (by
  simp only[List.mem_cons,List.not_mem_nil,or_false]at hb
  rcases hb with rfl|rfl|rfl|rfl <;> assumption))
 exact q7r h h6 h7 hDV (hT.br.putObj hT.lo rfl) (hT.be.putObj hT.lo rfl) ⟨_,[],rfl,FdP.none c.key ((K1.trans kV (fun b hb=>Or.inr (by rw[List.mem_singleton]at hb;omega))).trans k3 (fun b hb=>Or.inr (by rw[List.mem_singleton]at hb;omega)))⟩
end Go.Proofs.YtcmjnlpofebbmaaGreatDoor
