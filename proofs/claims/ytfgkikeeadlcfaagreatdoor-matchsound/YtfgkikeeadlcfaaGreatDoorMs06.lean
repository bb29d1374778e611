/-
  Walks.
-/
import Derived.Test.YtfgkikeeadlcfaaGreatDoorMs05
import Derived.BigQuiet
import Derived.Deep.RegionWith
import Derived.Lib.Builder
import Derived.Laws.Externs
import Derived.Laws.Concat
set_option maxRecDepth 100000
set_option maxHeartbeats 8000000
set_option linter.unusedSimpArgs false
namespace Go.Proofs.YtfgkikeeadlcfaaGreatDoor
open Go.RowKit Go.Shelf
theorem qdf:(Tryz.prog.info? 151).map (fun i=>(i.zero,i.size,i.bytes))=some (some (.int .i8 0),1,1):=by kernel_rfl
theorem qbp:(Tryz.prog.info? 141).map (fun i=>(i.zero,i.size,i.bytes))=some (some (.slice none 0 0),1,24):=by kernel_rfl
def ntR (row:List Int):Array Value:=(row.map (Value.int .i8)).toArray
theorem qfc (n:Nat)(hn:n<=10000000)(W:World):(Instr.makeSlice 141 (.int .i64 (n:Int)) (.int .i64 (n:Int))).run Tryz.prog W= .ok (.slice (some ⟨W.heap.size,0,none⟩) n n) (W.alloc (.cells (ntR (List.replicate n 0)) 151)):=by
 obtain ⟨i0,hi,hz0,hz1,hz2⟩:=info_parts qdf
 have h:=run_make (P:=Tryz.prog) W 141 151 i0 (.int .i8 0) Tryz.underlying141 hi hz0 .i64 .i64 (n:Int) (n:Int) (by omega) (by omega) (by rw[hz2];omega) (by omega)
 rw[hz1]at h
 simp only[Int.toNat_natCast,Nat.mul_one]at h
 rw[h]
 have e:madeCells (Value.int .i8 0).cells n=ntR (List.replicate n 0):=by
  apply Array.ext'
  refine (toList_madeCells_one (Value.int .i8 0) n).trans ?_
  unfold ntR
  simp
 rw[e]
theorem q6z {w:World}{v x:Value}{vs:List Value}(st et:TypeId)(hut:Tryz.prog.underlying st=some (.slice et))(hin:(Tryz.prog.info? et).map (fun i=>(i.zero,i.size,i.bytes))=some (some (.slice none 0 0),1,24))(h:w.ownsRow 0 et 1 v vs.length vs){g c:Nat}(hz:CBox g #[x] et w)(h1:x.oneCell'=true)(hl:vs.length+1<=1000000)(ty:TypeId):
  ∃g' cap w',(Builtin.append_ #[st,st] ty #[v, .slice (some ⟨g,0,none⟩) 1 c]).run Tryz.prog w= .ok (.slice (some ⟨g',0,none⟩) (vs.length+1) cap) w'/\w'.ownsRow 0 et 1 (.slice (some ⟨g',0,none⟩) (vs.length+1) cap) (vs++[x]).length (vs++[x])/\Kp v.ownBlock.toList w w'/\(v.ownBlock=some g'\/w.heap.size<=g'):=by
 obtain ⟨i0,hi,hz0,hz1,hz2⟩:=info_parts hin
 obtain ⟨g',cap,w',hrun,r1,r2,r3,_⟩:=run_append_lies (P:=Tryz.prog) (w:=w) st ty 0 et i0 _ 1 24 hut hi hz0 hz1 hz2 rfl (by decide) v vs.length vs h ⟨g,0,none⟩ 1 c [x] rfl (fun j u hj=>by
  rw[Go.WideShapes.add_plain,Nat.zero_add]
  exact hz.cell (by simpa using hj)) (fun u hu=>by rw[zD]at hu;rw[hu];exact h1) (by omega) (by unfold maxLen;omega) (by omega) (Nat.zero_le _) _ rfl
 refine ⟨g',cap,w',hrun,?_,Kp.of r2,r3.imp_right (fun e=>by omega)⟩
 rw[zF]
 exact r1
def NtV (B Z:Nat)(w:World)(az:List Int)(v:Value):Prop:=(az.length<=1-> ∃b,v= .slice (some ⟨b,0,none⟩) Z Z/\CBox b (ntR (List.replicate Z 0)) 151 w/\B<=b)/\(1<az.length->v= .slice none 0 0)
theorem NtV.kp {B Z:Nat}{w w':World}{az:List Int}{v:Value}{F:List Nat}(h:NtV B Z w az v)(hk:Kp F w w')(hF: ∀b cs,CBox b cs 151 w->b∉F):NtV B Z w' az v:=
 ⟨fun hl=>by
  obtain ⟨b,e,hc,hb⟩:=h.1 hl
  exact ⟨b,e,hc.kp hk (hF b _ hc),hb⟩,h.2⟩
theorem q08 {w:World}{B e sz n:Nat}{v:Value}{xs:List Value}(h:w.ownsRow B e sz v n xs){b:Nat}(hb:v.ownBlock=some b): ∃cur,CBox b cur e w:=by
 obtain ⟨_,⟨rfl,_⟩|⟨g,cp,cur,rfl,_,hh,_⟩⟩:=h
 ·cases hb
 ·simp[Value.ownBlock]at hb
  subst hb
  exact ⟨cur,hh⟩
theorem q0p {w:World}{a b:Nat}{cs ds:Array Value}{t u:TypeId}(h:CBox a cs t w)(h2:CBox b ds u w)(hne:t≠u):a≠b:=fun e=>by
 subst e
 unfold CBox at h h2
 rw[h]at h2
 injection h2 with e2
 injection e2 with _ e3
 exact hne e3
theorem q7S {w:World}{e n:Nat}{v:Value}{xs:List Value}(h:w.ownsRow 0 e 1 v n xs)(he:e≠3):NoI w v.ownBlock.toList:=fun f hf cur fr hc=>by
 obtain ⟨c1,e1⟩:=q08 h (b:=f) (by simpa using hf)
 unfold CBox at e1
 rw[e1]at hc
 injection hc with e2
 injection e2 with _ e3
 exact he e3
theorem q4G {w:World}{b:Nat}{cs:Array Value}{t:TypeId}(h:CBox b cs t w)(he:t≠3):NoI w [b]:=fun f hf cur fr hc=>by
 rw[zD]at hf
 subst hf
 unfold CBox at h
 rw[h]at hc
 injection hc with e2
 injection e2 with _ e3
 exact he e3
structure XtS (w:World)(gt B Z:Nat)(aA aN:List (List Int))(av nv:Value)(avs nvs:List Value)(wr:World):Prop where
 bx:CBox B #[.pointer (some ⟨gt,0,none⟩),av,nv] 139 wr
 ar:VRo wr av avs
 ai:RowsI wr avs aA
 nr:wr.ownsRow 0 141 1 nv nvs.length nvs
 nl:nvs.length=aN.length
 ni: ∀(t:Nat) (v:Value) (a:List Int),nvs[t]?=some v->aN[t]?=some a->NtV B Z wr a v
 nd: ∀(i j:Nat) (a b:Value) (k:Nat),nvs[i]?=some a->nvs[j]?=some b->a.ownBlock=some k->b.ownBlock=some k->i=j
 nw: ∀v∈av::nv::avs, ∀b,v.ownBlock=some b->B<=b
 kp:Kp [] w wr
 lo:w.heap.size<=B
theorem XtS.go {w wr w':World}{gt B Z:Nat}{aA aN:List (List Int)}{av nv:Value}{avs nvs:List Value}(h:XtS w gt B Z aA aN av nv avs nvs wr)(hk:Kp [] wr w'):XtS w gt B Z aA aN av nv avs nvs w':=
 ⟨h.bx.kp hk (by simp),h.ar.kp hk (by simp),h.ai.kpT hk (fun f hf=>by cases hf),q03 h.nr hk (by simp),h.nl,fun t v a hv ha=>(h.ni t v a hv ha).kp hk (by simp),h.nd,h.nw,h.kp.trans hk (by simp),h.lo⟩
theorem XtS.nlt {w wr:World}{gt B Z:Nat}{aA aN:List (List Int)}{av nv:Value}{avs nvs:List Value}(h:XtS w gt B Z aA aN av nv avs nvs wr): ∀u∈nvs, ∀b,u.ownBlock=some b->b<wr.heap.size:=fun u hu b hb=>by
 obtain ⟨t,ht,rfl⟩:=List.getElem_of_mem hu
 have hn:=h.ni t _ _ (zE ht) (zE (by rw[<-h.nl];exact ht))
 rcases Nat.lt_or_ge 1 (aN[t]'(by rw[<-h.nl];exact ht)).length with h1|h1
 ·rw[hn.2 h1]at hb
  cases hb
 ·obtain ⟨b',e,hc,_⟩:=hn.1 h1
  rw[e]at hb
  simp[Value.ownBlock]at hb
  subst hb
  exact (zB.1 hc).1
theorem XtS.pushA {w wr:World}{gt B Z:Nat}{aA aN:List (List Int)}{av nv:Value}{avs nvs:List Value}(h:XtS w gt B Z aA aN av nv avs nvs wr){x:Value}{a:List Int}(hx:IRo wr x a)(hxb: ∀b,x.ownBlock=some b->B<=b){g c:Nat}(hz:CBox g #[x] 51 wr)(h1:x.oneCell'=true)(hl:aA.length+1<=1000000)(ty:TypeId):
  ∃g' cap w',(Builtin.append_ #[26,26] ty #[av, .slice (some ⟨g,0,none⟩) 1 c]).run Tryz.prog wr= .ok (.slice (some ⟨g',0,none⟩) (aA.length+1) cap) w'/\CBox B #[.pointer (some ⟨gt,0,none⟩),av,nv] 139 w'/\
   XtS w gt B Z (aA++[a]) aN (.slice (some ⟨g',0,none⟩) (aA.length+1) cap) nv (avs++[x]) nvs (w'.setCell ⟨B,1,none⟩ (.slice (some ⟨g',0,none⟩) (aA.length+1) cap))/\ ∀(b:List Int) (v:Value),NtV B Z wr b v->NtV B Z (w'.setCell ⟨B,1,none⟩ (.slice (some ⟨g',0,none⟩) (aA.length+1) cap)) b v:=by
 have hll:avs.length=aA.length:=h.ai.1
 obtain ⟨g',cap,w',hrun,r1,r2,r3⟩:=q6z (c:=c) 26 51 Tryz.underlying26 q2H h.ar hz h1 (by rw[hll];exact hl) ty
 rw[hll]at hrun r1
 have hlt:B<wr.heap.size:=(zB.1 h.bx).1
 have hBa:B∉av.ownBlock.toList:=fun hm=>q0d h.ar h.bx (by decide) (by simpa using hm)
 have hb1:=h.bx.kp r2 hBa
 have hks:=Kp.set w' B 1 (.slice (some ⟨g',0,none⟩) (aA.length+1) cap)
 have hn1:w'.ownsRow 0 141 1 nv nvs.length nvs:=q03 h.nr r2 (fun x hx hm=>q2B h.nr h.ar (by decide) x hx hm)
 have hgB:B<=g':=by
  rcases r3 with r3|r3
  ·exact h.nw av (by simp) g' r3
  ·omega
 have hstep: ∀(b:List Int) (v:Value),NtV B Z wr b v->NtV B Z (w'.setCell ⟨B,1,none⟩ (.slice (some ⟨g',0,none⟩) (aA.length+1) cap)) b v:=fun b v hv=>(hv.kp r2 (fun b cs hc hm=>q0d h.ar hc (by decide) (by simpa using hm))).kp hks (fun b cs hc hm=>by
  rw[zD]at hm
  exact q0p hc hb1 (by decide) hm)
 refine ⟨g',cap,w',hrun,hb1,⟨hb1.set 1 _,VRo.kp (v:= .slice (some ⟨g',0,none⟩) (aA.length+1) cap) (show VRo w' _ _ from r1) hks (fun b hb hm=>?_),((RowsI.snoc h.ai hx).kpT r2 (q7S h.ar (by decide))).kpT hks (q4G hb1 (by decide)),q03 hn1 hks (fun b hb hm=>?_),h.nl,fun t v a hv ha=>hstep _ _ (h.ni t v a hv ha),h.nd,fun v hv b hb=>?_,(h.kp.trans r2 (fun x hx=>Or.inr ?_)).trans hks (fun x hx=>Or.inr ?_),h.lo⟩,hstep⟩
 ·rw[zD]at hm
  subst hm
  obtain ⟨cur,hc⟩:=q08 r1 hb
  exact q0p hc hb1 (by decide) rfl
 ·rw[zD]at hm
  subst hm
  exact q0d hn1 hb1 (by decide) hb
 ·rw[zH,zH,zG,zD]at hv
  rcases hv with rfl|rfl|hv|rfl
  ·simp[Value.ownBlock]at hb
   omega
  ·exact h.nw v (by simp) b hb
  ·exact h.nw v (by simp[hv]) b hb
  ·exact hxb b hb
 ·have:=h.nw av (by simp) x (by simpa using hx)
  have:=h.lo
  omega
 ·rw[zD]at hx
  rw[hx]
  exact h.lo
theorem XtS.pushN {w wr:World}{gt B Z:Nat}{aA aN:List (List Int)}{av nv:Value}{avs nvs:List Value}(h:XtS w gt B Z aA aN av nv avs nvs wr){x:Value}{a:List Int}(hx:NtV B Z wr a x)(hxn: ∀u∈nvs, ∀b,x.ownBlock=some b->u.ownBlock≠some b){g c:Nat}(hz:CBox g #[x] 141 wr)(h1:x.oneCell'=true)(hl:aN.length+1<=1000000)(ty:TypeId):
  ∃g' cap w',(Builtin.append_ #[137,137] ty #[nv, .slice (some ⟨g,0,none⟩) 1 c]).run Tryz.prog wr= .ok (.slice (some ⟨g',0,none⟩) (aN.length+1) cap) w'/\CBox B #[.pointer (some ⟨gt,0,none⟩),av,nv] 139 w'/\
   XtS w gt B Z aA (aN++[a]) av (.slice (some ⟨g',0,none⟩) (aN.length+1) cap) avs (nvs++[x]) (w'.setCell ⟨B,2,none⟩ (.slice (some ⟨g',0,none⟩) (aN.length+1) cap)):=by
 have hll:nvs.length=aN.length:=h.nl
 obtain ⟨g',cap,w',hrun,r1,r2,r3⟩:=q6z (c:=c) 137 141 Tryz.underlying137 qbp h.nr hz h1 (by rw[hll];exact hl) ty
 rw[hll]at hrun r1
 have hlt:B<wr.heap.size:=(zB.1 h.bx).1
 have hBa:B∉nv.ownBlock.toList:=fun hm=>q0d h.nr h.bx (by decide) (by simpa using hm)
 have hb1:=h.bx.kp r2 hBa
 have hks:=Kp.set w' B 2 (.slice (some ⟨g',0,none⟩) (aN.length+1) cap)
 have ha1:VRo w' av avs:=h.ar.kp r2 (fun x hx hm=>q2B h.ar h.nr (by decide) x hx hm)
 have hgB:B<=g':=by
  rcases r3 with r3|r3
  ·exact h.nw nv (by simp) g' r3
  ·omega
 have hstep: ∀{v:Value} {a:List Int},NtV B Z wr a v->NtV B Z (w'.setCell ⟨B,2,none⟩ (.slice (some ⟨g',0,none⟩) (aN.length+1) cap)) a v:=fun hv=>(hv.kp r2 (fun b cs hc hm=>q0d h.nr hc (by decide) (by simpa using hm))).kp hks (fun b cs hc hm=>by
  rw[zD]at hm
  exact q0p hc hb1 (by decide) hm)
 refine ⟨g',cap,w',hrun,hb1,⟨hb1.set 2 _,ha1.kp hks (fun b hb hm=>?_),(h.ai.kpT r2 (q7S h.nr (by decide))).kpT hks (q4G hb1 (by decide)),q03 r1 hks (fun b hb hm=>?_),by rw[zF,zF,hll];rfl,fun t v b hv hb=>?_,fun i j u v y hu hv hyu hyv=>?_,fun v hv b hb=>?_,(h.kp.trans r2 (fun x hx=>Or.inr ?_)).trans hks (fun x hx=>Or.inr ?_),h.lo⟩⟩
 ·rw[zD]at hm
  subst hm
  exact q0d ha1 hb1 (by decide) hb
 ·rw[zD]at hm
  subst hm
  obtain ⟨cur,hc⟩:=q08 r1 hb
  exact q0p hc hb1 (by decide) rfl
 ·rcases Nat.lt_or_ge t nvs.length with ht|ht
  ·rw[List.getElem?_append_left ht]at hv
   rw[List.getElem?_append_left (by omega)]at hb
   exact hstep (h.ni t v b hv hb)
  ·rw[List.getElem?_append_right ht]at hv
   rw[List.getElem?_append_right (by omega)]at hb
   have e1:=List.mem_of_getElem? hv
   have e2:=List.mem_of_getElem? hb
   rw[zD]at e1 e2
   subst e1 e2
   exact hstep hx
 ·have key: ∀(i:Nat) (u:Value),(nvs++[x])[i]?=some u->(i<nvs.length/\nvs[i]?=some u)\/(i=nvs.length/\u=x):=fun i u hu=>by
   rcases Nat.lt_or_ge i nvs.length with hi|hi
   ·rw[List.getElem?_append_left hi]at hu
    exact Or.inl ⟨hi,hu⟩
   ·have hlt:=(zC.1 hu).1
    rw[List.getElem?_append_right hi]at hu
    have e1:=List.mem_of_getElem? hu
    rw[zD]at e1
    rw[zF,List.length_singleton]at hlt
    exact Or.inr ⟨by omega,e1⟩
  rcases key i u hu with ⟨hi,hu'⟩|⟨hi,rfl⟩
  ·rcases key j v hv with ⟨hj,hv'⟩|⟨hj,rfl⟩
   ·exact h.nd i j u v y hu' hv' hyu hyv
   ·exact absurd hyu (hxn u (List.mem_of_getElem? hu') y hyv)
  ·rcases key j v hv with ⟨hj,hv'⟩|⟨hj,rfl⟩
   ·exact absurd hyv (hxn v (List.mem_of_getElem? hv') y hyu)
   ·omega
 ·rw[zH,zH]at hv
  rcases hv with rfl|rfl|hv
  ·exact h.nw v (by simp) b hb
  ·simp[Value.ownBlock]at hb
   omega
  ·exact h.nw v (by simp[hv]) b hb
 ·have:=h.nw nv (by simp) x (by simpa using hx)
  have:=h.lo
  omega
 ·rw[zD]at hx
  rw[hx]
  exact h.lo
def asks (l:List SR):List (List Int):=l.map fun r=>asZ l r.s.cd
theorem q0V (l:List SR):(asks l).length=l.length:=by unfold asks;rw[zI]
theorem q5n (gt:Nat)(sa:Option Addr)(sc:Nat)(l:List SR)(W:Nat)(ea:Option Addr)(m ec:Nat)(nv0:Value)(w:World)(hb:CBox gt (ntC sa l.length sc (W:Int) ea m ec nv0) 113 w)(h:StsAt w sa l)(h8:l.length<=8)(hT:TbE w)(hfit: ∀r∈l, ∀q∈r.s.cd,q.fit)(hW:W<=256)(hm:m<=4096):
  Calls Tryz.prog 56 #[.pointer (some ⟨gt,0,none⟩)] w fun e w'=>e= .returned (.pointer (some ⟨w.heap.size,0,none⟩))/\ ∃av nv avs nvs,XtS w gt w.heap.size (m * W) (asks l) (asks l) av nv avs nvs w':=by
 have hgl:gt<w.heap.size:=(zB.1 hb).1
 have HGT:Hid (∀W',Kp [] w W'->W'.cell? ⟨gt,0,none⟩=some (.slice sa l.length sc)/\W'.cell? ⟨gt,1,none⟩=some (.int .i64 (W:Int))/\W'.cell? ⟨gt,2,none⟩=some (.slice ea m ec)):=hZq (fun W' hk=>by
  have:=hb.kp hk (by simp)
  exact ⟨this.cell rfl,this.cell rfl,this.cell rfl⟩)
 have HST:=hZq (fun (i:Nat) (hi:i<l.length) W' (hk:Kp [] w W')=>(h.kp hk).at i hi)
 have HSA:=hZq (fun (i:Nat) (hi:i<l.length) W' (hk:Kp [] w W') (hpt:PtsAt W' l[i].ad l[i].s.cd)=>q2h sa sc l (W:Int) l[i].s.nm l[i].s.hw l[i].s.mn l[i].ad l[i].c l[i].s.cd W' (h.kp hk) h8 hpt (hT.kp hk (by simp)) (hfit _ (zJ hi)))
 have HNX:Hid (∀i (hi:i<l.length),(asks l).take (i+1)=(asks l).take i++[asZ l l[i].s.cd]):=hZq (fun i hi=>by
  rw[List.take_add_one]
  unfold asks
  rw[List.getElem?_map,zE hi]
  rfl)
 have HTL:Hid (∀i,i<=l.length->((asks l).take i).length=i):=hZq (fun i hi=>by rw[zL,q0V];omega)
 have HEN:Hid ((asks l).take l.length=asks l):=hZq (by rw[<-q0V,List.take_length])
 have k1:=Kp.alloc w (.cells #[.pointer (some ⟨gt,0,none⟩), .slice none 0 0, .slice none 0 0] 139)
 have H0:Hid (XtS w gt w.heap.size (m * W) [] [] (.slice none 0 0) (.slice none 0 0) [] [] (w.alloc (.cells #[.pointer (some ⟨gt,0,none⟩), .slice none 0 0, .slice none 0 0] 139))):=hZq ⟨CBox.new w _ _,World.ownsRow_nil _ _ _ _,RowsI.nil _,World.ownsRow_nil _ _ _ _,rfl,by simp,by simp,by simp[Value.ownBlock],k1,zM _⟩
 obtain ⟨d0,d1,d2⟩:=uQ HGT w (Kp.refl _ _)
 obtain ⟨e0, -, -⟩:=uQ HGT _ k1
 have hmul:IntKind.i64.wrap ((m:Int) * (W:Int))=(m:Int) * (W:Int):=by
  have h1:m * W<=4096 * 256:=Nat.mul_le_mul hm hW
  have h2:(m:Int) * (W:Int)=((m * W:Nat):Int):=by push_cast;rfl
  simp only[IntKind.wrap_i64]
  omega
 have MK: ∀W',(Instr.makeSlice 141 (.int .i64 ((m:Int) * (W:Int))) (.int .i64 ((m:Int) * (W:Int)))).run Tryz.prog W'= .ok (.slice (some ⟨W'.heap.size,0,none⟩) (m * W) (m * W)) (W'.alloc (.cells (ntR (List.replicate (m * W) 0)) 151)):=fun W'=>by
  have h1:m * W<=4096 * 256:=Nat.mul_le_mul hm hW
  have:=qfc (m * W) (by omega) W'
  rw[show ((m * W:Nat):Int)=(m:Int) * (W:Int) by push_cast;rfl]at this
  exact this
 generalize m * W=Z at *
 clear hb h hT hfit k1
 generalize asks l=AS at *
 obtain ⟨n,hn⟩: ∃n,l.length=n:=⟨_,rfl⟩
 have HN:=hZq hn
 rw[hn]at h8 HEN d0 e0 HTL HGT
 clear hn
 go_enter Tryz.func56,Tryz.ntmps56
 go_wp2_with fail
 go_loopw [17] (fun iv wr=> ∃(i:Nat) (av nv:Value) (avs nvs:List Value),i<=n/\iv= .int .i64 (i:Int)/\Hid (XtS w gt w.heap.size Z (AS.take i) (AS.take i) av nv avs nvs wr)) (fun iv _=>n-(intOf iv).toNat)
 case atStart=>exact ⟨0,_,_,_,_,Nat.zero_le _,rfl,H0⟩
 case round=>
  obtain ⟨i,av,nv,avs,nvs,hi,rfl,HC⟩:=hrel
  clear H0 d0 d1 d2 e0
  by_cases hlt:i<n
  ·have hiT:i<l.length:=by rw[uQ HN];exact hlt
   have hli:(i:Int)<(n:Int):=by omega
   obtain ⟨sb,so,hsa, -,s0,s1,s2,s3,hpt⟩:=uQ HST i hiT wr (uQ HC).kp
   have htl:=uQ HTL i hi
   have hnx:=uQ HNX i hiT
   have hkr:=(uQ HC).kp
   have SA0:=fun W' (hk:Kp [] wr W')=>uQ HSA i hiT W' (hkr.trans hk (by simp)) (hpt.kp hk)
   generalize l[i]=r at *
   obtain ⟨⟨rnm,rhw,rmn,rcd⟩,rad,rc⟩:=r
   dsimp only at s0 s1 s2 s3 hnx SA0 hpt
   subst hsa
   have ka:Kp [] wr (wr.alloc (.cells #[.string rnm, .int .i64 rhw, .bool rmn, .slice rad rcd.length rc] 88)).drew:=(Kp.alloc _ _).trans (Kp.drew _) (by simp)
   have hsb:CBox wr.heap.size #[.string rnm, .int .i64 rhw, .bool rmn, .slice rad rcd.length rc] 88 (wr.alloc (.cells #[.string rnm, .int .i64 rhw, .bool rmn, .slice rad rcd.length rc] 88)).drew:=(CBox.new wr _ _).kp (Kp.drew _) (by simp)
   have SA:=hZq (SA0 _ ka)
   obtain ⟨q0,q1,q2⟩:=uQ HGT _ (hkr.trans ka (by simp))
   rw[uQ HN]at SA
   have cS:(wr.alloc (.cells #[.string rnm, .int .i64 rhw, .bool rmn, .slice rad rcd.length rc] 88)).drew.cell? ⟨gt,0,none⟩=some (.slice (some ⟨sb,so,none⟩) n sc)/\(wr.alloc (.cells #[.string rnm, .int .i64 rhw, .bool rmn, .slice rad rcd.length rc] 88)).drew.cell? ⟨gt,1,none⟩=some (.int .i64 (W:Int))/\(wr.alloc (.cells #[.string rnm, .int .i64 rhw, .bool rmn, .slice rad rcd.length rc] 88)).drew.cell? ⟨wr.heap.size,0,none⟩=some (.string rnm)/\(wr.alloc (.cells #[.string rnm, .int .i64 rhw, .bool rmn, .slice rad rcd.length rc] 88)).drew.cell? ⟨wr.heap.size,1,none⟩=some (.int .i64 rhw)/\(wr.alloc (.cells #[.string rnm, .int .i64 rhw, .bool rmn, .slice rad rcd.length rc] 88)).drew.cell? ⟨wr.heap.size,2,none⟩=some (.bool rmn)/\(wr.alloc (.cells #[.string rnm, .int .i64 rhw, .bool rmn, .slice rad rcd.length rc] 88)).drew.cell? ⟨wr.heap.size,3,none⟩=some (.slice rad rcd.length rc):=⟨q0,q1,hsb.cell rfl,hsb.cell rfl,hsb.cell rfl,hsb.cell rfl⟩
   have HS:Hid (∀W',Kp [] (wr.alloc (.cells #[.string rnm, .int .i64 rhw, .bool rmn, .slice rad rcd.length rc] 88)).drew W'->W'.cell? ⟨gt,0,none⟩=some (.slice (some ⟨sb,so,none⟩) n sc)/\W'.cell? ⟨gt,1,none⟩=some (.int .i64 (W:Int))/\W'.cell? ⟨wr.heap.size,0,none⟩=some (.string rnm)/\W'.cell? ⟨wr.heap.size,1,none⟩=some (.int .i64 rhw)/\W'.cell? ⟨wr.heap.size,2,none⟩=some (.bool rmn)/\W'.cell? ⟨wr.heap.size,3,none⟩=some (.slice rad rcd.length rc)):=hZq (fun W' hk=>by
    obtain ⟨z0,z1,_⟩:=uQ HGT W' ((hkr.trans ka (by simp)).trans hk (by simp))
    have z2:=hsb.kp hk (by simp)
    exact ⟨z0,z1,z2.cell rfl,z2.cell rfl,z2.cell rfl,z2.cell rfl⟩)
   have HKA:=hZq ka
   generalize asZ l rcd=A at *
   generalize rcd.length=xn at *
   clear HSA HST HNX HTL SA0 hpt hsb ka q0 q1 q2 hkr
   have hwlt:wr.heap.size<(wr.alloc (.cells #[.string rnm, .int .i64 rhw, .bool rmn, .slice rad xn rc] 88)).drew.heap.size:=by simp
   go_wp2_with fail
   go_region_held3 (fun W'=>W'.cell? ⟨gt,0,none⟩=some (.slice (some ⟨sb,so,none⟩) n sc)/\W'.cell? ⟨gt,1,none⟩=some (.int .i64 (W:Int))/\W'.cell? ⟨wr.heap.size,0,none⟩=some (.string rnm)/\W'.cell? ⟨wr.heap.size,1,none⟩=some (.int .i64 rhw)/\W'.cell? ⟨wr.heap.size,2,none⟩=some (.bool rmn)/\W'.cell? ⟨wr.heap.size,3,none⟩=some (.slice rad xn rc))
    (first|with_reducible exact cS|exact uQ HS _ (by assumption))
    (first
     |(go_at_call 84;refine (uQ SA).mono ?_;rintro e w2 ⟨v2,rfl,hI2,hB2,hk2⟩))
   have hkW:Kp [] wr w2:=(uQ HKA).trans hk2 (by simp)
   have hsz2:wr.heap.size<w2.heap.size:=by have:=hk2.size;simp at this;omega
   clear SA HS cS hwlt hk2 HKA
   obtain ⟨a2,c2,rfl⟩: ∃a c,v2= .slice a A.length c:=by
    obtain ⟨a,c,e,_⟩:=hI2.at
    exact ⟨a,c,e⟩
   have HC2:=hZq ((uQ HC).go hkW)
   have HI2:=hZq (And.intro hI2 (fun b hb=>hB2 b hb))
   have hB2': ∀b,(Value.slice a2 A.length c2).ownBlock=some b->w.heap.size<=b:=fun b hb=>by
    have h1:=hB2 b hb
    have h2:=(uQ HC).kp.size
    simp at h1
    omega
   have HB2:=hZq hB2'
   obtain ⟨r0,r1,r2⟩:=uQ HGT w2 (uQ HC2).kp
   clear HC hI2 hB2 hB2' hkW
   go_upto_if 29 with fail
   go_cut [7] (fun xv wc=> ∃(xa:Option Addr) (xm xc:Nat),xv= .slice xa xm xc/\Hid (NtV w.heap.size Z wc A (.slice xa xm xc)/\(∀b,(Value.slice xa xm xc).ownBlock=some b->w2.heap.size<=b)/\Kp [] w2 wc))
   case first=>
    by_cases hA:A.length<=1
    ·have hA1:((A.length:Int)<=1):=by omega
     have cS:w2.drew.cell? ⟨gt,1,none⟩=some (.int .i64 (W:Int))/\w2.drew.cell? ⟨gt,2,none⟩=some (.slice ea m ec):=⟨r1,r2⟩
     have cS2:(w2.alloc (.cells (ntR (List.replicate Z 0)) 151)).drew.cell? ⟨gt,1,none⟩=some (.int .i64 (W:Int))/\(w2.alloc (.cells (ntR (List.replicate Z 0)) 151)).drew.cell? ⟨gt,2,none⟩=some (.slice ea m ec):=⟨(Kp.alloc w2 _).cell r1 (by simp),(Kp.alloc w2 _).cell r2 (by simp)⟩
     have HF:Hid (NtV w.heap.size Z (w2.drew.alloc (.cells (ntR (List.replicate Z 0)) 151)) A (.slice (some ⟨w2.drew.heap.size,0,none⟩) Z Z)/\(∀b,(Value.slice (some ⟨w2.drew.heap.size,0,none⟩) Z Z).ownBlock=some b->w2.heap.size<=b)/\Kp [] w2 (w2.drew.alloc (.cells (ntR (List.replicate Z 0)) 151))):=by
      refine hZq ⟨⟨fun _=>⟨_,rfl,CBox.new _ _ _,?_⟩,fun h=>by omega⟩,fun b hb=>?_,(Kp.drew w2).trans (Kp.alloc _ _) (by simp)⟩
      ·have h1:=(uQ HC2).kp.size
       show w.heap.size<=w2.heap.size
       exact h1
      ·simp[Value.ownBlock]at hb
       subst hb
       exact zM _
     clear HC2 HI2 HB2 HGT hnx htl HEN
     go_wp2_with fail
     go_region_held3 (fun W'=>W'.cell? ⟨gt,1,none⟩=some (.int .i64 (W:Int))/\W'.cell? ⟨gt,2,none⟩=some (.slice ea m ec))
      (first|with_reducible exact cS|exact cS2)
      (first|fail)
     go_wp2
     go_meet
     exact ⟨_,_,_,rfl,HF⟩
    ·have hA1: ¬ ((A.length:Int)<=1):=by omega
     have HF:Hid (NtV w.heap.size Z w2 A (.slice none 0 0)/\(∀b,(Value.slice none 0 0).ownBlock=some b->w2.heap.size<=b)/\Kp [] w2 w2):=hZq ⟨⟨fun h=>absurd h hA,fun _=>rfl⟩,by simp[Value.ownBlock],Kp.refl _ _⟩
     clear HC2 HI2 HB2 HGT hnx htl HEN
     go_wp2
     go_meet
     exact ⟨_,_,_,rfl,HF⟩
   case rest=>
    obtain ⟨xa,xm,xc,rfl,HX⟩:=hcut
    obtain ⟨hX1,hX2,hX3⟩:=uQ HX
    have hC3:=(uQ HC2).go hX3
    obtain ⟨aa,ac,rfl⟩: ∃a c,av= .slice a i c:=by
     have h1:=hC3.ai.1
     rw[htl]at h1
     obtain ⟨_,⟨e,e2⟩|⟨g,c,cur,e,_⟩⟩:=hC3.ar
     ·exact ⟨none,0,by rw[e];congr 1;omega⟩
     ·exact ⟨_,c,by rw[e,h1]⟩
    obtain ⟨na,nc,rfl⟩: ∃a c,nv= .slice a i c:=by
     have h1:=hC3.nl
     rw[htl]at h1
     obtain ⟨_,⟨e,e2⟩|⟨g,c,cur,e,_⟩⟩:=hC3.nr
     ·exact ⟨none,0,by rw[e];congr 1;omega⟩
     ·exact ⟨_,c,by rw[e,h1]⟩
    have y1:wc.cell? ⟨w.heap.size,1,none⟩=some (.slice aa i ac):=hC3.bx.cell rfl
    have kA:=Kp.alloc wc (.cells #[.slice a2 A.length c2] 51)
    obtain ⟨g3,cap3,w3,hrun3,hb3,hC4,hst3⟩:=(hC3.go kA).pushA (((uQ HI2).1.kp hX3 (by simp)).kp kA (by simp)) (uQ HB2) (g:=wc.heap.size) (c:=1) (CBox.new wc _ _) rfl (by rw[htl];omega) 26
    rw[htl]at hrun3 hC4 hst3
    have f1:=hb3.froz 1
    have y1':w3.cell? ⟨w.heap.size,1,none⟩=some (.slice aa i ac):=hb3.cell rfl
    have hblt:w.heap.size<wc.heap.size:=(zB.1 hC3.bx).1
    have y2:(w3.setCell ⟨w.heap.size,1,none⟩ (.slice (some ⟨g3,0,none⟩) (i+1) cap3)).cell? ⟨w.heap.size,2,none⟩=some (.slice na i nc):=hC4.bx.cell rfl
    have kN:NtV w.heap.size Z (w3.setCell ⟨w.heap.size,1,none⟩ (.slice (some ⟨g3,0,none⟩) (i+1) cap3)) A (.slice xa xm xc):=hst3 _ _ (hX1.kp kA (by simp))
    have hsz4:(w3.setCell ⟨w.heap.size,1,none⟩ (.slice (some ⟨g3,0,none⟩) (i+1) cap3)).heap.size=w3.heap.size:=by simp[World.setCell]
    have kB:=Kp.alloc (w3.setCell ⟨w.heap.size,1,none⟩ (.slice (some ⟨g3,0,none⟩) (i+1) cap3)) (.cells #[.slice xa xm xc] 141)
    obtain ⟨g5,cap5,w5,hrun5,hb5,hC6⟩:=(hC4.go kB).pushN (kN.kp kB (by simp)) (fun u hu b hb hub=>by have h1:=(uQ HC2).nlt u hu b hub;have h2:=hX2 b hb;omega) (g:=(w3.setCell ⟨w.heap.size,1,none⟩ (.slice (some ⟨g3,0,none⟩) (i+1) cap3)).heap.size) (c:=1) (CBox.new _ _ _) rfl (by rw[htl];omega) 137
    rw[htl]at hrun5 hC6
    rw[hsz4]at hrun5
    rw[<-hnx]at hC6
    have f2:=hb5.froz 2
    have y2':w5.cell? ⟨w.heap.size,2,none⟩=some (.slice na i nc):=hb5.cell rfl
    have HR3:=hZq hrun3
    have HR5:=hZq hrun5
    have HFIN:=hZq hC6
    clear hC3 hC4 hC6 hX1 hX2 hX3 HX HC2 HI2 HB2 HGT hnx htl HEN kA kB kN hrun3 hrun5 hb3 hb5 hsz4 r0 r1 r2 hst3
    go_wp2_with (first|(at_builtin;refine q0g rfl _ _ _ rfl rfl rfl (uQ HR5) ?_)|(at_builtin;refine q0g rfl _ _ _ rfl rfl rfl (uQ HR3) ?_))
    go_roundw
    case rel=>exact ⟨i+1,_,_,_,_,by omega,by go_num,HFIN⟩
    case measure=>simp[intOf];omega
  ·obtain rfl:i=n:=by omega
   have hC:=uQ HC
   rw[uQ HEN]at hC
   clear HC HST HNX HTL HEN HSA HGT
   go_wp2
   go_ret
   exact ⟨rfl,_,_,_,_,hC⟩
theorem q95 (l:List Stg): ∀(ah:List ByteArray) (i:Nat),bad1 l ah i=none-> ∀k (h:k<l.length),stOk l[k] (ah++q00 (l.take k))=true:=by
 induction l with
 |nil=>intro ah i _ k h;simp at h
 |cons s r ih=>
  intro ah i hb k h
  rw[bad1]at hb
  split at hb
  ·rename_i hs
   cases k with
   |zero=>simpa [q00] using hs
   |succ k=>
    have:=ih (ah++[s.nm]) (i+1) hb k (by simpa using h)
    simpa [q00] using this
  ·cases hb
theorem q16 {p:Ptn}(h:(pcR p).2=0):1<=p.ss.length/\p.ss.length<=8/\(1<=p.wi/\p.wi<=256)/\ ∀k (hk:k<p.ss.length),stOk p.ss[k] (q00 (p.ss.take k))=true:=by
 unfold pcR at h
 split at h
 ·simp at h
 ·rename_i hn
  split at h
  ·simp at h
  ·rename_i hb
   split at h
   ·rename_i hw
    unfold wiOk at hw
    simp at hw
    refine ⟨by omega,by omega,hw,fun k hk=>?_⟩
    have:=q95 p.ss [] 0 hb k hk
    simpa using this
   ·simp at h
def asT (ss:List Stg)(t:Nat):List Nat:=match ss[t]? with
 |some s=>(stgS s.cd).map fun n=>fstN n (q00 ss)
 |none=>[]
theorem q67 (ss:List Stg)(t:Nat):q00 (ss.take t)=(q00 ss).take t:=by unfold q00;rw[List.map_take]
section
variable {p:Ptn} (hp:(pcR p).2=0)
include hp
theorem qco {t:Nat}{s:Stg}(hs:p.ss[t]?=some s){n:ByteArray}(hn:n∈stgS s.cd):fstN n (q00 p.ss)<t:=by
 obtain ⟨ht,e⟩:=zC.1 hs
 have h:=(q16 hp).2.2.2 t ht
 rw[e]at h
 unfold stOk cdOk at h
 simp only[Bool.and_eq_true]at h
 have h1:=List.all_eq_true.1 h.2.2.2.2 n hn
 rw[q1z,q67]at h1
 obtain ⟨j,hj,he⟩:=List.getElem_of_mem h1
 rw[zL]at hj
 rw[List.getElem_take]at he
 have hlt:fstN n (q00 p.ss)<(q00 p.ss).length:=(q2G _ _).2 (by rw[<-he];exact zJ _)
 rcases Nat.lt_or_ge (fstN n (q00 p.ss)) t with h3|h3
 ·exact h3
 ·exact absurd he ((q1y hlt).2 j (by omega))
theorem q5q (t:Nat): ∀i∈asT p.ss t,i<t:=fun i hi=>by
 unfold asT at hi
 cases hs:p.ss[t]? with
 |none=>rw[hs]at hi;cases hi
 |some s=>
  rw[hs]at hi
  obtain ⟨n,hn,rfl⟩:=List.mem_map.1 hi
  exact qco hp hs hn
theorem q9T {i j:Nat}(hij:i<j)(hj:j<(q00 p.ss).length):(q00 p.ss)[i]'(by omega)≠(q00 p.ss)[j]:=fun e=>by
 have hj':j<p.ss.length:=by rw[<-q0F];exact hj
 have h:=(q16 hp).2.2.2 j hj'
 unfold stOk at h
 simp only[Bool.and_eq_true,Bool.not_eq_true']at h
 have h1:=h.2.1
 rw[q67]at h1
 have h2:hasN ((q00 p.ss).take j) p.ss[j].nm=true:=by
  rw[q1z]
  have e2:(q00 p.ss)[j]=p.ss[j].nm:=List.getElem_map (fun s:Stg=>s.nm)
  rw[<-e2, <-e]
  exact List.mem_iff_getElem.2 ⟨i,by rw[zL];omega,by rw[List.getElem_take]⟩
 rw[h1]at h2
 cases h2
theorem q93 {t i:Nat}(h:Mt.askP p t i=true):i∈asT p.ss t:=by
 unfold Mt.askP at h
 unfold asT
 cases hs:p.ss[t]? with
 |none=>rw[hs]at h;cases h
 |some s=>
  rw[hs]at h
  cases hn:(q00 p.ss)[i]? with
  |none=>rw[hn]at h;cases h
  |some n=>
   rw[hn]at h
   dsimp only at h ⊢
   refine List.mem_map.2 ⟨n,(q1z _ _).1 h,?_⟩
   obtain ⟨hi,e⟩:=zC.1 hn
   have hlt:fstN n (q00 p.ss)<(q00 p.ss).length:=(q2G _ _).2 (by rw[<-e];exact zJ _)
   have hat:=q1y hlt
   rcases Nat.lt_trichotomy (fstN n (q00 p.ss)) i with h1|h1|h1
   ·exact absurd (hat.1.trans e.symm) (q9T hp h1 hi)
   ·exact h1
   ·exact absurd e (hat.2 i h1)
end
theorem q92 {l:List SR}{wi:Int}(hp:(pcR ⟨stgs l,wi⟩).2=0){t:Nat}(ht:t<l.length):asZ l l[t].s.cd=(asT (stgs l) t).map Int.ofNat:=by
 have hs:(stgs l)[t]?=some l[t].s:=by rw[zE (by rw[q02];exact ht),q0L ht]
 unfold asZ asT
 rw[hs]
 dsimp only
 rw[List.map_map]
 refine List.map_congr_left fun n hn=>?_
 have h1:fstN n (q00 (stgs l))<t:=qco (p:=⟨stgs l,wi⟩) hp hs hn
 unfold ixN
 rw[if_pos (by rw[q0F,q02];omega)]
 rfl
theorem q5e (v:Value)(l:List Nat)(x:Int)(w:World)(hl:l.length<=1000000)(h:IRo w v (l.map Int.ofNat)):
  Calls Tryz.prog 130 #[v, .int .i64 x] w fun e w'=>e= .returned (.bool ((l.map Int.ofNat).contains x))/\w'=w:=by
 obtain ⟨a,c,rfl,hat⟩:=h.at
 by_cases h0:l=[]
 ·subst h0
  exact Tryz.slices_Contains_int_empty a c x w
 ·obtain ⟨b,off,rfl,_,hc⟩:=hat (fun e=>h0 (List.map_eq_nil_iff.1 e))
  have:=Tryz.slices_Contains_int b off (l.map Int.ofNat).length c (l.map Int.ofNat) x w (zM _) (by rw[zI];omega) (fun j hj=>by
   rw[hc j hj,List.getD_eq_getElem?_getD,zE hj]
   rfl)
  rw[List.take_length]at this
  exact this
theorem q5D (l:List Nat)(i:Nat):(l.map Int.ofNat).contains (i:Int)=decide (i∈l):=by
 by_cases h:i∈l
 ·rw[decide_eq_true h,List.contains_iff_mem]
  exact List.mem_map.2 ⟨i,h,rfl⟩
 ·rw[zK h]
  cases hc:(l.map Int.ofNat).contains (i:Int)with
  |false=>rfl
  |true=>
   exfalso
   rw[List.contains_iff_mem]at hc
   obtain ⟨j,hj,e⟩:=List.mem_map.1 hc
   have:j=i:=Int.ofNat.inj e
   exact h (by rw[<-this];exact hj)
structure AbS (w:World)(fr:Nat)(v:Value)(bs:List Nat)(G:Nat->Prop)(m:Nat)(wr:World):Prop where
 row:IRo wr v (bs.map Int.ofNat)
 nw: ∀b,v.ownBlock=some b->w.heap.size<=b
 lt: ∀i∈bs,i<fr
 al: ∀i,G i->i<fr->i∈bs
 ln:bs.length<=m
 kp:Kp [] w wr
theorem AbS.go {w wr w':World}{fr m:Nat}{v:Value}{bs:List Nat}{G:Nat->Prop}(h:AbS w fr v bs G m wr)(hk:Kp [] wr w'):AbS w fr v bs G m w':=⟨h.row.kp hk (by simp),h.nw,h.lt,h.al,h.ln,h.kp.trans hk (by simp)⟩
theorem AbS.any {w wr:World}{fr m m':Nat}{v:Value}{bs:List Nat}{G G':Nat->Prop}(h:AbS w fr v bs G m wr)(hG: ∀i,G' i->i<fr->G i\/i∈bs)(hm:m<=m'):AbS w fr v bs G' m' wr:=⟨h.row,h.nw,h.lt,fun i hi hlt=>(hG i hi hlt).elim (fun x=>h.al i x hlt) id,Nat.le_trans h.ln hm,h.kp⟩
theorem AbS.app {w wr:World}{fr m:Nat}{v:Value}{bs:List Nat}{G:Nat->Prop}(h:AbS w fr v bs G m wr)(i:Nat)(hi:i<fr){g c:Nat}(hz:CBox g #[.int .i64 (i:Int)] 3 wr)(hm:m<=100000)(ty:TypeId):
  ∃g' cap w',(Builtin.append_ #[51,51] ty #[v, .slice (some ⟨g,0,none⟩) 1 c]).run Tryz.prog wr= .ok (.slice (some ⟨g',0,none⟩) (bs.length+1) cap) w'/\AbS w fr (.slice (some ⟨g',0,none⟩) (bs.length+1) cap) (bs++[i]) (fun j=>G j\/j=i) (m+1) w'/\Kp v.ownBlock.toList wr w'/\(v.ownBlock=some g'\/wr.heap.size<=g'):=by
 have hln:=h.ln
 have hll:(bs.map Int.ofNat).length=bs.length:=zI _
 obtain ⟨g',cap,w',hrun,r1,r2,r3⟩:=h.row.app (i:Int) (c:=c) hz (by rw[hll];omega) ty
 rw[hll]at hrun r1
 have hks:=h.kp.size
 refine ⟨g',cap,w',hrun,⟨by rw[List.map_append];exact r1,fun b hb=>?_,fun j hj=>?_,fun j hj hlt=>?_,by rw[zF];simp;omega,h.kp.trans r2 (fun x hx=>Or.inr (h.nw x (by simpa using hx)))⟩,r2,r3⟩
 ·simp[Value.ownBlock]at hb
  subst hb
  exact r3.elim (h.nw _) (fun e=>by omega)
 ·rw[zG,zD]at hj
  exact hj.elim (h.lt j) (fun e=>by omega)
 ·rw[zG,zD]
  exact hj.imp (fun x=>h.al j x hlt) id
theorem qeR (b o n c t:Nat)(h:t<n)(hc:n<=c)(W:World):(Instr.slice 22 (.slice (some ⟨b,o,none⟩) n c) (some (.int .i64 (t:Int))) none none).run Tryz.prog W= .ok (.slice (some ⟨b,o+t * 4,none⟩) (n-t) (c-t)) W:=by
 have h3:(t:Int)<=(n:Int):=by omega
 have h4: ¬ c=t:=by omega
 simp[Instr.slice,Instr.sliceBounds,run_underlying Tryz.underlying22,Tryz.sizeOf88,go_sem,h3,h4,Go.WideShapes.add_plain]
theorem q40 (sa:Option Addr)(sc:Nat)(l:List SR)(wi:Int)(fr td:Nat)(w:World)(h:StsAt w sa l)(hp:(pcR ⟨stgs l,wi⟩).2=0)(hT:TbE w)(hfit: ∀r∈l, ∀q∈r.s.cd,q.fit)(hsc:l.length<=sc)(hto:td<l.length):
  Calls Tryz.prog 111 #[.agg #[.slice sa l.length sc, .int .i64 wi], .int .i64 (fr:Int), .int .i64 (td:Int)] w fun e w'=> ∃v bs,e= .returned v/\AbS w fr v bs (fun i=> ∃t,td<=t/\t<l.length/\i∈asT (stgs l) t) 2000 w':=by
 have h8:l.length<=8:=by have:=(q16 hp).2.1;rw[show (⟨stgs l,wi⟩:Ptn).ss.length=l.length from q02 l]at this;exact this
 obtain ⟨sb,so,rfl,hsbl, -⟩:=h (fun e=>by rw[e]at hto;simp at hto)
 have k1:=Kp.alloc w (.cells #[.slice (some ⟨sb,so,none⟩) l.length sc, .int .i64 wi] 24)
 have p0:=CBox.new w #[.slice (some ⟨sb,so,none⟩) l.length sc, .int .i64 wi] 24
 have HP:Hid (∀W,Kp [] (w.alloc (.cells #[.slice (some ⟨sb,so,none⟩) l.length sc, .int .i64 wi] 24)) W->W.cell? ⟨w.heap.size,0,none⟩=some (.slice (some ⟨sb,so,none⟩) l.length sc)/\W.cell? ⟨w.heap.size,1,none⟩=some (.int .i64 wi)/\Kp [] w W):=hZq (fun W hk=>⟨(p0.kp hk (by simp)).cell rfl,(p0.kp hk (by simp)).cell rfl,k1.trans hk (by simp)⟩)
 have HST:Hid (∀(i:Nat) (hi:i<l.length) W (hk:Kp [] w W),W.cell? ⟨sb,so+i * 4,none⟩=some (.string l[i].s.nm)/\W.cell? ⟨sb,so+i * 4+1,none⟩=some (.int .i64 l[i].s.hw)/\W.cell? ⟨sb,so+i * 4+2,none⟩=some (.bool l[i].s.mn)/\W.cell? ⟨sb,so+i * 4+3,none⟩=some (.slice l[i].ad l[i].s.cd.length l[i].c)/\PtsAt W l[i].ad l[i].s.cd):=hZq (fun i hi W hk=>by
  obtain ⟨b2,o2,e, -,hh⟩:=(h.kp hk).at i hi
  cases e
  exact hh)
 have HSA:=hZq (fun (i:Nat) (hi:i<l.length) W' (hk:Kp [] w W') (hpt:PtsAt W' l[i].ad l[i].s.cd)=>q2h (some ⟨sb,so,none⟩) sc l wi l[i].s.nm l[i].s.hw l[i].s.mn l[i].ad l[i].c l[i].s.cd W' (h.kp hk) h8 hpt (hT.kp hk (by simp)) (hfit _ (zJ hi)))
 have HAZ:Hid (∀(i:Nat) (hi:i<l.length),asZ l l[i].s.cd=(asT (stgs l) i).map Int.ofNat):=hZq (fun i hi=>q92 hp hi)
 have HAL:Hid (∀i,(asT (stgs l) i).length<=200):=hZq (fun i=>by
  unfold asT
  cases (stgs l)[i]? with
  |none=>simp
  |some s=>
   dsimp only
   rw[zI]
   exact q3V s.cd)
 have r0:=qeR sb so l.length sc td hto hsc
 obtain ⟨c0, -, -⟩:=uQ HP _ (Kp.refl _ _)
 have H0:Hid (AbS (w.alloc (.cells #[.slice (some ⟨sb,so,none⟩) l.length sc, .int .i64 wi] 24)) fr (.slice none 0 0) [] (fun i=> ∃t,td<=t/\t<td+0/\i∈asT (stgs l) t) (0 * 200) (w.alloc (.cells #[.slice (some ⟨sb,so,none⟩) l.length sc, .int .i64 wi] 24))):=hZq ⟨IRo.nil _,by simp[Value.ownBlock],by simp,fun i ⟨t,h1,h2,_⟩ _=>by omega,by simp,Kp.refl _ _⟩
 clear h hT hfit k1 p0 hp
 generalize stgs l=SS at *
 obtain ⟨n,hn⟩: ∃n,l.length=n:=⟨_,rfl⟩
 have HN:=hZq hn
 rw[hn]at h8 hsc hto r0 c0 H0 HP ⊢
 clear hn
 obtain ⟨m,hm⟩: ∃m,m=n-td:=⟨_,rfl⟩
 rw[<-hm]at r0
 have hmn:td+m=n:=by omega
 obtain ⟨Wp,hWp⟩: ∃Wp,Wp=w.alloc (.cells #[.slice (some ⟨sb,so,none⟩) n sc, .int .i64 wi] 24):=⟨_,rfl⟩
 rw[<-hWp]at HP H0
 have hWs:w.heap.size<=Wp.heap.size:=(uQ HP _ (Kp.refl _ _)).2.2.size
 go_enter Tryz.func111,Tryz.ntmps111
 go_wp2_with fail
 go_loopw [7,17] (fun ov iv wr=> ∃(j:Nat) (a:Option Addr) (c L:Nat) (bs:List Nat),j<=m/\iv= .int .i64 (j:Int)/\ov= .slice a L c/\Hid (L=bs.length)/\Hid (AbS Wp fr (.slice a L c) bs (fun i=> ∃t,td<=t/\t<td+j/\i∈asT SS t) (j * 200) wr)) (fun _ iv _=>m-(intOf iv).toNat)
 case atStart=>exact ⟨0,none,0,0,[],Nat.zero_le _,rfl,rfl,hZq rfl,by rw[<-hWp];exact H0⟩
 case round=>
  obtain ⟨j,a,c,L,bs,hj,rfl,rfl,HL,HC⟩:=hrel
  clear H0 hWp c0 r0
  by_cases hlt:j<m
  ·have hjT:td+j<l.length:=by rw[uQ HN];omega
   have hli:(j:Int)<(m:Int):=by omega
   have hAb:=uQ HC
   have hkp:=hAb.kp
   have hkw:=(uQ HP wr hkp).2.2
   obtain ⟨s0,s1,s2,s3,hpt⟩:=uQ HST (td+j) hjT wr hkw
   rw[show so+(td+j) * 4=so+td * 4+j * 4 by rw[Nat.add_mul];omega]at s0 s1 s2 s3
   have SA0:=fun W' (hk:Kp [] wr W')=>uQ HSA (td+j) hjT W' (hkw.trans hk (by simp)) (hpt.kp hk)
   have haz:=uQ HAZ (td+j) hjT
   have hal:=uQ HAL (td+j)
   generalize l[td+j]=r at *
   obtain ⟨⟨rnm,rhw,rmn,rcd⟩,rad,rc⟩:=r
   dsimp only at s0 s1 s2 s3 SA0 hpt haz
   rw[haz,uQ HN]at SA0
   have ka:=Kp.alloc wr (.cells #[.string rnm, .int .i64 rhw, .bool rmn, .slice rad rcd.length rc] 88)
   have hsb:=CBox.new wr #[.string rnm, .int .i64 rhw, .bool rmn, .slice rad rcd.length rc] 88
   have z0:=hsb.cell (i:=0) (v:= .string rnm) rfl
   have z1:=hsb.cell (i:=1) (v:= .int .i64 rhw) rfl
   have z2:=hsb.cell (i:=2) (v:= .bool rmn) rfl
   have z3:=hsb.cell (i:=3) (v:= .slice rad rcd.length rc) rfl
   obtain ⟨p0,p1, -⟩:=uQ HP _ (hkp.trans ka (by simp))
   have SA:=hZq (SA0 _ ka)
   have HAB:=hZq hAb
   obtain ⟨TT,hTT⟩: ∃TT,TT=asT SS (td+j):=⟨_,rfl⟩
   rw[<-hTT]at SA hal
   have HTT:=hZq hTT
   generalize rcd.length=xn at *
   clear HSA HST HAZ HAL SA0 hpt haz HC hkp hAb hkw hsb hTT
   have hwlt:wr.heap.size<(wr.alloc (.cells #[.string rnm, .int .i64 rhw, .bool rmn, .slice rad xn rc] 88)).heap.size:=by simp
   go_wp2_with fail
   refine (uQ SA).mono ?_
   rintro e w2 ⟨v2,rfl,hI2,hB2,hk2⟩
   have hkW2:Kp [] wr w2:=ka.trans hk2 (by simp)
   obtain ⟨a2,c2,rfl⟩: ∃a c,v2= .slice a TT.length c:=by
    obtain ⟨a,c,e,_⟩:=hI2.at
    rw[zI]at e
    exact ⟨a,c,e⟩
   have HAB2:=hZq ((uQ HAB).go hkW2)
   have HI2:Hid (IRo w2 (.slice a2 TT.length c2) (TT.map Int.ofNat)/\ ∀b,(Value.slice a2 TT.length c2).ownBlock=some b->(Value.slice a L c).ownBlock≠some b):=hZq ⟨hI2,fun b hb hb2=>by
    have h1:=hB2 b hb
    have h2:=(uQ HAB).row.lt hb2
    simp at h1
    omega⟩
   clear SA hk2 hB2 HAB ka hI2 hkW2 z0 z1 z2 z3 p0 p1 s0 s1 s2 s3 hwlt
   obtain ⟨tn,htn⟩: ∃tn,TT.length=tn:=⟨_,rfl⟩
   have HTN:=hZq htn
   rw[htn]at hal HI2 ⊢
   clear htn
   go_wp2_with fail
   go_loopw [7,25] (fun ov iv wr=> ∃(jj:Nat) (a:Option Addr) (c L:Nat) (bs:List Nat),jj<=tn/\iv= .int .i64 (jj:Int)/\ov= .slice a L c/\Hid (L=bs.length)/\Hid ((IRo wr (.slice a2 tn c2) (TT.map Int.ofNat)/\ ∀b,(Value.slice a2 tn c2).ownBlock=some b->(Value.slice a L c).ownBlock≠some b)/\AbS Wp fr (.slice a L c) bs (fun i=>(∃t,td<=t/\t<td+j/\i∈asT SS t)\/i∈TT.take jj) (j * 200+jj) wr)) (fun _ iv _=>tn-(intOf iv).toNat)
   case atStart=>exact ⟨0,a,c,L,bs,Nat.zero_le _,rfl,rfl,HL,hZq ⟨uQ HI2,(uQ HAB2).any (fun i hi _=>hi.elim Or.inl (fun h=>by simp at h)) (by omega)⟩⟩
   case round=>
    obtain ⟨jj,a,c,L,bs,hjj,rfl,rfl,HL2,HC2⟩:=hrel
    clear HAB2 HL HI2
    by_cases hltt:jj<tn
    ·have hjT2:jj<TT.length:=by rw[uQ HTN];exact hltt
     have hli2:(jj:Int)<(tn:Int):=by omega
     obtain ⟨hk3,hA3⟩:=uQ HC2
     obtain ⟨gb,go,rfl,x0⟩: ∃gb go,a2=some ⟨gb,go,none⟩/\wr.cell? ⟨gb,go+jj,none⟩=some (.int .i64 (TT[jj]:Int)):=by
      have hI3:=hk3.1
      obtain ⟨a,c,e,hat⟩:=hI3.at
      injection e with e1 _ _
      subst e1
      obtain ⟨gb,go,e,_,hc⟩:=hat (fun e=>by have:=congrArg List.length e;rw[zI]at this;have h0:([]:List Int).length=0:=rfl;omega)
      refine ⟨gb,go,e,?_⟩
      have:=hc jj (by rw[zI];exact hjT2)
      rw[List.getElem_map]at this
      exact this
     have HTK:Hid (TT.take (jj+1)=TT.take jj++[TT[jj]]):=hZq (by rw[List.take_add_one,zE hjT2];rfl)
     have hbl:bs.length<=3000:=by have:=hA3.ln;have:j * 200<=8 * 200:=Nat.mul_le_mul_right _ (by omega);omega
     have HA3:=hZq hA3
     have HK3:=hZq hk3
     have HCT:=hZq (q5e (.slice a L c) bs (TT[jj]:Int) wr (by omega) hA3.row)
     rw[q5D]at HCT
     generalize TT[jj]=ii at *
     clear hA3 hk3 HC2
     by_cases hif:ii<fr
     ·have hif1:(ii:Int)<(fr:Int):=by omega
      by_cases hin:ii∈bs
      ·rw[decide_eq_true hin]at HCT
       have HF:Hid ((IRo wr (.slice (some ⟨gb,go,none⟩) tn c2) (TT.map Int.ofNat)/\ ∀b,(Value.slice (some ⟨gb,go,none⟩) tn c2).ownBlock=some b->(Value.slice a L c).ownBlock≠some b)/\AbS Wp fr (.slice a L c) bs (fun i=>(∃t,td<=t/\t<td+j/\i∈asT SS t)\/i∈TT.take (jj+1)) (j * 200+(jj+1)) wr):=hZq ⟨uQ HK3,(uQ HA3).any (fun i hi _=>by
        rcases hi with hi|hi
        ·exact Or.inl (Or.inl hi)
        ·rw[uQ HTK,zG,zD]at hi
         exact hi.elim (fun h=>Or.inl (Or.inr h)) (fun e=>Or.inr (by rw[e];exact hin))) (by omega)⟩
       clear HTK HA3 HK3 hin
       go_wp2_with fail
       refine (uQ HCT).mono ?_
       rintro e w5 ⟨rfl,rfl⟩
       clear HCT
       go_wp2
       go_roundw
       case rel=>exact ⟨jj+1,a,c,L,bs,by omega,by go_num,rfl,HL2,HF⟩
       case measure=>simp[intOf];omega
      ·rw[zK hin]at HCT
       have kz:=Kp.alloc wr (.cells #[.int .i64 (ii:Int)] 3)
       obtain ⟨g',cap',w6,hrun,hA6,hk6,hor6⟩:=((uQ HA3).go kz).app ii hif (g:=wr.heap.size) (c:=1) (CBox.new wr _ _) (by have:j * 200<=8 * 200:=Nat.mul_le_mul_right _ (by omega);omega) 51
       have hll:L=bs.length:=uQ HL2
       have HF:Hid ((IRo w6 (.slice (some ⟨gb,go,none⟩) tn c2) (TT.map Int.ofNat)/\ ∀b,(Value.slice (some ⟨gb,go,none⟩) tn c2).ownBlock=some b->(Value.slice (some ⟨g',0,none⟩) (L+1) cap').ownBlock≠some b)/\AbS Wp fr (.slice (some ⟨g',0,none⟩) (L+1) cap') (bs++[ii]) (fun i=>(∃t,td<=t/\t<td+j/\i∈asT SS t)\/i∈TT.take (jj+1)) (j * 200+(jj+1)) w6):=by
        have hI5:=uQ HK3
        rw[hll]
        refine hZq ⟨⟨(hI5.1.kp kz (by simp)).kp hk6 (fun b hb hm=>hI5.2 b hb (by simpa using hm)),fun b hb hb2=>?_⟩,hA6.any (fun i hi _=>?_) (by omega)⟩
        ·simp only[Value.ownBlock,Option.some.injEq]at hb2
         rcases hor6 with h6|h6
         ·exact hI5.2 b hb (by rw[h6,hb2])
         ·have h7:=hI5.1.lt hb
          simp at h6
          omega
        ·rcases hi with hi|hi
         ·exact Or.inl (Or.inl (Or.inl hi))
         ·rw[uQ HTK,zG,zD]at hi
          exact hi.elim (fun h=>Or.inl (Or.inl (Or.inr h))) (fun e=>Or.inl (Or.inr e))
       rw[<-hll]at hrun
       have HRUN:=hZq hrun
       have HLN:Hid (L+1=(bs++[ii]).length):=hZq (by rw[zF,hll];rfl)
       clear hll hrun hA6 hk6 hor6 kz HTK HA3 HK3 hin hbl
       go_wp2_with fail
       refine (uQ HCT).mono ?_
       rintro e w5 ⟨rfl,rfl⟩
       clear HCT
       go_wp2_with (at_builtin;refine q0g rfl _ _ _ rfl rfl rfl (uQ HRUN) ?_)
       go_roundw
       case rel=>exact ⟨jj+1,_,cap',L+1,bs++[ii],by omega,by go_num,rfl,HLN,HF⟩
       case measure=>simp[intOf];omega
     ·have hif1: ¬ (ii:Int)<(fr:Int):=by omega
      have hif2:((ii:Int)<(fr:Int))=False:=eq_false hif1
      have HF:Hid ((IRo wr (.slice (some ⟨gb,go,none⟩) tn c2) (TT.map Int.ofNat)/\ ∀b,(Value.slice (some ⟨gb,go,none⟩) tn c2).ownBlock=some b->(Value.slice a L c).ownBlock≠some b)/\AbS Wp fr (.slice a L c) bs (fun i=>(∃t,td<=t/\t<td+j/\i∈asT SS t)\/i∈TT.take (jj+1)) (j * 200+(jj+1)) wr):=hZq ⟨uQ HK3,(uQ HA3).any (fun i hi hlt=>by
       rcases hi with hi|hi
       ·exact Or.inl (Or.inl hi)
       ·rw[uQ HTK,zG,zD]at hi
        exact hi.elim (fun h=>Or.inl (Or.inr h)) (fun e=>by omega)) (by omega)⟩
      clear HTK HA3 HK3 HCT
      go_wp2
      go_roundw
      case rel=>exact ⟨jj+1,a,c,L,bs,by omega,by go_num,rfl,HL2,HF⟩
      case measure=>simp[intOf];omega
    ·obtain rfl:jj=tn:=by omega
     obtain ⟨hk3,hA3⟩:=uQ HC2
     have HF:Hid (AbS Wp fr (.slice a L c) bs (fun i=> ∃t,td<=t/\t<td+(j+1)/\i∈asT SS t) ((j+1) * 200) wr):=hZq (hA3.any (fun i hi _=>by
      obtain ⟨t,h1,h2,h3⟩:=hi
      rcases Nat.lt_or_ge t (td+j)with h4|h4
      ·exact Or.inl (Or.inl ⟨t,h1,h4,h3⟩)
      ·have:t=td+j:=by omega
       rw[this, <-uQ HTT]at h3
       exact Or.inl (Or.inr (by rw[<-uQ HTN,List.take_length];exact h3))) (by omega))
     clear HC2 hk3 hA3
     go_wp2
     go_roundw
     case rel=>exact ⟨j+1,a,c,L,bs,by omega,by go_num,rfl,HL2,HF⟩
     case measure=>simp[intOf];omega
  ·obtain rfl:j=m:=by omega
   have hC0:=uQ HC
   have hC:AbS w fr (.slice a L c) bs (fun i=> ∃t,td<=t/\t<td+j/\i∈asT SS t) (j * 200) wr:=⟨hC0.row,fun b hb=>Nat.le_trans hWs (hC0.nw b hb),hC0.lt,hC0.al,hC0.ln,(uQ HP wr hC0.kp).2.2⟩
   clear HC HST HSA HAZ HAL HP hC0
   go_wp2
   go_ret
   refine ⟨_,bs,rfl,hC.any (fun i hi _=>?_) (by have:j * 200<=8 * 200:=Nat.mul_le_mul_right _ (by omega);omega)⟩
   obtain ⟨t,h1,h2,h3⟩:=hi
   exact Or.inl ⟨t,h1,by omega,h3⟩
theorem q0G {P:Program}{fn:Func}{p u:Tmp}{ty:TypeId}(h:fn.results=#[.cell p ty, .tmp u])(tmps:Array Value)(w:World)(g:Nat)(t:TypeId)(cs:Array Value)(fr:Nat × Nat)(d:TypeDesc)
  (hp:tmps.getD p undef= .pointer (some ⟨g,0,none⟩)) (hg:w.heap[g]?=some (.cells cs t fr))
  (hu:P.underlying ty=some d) (hd:(match d with| .struct _| .array _ _=>true|_=>false)=true) (hi:(P.info? ty).map (·.size)=some cs.size):
  (results fn tmps).run P w= .ok (.tuple #[.agg cs,tmps.getD u undef]) w:=by
 rw[results_cell_tmp h,hp]
 simp[asAddr,run_loadVar_row w g t ty cs fr d hg hu hd hi]
theorem eqF (d:Nat)(a c a' c':Int)(w:World):(Op.equalIn (d+2) 47 (.agg #[.int .i64 a, .int .i64 c]) (.agg #[.int .i64 a', .int .i64 c'])).run Tryz.prog w= .ok (a==a' && c==c') w:=by
 have hi:=fun (a b:Int) (w:World)=>run_equalIn_int (P:=Tryz.prog) w d 3 .i64 .i64 a b Tryz.underlying3
 have he:=fun (a b:Int) (w:World)=>run_equalIn_int (P:=Tryz.prog) w d 32 .i64 .i64 a b Tryz.underlying32
 unfold Op.equalIn
 simp only[Sem.run_bind,run_underlying Tryz.underlying47,Result.andThen_ok]
 simp[part,Tryz.sizeOf3,Tryz.sizeOf32,go_sem,hi,he]
 by_cases h0:a=a' <;> by_cases h1:c=c' <;> simp[h0,h1]
theorem q1J:(Tryz.prog.info? 143).map (·.size)=some 3:=by kernel_rfl
theorem q2I:(Tryz.prog.info? 187).map (·.size)=some 12:=by kernel_rfl
theorem eqN (d:Nat)(a b:Nd)(w:World):(Op.equalIn (d+2) 143 (.agg a.c) (.agg b.c)).run Tryz.prog w= .ok (ndE a b) w:=by
 obtain ⟨a0,a1,a2⟩:=a
 obtain ⟨b0,b1,b2⟩:=b
 have hi:=fun (a b:Int) (w:World)=>run_equalIn_int (P:=Tryz.prog) w d 3 .i64 .i64 a b Tryz.underlying3
 have hb:=fun (a b:Bool) (w:World)=>run_equalIn_bool (P:=Tryz.prog) w d 4 a b Tryz.underlying4
 unfold Op.equalIn Nd.c ndE
 simp only[Sem.run_bind,run_underlying Tryz.underlying143,Result.andThen_ok]
 simp[part,Tryz.sizeOf3,Tryz.sizeOf4,go_sem,hi,hb]
 by_cases h0:a0=b0 <;> cases a1 <;> cases b1 <;> cases a2 <;> cases b2 <;> simp[h0]
theorem CBox.set3 {g:Nat}{x y z:Value}{t:TypeId}{w:World}(h:CBox g #[x,y,z] t w)(a b c:Value):CBox g #[a,b,c] t (((w.setCell ⟨g,0,none⟩ a).setCell ⟨g,1,none⟩ b).setCell ⟨g,2,none⟩ c):=((h.set 0 a).set 1 b).set 2 c
theorem Kp.set3 (w:World)(g:Nat)(a b c:Value):Kp [g] w (((w.setCell ⟨g,0,none⟩ a).setCell ⟨g,1,none⟩ b).setCell ⟨g,2,none⟩ c):=
 ((Kp.set _ _ _ _).trans (Kp.set _ _ _ _) (by simp)).trans (Kp.set _ _ _ _) (by simp)
theorem q9R (w:World)(A:Obj)(x y z:Value)(t:TypeId):Kp [] w ((w.alloc A).alloc (.cells #[x,y,z] t))/\CBox (w.heap.size+1) #[x,y,z] t ((w.alloc A).alloc (.cells #[x,y,z] t)):=by
 refine ⟨(Kp.alloc _ _).trans (Kp.alloc _ _) (by simp),?_⟩
 have:=CBox.new (w.alloc A) #[x,y,z] t
 rwa [show (w.alloc A).heap.size=w.heap.size+1 by simp]at this
theorem q3e {w W:World}{g:Nat}{x y z:Value}{t:TypeId}(hk:Kp [] w W)(hg:w.heap.size<=g)(hb:CBox g #[x,y,z] t W)(a b c:Value):
  CBox g #[a,b,c] t (((W.setCell ⟨g,0,none⟩ a).setCell ⟨g,1,none⟩ b).setCell ⟨g,2,none⟩ c)/\Kp [] w (((W.setCell ⟨g,0,none⟩ a).setCell ⟨g,1,none⟩ b).setCell ⟨g,2,none⟩ c):=
 ⟨hb.set3 a b c,hk.trans (Kp.set3 W g a b c) (fun x hx=>Or.inr (by simp only[zD]at hx;omega))⟩
theorem q2i (sa:Option Addr)(sc:Nat)(l:List SR)(wi:Int)(s:Nat)(w:World)(h:StsAt w sa l)(hl:l.length<=9223372036854775807)(h1:1<=s)(h2:s<=l.length):
  Calls Tryz.prog 109 #[.agg #[.slice sa l.length sc, .int .i64 wi], .int .i64 (s:Int)] w fun e w'=>e= .returned (.agg (bgN (stgs l) s).c)/\Kp [] w w':=by
 obtain ⟨k,rfl⟩: ∃k,s=k+1:=⟨s-1,by omega⟩
 obtain ⟨b,off,rfl,hbl,x0,x1,x2,x3, -⟩:=h.at k (by omega)
 have hmn:mnAt (stgs l) k=l[k].s.mn:=by rw[qbE (by rw[q02];omega),q0L (by omega)]
 have htk:(bgN (stgs l) (k+1)).c=#[.int .i64 ((k+1:Nat):Int), .bool l[k].s.mn, .bool (decide ((k+1:Nat)<l.length))]:=by
  unfold bgN Nd.c
  rw[Nat.add_sub_cancel,hmn,q02]
 have hdec:decide ((k+1:Nat)<l.length)=decide (((k+1:Nat):Int)<(l.length:Int)):=by
  rw[decide_eq_decide];omega
 rw[htk,hdec]
 have hli:(k:Int)<(l.length:Int):=by omega
 have hsub:IntKind.i64.wrap (((k+1:Nat):Int)-1)=(k:Int):=by simp only[IntKind.wrap_i64];omega
 obtain ⟨hk0,hb0⟩:=q9R w (.cells #[.slice (some ⟨b,off,none⟩) l.length sc, .int .i64 wi] 24) (.int .i64 0) (.bool false) (.bool false) 143
 have hp:=(CBox.new w #[.slice (some ⟨b,off,none⟩) l.length sc, .int .i64 wi] 24).kp (Kp.alloc _ (.cells #[.int .i64 0, .bool false, .bool false] 143)) (by simp)
 have p0:=hp.cell (i:=0) (v:= .slice (some ⟨b,off,none⟩) l.length sc) rfl
 have y2:=hk0.cell x2 (by simp)
 have z0:=hb0.froz 0
 have z1:=hb0.froz 1
 have z2:=hb0.froz 2
 have c0:=hb0.cell (i:=0) (v:= .int .i64 0) rfl
 have c1:=hb0.cell (i:=1) (v:= .bool false) rfl
 have c2:=hb0.cell (i:=2) (v:= .bool false) rfl
 have HE:=hZq (fun a b c=>q3e hk0 (by omega) hb0 a b c)
 generalize ((k+1:Nat):Int)=S at *
 clear h hmn htk hdec x0 x1 x2 x3 hk0 hb0 hp
 generalize l[k].s.mn=MN at *
 generalize l.length=n at *
 have cS:((w.alloc (.cells #[.slice (some ⟨b,off,none⟩) n sc, .int .i64 wi] 24)).alloc (.cells #[.int .i64 0, .bool false, .bool false] 143)).drew.cell? ⟨w.heap.size,0,none⟩=some (.slice (some ⟨b,off,none⟩) n sc)/\((w.alloc (.cells #[.slice (some ⟨b,off,none⟩) n sc, .int .i64 wi] 24)).alloc (.cells #[.int .i64 0, .bool false, .bool false] 143)).drew.cell? ⟨b,off+k * 4+2,none⟩=some (.bool MN):=⟨p0,y2⟩
 clear p0 y2
 go_enter Tryz.func109,Tryz.ntmps109
 go_wp2_with fail
 generalize (w.alloc (.cells #[.slice (some ⟨b,off,none⟩) n sc, .int .i64 wi] 24)).alloc (.cells #[.int .i64 0, .bool false, .bool false] 143)=V at *
 have cS2:((((V.setCell ⟨w.heap.size+1,0,none⟩ (.int .i64 S)).setCell ⟨w.heap.size+1,1,none⟩ (.bool MN)).setCell ⟨w.heap.size+1,2,none⟩ (.bool (decide (S<(n:Int))))).drew).cell? ⟨w.heap.size,0,none⟩=some (.slice (some ⟨b,off,none⟩) n sc)/\((((V.setCell ⟨w.heap.size+1,0,none⟩ (.int .i64 S)).setCell ⟨w.heap.size+1,1,none⟩ (.bool MN)).setCell ⟨w.heap.size+1,2,none⟩ (.bool (decide (S<(n:Int))))).drew).cell? ⟨b,off+k * 4+2,none⟩=some (.bool MN):=⟨(Kp.set3 V (w.heap.size+1) (.int .i64 S) (.bool MN) (.bool (decide (S<(n:Int))))).cell cS.1 (by simp),(Kp.set3 V (w.heap.size+1) (.int .i64 S) (.bool MN) (.bool (decide (S<(n:Int))))).cell cS.2 (by simp;omega)⟩
 go_region_held3 (fun W=>W.cell? ⟨w.heap.size,0,none⟩=some (.slice (some ⟨b,off,none⟩) n sc)/\W.cell? ⟨b,off+k * 4+2,none⟩=some (.bool MN))
  (first|with_reducible exact cS|with_reducible exact cS2)
  (first|fail)
 go_wp2
 obtain ⟨hx,hy⟩:=uQ HE (.int .i64 S) (.bool MN) (.bool (decide (S<(n:Int))))
 exact bodyPost_ret (results_cell_row Tryz.results109 _ _ (w.heap.size+1) 143 _ (0,0) _ rfl (hx.kp (Kp.drew _) (by simp)) Tryz.underlying143 rfl q1J) rfl ⟨rfl,hy.trans (Kp.drew _) (by simp)⟩
def Hd (a b:List UInt8):Prop:=a.head?=b.head?\/(Gap a/\Gap b)
theorem Hd.spn {a b:List UInt8}(h:Hd a b){p:UInt8->Bool}(hp: ∀c,q09 c=true->p c=false)(h0:spn p a=0):spn p b=0:=by
 rcases h with h|⟨_,h⟩
 ·cases b with
  |nil=>rfl
  |cons c r=>
   cases a with
   |nil=>simp at h
   |cons d q=>
    simp at h
    subst h
    rw[Go.Proofs.YtfgkikeeadlcfaaGreatDoor.spn]at h0 ⊢
    split at h0
    ·omega
    ·rename_i hd
     rw[if_neg hd]
 ·exact h.spn hp
theorem q6F {p:UInt8->Bool}{w a:List UInt8}(h:spn p (w++a)=w.length):spn p w=w.length/\spn p a=0:=by
 have h1:spn p w=w.length:=by
  have:=q2R p (w++a) w.length
  rw[List.take_left' rfl,h,Nat.min_self]at this
  exact this
 have h2:=q3U (b:=a) h1
 rw[h]at h2
 exact ⟨h1,by omega⟩
theorem qar {w a b:List UInt8}{t:Tk}(h:tkR (w++a)=some (t,w.length))(hw:w≠[])(hg:Hd a b):tkR (w++b)=some (t,w.length):=by
 cases w with
 |nil=>exact absurd rfl hw
 |cons c r=>
  have pal: ∀x,q09 x=true->q0h x=false:=fun c hc=>by have:=(q4w c).1 hc;unfold q0h q0A q07;simp;omega
  have pdg: ∀x,q09 x=true->q07 x=false:=fun c hc=>by have:=(q4w c).1 hc;unfold q07;simp;omega
  rw[List.cons_append,tkR]at *
  split at h
  ·rename_i hb
   rw[if_pos hb]
   unfold tkW at h ⊢
   split at h
   ·cases h
   ·rename_i h32
    simp only[Option.some.injEq,Prod.mk.injEq]at h
    obtain ⟨rfl,hn⟩:=h
    rw[<-List.cons_append]at hn h32 ⊢
    obtain ⟨e1,e2⟩:=q6F hn
    have e3:=q3U (b:=b) e1
    rw[hg.spn pal e2,Nat.add_zero]at e3
    rw[hn]at h32
    rw[e3,if_neg h32,List.take_left' rfl, <-List.cons_append,hn,List.take_left' rfl]
  ·rename_i hb
   rw[if_neg hb]
   split at h
   ·rename_i hd
    rw[if_pos hd]
    unfold tkN at h ⊢
    split at h
    ·cases h
    ·rename_i hz
     split at h
     ·cases h
     ·rename_i hv
      simp only[Option.some.injEq,Prod.mk.injEq]at h
      obtain ⟨rfl,hn⟩:=h
      rw[<-List.cons_append]at hn hz hv ⊢
      obtain ⟨e1,e2⟩:=q6F hn
      have e3:=q3U (b:=b) e1
      rw[hg.spn pdg e2,Nat.add_zero]at e3
      rw[hn,List.take_left' rfl]at hv
      rw[hn]at hz
      rw[e3,List.take_left' rfl,if_neg (by simpa using hz),if_neg hv, <-List.cons_append,hn,List.take_left' rfl]
   ·rename_i hd
    rw[if_neg hd]
    split at h
    ·rename_i hq
     rw[if_pos hq]
     unfold tkT at h ⊢
     split at h
     ·cases h
     ·rename_i h256
      split at h
      ·rename_i hh
       simp only[Option.some.injEq,Prod.mk.injEq]at h
       obtain ⟨rfl,hn⟩:=h
       simp only[List.length_cons]at hn
       have hlt:spn isIn (r++a)<r.length:=by omega
       have e1:spn isIn r=spn isIn (r++a):=by
        have:=q2R isIn (r++a) r.length
        rw[List.take_left' rfl]at this
        omega
       have hlt2:spn isIn r<r.length:=by omega
       rw[<-e1]at h256 hh hn ⊢
       rw[qeT hlt2,if_neg h256,List.take_append_of_le_length (by omega),List.head?_drop,List.getElem?_append_left hlt2]
       rw[List.head?_drop,List.getElem?_append_left hlt2]at hh
       rw[if_pos hh,List.take_append_of_le_length (by omega)]
       simp only[List.length_cons,Option.some.injEq,Prod.mk.injEq,true_and]
       omega
      ·cases h
    ·rename_i hq
     rw[if_neg hq]
     unfold tkS at h ⊢
     split at h
     ·rename_i h2
      simp only[Option.some.injEq,Prod.mk.injEq]at h
      obtain ⟨rfl,hn⟩:=h
      rw[if_pos ⟨h2.1,by
       cases r with
       |nil=>simp at hn
       |cons d r=>exact h2.2⟩,hn]
     ·rename_i h2
      split at h
      ·rename_i h1
       simp only[Option.some.injEq,Prod.mk.injEq]at h
       obtain ⟨rfl,hn⟩:=h
       obtain rfl:r=[]:=List.eq_nil_of_length_eq_zero (by simpa using hn.symm)
       rw[if_neg (fun h3=>by
        rcases hg with hg|⟨_,hg⟩
        ·exact h2 ⟨h3.1,by simpa [hg] using h3.2⟩
        ·have:=(q4w 61).1 (hg 61 (by simpa using h3.2))
         simp at this),if_pos h1,hn]
      ·cases h
def layF:Nat->List Tk->Nat->List UInt8
 |E,[],n=>List.replicate (n-E) 32
 |E,t::r,n=>List.replicate (t.pl.toNat-E) 32++(q04 t++layF (E+(t.pl.toNat-E)+(q04 t).length) r n)
def FitE:Nat->List Tk->Nat->Prop
 |E,[],n=>E<=n
 |E,t::r,n=>0<=t.pl/\E<=t.pl.toNat/\0<(q04 t).length/\FitE (t.pl.toNat+(q04 t).length) r n
theorem FitE.mono {E E':Nat}{ts:List Tk}{n:Nat}(h:FitE E ts n)(hE:E'<=E):FitE E' ts n:=by
 cases ts with
 |nil=>exact Nat.le_trans hE h
 |cons t r=>exact ⟨h.1,Nat.le_trans hE h.2.1,h.2.2⟩
theorem FitE.le {E:Nat}{ts:List Tk}{n:Nat}(h:FitE E ts n):E<=n:=by
 induction ts generalizing E with
 |nil=>exact h
 |cons t r ih=>have:=ih h.2.2.2;have:=h.2.1;omega
theorem q3d {E:Nat}{ts:List Tk}{n:Nat}(h:FitE (E+1) ts n):layF E ts n=32::layF (E+1) ts n:=by
 cases ts with
 |nil=>
  have h1:E+1<=n:=h
  rw[layF,layF,show n-E=(n-(E+1))+1 by omega,List.replicate_succ]
 |cons t r=>
  have h1:E+1<=t.pl.toNat:=h.2.1
  rw[layF,layF,show t.pl.toNat-E=(t.pl.toNat-(E+1))+1 by omega,List.replicate_succ,show E+(t.pl.toNat-(E+1)+1)=E+1+(t.pl.toNat-(E+1)) by omega]
  rfl
theorem qbx {E:Nat}{ts:List Tk}{n:Nat}(k:Nat)(h:FitE (E+k) ts n):layF E ts n=List.replicate k 32++layF (E+k) ts n:=by
 induction k generalizing E with
 |zero=>rfl
 |succ k ih=>
  rw[q3d (h.mono (by omega)),ih (E:=E+1) (by rw[show E+1+k=E+(k+1) by omega];exact h),List.replicate_succ,show E+1+k=E+(k+1) by omega]
  rfl
theorem qby {E:Nat}{ts:List Tk}{n:Nat}(h:FitE E ts n):(layF E ts n).length=n-E:=by
 induction ts generalizing E with
 |nil=>rw[layF,List.length_replicate]
 |cons t r ih=>
  obtain ⟨_,h1,_,h2⟩:=h
  have e:E+(t.pl.toNat-E)+(q04 t).length=t.pl.toNat+(q04 t).length:=by omega
  have:=h2.le
  rw[layF,e,zF,zF,List.length_replicate,ih h2]
  omega
theorem q8g:q09 32=true:=by decide
theorem qcb (l:List UInt8)(k c:Nat): ∀ts,toks l k c= .good ts->FitE k ts (k+l.length)/\Hd (layF k ts (k+l.length)) l/\ ∀c',c'+ts.length<=4096->toks (layF k ts (k+l.length)) k c'= .good ts:=by
 refine q26 (P:=fun l k c=> ∀ts,toks l k c= .good ts->FitE k ts (k+l.length)/\Hd (layF k ts (k+l.length)) l/\ ∀c',c'+ts.length<=4096->toks (layF k ts (k+l.length)) k c'= .good ts) ?_ ?_ ?_ ?_ ?_ l k c
 ·intro k c ts h
  rw[q1D]at h
  cases h
  refine ⟨zM _,Or.inl (by simp[layF]),fun c' _=>?_⟩
  simp[layF,q1D]
 ·intro b r k c hb ih ts h
  rw[q12 hb]at h
  obtain ⟨h1,h2,h3⟩:=ih ts h
  rw[List.length_cons,show k+(r.length+1)=k+1+r.length by omega]
  refine ⟨h1.mono (by omega),Or.inr ⟨?_,?_⟩,fun c' hc=>?_⟩
  ·rw[q3d h1];intro x hx;simp at hx;subst hx;exact q8g
  ·intro x hx;simp at hx;subst hx;exact hb
  ·rw[q3d h1,q12 q8g];exact h3 c' hc
 ·intro l k c h0 hb hn ts h
  rw[q1n hn h0 hb]at h
  cases h
 ·intro l k t n hn ts h
  rw[q1m hn]at h
  cases h
 ·intro l k c t n hn hc4 ih ts h
  rw[q13 hn hc4]at h
  obtain ⟨r,hr,rfl⟩:=q2N h
  obtain ⟨g1,g2,g3,_⟩:=q0o hn
  obtain ⟨h1,h2,h3⟩:=ih r hr
  rw[List.length_drop,show k+n+(l.length-n)=k+l.length by omega]at h1 h2 h3
  have hsp:(q04 t).length=n:=by rw[g3,zL];omega
  have ho:q04 (t.out (k:Int))=q04 t:=q58 t _
  have hpl:(t.out (k:Int)).pl=(k:Int):=rfl
  have e:layF k ([t.out (k:Int)]++r) (k+l.length)=q04 t++layF (k+n) r (k+l.length):=by
   rw[List.singleton_append,layF,ho,hpl,Int.toNat_natCast,Nat.sub_self,hsp]
   rfl
  have hne:q04 t≠[]:=fun e=>by rw[e]at hsp;simp at hsp;omega
  have hl:l=q04 t++l.drop n:=by rw[g3,List.take_append_drop]
  have ht:tkR (q04 t++layF (k+n) r (k+l.length))=some (t,(q04 t).length):=by
   refine qar (a:=l.drop n) ?_ hne (by rcases h2 with h2|⟨h2,h2'⟩;exact Or.inl h2.symm;exact Or.inr ⟨h2',h2⟩)
   rw[<-hl,hsp]
   exact hn
  refine ⟨⟨by rw[hpl];omega,by rw[hpl,Int.toNat_natCast];exact zM _,by rw[ho,hsp];exact g1,by rw[hpl,Int.toNat_natCast,ho,hsp];exact h1⟩,Or.inl ?_,fun c' hc=>?_⟩
  ·rw[e,hl]
   cases hs:q04 t with
   |nil=>exact absurd hs hne
   |cons x y=>simp
  ·rw[List.singleton_append,List.length_cons]at hc
   rw[e,q13 ht (by omega),hsp,show (q04 t++layF (k+n) r (k+l.length)).drop n=layF (k+n) r (k+l.length) by rw[<-hsp];exact List.drop_left' rfl,h3 (c'+1) (by omega)]
   rfl
theorem q6K (l:List UInt8)(k c:Nat): ∀ts,toks l k c= .good ts-> ∀a r,ts=a++r-> ∃l' k' c',toks l' k' c'= .good r/\k<=k'/\k'+l'.length=k+l.length:=by
 refine q26 (P:=fun l k c=> ∀ts,toks l k c= .good ts-> ∀a r,ts=a++r-> ∃l' k' c',toks l' k' c'= .good r/\k<=k'/\k'+l'.length=k+l.length) ?_ ?_ ?_ ?_ ?_ l k c
 ·intro k c ts h a r e
  rw[q1D]at h
  cases h
  have:r=[]:=by simp at e;exact e.2
  subst this
  exact ⟨[],k,c,rfl,zM _,rfl⟩
 ·intro b q k c hb ih ts h a r e
  rw[q12 hb]at h
  obtain ⟨l',k',c',h1,h2,h3⟩:=ih ts h a r e
  exact ⟨l',k',c',h1,by omega,by rw[h3,List.length_cons];omega⟩
 ·intro l k c h0 hb hn ts h
  rw[q1n hn h0 hb]at h
  cases h
 ·intro l k t n hn ts h
  rw[q1m hn]at h
  cases h
 ·intro l k c t n hn hc4 ih ts h a r e
  cases a with
  |nil=>exact ⟨l,k,c,by rw[h,e];rfl,zM _,rfl⟩
  |cons x a=>
   rw[q13 hn hc4]at h
   obtain ⟨q,hq,rfl⟩:=q2N h
   obtain ⟨g1,g2,_⟩:=q0o hn
   simp only[List.cons_append,List.cons.injEq]at e
   obtain ⟨l',k',c',h1,h2,h3⟩:=ih q hq a r e.2
   exact ⟨l',k',c',h1,by omega,by rw[h3,List.length_drop];omega⟩
theorem q4p {s:List UInt8}{a r:List Tk}(h:toks s 0 0= .good (a++r)):FitE 0 r s.length/\(layF 0 r s.length).length=s.length/\toks (layF 0 r s.length) 0 0= .good r:=by
 obtain ⟨l',k',c',h1,_,h3⟩:=q6K s 0 0 _ h a r rfl
 obtain ⟨f1,_,f3⟩:=qcb l' k' c' r h1
 have hlen:=(q4Q s 0 0 _ h (by omega)).1
 rw[zF]at hlen
 rw[show k'+l'.length=s.length by omega]at f1 f3
 have f0:FitE 0 r s.length:=f1.mono (Nat.zero_le _)
 refine ⟨f0,by rw[qby f0];rfl,?_⟩
 rw[qbx (E:=0) k' (by rw[Nat.zero_add];exact f1),q7k _ _ _ _ (fun x hx=>by rw[List.mem_replicate]at hx;rw[hx.2];exact q8g),List.length_replicate,Nat.zero_add]
 exact f3 0 (by omega)
def layA (b:List UInt8)(t:Tk):List UInt8:=b++(List.replicate (t.pl.toNat-b.length) 32++q04 t)
def lay (l:List Tk):List UInt8:=l.foldl layA []
theorem qbA {l:List Tk}{k:Nat}(h:k<l.length):lay (l.take (k+1))=layA (lay (l.take k)) l[k]:=by
 unfold lay
 rw[List.take_succ_eq_append_getElem h,List.foldl_append]
 rfl
theorem q3i (n:Nat):q04 (endZ n)=[]:=by unfold endZ;rw[q2C (by omega) (by omega)]
theorem qbz (r:List Tk)(n:Nat): ∀b:List UInt8,(r++[endZ n]).foldl layA b=b++layF b.length r n:=by
 induction r with
 |nil=>
  intro b
  simp only[List.nil_append,List.foldl_cons,List.foldl_nil,layA,layF]
  rw[q3i,List.append_nil]
  rfl
 |cons t r ih=>
  intro b
  rw[List.cons_append,List.foldl_cons,ih,layF]
  have e:(layA b t).length=b.length+(t.pl.toNat-b.length)+(q04 t).length:=by unfold layA;simp;omega
  rw[e]
  unfold layA
  simp
theorem qdm (r:List Tk)(n:Nat):lay (r++[endZ n])=layF 0 r n:=by
 have:=qbz r n []
 simpa [lay] using this
theorem qeb {r:List Tk}{n:Nat}: ∀{E:Nat} {b:List UInt8},FitE E r n->b.length=E-> ∀k (h:k<(r++[endZ n]).length),0<=(r++[endZ n])[k].pl/\(((r++[endZ n]).take k).foldl layA b).length<=(r++[endZ n])[k].pl.toNat/\(r++[endZ n])[k].pl.toNat<=n:=by
 induction r with
 |nil=>
  intro E b hf hb k h
  simp only[List.nil_append,List.length_singleton]at h
  obtain rfl:k=0:=by omega
  have hf':E<=n:=hf
  refine ⟨by show 0<=(n:Int);omega,?_,by show ((n:Int)).toNat<=n;omega⟩
  show b.length<=((n:Int)).toNat
  omega
 |cons t r ih=>
  intro E b hf hb k h
  obtain ⟨f1,f2,f3,f4⟩:=hf
  have hle:=f4.le
  cases k with
  |zero=>exact ⟨f1,by show b.length<=t.pl.toNat;omega,by show t.pl.toNat<=n;omega⟩
  |succ k=>
   have e:(layA b t).length=t.pl.toNat+(q04 t).length:=by unfold layA;simp;omega
   have:=ih f4 e k (by simpa using h)
   simpa using this
theorem qaj (t:Tk)(w:World)(hT:TbW w)(hs:t.s.size<=140737488351232)(h0: -9223372036854775808<=t.n)(h1:t.n<=9223372036854775807):
  Calls Tryz.prog 186 #[t.v] w fun e w'=>e= .returned (.string (txt (q04 t)))/\Below w.heap.size w w':=by
 obtain ⟨k,s,n,p⟩:=t
 dsimp only at hs h0 h1
 unfold Tk.v
 dsimp only
 by_cases hk2:k=2
 ·subst hk2
  rw[q84]
  go_enter Tryz.func186,Tryz.ntmps186
  go_wp2_with fail
  refine (q8s n h0 h1 _ (hT.alloc _)).mono ?_
  rintro e w1 ⟨rfl,hb⟩
  have HB:Hid (Below w.heap.size w w1):=hZq (((Below.refl _ _).alloc (zM _) _).trans (hb.mono (by simp)))
  clear hb
  go_wp2
  go_ret
  exact ⟨rfl,uQ HB⟩
 ·have g2:(k==2)=false:=by simpa using hk2
  by_cases hk3:k=3
  ·subst hk3
   rw[q85, <-qbK]
   have b1:(9223372036854775807<(⟨#[39]⟩:ByteArray).size+s.size)=False:=eq_false (by rw[show (⟨#[39]⟩:ByteArray).size=1 from rfl];omega)
   have b2:(9223372036854775807<(⟨#[39]⟩++s:ByteArray).size+(⟨#[39]⟩:ByteArray).size)=False:=eq_false (by rw[ByteArray.size_append,show (⟨#[39]⟩:ByteArray).size=1 from rfl];omega)
   go_enter Tryz.func186,Tryz.ntmps186
   go_wp2
   go_ret
   exact ⟨rfl,(Below.refl _ _).alloc (zM _) _⟩
  ·have g3:(k==3)=false:=by simpa using hk3
   rw[q2C hk2 hk3,q0z]
   go_enter Tryz.func186,Tryz.ntmps186
   go_wp2
   go_ret
   exact ⟨rfl,(Below.refl _ _).alloc (zM _) _⟩
theorem q4T {B:Nat}{w w':World}(h:Below B w w')(n:Nat):Below B w (w'.drewN n):=⟨h.os,h.tape,h.output,h.size,h.block⟩
theorem q3j (t:Tk)(hs:t.s.size<=256)(h0: -9223372036854775808<=t.n)(h1:t.n<=9223372036854775807):(q04 t).length<=258:=by
 unfold q04
 split
 ·have:=Lib.itoa_length_le t.n h0 h1;omega
 ·split
  ·simp only[List.length_cons,zF,q0e,List.length_nil];omega
  ·rw[q0e];omega
theorem qax (t:Tk)(h:tkR (q04 t)=none):wrOk t=false:=by unfold wrOk;rw[h];simp
theorem q3Y {t:Tk}(h:wrOk t=true): ¬ t.kd=0/\t.s.size<=256/\0<=t.n/\t.n<=9223372036854775807/\(q04 t).length<=258:=by
 have h1:=(q3X t).1 h
 obtain ⟨_,_,_,_,k1,_,_,hn0,hn1,_⟩:=q0o h1.2
 have e1:(t.out 0).kd=t.kd:=rfl
 have e2:(t.out 0).n=t.n:=rfl
 rw[e1]at k1
 rw[e2]at hn0 hn1
 exact ⟨by omega,h1.1,hn0,hn1,q3j t h1.1 (by omega) hn1⟩
theorem qcm (t:Tk)(h:256<t.s.size):wrOk t=false:=by unfold wrOk;rw[zK (by omega)];rfl
theorem qay (t u:Tk)(m:Nat)(hs:t.s.size<=256)(h:tkR (q04 t)=some (u,m)):wrOk t=tkEq u (t.out 0):=by unfold wrOk;rw[h,decide_eq_true hs];simp
theorem q7j (t:Tk)(w:World)(hT:TbW w)(hs:t.s.size<=9223372036854775807)(h0: -9223372036854775808<=t.n)(h1:t.n<=9223372036854775807):
  Calls Tryz.prog 170 #[t.v] w fun e w'=> ∃b,e= .returned (.tuple #[.string b, .bool (wrOk t)])/\(wrOk t=true->b=txt (q04 t))/\Below w.heap.size w w':=by
 by_cases hbig:256<t.s.size
 ·rw[qcm t hbig]
  obtain ⟨k,s,n,p⟩:=t
  dsimp only at hs hbig
  unfold Tk.v
  dsimp only
  go_enter Tryz.func170,Tryz.ntmps170
  go_wp2
  go_ret2
  exact ⟨⟨_,rfl⟩,(Below.refl _ _).alloc (zM _) _⟩
 ·have hsl:=q3j t (by omega) h0 h1
  have SP:=fun W hW=>qaj t W hW (by omega) h0 h1
  have RD:=fun W hW=>q6t (txt (q04 t)) W hW (by rw[q0k];omega)
  rw[q0y]at RD
  have HW1:=hZq (qax t)
  have HW2:=hZq (fun u m=>qay t u m (by omega))
  generalize wrOk t=OK at *
  generalize hS:txt (q04 t)=S at *
  clear hS
  have HSP:=hZq SP
  clear SP hsl
  cases hQ:tkR (q04 t)with
  |none=>
   have e:=uQ HW1 hQ
   subst e
   rw[hQ]at RD
   have HRD:Hid (∀W,TbW W->Calls Tryz.prog 50 #[.string S] W fun e w'=>e= .returned (.tuple #[.agg #[.int .i64 0, .string ⟨#[]⟩, .int .i64 0, .int .i64 0], .int .i64 0])/\Below W.heap.size W w'):=hZq RD
   clear RD HW1 HW2 hQ
   obtain ⟨k,s,n,p⟩:=t
   unfold Tk.v at *
   dsimp only at *
   go_enter Tryz.func170,Tryz.ntmps170
   go_wp2_with fail
   refine (uQ HSP _ (hT.alloc _)).mono ?_
   rintro e w1 ⟨rfl,hb1⟩
   have hT1:TbW w1:=(hT.alloc _).below hb1 (by have:=hT.low;simp;omega)
   have q1:CBox w.heap.size #[.int .i64 k, .string s, .int .i64 n, .int .i64 p] 98 w1:=by unfold CBox;rw[hb1.block _ (by simp)];exact heap_alloc_new w _
   have hB1:Below w.heap.size w w1:=((Below.refl _ _).alloc (zM _) _).trans (hb1.mono (by simp))
   have hl1:w.heap.size<w1.heap.size:=by have:=hb1.size;simp at this;omega
   clear hb1
   go_wp2_with fail
   refine (uQ HRD _ hT1).mono ?_
   rintro e w2 ⟨rfl,hb2⟩
   have hB2:Below w.heap.size w w2:=hB1.trans (hb2.mono (by omega))
   have q2:CBox w.heap.size #[.int .i64 k, .string s, .int .i64 n, .int .i64 p] 98 w2:=by unfold CBox;rw[hb2.block _ hl1];exact q1
   have hl2:w.heap.size<w2.heap.size:=by have:=hb2.size;omega
   have c3:=CBox.cell (i:=3) (v:= .int .i64 p) q2 rfl
   have f3:=CBox.froz q2 3
   have HB2:=hZq hB2
   clear hB2 hB1 q1 hb2 q2
   go_wp2_with fail
   go_quiet (fail)
   go_wp2
   go_ret2
   exact ⟨_,rfl,fun h=>absurd h (by simp),q4T (((uQ HB2).setCell (p:=⟨w.heap.size,3,none⟩) (zM _) _).alloc (by simp;omega) _) _⟩
  |some q=>
   obtain ⟨u,m⟩:=q
   have e:=uQ HW2 u m hQ
   have hm:=(q0o hQ).1
   rw[hQ]at RD
   have EQ: ∀W,(Op.equalIn 10000 98 u.v (t.out 0).v).run Tryz.prog W= .ok OK W:=fun W=>by rw[e];exact eqT 9998 u (t.out 0) W
   clear e HW1 HW2 hQ
   obtain ⟨k,s,n,p⟩:=t
   obtain ⟨uk,us,un,up⟩:=u
   have HRD:Hid (∀W,TbW W->Calls Tryz.prog 50 #[.string S] W fun e w'=>e= .returned (.tuple #[.agg #[.int .i64 uk, .string us, .int .i64 un, .int .i64 up], .int .i64 (m:Int)])/\Below W.heap.size W w'):=hZq RD
   have EQ2: ∀W,(Op.equalIn 10000 98 (.agg #[.int .i64 uk, .string us, .int .i64 un, .int .i64 up]) (.agg #[.int .i64 k, .string s, .int .i64 n, .int .i64 0])).run Tryz.prog W= .ok OK W:=EQ
   clear RD EQ
   unfold Tk.v at *
   dsimp only at *
   have HEQ:=hZq EQ2
   clear EQ2
   go_enter Tryz.func170,Tryz.ntmps170
   go_wp2_with fail
   refine (uQ HSP _ (hT.alloc _)).mono ?_
   rintro e w1 ⟨rfl,hb1⟩
   have hT1:TbW w1:=(hT.alloc _).below hb1 (by have:=hT.low;simp;omega)
   have q1:CBox w.heap.size #[.int .i64 k, .string s, .int .i64 n, .int .i64 p] 98 w1:=by unfold CBox;rw[hb1.block _ (by simp)];exact heap_alloc_new w _
   have hB1:Below w.heap.size w w1:=((Below.refl _ _).alloc (zM _) _).trans (hb1.mono (by simp))
   have hl1:w.heap.size<w1.heap.size:=by have:=hb1.size;simp at this;omega
   clear hb1
   go_wp2_with fail
   refine (uQ HRD _ hT1).mono ?_
   rintro e w2 ⟨rfl,hb2⟩
   have hB2:Below w.heap.size w w2:=hB1.trans (hb2.mono (by omega))
   have q2:CBox w.heap.size #[.int .i64 k, .string s, .int .i64 n, .int .i64 p] 98 w2:=by unfold CBox;rw[hb2.block _ hl1];exact q1
   have hl2:w.heap.size<w2.heap.size:=by have:=hb2.size;omega
   have c3:=CBox.cell (i:=3) (v:= .int .i64 p) q2 rfl
   have f3:=CBox.froz q2 3
   have HB2:=hZq hB2
   have Q2:=hZq q2
   clear hB2 hB1 q1 hb2 q2
   go_wp2_with fail
   have q3:CBox w.heap.size #[.int .i64 k, .string s, .int .i64 n, .int .i64 0] 98 ((w2.setCell ⟨w.heap.size,3,none⟩ (.int .i64 0)).alloc (.cells #[.int .i64 uk, .string us, .int .i64 un, .int .i64 up] 98)):=CBox.kp ((uQ Q2).set 3 (.int .i64 0)) (Kp.alloc _ _) (by simp)
   have q4:CBox w2.heap.size #[.int .i64 uk, .string us, .int .i64 un, .int .i64 up] 98 ((w2.setCell ⟨w.heap.size,3,none⟩ (.int .i64 0)).alloc (.cells #[.int .i64 uk, .string us, .int .i64 un, .int .i64 up] 98)):=by
    have:=CBox.new (w2.setCell ⟨w.heap.size,3,none⟩ (.int .i64 0)) #[.int .i64 uk, .string us, .int .i64 un, .int .i64 up] 98
    simpa using this
   have HBF:Hid (Below w.heap.size w ((w2.setCell ⟨w.heap.size,3,none⟩ (.int .i64 0)).alloc (.cells #[.int .i64 uk, .string us, .int .i64 un, .int .i64 up] 98))):=hZq (((uQ HB2).setCell (zM _) _).alloc (by simp;omega) _)
   generalize (w2.setCell ⟨w.heap.size,3,none⟩ (.int .i64 0)).alloc (.cells #[.int .i64 uk, .string us, .int .i64 un, .int .i64 up] 98)=W at *
   have a0:=CBox.cell (i:=0) (v:= .int .i64 k) q3 rfl
   have a1:=CBox.cell (i:=1) (v:= .string s) q3 rfl
   have a2:=CBox.cell (i:=2) (v:= .int .i64 n) q3 rfl
   have a3:=CBox.cell (i:=3) (v:= .int .i64 0) q3 rfl
   have b0:=CBox.cell (i:=0) (v:= .int .i64 uk) q4 rfl
   have b1:=CBox.cell (i:=1) (v:= .string us) q4 rfl
   have b2:=CBox.cell (i:=2) (v:= .int .i64 un) q4 rfl
   have b3:=CBox.cell (i:=3) (v:= .int .i64 up) q4 rfl
   clear q3 q4 c3 f3 Q2 HB2
   have EQ:=uQ HEQ
   go_quiet (fail)
   go_wp2
   go_ret2
   exact ⟨_,rfl,fun _=>rfl,q4T (uQ HBF) _⟩
section
open Go.RowKit Go.Deep
end
def q2c (l:List Tk):Bool:=match l.getLast? with|some t=>t.kd==0|none=>false
def cutL (l:List Tk):List Tk:=if q2c l=true then l.dropLast else l
def endT (l:List Tk):Tk:=if q2c l=true then l.getLast?.getD ⟨0,⟨#[]⟩,0,0⟩ else ⟨0,⟨#[]⟩,0,0⟩
theorem TksAt.take {w:World}{ad:Option Addr}{l:List Tk}(h:TksAt w ad l)(n:Nat):TksAt w ad (l.take n):=fun hl=>by
 obtain ⟨b,off,e,hlt,hc⟩:=h (by intro e;subst e;simp at hl)
 refine ⟨b,off,e,hlt,fun i hi=>?_⟩
 rw[zL]at hi
 have:=hc i (by omega)
 simpa using this
theorem TksAt.cut {w:World}{ad:Option Addr}{l:List Tk}(h:TksAt w ad l):TksAt w ad (cutL l):=by
 unfold cutL
 split
 ·rw[List.dropLast_eq_take];exact h.take _
 ·exact h
theorem qaT {l:List Tk}{t:Tk}(h:t∈cutL l):t∈l:=by
 unfold cutL at h
 split at h
 ·exact List.dropLast_subset _ h
 ·exact h
theorem qbr (l:List Tk)(m:Nat)(h:l.length=m+1):q2c l=(l[m].kd==0):=by
 unfold q2c
 rw[List.getLast?_eq_getElem?,show l.length-1=m by omega,zE (by omega)]
theorem q1x (l:List Tk)(m:Nat)(h:l.length=m+1)(he:q2c l=true):endT l=l[m]:=by
 unfold endT
 rw[if_pos he,List.getLast?_eq_getElem?,show l.length-1=m by omega,zE (by omega)]
 rfl
theorem q8l (ad:Option Addr)(cap:Nat)(l:List Tk)(w:World)(hl:l.length<=9223372036854775807)(hcap:l.length<=cap)(hA:TksAt w ad l):
  Calls Tryz.prog 169 #[.slice ad l.length cap] w fun e w'=>e= .returned (.tuple #[.slice ad (cutL l).length cap,(endT l).v])/\Below w.heap.size w w':=by
 cases hn:l.length with
 |zero=>
  obtain rfl:=List.eq_nil_of_length_eq_zero hn
  have e1:cutL []=[]:=rfl
  have e2:endT []=⟨0,⟨#[]⟩,0,0⟩:=rfl
  rw[e1,e2]
  clear hA e1 e2 hn
  go_enter Tryz.func169,Tryz.ntmps169
  go_wp2
  exact bodyPost_ret (v:= .tuple #[.slice ad 0 cap, .agg #[.int .i64 0, .string ⟨#[]⟩, .int .i64 0, .int .i64 0]]) (by simp[results,Tryz.results169,go_sem]) rfl ⟨rfl,(Below.refl _ _).alloc (zM _) _⟩
 |succ m=>
  obtain ⟨b,off,rfl,hlt,c0,c1,c2,c3⟩:=hA.at m (by omega)
  have h1:=qbr l m hn
  have h2:=q1x l m hn
  have k1:=Kp.alloc w (.cells #[.int .i64 0, .string ⟨#[]⟩, .int .i64 0, .int .i64 0] 98)
  have d0:=k1.cell c0 (by simp)
  have d1:=k1.cell c1 (by simp)
  have d2:=k1.cell c2 (by simp)
  have d3:=k1.cell c3 (by simp)
  generalize l[m]=T at *
  obtain ⟨k,s,n,p⟩:=T
  dsimp only at *
  clear c0 c1 c2 c3 k1 hA
  by_cases he:k=0
  ·subst he
   rw[show ((0:Int)==0)=true from rfl]at h1
   rw[h2 h1,show (cutL l).length=m by unfold cutL;rw[if_pos h1,List.length_dropLast];omega]
   clear h1 h2
   have HL:=hZq hn
   have hl2:m+1<=9223372036854775807:=by omega
   have hcap2:m+1<=cap:=by omega
   clear hn hl hcap
   go_enter Tryz.func169,Tryz.ntmps169
   go_wp2_with fail
   have HB:Hid (Below w.heap.size w (w.alloc (.cells #[.int .i64 0, .string ⟨#[]⟩, .int .i64 0, .int .i64 0] 98))):=hZq ((Below.refl _ _).alloc (zM _) _)
   have hbx:CBox w.heap.size #[.int .i64 0, .string ⟨#[]⟩, .int .i64 0, .int .i64 0] 98 (w.alloc (.cells #[.int .i64 0, .string ⟨#[]⟩, .int .i64 0, .int .i64 0] 98)):=CBox.new w _ _
   have hne:b≠w.heap.size:=by omega
   generalize w.alloc (.cells #[.int .i64 0, .string ⟨#[]⟩, .int .i64 0, .int .i64 0] 98)=W at *
   have x0:=CBox.cell (i:=0) (v:= .int .i64 0) hbx rfl
   have x1:=CBox.cell (i:=1) (v:= .string ⟨#[]⟩) hbx rfl
   have x2:=CBox.cell (i:=2) (v:= .int .i64 0) hbx rfl
   have x3:=CBox.cell (i:=3) (v:= .int .i64 0) hbx rfl
   have f0:=CBox.froz hbx 0
   have f1:=CBox.froz hbx 1
   have f2:=CBox.froz hbx 2
   have f3:=CBox.froz hbx 3
   clear hbx
   go_region_with (fail)
   all_goals (go_wp2;exact bodyPost_ret (v:= .tuple #[.slice (some ⟨b,off,none⟩) m cap, .agg #[.int .i64 0, .string s, .int .i64 n, .int .i64 p]]) (by simp[results,Tryz.results169,go_sem,x0,x1,x2,x3]) rfl ⟨rfl,((((uQ HB).drew.setCell (p:=⟨w.heap.size,0,none⟩) (zM _) _).setCell (p:=⟨w.heap.size,1,none⟩) (zM _) _).setCell (p:=⟨w.heap.size,2,none⟩) (zM _) _).setCell (p:=⟨w.heap.size,3,none⟩) (zM _) _⟩)
  ·have g:(k==0)=false:=by simpa using he
   rw[g]at h1
   have e2:endT l=⟨0,⟨#[]⟩,0,0⟩:=by unfold endT;rw[h1];rfl
   have e1:cutL l=l:=by unfold cutL;rw[h1];rfl
   rw[e1,e2,hn]
   have HL:=hZq hn
   have hl2:m+1<=9223372036854775807:=by omega
   have g2:(k != 0)=true:=by simpa using he
   clear e1 e2 h1 h2 hn hl hcap
   go_enter Tryz.func169,Tryz.ntmps169
   go_wp2
   exact bodyPost_ret (v:= .tuple #[.slice (some ⟨b,off,none⟩) (m+1) cap, .agg #[.int .i64 0, .string ⟨#[]⟩, .int .i64 0, .int .i64 0]]) (by simp[results,Tryz.results169,go_sem]) rfl ⟨rfl,(Below.refl _ _).alloc (zM _) _⟩
def Bld (B b:Nat)(l:List UInt8)(w:World):Prop:=Lib.IsBuilder 243 5 B b (q0D l) w
theorem qeX:(Tryz.prog.info? 243).map (·.size)=some 2:=by kernel_rfl
theorem qeY:liesAt Tryz.prog Tryz.prog.depth 243 (2 / Tryz.prog.cellsOf 243) 0 243 1=true:=by kernel_rfl
theorem Bld.new (w:World):Bld w.heap.size w.heap.size [] (w.alloc (.cells #[.pointer none, .slice none 0 0] 243)):=
 Or.inl ⟨zM _,_,heap_alloc_new w _,World.ownsRow_nil _ _ _ _,by simp[Value.ownBlock]⟩
theorem q2X (B b:Nat)(l:List UInt8)(w:World)(h:Bld B b l w):
  Calls Tryz.prog 172 #[.pointer (some ⟨b,0,none⟩)] w fun e w'=>e= .returned (.tuple #[])/\B<=b/\(∃v,w'.heap[b]?=some (.cells #[.pointer (some ⟨b,0,none⟩),v] 243 (0,0))/\Owns B w' v l)/\Below B w w':=by
 obtain ⟨j,hj,hjs⟩:=Option.map_eq_some_iff.1 qeX
 rcases h with h|h
 ·have c0:=h.cell0
  have hsh:=h.shape
  have hfz:=h.frozen0
  have HH:=hZq h
  clear h
  go_enter Tryz.func172,Tryz.ntmps172
  go_wp2
  rw[Lib.run_to_unsafe w ⟨b,0,none⟩ Tryz.underlying241 Tryz.underlying281 hj (by rw[hjs];decide) hsh (Nat.zero_lt_succ 1)]
  simp only[Result.andThen]
  rw[Oper.upon_value]
  go_wp2
  rw[run_callFunc_extern Tryz.func187 (by kernel_rfl) (by kernel_rfl) (by kernel_rfl) (e:=Extern.AbiNoEscape.same) (by kernel_rfl)]
  rw[Lib.run_noEscape]
  simp only[Result.andThen]
  rw[Oper.upon_value]
  go_wp2
  rw[Lib.run_from_unsafe w ⟨b,0,none⟩ Tryz.underlying281 Tryz.underlying241 hj hsh qeY]
  simp only[Result.andThen]
  rw[Oper.upon_value]
  go_wp2
  have h:=uQ HH
  obtain ⟨h1,v,h2,h3,h4⟩:=h.used (.pointer (some ⟨b,0,none⟩))
  rw[q0W]at h3
  go_end0
  exact ⟨rfl,h1,⟨v,h2,h3⟩,(Below.refl B w).setCell (p:=⟨b,0,none⟩) h1 _⟩
 ·have c0:=h.cell0
  have HH:=hZq h
  clear h
  go_enter Tryz.func172,Tryz.ntmps172
  go_wp2
  rw[Lib.run_neq_ptr_same w _ Tryz.underlying241 hj]
  go_wp2
  obtain ⟨h1,v,h2,h3,h4⟩:=uQ HH
  rw[q0W]at h3
  go_end0
  exact ⟨rfl,h1,⟨v,h2,h3⟩,Below.refl B w⟩
theorem q5p (B b:Nat)(l:List UInt8)(c:Nat)(w:World)(h:Bld B b l w)(hc:c<256)(hl:l.length+1<=140737488355328)(hB:B<=w.heap.size):
  Calls Tryz.prog 171 #[.pointer (some ⟨b,0,none⟩), .int .u8 (c:Int)] w fun e w'=>e= .returned .nilIface/\Bld B b (l++[UInt8.ofNat c]) w'/\Below B w w':=by
 obtain ⟨i0,hi,hz0,hz1,hz2⟩:=info_parts q7O
 go_enter Tryz.func171,Tryz.ntmps171
 go_wp2_with fail
 refine (q2X B b l w h).mono ?_
 rintro e w1 ⟨rfl,hBb,⟨v,hbk,hown⟩,hb1⟩
 have c1:w1.cell? ⟨b,1,none⟩=some v:=by rw[Lib.cell_of_heap hbk];rfl
 clear h
 unfold Owns at hown
 go_wp2_with (at_builtin;refine wpList_append_own _ rfl _ _ 116 rfl B 5 i0 (.int .u8 0) 1 1 Tryz.underlying116 hi hz0 hz1 hz2 rfl (by decide) _ _ _ rfl (hown.alloc _) ⟨w1.heap.size,0,none⟩ 1 1 [.int .u8 (c:Int)] rfl rfl ?c1 ?c2 ?c3 ?c4 ?c5 ?_)
 case c1=>
  intro j u hj
  match j,hj with
  |0,hj=>simp at hj;subst hj;simp[Addr.add]
 case c2=>intro u hu;simp at hu;subst hu;rfl
 case c3=>unfold maxLen;omega
 case c4=>omega
 case c5=>have:=hb1.size;simp;omega
 intro v' w2 hown' hgrow _
 have hlt:b<w1.heap.size:=(zB.1 hbk).1
 have hne:=Lib.ownBlock_ne hown hbk (by decide)
 have hb2:w2.heap[b]?=some (.cells #[.pointer (some ⟨b,0,none⟩),v] 243 (0,0)):=by
  rw[hgrow.block b (by simp;omega) (fun e=>hne e.symm),Lib.alloc_old w1 _ b hlt]
  exact hbk
 have d1:w2.cell? ⟨b,1,none⟩=some v:=by rw[Lib.cell_of_heap hb2];rfl
 have f1:w2.frozen? ⟨b,1,none⟩=false:=Lib.frozen_of_heap hb2 1
 obtain ⟨ao,n',cp,rfl⟩: ∃ao n' cp,v'= .slice ao n' cp:=by
  rcases hown'.2 with ⟨hv,_⟩|⟨g,cap,cur,hv,_⟩
  ·exact ⟨_,_,_,hv⟩
  ·exact ⟨_,_,_,hv⟩
 have HR:Hid (Bld B b (l++[UInt8.ofNat c]) (w2.setCell ⟨b,1,none⟩ (.slice ao n' cp))/\Below B w (w2.setCell ⟨b,1,none⟩ (.slice ao n' cp))):=by
  refine hZq ⟨?_,?_⟩
  ·have:=Lib.BuilderAt.put (T:=243) (e:=5) hBb hb2 (bs':=q0D (l++[UInt8.ofNat c])) (by rw[q0W,q33, <-q96 c hc];simpa using hown') (by decide)
   exact Or.inr this
  ·exact ((hb1.alloc (by have:=hb1.size;omega) _).grown hgrow (by have:=hb1.size;simp;omega) (fun k hk=>(hown.lt k hk).1)).setCell (p:=⟨b,1,none⟩) hBb _
 clear hown' hgrow hown hbk
 go_wp2
 go_ret
 exact ⟨rfl,uQ HR⟩
theorem q0U (B b:Nat)(l:List UInt8)(s:ByteArray)(w:World)(h:Bld B b l w)(hl:l.length+s.size<=140737488355328)(hB:B<=w.heap.size):
  Calls Tryz.prog 152 #[.pointer (some ⟨b,0,none⟩), .string s] w fun e w'=>e= .returned (.tuple #[.int .i64 s.size, .nilIface])/\Bld B b (l++s.data.toList) w'/\Below B w w':=by
 obtain ⟨i0,hi,hz0,hz1,hz2⟩:=info_parts q7O
 go_enter Tryz.func152,Tryz.ntmps152
 go_wp2_with fail
 refine (q2X B b l w h).mono ?_
 rintro e w1 ⟨rfl,hBb,⟨v,hbk,hown⟩,hb1⟩
 have c1:w1.cell? ⟨b,1,none⟩=some v:=by rw[Lib.cell_of_heap hbk];rfl
 clear h
 unfold Owns at hown
 go_wp2_with (at_builtin;refine Lib.wpList_append_own_string _ rfl _ _ 116 9 rfl B 5 i0 Tryz.underlying116 Tryz.underlying9 hi hz0 hz1 hz2 _ _ _ rfl hown s rfl ?c3 ?c4 ?c5 ?_)
 case c3=>unfold maxLen;omega
 case c4=>omega
 case c5=>have:=hb1.size;omega
 intro v' w2 hown' hgrow _
 have hlt:b<w1.heap.size:=(zB.1 hbk).1
 have hne:=Lib.ownBlock_ne hown hbk (by decide)
 have hb2:w2.heap[b]?=some (.cells #[.pointer (some ⟨b,0,none⟩),v] 243 (0,0)):=by
  rw[hgrow.block b hlt (fun e=>hne e.symm)]
  exact hbk
 have d1:w2.cell? ⟨b,1,none⟩=some v:=by rw[Lib.cell_of_heap hb2];rfl
 have f1:w2.frozen? ⟨b,1,none⟩=false:=Lib.frozen_of_heap hb2 1
 obtain ⟨ao,n',cp,rfl⟩: ∃ao n' cp,v'= .slice ao n' cp:=by
  rcases hown'.2 with ⟨hv,_⟩|⟨g,cap,cur,hv,_⟩
  ·exact ⟨_,_,_,hv⟩
  ·exact ⟨_,_,_,hv⟩
 have HR:Hid (Bld B b (l++s.data.toList) (w2.setCell ⟨b,1,none⟩ (.slice ao n' cp))/\Below B w (w2.setCell ⟨b,1,none⟩ (.slice ao n' cp))):=by
  refine hZq ⟨?_,?_⟩
  ·have:=Lib.BuilderAt.put (T:=243) (e:=5) hBb hb2 (bs':=q0D (l++s.data.toList)) (by rw[q0W,q33, <-q97 s,zF,Array.length_toList];exact hown') (by decide)
   exact Or.inr this
  ·exact (hb1.grown hgrow (by have:=hb1.size;omega) (fun k hk=>(hown.lt k hk).1)).setCell (p:=⟨b,1,none⟩) hBb _
 clear hown' hgrow hown hbk
 go_wp2
 go_ret2
 exact ⟨rfl,uQ HR⟩
theorem q3D (B b:Nat)(l:List UInt8)(w:World)(h:Bld B b l w):
  Calls Tryz.prog 151 #[.pointer (some ⟨b,0,none⟩)] w fun e w'=>e= .returned (.int .i64 l.length)/\w'=w:=by
 have:=Tryz.Builder_Len B b (q0D l) w h
 rw[q0W]at this
 exact this
theorem q3z (B b:Nat)(l:List UInt8)(w:World)(h:Bld B b l w)(hB:B<=w.heap.size):
  Calls Tryz.prog 154 #[.pointer (some ⟨b,0,none⟩)] w fun e w'=>e= .returned (.string ⟨l.toArray⟩)/\Below B w w':=
 Tryz.Builder_String_any B b l w h hB
theorem Bld.below {B b:Nat}{l:List UInt8}{w w':World}(h:Bld B b l w)(hb:Below w.heap.size w w'):Bld B b l w':=by
 have key: ∀p,Lib.BuilderAt 243 5 B b p (q0D l) w->Lib.BuilderAt 243 5 B b p (q0D l) w':=fun p h=>by
  have hlt:=h.lt
  obtain ⟨h1,v,h2,h3,h4⟩:=h
  refine ⟨h1,v,(hb.block b hlt).trans h2,?_,h4⟩
  refine World.ownsRow.kept (row:=none) h3 ⟨hb.os,hb.tape,hb.output,hb.size,fun k hk _=>hb.block k hk⟩ ?_
  cases v.ownBlock
  ·exact Or.inl rfl
  ·exact Or.inr (by simp)
 rcases h with h|h
 ·exact Or.inl (key _ h)
 ·exact Or.inr (key _ h)
theorem Bld.alloc {B b:Nat}{l:List UInt8}{w:World}(h:Bld B b l w)(o:Obj):Bld B b l (w.alloc o):=h.below ((Below.refl _ _).alloc (zM _) o)
theorem qao (l:List Tk)(h: ∀t∈l,wrOk t=true):(q0P l).length<=l.length * 259:=by
 induction l with
 |nil=>simp[q0P]
 |cons t r ih=>
  have h1:=(q3X t).1 (h t (by simp))
  obtain ⟨_,hl,hsp,_,_,_,_,hn0,hn1,_⟩:=q0o h1.2
  have h2:=q3j t h1.1 (by have:(t.out 0).n=t.n:=rfl;omega) (by have:(t.out 0).n=t.n:=rfl;omega)
  have h3:=ih (fun x hx=>h x (by simp[hx]))
  rw[show q0P (t::r)=32::(q04 t++q0P r) by unfold q0P;simp]
  simp only[List.length_cons,zF]
  omega
theorem q4Z (l:List Tk)(h: ∀t∈l,wrOk t=true):(q0i l).length<=l.length * 259:=by
 have:=qao l h
 cases l with
 |nil=>simp[q0i]
 |cons t r=>
  rw[show q0P (t::r)=32::q0i (t::r) by unfold q0i q0P;simp]at this
  simp only[List.length_cons]at this ⊢
  omega
theorem TksAt.below {w w':World}{ad:Option Addr}{l:List Tk}{B:Nat}(h:TksAt w ad l)(hb:Below B w w')(hB:w.heap.size<=B):TksAt w' ad l:=h.kp ⟨hb.os,hb.tape,hb.output,hb.size,fun k hk _=>hb.block k (by omega)⟩
theorem q9I {a:List Tk}{k:Nat}(h:k<a.length):q0i (a.take (k+1))=if k=0 then q04 a[k] else (q0i (a.take k)++[32])++q04 a[k]:=by
 rw[List.take_succ_eq_append_getElem h,q8D]
 by_cases hk:k=0
 ·rw[if_pos hk,if_pos (by subst hk;rfl)]
 ·rw[if_neg hk,if_neg (fun e=>by have:=congrArg List.length e;rw[zL]at this;simp only[List.length_nil]at this;omega),List.append_assoc]
  rfl
theorem qdV {a:List Tk}{k:Nat}(h:k<a.length)(h1: ∀t∈a.take k,wrOk t=true)(h2:wrOk a[k]=true): ∀t∈a.take (k+1),wrOk t=true:=by
 rw[List.take_succ_eq_append_getElem h]
 intro t ht
 rcases zG.1 ht with h3|h3
 ·exact h1 t h3
 ·simp at h3;subst h3;exact h2
theorem q60 {a:List Tk}{k:Nat}(h:k<=a.length)(ha:a.length<=4096)(h1: ∀t∈a.take k,wrOk t=true):(q0i (a.take k)).length<=1060864:=by
 have:=q4Z _ h1
 rw[zL]at this
 omega
def joR (l:List Tk):List UInt8 × Int:=
 if 4096<(cutL l).length then ([],2) else if ¬ (∀t∈cutL l,wrOk t=true) then ([],100) else if ¬ ((endT l).s.size=0/\(endT l).n=0) then ([],100) else
 if 262144<(q0i (cutL l)).length then ([],2) else (q0i (cutL l),0)
theorem qbv (ad:Option Addr)(cap:Nat)(l:List Tk)(w:World)(hT:TbW w)(hl:l.length<=9223372036854775807)(hcap:l.length<=cap)(hA:TksAt w ad l)(hok: ∀t∈l,t.ok):
  Calls Tryz.prog 150 #[.slice ad l.length cap] w fun e w'=>e= .returned (.tuple #[.string (txt (joR l).1), .int .i64 (joR l).2])/\Below w.heap.size w w':=by
 have CE:=q8l ad cap l w hl hcap hA
 have hAc:=hA.cut
 have hokc: ∀t∈cutL l,t.ok:=fun t ht=>hok t (qaT ht)
 have hlc:(cutL l).length<=9223372036854775807:=by
  unfold cutL
  split
  ·rw[List.length_dropLast];omega
  ·exact hl
 have hlow:=hT.low
 generalize hR:joR l=R
 unfold joR at hR
 generalize cutL l=a at *
 generalize endT l=E at *
 generalize l.length=nl at *
 clear hA hok hl hcap
 obtain ⟨ek,es,en,ep⟩:=E
 dsimp only[Tk.v]at CE hR
 have HCE:=hZq CE
 clear CE
 by_cases hbig:4096<a.length
 ·rw[if_pos hbig]at hR
  subst hR
  clear hAc hokc
  generalize a.length=n at *
  go_enter Tryz.func150,Tryz.ntmps150
  go_wp2_with fail
  refine (uQ HCE).mono ?_
  rintro e w1 ⟨rfl,hb1⟩
  have HB:Hid (Below w.heap.size w (w1.alloc (.cells #[.int .i64 ek, .string es, .int .i64 en, .int .i64 ep] 98))):=hZq (hb1.alloc hb1.size _)
  clear hb1
  go_wp2
  go_ret2
  exact ⟨rfl,uQ HB⟩
 ·rw[if_neg hbig]at hR
  have HR:=hZq hR
  clear hR
  have HOK:=hZq hokc
  clear hokc
  go_enter Tryz.func150,Tryz.ntmps150
  go_wp2_with fail
  refine (uQ HCE).mono ?_
  rintro e w1 ⟨rfl,hb1⟩
  have hA1:TksAt w1 ad a:=hAc.kp (Kp.ofBelow hb1)
  have hl1:=hb1.size
  have HB1:=hZq hb1
  clear hb1 HCE hAc
  go_wp2_with fail
  have hA2:TksAt (w1.alloc (.cells #[.int .i64 ek, .string es, .int .i64 en, .int .i64 ep] 98)) ad a:=hA1.kp (Kp.alloc _ _)
  have hE2:CBox w1.heap.size #[.int .i64 ek, .string es, .int .i64 en, .int .i64 ep] 98 (w1.alloc (.cells #[.int .i64 ek, .string es, .int .i64 en, .int .i64 ep] 98)):=CBox.new _ _ _
  have hb2:Below w.heap.size w (w1.alloc (.cells #[.int .i64 ek, .string es, .int .i64 en, .int .i64 ep] 98)):=(uQ HB1).alloc hl1 _
  have hT2:=hT.below hb2 (by omega)
  have hBl:=Bld.new (w1.alloc (.cells #[.int .i64 ek, .string es, .int .i64 en, .int .i64 ep] 98))
  have hsz:(w1.alloc (.cells #[.int .i64 ek, .string es, .int .i64 en, .int .i64 ep] 98)).heap.size=w1.heap.size+1:=by simp
  have hbw:Below (w1.alloc (.cells #[.int .i64 ek, .string es, .int .i64 en, .int .i64 ep] 98)).heap.size (w1.alloc (.cells #[.int .i64 ek, .string es, .int .i64 en, .int .i64 ep] 98)) ((w1.alloc (.cells #[.int .i64 ek, .string es, .int .i64 en, .int .i64 ep] 98)).alloc (.cells #[.pointer none, .slice none 0 0] 243)):=(Below.refl _ _).alloc (zM _) _
  have hlw:w.heap.size<w1.heap.size+1:=by omega
  rw[hsz]at hBl hbw
  clear hA1 HB1
  generalize w1.alloc (.cells #[.int .i64 ek, .string es, .int .i64 en, .int .i64 ep] 98)=W1 at *
  have hbE:w1.heap.size<w1.heap.size+1:=by omega
  generalize w1.heap.size+1=B at *
  generalize w1.heap.size=bE at *
  have HSZ:=hZq hsz
  clear hsz hl1
  have HB2:=hZq hb2
  clear hb2
  go_loopw [21] (fun i wr=> ∃k:Nat,k<=a.length/\i= .int .i64 k/\Bld B B (q0i (a.take k)) wr/\Below B W1 wr/\Hid (∀t∈a.take k,wrOk t=true)) (fun i _=>a.length-(intOf i).toNat)
  case atStart=>exact ⟨0,Nat.zero_le _,rfl,hBl,hbw,hZq (by simp)⟩
  case round=>
   obtain ⟨k,hk,rfl,hbl,hbe,HW⟩:=hrel
   have hBr:B<=wr.heap.size:=by have:=hbe.size;have:=uQ HSZ;omega
   have hTr:TbW wr:=hT2.below hbe (by omega)
   clear hBl hbw
   by_cases hlt:k<a.length
   ·obtain ⟨b,off,rfl,hbl2,c0,c1,c2,c3⟩:=(hA2.below hbe (by rw[uQ HSZ];exact zM _)).at k hlt
    have hokk:=uQ HOK a[k] (zJ hlt)
    have JN:=q9I hlt
    have HJL:=hZq (q60 hk (by omega) (uQ HW))
    have WN:=fun h=>qdV hlt (uQ HW) h
    have WR:=q7j a[k] (wr.alloc (.cells a[k].c 98)) (hTr.alloc _) hokk.2.1 hokk.2.2.1.1 hokk.2.2.1.2
    have hbx:Bld B B (q0i (a.take k)) (wr.alloc (.cells a[k].c 98)):=hbl.alloc _
    have hbex:Below B W1 (wr.alloc (.cells a[k].c 98)):=hbe.alloc hBr _
    have hno:wrOk a[k]=false-> ¬ (∀t∈a,wrOk t=true):=fun h hh=>by have:=hh a[k] (zJ hlt);rw[h]at this;cases this
    generalize wrOk a[k]=OK at *
    have hsl: ∀h:OK=true,True:=fun _=>trivial
    generalize hTe:a[k]=T at *
    obtain ⟨tk,ts,tn,tp⟩:=T
    unfold Tk.v at WR
    unfold Tk.c at WR hbx hbex
    dsimp only at *
    have HTE:=hZq hTe
    have HJN:=hZq JN
    have HWN:=hZq WN
    have HWR:=hZq WR
    have HNO:=hZq hno
    clear JN WN WR hno hTe hbl hbe hsl
    go_wp2_with fail
    refine (uQ HWR).mono ?_
    rintro e w2 ⟨bb,rfl,hbb,hb2⟩
    have hx2:=hbx.below hb2
    have hbe2:Below B W1 w2:=hbex.trans (hb2.mono (by simp;omega))
    have hs2:B<=w2.heap.size:=by have:=hb2.size;simp at this;omega
    clear hbx hbex hb2 HWR c0 c1 c2 c3
    cases OK with
    |false=>
     have hr:=uQ HR
     rw[if_pos (uQ HNO rfl)]at hr
     subst hr
     have HB3:Hid (Below w.heap.size w w2):=hZq ((uQ HB2).trans (hbe2.mono (by omega)))
     go_wp2
     go_ret2
     exact ⟨rfl,uQ HB3⟩
    |true=>
     obtain rfl:=hbb rfl
     have hall:=uQ HWN rfl
     have hlen:=q60 (k:=k+1) hlt (by omega) hall
     have hJL:=uQ HJL
     have hjn:=uQ HJN
     rw[hjn]at hlen
     have HALL:=hZq hall
     clear hall hbb HWN HJN HJL HNO
     generalize q04 ⟨tk,ts,tn,tp⟩=sp at *
     by_cases hk0:0<k
     ·rw[if_neg (by omega)]at hlen hjn
      have WB:Calls Tryz.prog 171 #[.pointer (some ⟨B,0,none⟩), .int .u8 32] w2 fun e w'=>e= .returned .nilIface/\Bld B B (q0i (a.take k)++[32]) w'/\Below B w2 w':=q5p B B _ 32 w2 hx2 (by omega) (by omega) hs2
      have hsp:(txt sp).size<=1060864:=by rw[q0k];simp only[zF,List.length_singleton]at hlen;omega
      have hjl1:(q0i (a.take k)++[32]).length<=1060865:=by simp only[zF,List.length_singleton];omega
      have HJ:Hid (q0i (a.take k)++[32]++(txt sp).data.toList=q0i (a.take (k+1))):=hZq (by rw[hjn,q0y])
      have HWB:=hZq WB
      clear WB hjn hlen
      go_wp2_with fail
      refine (uQ HWB).mono ?_
      rintro e w3 ⟨rfl,hx3,hb3⟩
      have hs3:B<=w3.heap.size:=Nat.le_trans hs2 hb3.size
      have WS:=q0U B B (q0i (a.take k)++[32]) (txt sp) w3 hx3 (by omega) hs3
      have HWS:=hZq WS
      have hbe3:Below B W1 w3:=hbe2.trans hb3
      clear WS hx3 hb3 hbe2 hx2 HWB
      go_wp2_with fail
      refine (uQ HWS).mono ?_
      rintro e w4 ⟨rfl,hx4,hb4⟩
      rw[uQ HJ]at hx4
      have hbe4:Below B W1 w4:=hbe3.trans hb4
      clear hb4 hbe3 HWS HJ
      go_wp2
      go_roundw
      case rel=>exact ⟨k+1,by omega,by go_num,hx4,hbe4,HALL⟩
      case measure=>simp[intOf];omega
     ·rw[if_pos (by omega)]at hlen hjn
      have hsp:(txt sp).size<=1060864:=by rw[q0k];exact hlen
      have WS:=q0U B B (q0i (a.take k)) (txt sp) w2 hx2 (by omega) hs2
      have HWS:=hZq WS
      have HJ:Hid (q0i (a.take k)++(txt sp).data.toList=q0i (a.take (k+1))):=hZq (by rw[hjn,q0y,show k=0 by omega];rfl)
      clear WS hjn hlen hJL
      go_wp2_with fail
      refine (uQ HWS).mono ?_
      rintro e w3 ⟨rfl,hx3,hb3⟩
      rw[uQ HJ]at hx3
      have hbe3:Below B W1 w3:=hbe2.trans hb3
      clear hb3 hx2 hbe2 HWS HJ
      go_wp2
      go_roundw
      case rel=>exact ⟨k+1,by omega,by go_num,hx3,hbe3,HALL⟩
      case measure=>simp[intOf];omega
   ·have hka:k=a.length:=by omega
    have hhw:=uQ HW
    rw[hka,List.take_length]at hbl hhw
    have hr:=uQ HR
    rw[if_neg (not_not_intro hhw)]at hr
    have hJL:=q4Z a hhw
    have q:CBox bE #[.int .i64 ek, .string es, .int .i64 en, .int .i64 ep] 98 wr:=by unfold CBox;rw[hbe.block bE (by omega)];exact hE2
    have q1:=CBox.cell (i:=1) (v:= .string es) q rfl
    have q2:=CBox.cell (i:=2) (v:= .int .i64 en) q rfl
    have HBW:Hid (Below w.heap.size w wr):=hZq ((uQ HB2).trans (hbe.mono (by omega)))
    clear HR HW hka hhw q hbe hE2 hA2
    by_cases hes:es.size=0
    ·have g1:es.toList.isEmpty=true:=by rw[ByteArray.toList_eq,List.isEmpty_iff];exact List.eq_nil_of_length_eq_zero (by rw[q0e];exact hes)
     by_cases hen:en=0
     ·rw[if_neg (not_not_intro ⟨hes,hen⟩)]at hr
      have HES:=hZq hes
      subst hen
      clear hes
      have BL:=q3D B B _ wr hbl
      have BS:=q3z B B _ wr hbl hBr
      generalize q0i a=J at *
      have HBL:=hZq BL
      have HBS:=hZq BS
      clear BL BS hbl
      by_cases hJ:262144<J.length
      ·rw[if_pos hJ]at hr
       subst hr
       go_wp2_with fail
       refine (uQ HBL).mono ?_
       rintro e w3 ⟨rfl,rfl⟩
       go_wp2
       go_ret2
       exact ⟨rfl,uQ HBW⟩
      ·rw[if_neg hJ]at hr
       subst hr
       go_wp2_with fail
       refine (uQ HBL).mono ?_
       rintro e w3 ⟨rfl,rfl⟩
       go_wp2_with fail
       refine (uQ HBS).mono ?_
       rintro e w3 ⟨rfl,hb3⟩
       have HB3:Hid (Below w.heap.size w w3):=hZq ((uQ HBW).trans (hb3.mono (by omega)))
       clear hb3
       go_wp2
       go_ret2
       exact ⟨rfl,uQ HB3⟩
     ·rw[if_pos (fun h=>hen h.2)]at hr
      subst hr
      have g2:(en != 0)=true:=by simpa using hen
      have HES:=hZq hes
      clear hes hbl hen
      go_wp2
      go_ret2
      exact ⟨rfl,uQ HBW⟩
    ·rw[if_pos (fun h=>hes h.1)]at hr
     subst hr
     have g1:es.toList.isEmpty=false:=by
      rw[ByteArray.toList_eq,List.isEmpty_eq_false_iff]
      intro e
      have:=q0e es
      rw[e]at this
      simp at this
      omega
     clear hes hbl
     go_wp2
     go_ret2
     exact ⟨rfl,uQ HBW⟩
theorem OwnsK.low {B:Nat}{w:World}{v:Value}{l:List Tk}(h:OwnsK B w v l)(hl:l≠[]):TksLow w.heap.size w v l:=by
 obtain ⟨ad,cp,rfl,ha,_⟩:=h.at
 obtain ⟨b,off,rfl,hlt,hc⟩:=ha hl
 exact ⟨b,off,cp,rfl,hlt,hc⟩
theorem qaq (t:Tk):tkEq t t=true:=(q3W t t).2 rfl
theorem q5H (a1 a2:Option Addr)(c1 c2:Nat)(l:List Tk)(w:World)(h1:TksAt w a1 l)(h2:TksAt w a2 l)(hl:l.length<=9223372036854775807):
  Calls Tryz.prog 155 #[.slice a1 l.length c1, .slice a2 l.length c2] w fun e w'=>e= .returned (.bool true)/\Kp [] w w':=by
 have H1:=hZq h1
 have H2:=hZq h2
 clear h1 h2
 go_enter Tryz.func155,Tryz.ntmps155
 go_wp2_with fail
 go_loopw [13] (fun i wr=> ∃k:Nat,k<=l.length/\i= .int .i64 (k:Int)/\Kp [] w wr) (fun i _=>l.length-(intOf i).toNat)
 case atStart=>exact ⟨0,Nat.zero_le _,rfl,Kp.refl _ _⟩
 case round=>
  obtain ⟨k,hk,rfl,kp⟩:=hrel
  by_cases hlt:k<l.length
  ·have kp2:=kp.trans (Kp.drew wr) (by simp)
   obtain ⟨b1,o1,rfl,_,x0,x1,x2,x3⟩:=((uQ H1).kp kp2).at k hlt
   obtain ⟨b2,o2,rfl,_,y0,y1,y2,y3⟩:=((uQ H2).kp kp2).at k hlt
   obtain ⟨_,_,e1,_,u0,u1,u2,u3⟩:=((uQ H1).kp kp).at k hlt
   obtain ⟨_,_,e2,_,v0,v1,v2,v3⟩:=((uQ H2).kp kp).at k hlt
   cases e1
   cases e2
   have hli:(k:Int)<(l.length:Int):=by omega
   have KP:=hZq kp
   have KP2:=hZq kp2
   have HEQ:=fun d W=>eqT d l[k] l[k] W
   clear H1 H2 kp kp2
   generalize l[k]=e at *
   rw[qaq]at HEQ
   obtain ⟨ek,es,en,ep⟩:=e
   unfold Tk.v at HEQ
   dsimp only at x0 x1 x2 x3 y0 y1 y2 y3 u0 u1 u2 u3 v0 v1 v2 v3 HEQ
   go_wp2_with fail
   first
    |(go_roundw
      case rel=>exact ⟨k+1,by omega,by go_num,uQ KP⟩
      case measure=>simp[intOf];omega)
    |(have cS:=And.intro x0 (And.intro x1 (And.intro x2 (And.intro x3 (And.intro y0 (And.intro y1 (And.intro y2 y3))))))
      go_region_held3 (fun W=>W.cell? ⟨b1,o1+k * 4,none⟩=some (.int .i64 ek)/\W.cell? ⟨b1,o1+k * 4+1,none⟩=some (.string es)/\W.cell? ⟨b1,o1+k * 4+2,none⟩=some (.int .i64 en)/\W.cell? ⟨b1,o1+k * 4+3,none⟩=some (.int .i64 ep)/\W.cell? ⟨b2,o2+k * 4,none⟩=some (.int .i64 ek)/\W.cell? ⟨b2,o2+k * 4+1,none⟩=some (.string es)/\W.cell? ⟨b2,o2+k * 4+2,none⟩=some (.int .i64 en)/\W.cell? ⟨b2,o2+k * 4+3,none⟩=some (.int .i64 ep))
       (first|with_reducible exact cS)
       (first|fail)
      go_wp2
      go_roundw
      case rel=>exact ⟨k+1,by omega,by go_num,uQ KP2⟩
      case measure=>simp[intOf];omega)
  ·go_wp2
   go_ret
   exact ⟨rfl,kp⟩
theorem qfl (n:Nat):Lib.repeatL [32] n=List.replicate n 32:=by
 induction n with
 |zero=>rfl
 |succ n ih=>rw[Lib.repeatL,ih,List.replicate_succ];rfl
theorem q6u (n:Nat)(w:World)(hn:n<=262144):Calls Tryz.prog 153 #[.string ⟨#[32]⟩, .int .i64 (n:Int)] w fun e w'=>e= .returned (.string (txt (List.replicate n 32)))/\Below w.heap.size w w':=by
 have:=Tryz.strings_Repeat ⟨#[32]⟩ n w (by omega) (by show 1 * n<=_;omega)
 have e:(⟨#[32]⟩:ByteArray).data.toList=[32]:=rfl
 rw[e,qfl]at this
 exact this
theorem qdj {t:Tk}(h:wrOk t=true\/ ∃n,t=endZ n):joR [t]=(q04 t,0):=by
 rcases h with h|⟨n,rfl⟩
 ·obtain ⟨h0,_,_,_,h4⟩:=q3Y h
  have e:q2c [t]=false:=by unfold q2c;simpa using h0
  have e1:cutL [t]=[t]:=by unfold cutL;rw[e];rfl
  have e2:endT [t]=⟨0,⟨#[]⟩,0,0⟩:=by unfold endT;rw[e];rfl
  have e3:q0i [t]=q04 t:=by unfold q0i q0P;simp
  unfold joR
  rw[e1,e2,e3,if_neg (by simp),if_neg (not_not_intro (by simpa using h)),if_neg (not_not_intro ⟨rfl,rfl⟩),if_neg (by omega)]
 ·have e:q2c [endZ n]=true:=rfl
  have e1:cutL [endZ n]=[]:=by unfold cutL;rw[e];rfl
  have e2:endT [endZ n]=endZ n:=by unfold endT;rw[e];rfl
  unfold joR
  rw[e1,e2,if_neg (by simp),if_neg (not_not_intro (by simp)),if_neg (not_not_intro ⟨rfl,rfl⟩),if_neg (by simp[q0i]),q3i]
  rfl
structure Tail (l:List Tk)(n:Nat):Prop where
 ex: ∃(s:List UInt8) (a r:List Tk),s.length=n/\toks s 0 0= .good (a++r)/\l=r++[endZ n]
 le:n<=262144
theorem Tail.fit {l:List Tk}{n:Nat}(h:Tail l n)(k:Nat)(hk:k<l.length):0<=l[k].pl/\(lay (l.take k)).length<=l[k].pl.toNat/\l[k].pl.toNat<=n:=by
 obtain ⟨s,a,r,h1,h2,rfl⟩:=h.ex
 obtain ⟨f,_,_⟩:=q4p h2
 rw[h1]at f
 exact qeb f rfl k hk
theorem Tail.wr {l:List Tk}{n:Nat}(h:Tail l n)(k:Nat)(hk:k<l.length):wrOk l[k]=true\/ ∃m,l[k]=endZ m:=by
 obtain ⟨s,a,r,h1,h2,rfl⟩:=h.ex
 have hw:=(q4Q s 0 0 _ h2 (by omega)).2
 by_cases hr:k<r.length
 ·left
  rw[List.getElem_append_left hr]
  exact hw _ (by rw[zG];exact Or.inr (zJ hr))
 ·right
  exact ⟨n,by rw[List.getElem_append_right (by omega)];simp⟩
theorem Tail.again {l:List Tk}{n:Nat}(h:Tail l n):(lay l).length=n/\tsL (txt (lay l)).size (tsR (txt (lay l)))=l/\tsC (tsR (txt (lay l)))=0/\tsA (tsR (txt (lay l)))=0:=by
 obtain ⟨s,a,r,h1,h2,rfl⟩:=h.ex
 obtain ⟨_,f2,f3⟩:=q4p h2
 rw[h1]at f2 f3
 have hle:=h.le
 rw[qdm]
 have e:tsR (txt (layF 0 r n))= .good r:=by
  unfold tsR
  rw[if_neg (by rw[q0k];omega),q0y]
  exact f3
 rw[e]
 refine ⟨f2,?_,rfl,rfl⟩
 rw[tsL,q0k,f2]
 rfl
theorem Tail.len {l:List Tk}{n:Nat}(h:Tail l n):l.length<=4097:=by
 obtain ⟨s,a,r,h1,h2,rfl⟩:=h.ex
 have:=(q4Q s 0 0 _ h2 (by omega)).1
 rw[zF]at this
 rw[zF,List.length_singleton]
 omega
theorem Tail.ok {l:List Tk}{n:Nat}(h:Tail l n): ∀t∈l,t.ok:=by
 obtain ⟨s,a,r,h1,h2,rfl⟩:=h.ex
 have:=qca s 0 0 _ h2 (by have:=h.le;omega)
 intro t ht
 rcases zG.1 ht with ht|ht
 ·exact this t (by simp[ht])
 ·simp only[zD]at ht
  subst ht
  have:=h.le
  exact ⟨⟨by show (-9223372036854775808:Int)<=0;omega,by show (0:Int)<=9223372036854775807;omega⟩,by show (0:Nat)<=_;omega,⟨by show (-9223372036854775808:Int)<=0;omega,by show (0:Int)<=9223372036854775807;omega⟩,by show (-9223372036854775808:Int)<=(n:Int);omega,by show (n:Int)<=_;omega⟩
theorem Tail.endd {l:List Tk}{n:Nat}(h:Tail l n):Endd l:=by
 obtain ⟨s,a,r,h1,h2,rfl⟩:=h.ex
 exact q9g r n
theorem Tail.drop {l:List Tk}{n:Nat}(h:Tail l n)(k:Nat)(hk:k<l.length):Tail (l.drop k) n:=by
 obtain ⟨s,a,r,h1,h2,rfl⟩:=h.ex
 rw[zF,List.length_singleton]at hk
 refine ⟨⟨s,a++r.take k,r.drop k,h1,?_,?_⟩,h.le⟩
 ·rw[List.append_assoc,List.take_append_drop];exact h2
 ·rw[List.drop_append_of_le_length (by omega)]
theorem Tail.lens {l:List Tk}{n:Nat}(h:Tail l n)(k:Nat)(hk:k<=l.length):(lay (l.take k)).length<=300000:=by
 have hle:=h.le
 by_cases hl:k<l.length
 ·have:=h.fit k hl;omega
 ·obtain rfl:k=l.length:=by omega
  rw[List.take_length,h.again.1]
  omega
theorem Bld.kp {B b:Nat}{l:List UInt8}{w w':World}(h:Bld B b l w)(hk:Kp [] w w'):Bld B b l w':=h.below (hk.below (zM _) (by simp))
theorem TksAt.piece {w:World}{b off:Nat}{l:List Tk}{j:Nat}(h:TksAt w (some ⟨b,off,none⟩) l)(hj:j<l.length):TksAt w (some ⟨b,off+j * 4,none⟩) [l[j]]:=fun _=>by
 obtain ⟨b',off',e,hlt,hc⟩:=h (fun e=>by rw[e]at hj;simp at hj)
 cases e
 refine ⟨b,off+j * 4,rfl,hlt,fun i hi=>?_⟩
 obtain rfl:i=0:=by simp at hi;omega
 simpa using hc j hj
theorem q9c (b off cap:Nat)(l:List Tk)(n:Nat)(hL:Tail l n)(w:World)(hT:TbE w)(hcap:l.length<=cap)(hcp:cap<=9223372036854775807)(hA:TksAt w (some ⟨b,off,none⟩) l):
  Calls Tryz.prog 126 #[.slice (some ⟨b,off,none⟩) l.length cap] w fun e w'=>e= .returned (.bool true)/\Below w.heap.size w w':=by
 have hlen:=hL.len
 have hle:=hL.le
 have b0:=Bld.new w
 have HAT:=hZq hA
 have HTB:=hZq hT
 have HFT:=hZq (fun k hk=>hL.fit k hk)
 have HWR:=hZq (fun k hk=>qdj (hL.wr k hk))
 have HOK:=hZq (hL.ok)
 have HNX:=hZq (fun k (hk:k<l.length)=>qbA hk)
 have HLS:=hZq (fun k hk=>hL.lens k hk)
 have HAG:=hZq hL.again
 have HLL:Hid (lay (l.take l.length)=lay l):=hZq (by rw[List.take_length])
 have HB0:=hZq b0
 have HBW0:Hid (Below w.heap.size w (w.alloc (.cells #[.pointer none, .slice none 0 0] 243))):=hZq ((Below.refl _ _).alloc (zM _) _)
 clear hA hT b0
 obtain ⟨m,hm⟩: ∃m,l.length=m:=⟨_,rfl⟩
 have HM:=hZq hm
 rw[hm]at hlen hcap HLL ⊢
 clear hm
 go_enter Tryz.func126,Tryz.ntmps126
 go_wp2_with fail
 go_loopw [12] (fun i wr=> ∃k:Nat,k<=m/\i= .int .i64 (k:Int)/\Hid (Bld w.heap.size w.heap.size (lay (l.take k)) wr)/\Hid (Below w.heap.size w wr)) (fun i _=>m-(intOf i).toNat)
 case atStart=>exact ⟨0,Nat.zero_le _,rfl,HB0,HBW0⟩
 case round=>
  obtain ⟨k,hk,rfl,HBL,HBW⟩:=hrel
  by_cases hlt:k<m
  ·have hkl:k<l.length:=by rw[uQ HM];exact hlt
   have hli:(k:Int)<(m:Int):=by omega
   have kw:=Kp.ofBelow (uQ HBW)
   obtain ⟨_,_,e,hbl,x0,x1,x2,x3⟩:=((uQ HAT).kp kw).at k hkl
   cases e
   have hp1:=((uQ HAT).kp kw).piece hkl
   obtain ⟨f0,f1,f2⟩:=uQ HFT k hkl
   obtain ⟨P,hP⟩:=Int.eq_ofNat_of_zero_le f0
   have hjr:=uQ HWR k hkl
   have hokk:=uQ HOK _ (zJ hkl)
   have HNX2:=hZq (uQ HNX k hkl)
   have hl3:=uQ HLS k (by omega)
   unfold layA at HNX2
   rw[hP,Int.toNat_natCast]at f1 f2 HNX2
   rw[hP]at x3
   have hsp:(q04 l[k]).length<=300:=by
    rcases hL.wr k hkl with h|⟨q,h⟩
    ·have:=(q3Y h).2.2.2.2;omega
    ·rw[h,q3i];simp
   generalize hK:l[k]=t at *
   generalize lay (l.take k)=LB at *
   obtain ⟨tk,ts,tn,tp⟩:=t
   dsimp only at hP x0 x1 x2 x3
   subst hP
   have ktk:=Kp.alloc wr (.cells #[.int .i64 tk, .string ts, .int .i64 tn, .int .i64 (P:Int)] 98)
   have JN:=qbv (some ⟨b,off+k * 4,none⟩) (cap-k) [⟨tk,ts,tn,(P:Int)⟩] _ ((((uQ HTB).kp kw (by simp)).kp ktk (by simp)).tok) (by simp) (by simp;omega) (hp1.kp ktk) (by simpa using hokk)
   rw[hjr,List.length_singleton]at JN
   dsimp only at JN
   have HJN:=hZq JN
   have bx:=CBox.new wr #[.int .i64 tk, .string ts, .int .i64 tn, .int .i64 (P:Int)] 98
   have HBX:=hZq bx
   have HKT:=hZq ktk
   generalize q04 ⟨tk,ts,tn,(P:Int)⟩=SP at *
   have hck:((cap:Int)-(k:Int))=((cap-k:Nat):Int):=by omega
   have hsl1: ¬ ((cap:Int)<(k:Int)+1):=by omega
   clear JN bx ktk hp1 kw hokk hjr hK f0 HFT HWR HOK HNX HLS HAG HLL
   go_wp2_with fail
   refine (uQ HJN).mono ?_
   rintro e w2 ⟨rfl,hb2⟩
   have k2:=(uQ HKT).trans (Kp.ofBelow hb2) (by simp)
   have bx2:=(uQ HBX).kp (Kp.ofBelow hb2) (by simp)
   have c3:w2.drew.cell? ⟨wr.heap.size,3,none⟩=some (.int .i64 (P:Int)):=bx2.cell rfl
   have hlt2:wr.heap.size<w2.heap.size:=(zB.1 bx2).1
   have BL2:=((uQ HBL).kp k2).kp (Kp.drew w2)
   have LN:=hZq (q3D _ _ _ w2.drew BL2)
   have HBX2:=hZq bx2
   have HBL2:=hZq ((uQ HBL).kp k2)
   have HBW2:=hZq ((uQ HBW).trans (k2.below (uQ HBW).size (by simp)))
   have gd1: ¬ ((P:Int)<(LB.length:Int)):=by omega
   have gd2: ¬ ((262144:Int)<(P:Int)):=by omega
   have gp1:((P:Int)<(LB.length:Int))=False:=by simp;omega
   have gp2:((262144:Int)<(P:Int))=False:=by simp;omega
   have gp3:(P<LB.length)=False:=by simp;omega
   clear HJN hb2 k2 bx2 HKT HBX HBL HBW BL2 x0 x1 x2 x3
   generalize wr.heap.size=G at *
   go_wp2_with fail
   go_region_held3 (fun W=>W.cell? ⟨G,3,none⟩=some (.int .i64 (P:Int)))
    (first|with_reducible exact c3)
    (first|(go_at_call 151;refine (uQ LN).mono ?_;rintro e w3 ⟨rfl,rfl⟩))
   clear LN gd1 gd2
   have HBX3:Hid (CBox G #[.int .i64 tk, .string ts, .int .i64 tn, .int .i64 (P:Int)] 98 w2.drew):=hZq (uQ HBX2)
   have HBL3:=hZq ((uQ HBL2).kp (Kp.drew w2))
   have HBW3:=hZq (uQ HBW2).drew
   have hlt3:G<w2.drew.heap.size:=hlt2
   clear HBX2 HBL2 HBW2 c3 hlt2
   generalize w2.drew=W3 at *
   have d3:W3.drew.cell? ⟨G,3,none⟩=some (.int .i64 (P:Int)):=(uQ HBX3).cell rfl
   have LN:=hZq (q3D _ _ _ W3.drew ((uQ HBL3).kp (Kp.drew W3)))
   have hsub:((P:Int)-(LB.length:Int))=((P-LB.length:Nat):Int):=by omega
   have RP:=hZq (q6u (P-LB.length) W3.drew (by omega))
   have HWS:Hid (∀W,Below W3.drew.heap.size W3.drew W->Calls Tryz.prog 152 #[.pointer (some ⟨w.heap.size,0,none⟩), .string (txt (List.replicate (P-LB.length) 32))] W fun e w'=>e= .returned (.tuple #[.int .i64 (P-LB.length:Nat), .nilIface])/\Bld w.heap.size w.heap.size (LB++List.replicate (P-LB.length) 32) w'/\Below w.heap.size W w'):=hZq (fun W hb=>by
    have:=q0U w.heap.size w.heap.size LB (txt (List.replicate (P-LB.length) 32)) W (((uQ HBL3).kp (Kp.drew W3)).below hb) (by rw[q0k,List.length_replicate];omega) (by have h1:=(uQ HBW3).size;have h2:=hb.size;have h3:W3.drew.heap.size=W3.heap.size:=rfl;omega)
    rw[q0k,List.length_replicate,q0y]at this
    exact this)
   have HNX3:Hid (lay (l.take (k+1))=(LB++List.replicate (P-LB.length) 32)++SP):=hZq (by rw[uQ HNX2,List.append_assoc])
   have hLL:(LB++List.replicate (P-LB.length) 32).length<=700000:=by rw[zF,List.length_replicate];omega
   clear HNX2
   generalize LB++List.replicate (P-LB.length) 32=LB2 at *
   generalize txt (List.replicate (P-LB.length) 32)=RS at *
   obtain ⟨PD,hPD⟩: ∃q,P-LB.length=q:=⟨_,rfl⟩
   rw[hPD]at RP HWS hsub
   have hPDb:PD<=262144:=by omega
   have hPDw:IntKind.i64.wrap (PD:Int)=(PD:Int):=by rw[IntKind.wrap_i64];omega
   clear hPD
   generalize LB.length=LBN at *
   go_wp2_with fail
   go_region_with (first|(go_at_call 152;refine (uQ WS4).mono ?_;rintro e w5 ⟨rfl,hbl5,hb5⟩)|(go_at_call 153;refine (uQ RP).mono ?_;rintro e w4 ⟨rfl,hb4⟩;have WS4:=hZq (uQ HWS w4 hb4))|(go_at_call 151;refine (uQ LN).mono ?_;rintro e w3 ⟨rfl,rfl⟩))
   all_goals
    have HB5:=hZq (((uQ HBW3).drew.trans (hb4.mono (uQ HBW3).size)).trans hb5)
    have HL5:=hZq hbl5
    have W6:=hZq (q0U w.heap.size w.heap.size LB2 (txt SP) w5 hbl5 (by rw[q0k];omega) (uQ HB5).size)
    rw[q0k,q0y, <-uQ HNX3]at W6
    clear hbl5 hb5 hb4 WS4 RP LN HWS d3
    go_wp2_with fail
    refine (uQ W6).mono ?_
    rintro e w7 ⟨rfl,hbl7,hb7⟩
    have HB7:=hZq ((uQ HB5).trans hb7)
    have HL7:=hZq hbl7
    clear hbl7 hb7 W6 HB5 HL5
    go_wp2
    go_roundw
    case rel=>exact ⟨k+1,by omega,by go_num,HL7,HB7⟩
    case measure=>simp[intOf];omega
  ·obtain rfl:k=m:=by omega
   rw[uQ HLL]at HBL
   obtain ⟨a1,a2,a3,a4⟩:=uQ HAG
   have ST:=hZq (q3z _ _ _ wr (uQ HBL) (uQ HBW).size)
   have hTr:=(uQ HTB).below (uQ HBW) (uQ HTB).low
   have HTK:Hid (∀W,Below w.heap.size wr W->Calls Tryz.prog 29 #[.string (txt (lay l))] W fun e w'=> ∃v,e= .returned (.tuple #[v, .agg #[.int .i64 0, .int .i64 0]])/\OwnsK W.heap.size w' v l/\Below W.heap.size W w'):=hZq (fun W hb=>by
    have:=q4o (txt (lay l)) W (hTr.below hb (uQ HTB).low).tok (by rw[q0k];omega)
    rw[a2,a3,a4]at this
    exact this)
   have HEL:Hid (l.length=k):=HM
   clear a1 a2 a3 a4 HAG HLS HNX HWR HFT HOK HLL hTr HBL
   have es:(⟨(lay l).toArray⟩:ByteArray)=txt (lay l):=rfl
   rw[es]at ST
   generalize txt (lay l)=SS at *
   clear es
   go_wp2_with fail
   refine (uQ ST).mono ?_
   rintro e w3 ⟨rfl,hb3⟩
   have TK:=hZq (uQ HTK w3 hb3)
   have HB3:=hZq ((uQ HBW).trans hb3)
   clear ST hb3 HTK
   dsimp only
   go_wp2_with fail
   refine (uQ TK).mono ?_
   rintro e w4 ⟨v,rfl,ho,hb4⟩
   obtain ⟨av,cv,rfl,hav,_⟩:=ho.at
   have HB4:=hZq ((uQ HB3).trans (hb4.mono (uQ HB3).size))
   have kf:=Kp.alloc w4 (.cells #[.int .i64 0, .int .i64 0] 47)
   have HB5:=hZq ((uQ HB4).trans (kf.below (uQ HB4).size (by simp)))
   have EQ:=q5H av (some ⟨b,off,none⟩) cv cap l _ (hav.kp kf) ((((uQ HAT).kp (Kp.ofBelow (uQ HB4)))).kp kf) (by rw[uQ HEL];omega)
   rw[uQ HEL]at EQ
   have HEQ:=hZq EQ
   clear TK hb4 ho hav EQ HB3 kf
   rw[uQ HEL]
   go_wp2_with fail
   refine (uQ HEQ).mono ?_
   rintro e w6 ⟨rfl,hk6⟩
   have HB6:=hZq ((uQ HB5).trans (hk6.below (uQ HB5).size (by simp)))
   clear HEQ hk6 HB5 HB4
   go_wp2
   go_ret
   exact ⟨rfl,uQ HB6⟩
def PsF (l:List Tk)(x:List Pt)(k:Nat)(A C:Int):Prop:=
 (C=0/\A=0/\k<=l.length/\psR l= .good x (l.drop k)/\ckK x≠0)\/(C=110/\k=0/\x=[]/\((∃q,psR l= .bad q/\A=hdPl q)\/(∃y q,psR l= .good y q/\ckK y=0/\A=0)))
theorem PsT.told {l:List Tk}{B:Nat}{e:Ending}{w':World}(h:PsT l B (psR l) e w'): ∃ad cp k A C x,e= .returned (.tuple #[.slice ad x.length cp, .int .i64 ((k:Nat):Int), .agg #[.int .i64 A, .int .i64 C]])/\OwnsP B w' (.slice ad x.length cp) x/\PsF l x k A C:=by
 unfold PsT at h
 cases hP:psR l with
 |bad q=>
  rw[hP]at h
  exact ⟨none,0,0,_,_,[],h,OwnsP.nil _ _,Or.inr ⟨rfl,rfl,rfl,Or.inl ⟨q,hP,rfl⟩⟩⟩
 |good x q=>
  rw[hP]at h
  dsimp only at h
  split at h
  ·rename_i h0
   exact ⟨none,0,0,_,_,[],h,OwnsP.nil _ _,Or.inr ⟨rfl,rfl,rfl,Or.inr ⟨x,q,hP,h0,rfl⟩⟩⟩
  ·rename_i h0
   obtain ⟨v,k,h1,h2,h3,h4⟩:=h
   obtain ⟨ad,cp,rfl,_,_⟩:=h4.at
   exact ⟨ad,cp,k,0,0,x,h1,h4,Or.inl ⟨rfl,rfl,h2,by rw[hP,h3],h0⟩⟩
theorem TksAt.low {w:World}{b off cap:Nat}{l:List Tk}(h:TksAt w (some ⟨b,off,none⟩) l)(hl:l≠[]):TksLow w.heap.size w (.slice (some ⟨b,off,none⟩) l.length cap) l:=by
 obtain ⟨b',off',e,hlt,hc⟩:=h hl
 cases e
 exact ⟨b,off,cap,rfl,hlt,hc⟩
theorem q8n (b off cap:Nat)(l:List Tk)(n:Nat)(hL:Tail l n)(w:World)(hT:TbE w)(hcap:l.length<=cap)(hcp:cap<=9223372036854775807)(hA:TksAt w (some ⟨b,off,none⟩) l):
  Calls Tryz.prog 103 #[.slice (some ⟨b,off,none⟩) l.length cap] w fun e w'=> ∃ad cp k A C x,e= .returned (.tuple #[.slice ad x.length cp, .int .i64 ((k:Nat):Int), .agg #[.int .i64 A, .int .i64 C]])/\OwnsP w.heap.size w' (.slice ad x.length cp) x/\PsF l x k A C/\Below w.heap.size w w':=by
 have kf:=Kp.alloc w (.cells #[.int .i64 0, .int .i64 0] 47)
 have fb:FBox w.heap.size (w.alloc (.cells #[.int .i64 0, .int .i64 0] 47)):=CBox.new w _ _
 have CB:=hZq (q9c b off cap l n hL _ (hT.kp kf (by simp)) hcap hcp (hA.kp kf))
 have hlen:=hL.len
 have PA:=hZq (fun W (hk:Kp [] w W)=>qa0 (.slice (some ⟨b,off,none⟩) l.length cap) l W ((hA.kp hk).low hL.endd.ne) (hT.kp hk (by simp)) (by omega) (fun t ht=>by
  obtain ⟨i,hi,rfl⟩:=List.mem_iff_getElem.1 ht
  rcases hL.wr i hi with h|⟨q,h⟩
  ·have:=(q3Y h).2.1;omega
  ·rw[h];show (0:Nat)<=_;omega) hL.endd hL.ok)
 have HKF:=hZq kf
 have HFB:=hZq fb
 clear hA hT kf fb
 generalize l.length=LN at *
 go_enter Tryz.func103,Tryz.ntmps103
 go_wp2_with fail
 refine (uQ CB).mono ?_
 rintro e w1 ⟨rfl,hb1⟩
 have k1:=(uQ HKF).trans (Kp.ofBelow hb1) (by simp)
 have PA1:=hZq (uQ PA w1 k1)
 have HFB1:Hid (FBox w.heap.size w1):=hZq (CBox.kp (uQ HFB) (Kp.ofBelow hb1) (by simp))
 have HB1:=hZq (k1.below (zM _) (by simp))
 clear CB PA hb1 k1 HFB HKF
 go_wp2_with fail
 refine (uQ PA1).mono ?_
 rintro e w2 ⟨ht,hb2⟩
 obtain ⟨ad,cp,k,A,C,x,rfl,ho,hf⟩:=ht.told
 have fb2:FBox w.heap.size w2:=CBox.kp (uQ HFB1) (Kp.ofBelow hb2) (by simp)
 obtain ⟨f0,f1,fz0,fz1⟩:=FBox.cells fb2
 have HB2:=hZq ((uQ HB1).trans (hb2.mono (uQ HB1).size))
 have hs1:=(uQ HB1).size
 have HO2:Hid (OwnsP w.heap.size ((w2.setCell ⟨w.heap.size,0,none⟩ (.int .i64 A)).setCell ⟨w.heap.size,1,none⟩ (.int .i64 C)) (.slice ad x.length cp) x):=hZq (q03 (F:=[w.heap.size]) (ho.mono hs1) ((Kp.set w2 w.heap.size 0 (.int .i64 A)).trans (Kp.set (w2.setCell ⟨w.heap.size,0,none⟩ (.int .i64 A)) w.heap.size 1 (.int .i64 C)) (by simp)) (fun g hg=>by have:=q0d ho fb2 (by decide);rw[hg]at this;simp at this ⊢;exact this))
 have HFB2:=hZq fb2
 have HPF:=hZq hf
 have HB3:=hZq (q2j (uQ HB2) (zM _) (.int .i64 A) (.int .i64 C))
 clear PA1 hb2 ho hf fb2 ht HFB1 HB2 HB1
 dsimp only
 obtain ⟨XL,hXL⟩: ∃q,x.length=q:=⟨_,rfl⟩
 have HXL:=hZq hXL
 rw[hXL]at HO2 ⊢
 clear hXL
 go_wp2
 have q2:CBox w.heap.size #[.int .i64 A, .int .i64 C] 47 ((w2.setCell ⟨w.heap.size,0,none⟩ (.int .i64 A)).setCell ⟨w.heap.size,1,none⟩ (.int .i64 C)):=(uQ HFB2).two _ _
 obtain ⟨z0,z1⟩:=q1o q2
 exact bodyPost_ret (v:= .tuple #[.slice ad XL cp, .int .i64 (k:Int), .agg #[.int .i64 A, .int .i64 C]]) (by simp[results,Tryz.results103,go_sem,z0,z1]) rfl ⟨ad,cp,k,A,C,x,by rw[uQ HXL],by rw[uQ HXL];exact uQ HO2,uQ HPF,uQ HB3⟩
def prC (tk:Value)(k:Nat)(sv:Value)(wi rA rC:Int):Array Value:=#[tk, .int .i64 (k:Int),sv, .int .i64 wi, .int .i64 rA, .int .i64 rC]
structure PB (gr:Nat)(tk:Value)(l:List Tk)(k:Nat)(sv:Value)(wi rA rC:Int)(W:World):Prop where
 tks:TksLow gr W tk l
 tab:TbE W
 low:8<=gr
 box:CBox gr (prC tk k sv wi rA rC) 74 W
 len:l.length<=100000
 ok: ∀t∈l,t.ok
 cap: ∃b off c,tk= .slice (some ⟨b,off,none⟩) l.length c/\l.length<=c/\c<=9223372036854775807
theorem PB.lt {gr:Nat}{tk:Value}{l:List Tk}{k:Nat}{sv:Value}{wi rA rC:Int}{W:World}(h:PB gr tk l k sv wi rA rC W):gr<W.heap.size:=(zB.1 h.box).1
theorem PB.kp {F:List Nat}{gr:Nat}{tk:Value}{l:List Tk}{k:Nat}{sv:Value}{wi rA rC:Int}{W W':World}(h:PB gr tk l k sv wi rA rC W)(hk:Kp F W W')(hF: ∀x∈F,gr<x):PB gr tk l k sv wi rA rC W':=
 ⟨h.tks.below (hk.below (by have:=h.lt;omega) (fun x hx=>by have:=hF x hx;omega)),h.tab.kp hk (fun x hx=>by have:=hF x hx;have:=h.low;omega),h.low,h.box.kp hk (fun hm=>by have:=hF gr hm;omega),h.len,h.ok,h.cap⟩
theorem PB.put {gr:Nat}{tk:Value}{l:List Tk}{k:Nat}{sv:Value}{wi rA rC:Int}{W W':World}(h:PB gr tk l k sv wi rA rC W)(hk:Kp [gr] W W'){k':Nat}{sv':Value}{wi' rA' rC':Int}(hb:CBox gr (prC tk k' sv' wi' rA' rC') 74 W'):PB gr tk l k' sv' wi' rA' rC' W':=
 ⟨h.tks.below (hk.below (by have:=h.lt;omega) (by simp)),h.tab.kp hk (by simpa using h.low),h.low,hb,h.len,h.ok,h.cap⟩
theorem PB.next {gr:Nat}{tk:Value}{l:List Tk}{k:Nat}{sv:Value}{wi rA rC:Int}{W:World}(h:PB gr tk l k sv wi rA rC W):PB gr tk l (k+1) sv wi rA rC (W.setCell ⟨gr,1,none⟩ (.int .i64 ((k:Int)+1))):=by
 have e:((k:Int)+1)=((k+1:Nat):Int):=by omega
 rw[e]
 exact h.put (Kp.set W gr 1 _) (h.box.set 1 _)
theorem PB.cells {gr:Nat}{tk:Value}{l:List Tk}{k:Nat}{sv:Value}{wi rA rC:Int}{W:World}(h:PB gr tk l k sv wi rA rC W):W.cell? ⟨gr,0,none⟩=some tk/\W.cell? ⟨gr,1,none⟩=some (.int .i64 (k:Int))/\W.cell? ⟨gr,2,none⟩=some sv/\W.cell? ⟨gr,3,none⟩=some (.int .i64 wi)/\W.cell? ⟨gr,4,none⟩=some (.int .i64 rA)/\W.cell? ⟨gr,5,none⟩=some (.int .i64 rC)/\(∀i,W.frozen? ⟨gr,i,none⟩=false):=
 ⟨h.box.cell rfl,h.box.cell rfl,h.box.cell rfl,h.box.cell rfl,h.box.cell rfl,h.box.cell rfl,h.box.froz⟩
theorem qad {p:Nat}{W W1:World}(h:Kp [] W W1)(i:Nat)(v:Value):Kp [p] W (W1.setCell ⟨p,i,none⟩ v):=(h.mono (by simp)).trans (Kp.set W1 p i v) (by simp)
theorem q3h {gr:Nat}{tk:Value}{l:List Tk}{k:Nat}{sv:Value}{wi rA rC:Int}{W:World}(h:PB gr tk l k sv wi rA rC W){t:Tk}{r:List Tk}(ht:l.drop k=t::r):
  Calls Tryz.prog 77 #[.pointer (some ⟨gr,0,none⟩)] W fun e w'=>e= .returned (.string (wdS t))/\Below W.heap.size W w':=by
 obtain ⟨hk,ha,_⟩:=q0f ht
 obtain ⟨b,off,cap,htk,hlt,hc⟩:=h.tks
 obtain ⟨c0,c1,c2,c3⟩:=hc k hk
 rw[ha]at c0 c1 c2 c3
 have hlen:=h.len
 have hgl:=h.lt
 obtain ⟨e1,e2,_⟩:=h.cells
 rw[htk]at e1
 clear h hc ha htk ht
 have al: ∀{q:Addr} {v:Value},W.cell? q=some v->q.block<W.heap.size->(W.alloc (.cells #[.int .i64 0, .string { data:=#[] }, .int .i64 0, .int .i64 0] 98)).cell? q=some v:=fun h _=>(Kp.alloc W _).cell h (by simp)
 have d0:=al c0 (by show b<_;omega)
 have d1:=al c1 (by show b<_;omega)
 have d2:=al c2 (by show b<_;omega)
 have d3:=al c3 (by show b<_;omega)
 have g1:=al e1 hgl
 have g2:=al e2 hgl
 clear al
 unfold wdS
 obtain ⟨kd,s,n,pl⟩:=t
 dsimp only at *
 go_enter Tryz.func77,Tryz.ntmps77
 go_wp2
 go_region
 clear c0 c1 c2 c3 d0 d1 d2 d3 e1 e2 g1 g2
 have hb: ∀o,Below W.heap.size W (W.alloc o).drew:=fun o=>((Below.refl _ _).alloc (zM _) _).trans ⟨rfl,rfl,rfl,zM _,fun _ _=>rfl⟩
 by_cases h1:kd=1
 ·subst h1
  go_wp2
  exact bodyPost_ret (results_tmp rfl _ _ _) rfl ⟨rfl,hb _⟩
 ·by_cases h4:kd=4
  ·subst h4
   go_wp2
   exact bodyPost_ret (results_tmp rfl _ _ _) rfl ⟨rfl,hb _⟩
  ·have g1:(kd==1)=false:=beq_eq_false_iff_ne.2 h1
   have g4:(kd==4)=false:=beq_eq_false_iff_ne.2 h4
   go_wp2
   exact bodyPost_ret (results_tmp rfl _ _ _) rfl ⟨by first|rfl|(rw[if_neg (by omega)];rfl),hb _⟩
theorem q2f {gr:Nat}{tk:Value}{l:List Tk}{k:Nat}{sv:Value}{wi rA rC:Int}{W:World}(h:PB gr tk l k sv wi rA rC W){t:Tk}{r:List Tk}(ht:l.drop k=t::r)(sg:ByteArray):
  Calls Tryz.prog 51 #[.pointer (some ⟨gr,0,none⟩), .string sg] W fun e w'=>e= .returned (.bool (decide (wdT t=sg.data.toList)))/\PB gr tk l (if wdT t=sg.data.toList then k+1 else k) sv wi rA rC w'/\Kp [gr] W w':=by
 have WD:=hZq (q3h h ht)
 have hk:k<=100000:=by obtain ⟨hk,_⟩:=q0f ht;have:=h.len;omega
 have HR:=hZq h
 rw[<-q1g]
 clear h ht
 generalize wdS t=S at *
 by_cases he:S.data.toList=sg.data.toList
 ·have heq:(S.toList==sg.toList)=true:=by rw[toList_data,toList_data,he];exact beq_self_eq_true _
  rw[if_pos he,decide_eq_true he]
  clear he
  go_enter Tryz.func51,Tryz.ntmps51
  go_wp2_with fail
  refine (uQ WD).mono ?_
  rintro e w1 ⟨rfl,hb⟩
  have HR1:=hZq ((uQ HR).kp (Kp.ofBelow hb) (by simp))
  obtain ⟨_,c1,_,_,_,_,fz⟩:=(uQ HR1).cells
  have HB:=hZq (Kp.ofBelow hb)
  clear hb HR WD
  go_wp2
  exact bodyPost_ret (results_tmp rfl _ _ _) rfl ⟨rfl,(uQ HR1).next,qad (uQ HB) 1 _⟩
 ·have heq:(S.toList==sg.toList)=false:=by rw[toList_data,toList_data];exact beq_eq_false_iff_ne.2 he
  rw[if_neg he,zK he]
  clear he
  go_enter Tryz.func51,Tryz.ntmps51
  go_wp2_with fail
  refine (uQ WD).mono ?_
  rintro e w1 ⟨rfl,hb⟩
  have HR1:=hZq ((uQ HR).kp (Kp.ofBelow hb) (by simp))
  have HB:=hZq ((Kp.ofBelow hb).mono (G:=[gr]) (by simp))
  clear hb HR WD
  go_wp2
  exact bodyPost_ret (results_tmp rfl _ _ _) rfl ⟨rfl,uQ HR1,uQ HB⟩
theorem eqL (s:ByteArray)(u:List UInt8):(s.toList==u)=decide (s.data.toList=u):=by
 rw[toList_data]
 by_cases h:s.data.toList=u
 ·rw[h];simp
 ·rw[zK h];exact beq_eq_false_iff_ne.2 h
theorem q9z (s:ByteArray)(w:World):
  Calls Tryz.prog 102 #[.string s] w fun e w'=>e= .returned (.tuple #[.int .i64 ((hwOf s.data.toList).getD 0), .bool (hwOf s.data.toList).isSome])/\w'=w:=by
 have q1:=eqL s [97,110,121]
 have q2:=eqL s [116,104,101,110]
 have q3:=eqL s [110,101,120,116]
 have q4:=eqL s [115,116,97,114,116]
 unfold hwOf
 by_cases h1:s.data.toList=[97,110,121]
 ·rw[if_pos h1]
  rw[decide_eq_true h1]at q1
  clear q2 q3 q4 h1
  go_enter Tryz.func102,Tryz.ntmps102
  go_wp2
  exact bodyPost_ret (results_tmp2 rfl _ _ _) rfl ⟨rfl,rfl⟩
 ·rw[if_neg h1]
  rw[zK h1]at q1
  by_cases h2:s.data.toList=[116,104,101,110]
  ·rw[if_pos h2]
   rw[decide_eq_true h2]at q2
   clear q3 q4 h1 h2
   go_enter Tryz.func102,Tryz.ntmps102
   go_wp2
   exact bodyPost_ret (results_tmp2 rfl _ _ _) rfl ⟨rfl,rfl⟩
  ·rw[if_neg h2]
   rw[zK h2]at q2
   by_cases h3:s.data.toList=[110,101,120,116]
   ·rw[if_pos h3]
    rw[decide_eq_true h3]at q3
    clear q4 h1 h2 h3
    go_enter Tryz.func102,Tryz.ntmps102
    go_wp2
    exact bodyPost_ret (results_tmp2 rfl _ _ _) rfl ⟨rfl,rfl⟩
   ·rw[if_neg h3]
    rw[zK h3]at q3
    by_cases h4:s.data.toList=[115,116,97,114,116]
    ·rw[if_pos h4]
     rw[decide_eq_true h4]at q4
     clear h1 h2 h3 h4
     go_enter Tryz.func102,Tryz.ntmps102
     go_wp2
     exact bodyPost_ret (results_tmp2 rfl _ _ _) rfl ⟨rfl,rfl⟩
    ·rw[if_neg h4]
     rw[zK h4]at q4
     clear h1 h2 h3 h4
     go_enter Tryz.func102,Tryz.ntmps102
     go_wp2
     exact bodyPost_ret (results_tmp2 rfl _ _ _) rfl ⟨rfl,rfl⟩
def SB (gs:Nat)(nm:ByteArray)(hw:Int)(mn:Bool)(cv:Value)(W:World):Prop:=CBox gs #[.string nm, .int .i64 hw, .bool mn,cv] 88 W
theorem qat {gr gs:Nat}{W W1:World}(h:Kp [] W W1)(i j:Nat)(u v:Value):Kp [gr,gs] W ((W1.setCell ⟨gs,i,none⟩ u).setCell ⟨gr,j,none⟩ v):=((h.mono (by simp)).trans (Kp.set W1 gs i u) (by simp)).trans (Kp.set _ gr j v) (by simp)
theorem q3O {gr gs:Nat}{tk:Value}{l:List Tk}{k:Nat}{sv:Value}{wi rA rC:Int}{W:World}(h:PB gr tk l k sv wi rA rC W){t:Tk}{r:List Tk}(ht:l.drop k=t::r){nm:ByteArray}{hw:Int}{mn:Bool}{cv:Value}(hs:SB gs nm hw mn cv W)(hgs:gr<gs):
  Calls Tryz.prog 78 #[.pointer (some ⟨gr,0,none⟩), .pointer (some ⟨gs,0,none⟩)] W fun e w'=>e= .returned (.bool (hwOf (wdT t)).isSome)/\PB gr tk l (if (hwOf (wdT t)).isSome then k+1 else k) sv wi rA rC w'/\SB gs nm (if (hwOf (wdT t)).isSome then (hwOf (wdT t)).getD 0 else hw) mn cv w'/\Kp [gr,gs] W w':=by
 have WD:=hZq (q3h h ht)
 have hk:k<=100000:=by obtain ⟨hk,_⟩:=q0f ht;have:=h.len;omega
 have HR:=hZq h
 have HS:=hZq hs
 have HO:=hZq (fun W=>q9z (wdS t) W)
 rw[q1g]at HO
 clear h ht hs
 generalize wdS t=S at *
 generalize hwOf (wdT t)=Q at *
 cases Q with
 |none=>
  simp only[Option.isSome_none,Option.getD_none]at HO ⊢
  rw[if_neg (by simp),if_neg (by simp)]
  go_enter Tryz.func78,Tryz.ntmps78
  go_wp2_with fail
  refine (uQ WD).mono ?_
  rintro e w1 ⟨rfl,hb⟩
  have HR1:=hZq ((uQ HR).kp (Kp.ofBelow hb) (by simp))
  have HS1:=hZq (CBox.kp (uQ HS) (Kp.ofBelow hb) (by simp))
  have HB:=hZq ((Kp.ofBelow hb).mono (G:=[gr,gs]) (by simp))
  clear hb HR WD HS
  dsimp only
  go_wp2_with fail
  refine (uQ HO _).mono ?_
  rintro e w2 ⟨rfl,rfl⟩
  clear HO
  go_wp2
  exact bodyPost_ret (results_tmp rfl _ _ _) rfl ⟨rfl,uQ HR1,uQ HS1,uQ HB⟩
 |some q=>
  simp only[Option.isSome_some,Option.getD_some]at HO ⊢
  rw[if_pos trivial,if_pos trivial]
  go_enter Tryz.func78,Tryz.ntmps78
  go_wp2_with fail
  refine (uQ WD).mono ?_
  rintro e w1 ⟨rfl,hb⟩
  have HR1:=hZq ((uQ HR).kp (Kp.ofBelow hb) (by simp))
  have hs1:SB gs nm hw mn cv w1:=CBox.kp (uQ HS) (Kp.ofBelow hb) (by simp)
  have z1:=hs1.cell (i:=1) (v:= .int .i64 hw) rfl
  have zf:=CBox.froz hs1
  have HR2:Hid (PB gr tk l k sv wi rA rC (w1.setCell ⟨gs,1,none⟩ (.int .i64 q))):=hZq ((uQ HR1).kp (Kp.set w1 gs 1 _) (by simpa using hgs))
  obtain ⟨_,c1,_,_,_,_,fz⟩:=(uQ HR2).cells
  have HS2:Hid (SB gs nm q mn cv (w1.setCell ⟨gs,1,none⟩ (.int .i64 q))):=hZq (hs1.set 1 _)
  have HS3:Hid (SB gs nm q mn cv ((w1.setCell ⟨gs,1,none⟩ (.int .i64 q)).setCell ⟨gr,1,none⟩ (.int .i64 ((k:Int)+1)))):=hZq (CBox.kp (uQ HS2) (Kp.set _ gr 1 _) (by simp;omega))
  have HB:=hZq (Kp.ofBelow hb)
  have hltg:gs<w1.heap.size:=(zB.1 hs1).1
  clear hb HR WD HS hs1
  dsimp only
  go_wp2_with fail
  refine (uQ HO _).mono ?_
  rintro e w2 ⟨rfl,rfl⟩
  clear HO
  go_wp2
  exact bodyPost_ret (results_tmp rfl _ _ _) rfl ⟨rfl,(uQ HR2).next,uQ HS3,qat (uQ HB) _ _ _ _⟩
theorem q56 {gr gs:Nat}{tk:Value}{l:List Tk}{k:Nat}{sv:Value}{wi rA rC:Int}{W:World}(h:PB gr tk l k sv wi rA rC W){t:Tk}{r:List Tk}(ht:l.drop k=t::r){nm:ByteArray}{hw:Int}{mn:Bool}{cv:Value}(hs:SB gs nm hw mn cv W)(hgs:gr<gs):
  Calls Tryz.prog 79 #[.pointer (some ⟨gr,0,none⟩), .pointer (some ⟨gs,0,none⟩)] W fun e w'=>e= .returned (.bool (isSg (wdS t)))/\PB gr tk l (if isSg (wdS t) then k+1 else k) sv wi rA rC w'/\SB gs (if isSg (wdS t) then wdS t else nm) hw mn cv w'/\Kp [gr,gs] W w':=by
 have WD:=hZq (q3h h ht)
 have hkt:=q0f ht
 have hk:k<=100000:=by obtain ⟨hk,_⟩:=hkt;have:=h.len;omega
 have hsz:(wdS t).size<=9223372036854775807:=by
  obtain ⟨hk,he,_⟩:=hkt
  have:=h.ok t (by rw[<-he];exact zJ _)
  unfold wdS
  split
  ·exact this.2.1
  ·show (0:Nat)<=_;omega
 have HR:=hZq h
 have HS:=hZq hs
 have HIN:=hZq (fun W hW=>q46 (wdS t) W hW hsz)
 clear h ht hs hkt
 generalize wdS t=S at *
 generalize isSg S=Q at *
 cases Q with
 |false=>
  rw[if_neg (by simp),if_neg (by simp)]
  go_enter Tryz.func79,Tryz.ntmps79
  go_wp2_with fail
  refine (uQ WD).mono ?_
  rintro e w1 ⟨rfl,hb⟩
  have HR1:=hZq ((uQ HR).kp (Kp.ofBelow hb) (by simp))
  have HS1:=hZq (CBox.kp (uQ HS) (Kp.ofBelow hb) (by simp))
  have HB:=hZq (Kp.ofBelow hb)
  have IN:=hZq (uQ HIN w1 (uQ HR1).tab)
  clear hb HR WD HS HIN
  go_wp2_with fail
  refine (uQ IN).mono ?_
  rintro e w2 ⟨rfl,hb2⟩
  have HR2:=hZq ((uQ HR1).kp (Kp.ofBelow hb2) (by simp))
  have HS2:=hZq (CBox.kp (uQ HS1) (Kp.ofBelow hb2) (by simp))
  have HB2:=hZq (((uQ HB).trans (Kp.ofBelow hb2) (by simp)).mono (G:=[gr,gs]) (by simp))
  clear hb2 HR1 HS1 HB IN
  go_wp2
  exact bodyPost_ret (results_tmp rfl _ _ _) rfl ⟨rfl,uQ HR2,uQ HS2,uQ HB2⟩
 |true=>
  rw[if_pos rfl,if_pos rfl]
  go_enter Tryz.func79,Tryz.ntmps79
  go_wp2_with fail
  refine (uQ WD).mono ?_
  rintro e w1 ⟨rfl,hb⟩
  have HR1:=hZq ((uQ HR).kp (Kp.ofBelow hb) (by simp))
  have HS1:=hZq (CBox.kp (uQ HS) (Kp.ofBelow hb) (by simp))
  have HB:=hZq (Kp.ofBelow hb)
  have IN:=hZq (uQ HIN w1 (uQ HR1).tab)
  clear hb HR WD HS HIN
  go_wp2_with fail
  refine (uQ IN).mono ?_
  rintro e w2 ⟨rfl,hb2⟩
  have hs2:SB gs nm hw mn cv w2:=CBox.kp (uQ HS1) (Kp.ofBelow hb2) (by simp)
  have z1:=hs2.cell (i:=0) (v:= .string nm) rfl
  have zf:=CBox.froz hs2
  have HR2:Hid (PB gr tk l k sv wi rA rC (w2.setCell ⟨gs,0,none⟩ (.string S))):=hZq (((uQ HR1).kp (Kp.ofBelow hb2) (by simp)).kp (Kp.set w2 gs 0 _) (by simpa using hgs))
  obtain ⟨_,c1,_,_,_,_,fz⟩:=(uQ HR2).cells
  have HS2:Hid (SB gs S hw mn cv (w2.setCell ⟨gs,0,none⟩ (.string S))):=hZq (hs2.set 0 _)
  have HS3:Hid (SB gs S hw mn cv ((w2.setCell ⟨gs,0,none⟩ (.string S)).setCell ⟨gr,1,none⟩ (.int .i64 ((k:Int)+1)))):=hZq (CBox.kp (uQ HS2) (Kp.set _ gr 1 _) (by simp;omega))
  have HB2:=hZq ((uQ HB).trans (Kp.ofBelow hb2) (by simp))
  have hltg:gs<w2.heap.size:=(zB.1 hs2).1
  clear hb2 HR1 HS1 HB IN hs2
  go_wp2
  exact bodyPost_ret (results_tmp rfl _ _ _) rfl ⟨rfl,(uQ HR2).next,uQ HS3,qat (uQ HB2) _ _ _ _⟩
theorem TksAt.drop {w:World}{b off:Nat}{l:List Tk}(h:TksAt w (some ⟨b,off,none⟩) l)(k:Nat):TksAt w (some ⟨b,off+k * 4,none⟩) (l.drop k):=fun hne=>by
 have hl:k<l.length:=by
  rcases Nat.lt_or_ge k l.length with h1|h1
  ·exact h1
  ·exact absurd (List.drop_eq_nil_of_le h1) hne
 obtain ⟨b',off',e,hlt,hc⟩:=h (fun e=>by rw[e]at hl;simp at hl)
 cases e
 refine ⟨b,off+k * 4,rfl,hlt,fun i hi=>?_⟩
 rw[List.length_drop]at hi
 have:=hc (k+i) (by omega)
 rw[show off+(k+i) * 4=off+k * 4+i * 4 by omega]at this
 simpa [List.getElem_drop] using this
theorem TksLow.at' {B:Nat}{w:World}{b off c:Nat}{l:List Tk}(h:TksLow B w (.slice (some ⟨b,off,none⟩) l.length c) l)(hB:B<=w.heap.size):TksAt w (some ⟨b,off,none⟩) l:=fun _=>by
 obtain ⟨b',off',c',e,hlt,hc⟩:=h
 cases e
 exact ⟨b,off,rfl,by omega,hc⟩
theorem Kp.drew2 {F:List Nat}{X Y:World}(h:Kp F X Y):Kp F X.drew Y.drew:=⟨h.os,h.tape,h.output,h.size,h.block⟩
theorem q7R {W V:World}(h:Kp [] W V){g:Nat}(hg:W.heap.size<=g)(x y:Value):Kp [] W ((V.setCell ⟨g,0,none⟩ x).setCell ⟨g,1,none⟩ y):=
 (h.trans (Kp.set V g 0 x) (fun z hz=>Or.inr (by simp at hz;omega))).trans (Kp.set _ g 1 y) (fun z hz=>Or.inr (by simp at hz;omega))
theorem qa3 {gr gs:Nat}{tk:Value}{l:List Tk}{k n:Nat}{sv:Value}{wi rA rC:Int}{W:World}(h:PB gr tk l k sv wi rA rC W)(hk:k<l.length)(hL:Tail (l.drop k) n){nm:ByteArray}{hw:Int}{mn:Bool}{cv:Value}(hs:SB gs nm hw mn cv W)(hgs:gr<gs):
  Calls Tryz.prog 80 #[.pointer (some ⟨gr,0,none⟩), .pointer (some ⟨gs,0,none⟩)] W fun e w'=> ∃ad cp j A C x,e= .returned (.bool (decide (C=0)))/\PB gr tk l (k+j) sv wi A C w'/\SB gs nm hw mn (.slice ad x.length cp) w'/\OwnsP W.heap.size w' (.slice ad x.length cp) x/\PsF (l.drop k) x j A C/\Kp [gr,gs] W w':=by
 obtain ⟨b,off,cap,htk,hcp1,hcp2⟩:=h.cap
 subst htk
 have hlen:=h.len
 have hA:=((h.tks.at' (by have:=h.lt;omega)).drop k)
 have hTb:=h.tab
 have HEP:=hZq (fun V (hk:Kp [] W V)=>q8n b (off+k * 4) (cap-k) (l.drop k) n hL V (hTb.kp hk (by simp)) (by rw[List.length_drop];omega) (by omega) (hA.kp hk))
 rw[List.length_drop]at HEP
 obtain ⟨c0,c1,c2,c3,c4,c5,fz⟩:=h.cells
 have HR:=hZq h
 have HS:=hZq hs
 have hltr:=h.lt
 have HCK:Hid (∀V,Kp [] W V->V.cell? ⟨gr,0,none⟩=some (.slice (some ⟨b,off,none⟩) l.length cap)/\V.cell? ⟨gr,1,none⟩=some (.int .i64 (k:Int))):=hZq (fun V hk=>⟨hk.cell c0 (by simp),hk.cell c1 (by simp)⟩)
 have ka:Kp [] W W.drew:=Kp.drew W
 have kb:Kp [] W (W.alloc (.cells #[.int .i64 0, .int .i64 0] 47)).drew:=(Kp.alloc W _).trans (Kp.drew _) (by simp)
 have fbb:FBox W.heap.size (W.alloc (.cells #[.int .i64 0, .int .i64 0] 47)).drew:=CBox.new W _ _
 have sa:=uQ HCK _ ka
 have sb:=uQ HCK _ kb
 have HKA:=hZq ka
 have HKB:=hZq kb
 have HFB:=hZq fbb
 have hkl:(k:Int)<=(l.length:Int):=by omega
 have hkc:(k:Int)<=(cap:Int):=by omega
 have hlc:(l.length:Int)<=(cap:Int):=by omega
 have hck:(cap=k)=False:=by simp;omega
 have HPA:=hZq (uQ HEP _ ka)
 have HPB:=hZq (uQ HEP _ kb)
 clear h hs hA hTb c0 c1 c2 c3 c4 c5 fz fbb HEP
 obtain ⟨LN,hLN⟩: ∃q,l.length=q:=⟨_,rfl⟩
 have HLN:=hZq hLN
 rw[hLN]at sa sb HPA HPB HCK hkl hlc hk hcp1 hlen
 clear hLN
 go_enter Tryz.func80,Tryz.ntmps80
 go_wp2_with fail
 go_cut [5,6,7] (fun v5 v6 v7 wc=> ∃gf ad cp j A C x,v5= .slice ad (x:List Pt).length cp/\v6= .int .i64 ((j:Nat):Int)/\v7= .pointer (some ⟨gf,0,none⟩)/\Hid (CBox gf #[.int .i64 A, .int .i64 C] 47 wc/\W.heap.size<=gf/\OwnsP W.heap.size wc (.slice ad x.length cp) x/\PsF (l.drop k) x j A C/\Kp [] W wc))
 case first=>
  go_region_held3 (fun V=>V.cell? ⟨gr,0,none⟩=some (.slice (some ⟨b,off,none⟩) LN cap)/\V.cell? ⟨gr,1,none⟩=some (.int .i64 (k:Int)))
   (first|with_reducible exact sa|with_reducible exact sb|with_reducible exact sc|with_reducible exact sd|with_reducible exact se|with_reducible exact sf)
   (first
    |(go_at_call 103;(with_reducible refine (uQ HPA).mono ?_);rintro e w1 ⟨ad,cp,j,A,C,x,rfl,ho,hf,hb1⟩;have kw:Kp [] W w1:=ka.trans (Kp.ofBelow hb1) (by simp);have sc:=uQ HCK w1 kw;have sd:=uQ HCK (w1.alloc (.cells #[.int .i64 0, .int .i64 0] 47)) (kw.trans (Kp.alloc w1 _) (by simp));have se:=uQ HCK (w1.alloc (.cells #[.int .i64 A, .int .i64 C] 47)) (kw.trans (Kp.alloc w1 _) (by simp)))
    |(go_at_call 103;(with_reducible refine (uQ HPB).mono ?_);rintro e w1 ⟨ad,cp,j,A,C,x,rfl,ho,hf,hb1⟩;have kw:Kp [] W w1:=kb.trans (Kp.ofBelow hb1) (by simp);have sc:=uQ HCK w1 kw;have sf:=uQ HCK _ (q7R kw (zM _) (.int .i64 A) (.int .i64 C));have hfb:FBox W.heap.size w1:=CBox.kp (uQ HFB) (Kp.ofBelow hb1) (by simp);obtain ⟨f0,f1,z0,z1⟩:=FBox.cells hfb))
  ·go_wp2_with fail
   go_meet
   refine ⟨w1.heap.size,ad,cp,j,A,C,x,rfl,rfl,rfl,hZq ⟨CBox.new w1 _ _,kw.size,?_,hf,kw.trans (Kp.alloc w1 _) (by simp)⟩⟩
   exact (ho.mono (zM _)).kp (Kp.alloc w1 _)
  ·go_wp2_with fail
   go_meet
   refine ⟨W.heap.size,ad,cp,j,A,C,x,rfl,rfl,rfl,hZq ⟨FBox.two hfb _ _,zM _,?_,hf,q7R kw (zM _) _ _⟩⟩
   have hne:=q0d ho hfb (by decide)
   refine q03 (F:=[W.heap.size]) (ho.mono (by have:=kb.size;omega)) ((Kp.set w1 W.heap.size 0 (.int .i64 A)).trans (Kp.set (w1.setCell ⟨W.heap.size,0,none⟩ (.int .i64 A)) W.heap.size 1 (.int .i64 C)) (by simp)) (fun g hg=>by rw[hg]at hne;simp at hne ⊢;exact hne)
 case rest=>
  obtain ⟨gf,ad,cp,j,A,C,x,rfl,rfl,rfl,HX⟩:=hcut
  obtain ⟨hf,hgf,ho,hps,hkw⟩:=uQ HX
  have hltw:=hkw.size
  have hgsl:gs<W.heap.size:=(zB.1 (uQ HS)).1
  have h1:=(uQ HR).kp (hkw.trans (Kp.drew wc) (by simp)) (by simp)
  have h2:SB gs nm hw mn cv wc.drew:=CBox.kp (CBox.kp (uQ HS) hkw (by simp)) (Kp.drew wc) (by simp)
  have h3:CBox gf #[.int .i64 A, .int .i64 C] 47 wc.drew:=CBox.kp hf (Kp.drew wc) (by simp)
  have f0:=h3.cell (i:=0) (v:= .int .i64 A) rfl
  have f1:=h3.cell (i:=1) (v:= .int .i64 C) rfl
  have s3:=CBox.cell h2 (i:=3) (v:=cv) rfl
  have sz:=CBox.froz h2
  obtain ⟨_,c1,_,_,c4,c5,fz⟩:=h1.cells
  obtain ⟨_,p1,_,_,p4,p5,pz⟩:=((uQ HR).kp hkw (by simp)).cells
  have p4z:=pz 4
  have p5z:=pz 5
  have HPS:=hZq hps
  have k1:Kp [gs] wc (wc.setCell ⟨gs,3,none⟩ (.slice ad x.length cp)).drew:=(Kp.set wc gs 3 (.slice ad x.length cp)).trans (Kp.drew _) (by simp)
  have h2b:SB gs nm hw mn (.slice ad x.length cp) (wc.setCell ⟨gs,3,none⟩ (.slice ad x.length cp)).drew:=CBox.set h2 3 _
  have h1b:=((uQ HR).kp hkw (by simp)).kp k1 (by simpa using hgs)
  have h3b:CBox gf #[.int .i64 A, .int .i64 C] 47 (wc.setCell ⟨gs,3,none⟩ (.slice ad x.length cp)).drew:=CBox.kp hf k1 (by simp;omega)
  have g0:=h3b.cell (i:=0) (v:= .int .i64 A) rfl
  have g1:=h3b.cell (i:=1) (v:= .int .i64 C) rfl
  obtain ⟨_,d1,_,_,d4,d5,dz⟩:=h1b.cells
  have kgr:Kp [gr] (wc.setCell ⟨gs,3,none⟩ (.slice ad x.length cp)).drew (((wc.setCell ⟨gs,3,none⟩ (.slice ad x.length cp)).setCell ⟨gr,4,none⟩ (.int .i64 A)).setCell ⟨gr,5,none⟩ (.int .i64 C)).drew:=((Kp.set (wc.setCell ⟨gs,3,none⟩ (.slice ad x.length cp)) gr 4 (.int .i64 A)).trans (Kp.set _ gr 5 (.int .i64 C)) (by simp)).drew2
  have h1c:PB gr (.slice (some ⟨b,off,none⟩) l.length cap) l k sv wi A C (((wc.setCell ⟨gs,3,none⟩ (.slice ad x.length cp)).setCell ⟨gr,4,none⟩ (.int .i64 A)).setCell ⟨gr,5,none⟩ (.int .i64 C)).drew:=h1b.put kgr ((h1b.box.set 4 _).set 5 _)
  obtain ⟨_,e1,_,_,_,_,ez⟩:=h1c.cells
  have kc:Kp [gr,gs] wc (((wc.setCell ⟨gs,3,none⟩ (.slice ad x.length cp)).setCell ⟨gr,4,none⟩ (.int .i64 A)).setCell ⟨gr,5,none⟩ (.int .i64 C)).drew:=(k1.mono (by simp)).trans kgr (by simp)
  have h2c:SB gs nm hw mn (.slice ad x.length cp) (((wc.setCell ⟨gs,3,none⟩ (.slice ad x.length cp)).setCell ⟨gr,4,none⟩ (.int .i64 A)).setCell ⟨gr,5,none⟩ (.int .i64 C)).drew:=CBox.kp h2b kgr (by simp;omega)
  have h3c:CBox gf #[.int .i64 A, .int .i64 C] 47 (((wc.setCell ⟨gs,3,none⟩ (.slice ad x.length cp)).setCell ⟨gr,4,none⟩ (.int .i64 A)).setCell ⟨gr,5,none⟩ (.int .i64 C)).drew:=CBox.kp hf kc (by simp;omega)
  have hoc:OwnsP W.heap.size (((wc.setCell ⟨gs,3,none⟩ (.slice ad x.length cp)).setCell ⟨gr,4,none⟩ (.int .i64 A)).setCell ⟨gr,5,none⟩ (.int .i64 C)).drew (.slice ad x.length cp) x:=q03 ho kc (fun g hg=>by have:=(World.ownsRow.lt ho g hg).1;simp;omega)
  have HE1:=hZq h1c
  have HE2:=hZq h2c
  have HE3:=hZq hoc
  have HE4:=hZq ((hkw.mono (G:=[gr,gs]) (by simp)).trans kc (by simp))
  have hjl:k+j<=100000:=by
   rcases hps with ⟨_,_,hj,_⟩|⟨_,hj,_⟩
   ·rw[List.length_drop,uQ HLN]at hj;omega
   ·omega
  have HE6:Hid (∀V,V=(((wc.setCell ⟨gs,3,none⟩ (.slice ad x.length cp)).setCell ⟨gr,4,none⟩ (.int .i64 A)).setCell ⟨gr,5,none⟩ (.int .i64 C)).drew->V.cell? ⟨gf,0,none⟩=some (.int .i64 A)/\(V.setCell ⟨gr,1,none⟩ (.int .i64 ((k:Int)+(j:Int)))).cell? ⟨gf,1,none⟩=some (.int .i64 C)):=hZq (fun V e=>by
   subst e
   exact ⟨h3c.cell rfl,(CBox.kp h3c (Kp.set _ gr 1 _) (by simp;omega)).cell rfl⟩)
  clear HX hf hgf ho hps hkw h1 h2 h3 h2b h1b kgr kc k1 h1c h2c h3c h3b hoc HS HR HKA HKB HFB HCK ka kb HPA HPB sa sb
  obtain ⟨XL,hXL⟩: ∃q,x.length=q:=⟨_,rfl⟩
  have HXL:=hZq hXL
  rw[hXL]at HE1 HE2 HE3 HE4 HE6 d1 d4 d5 dz e1 ez g0 g1 ⊢
  clear hXL
  go_wp2_with fail
  go_region
  clear f0 f1 s3 sz c1 c4 c5 fz g0 g1 d1 d4 d5 dz p1 p4 p5 pz p4z p5z
  obtain ⟨_,g1⟩:=uQ HE6 _ rfl
  generalize (((wc.setCell ⟨gs,3,none⟩ (.slice ad XL cp)).setCell ⟨gr,4,none⟩ (.int .i64 A)).setCell ⟨gr,5,none⟩ (.int .i64 C)).drew=V at *
  go_wp2_with fail
  have ekj:((k:Int)+(j:Int))=((k+j:Nat):Int):=by omega
  have F1:PB gr (.slice (some ⟨b,off,none⟩) l.length cap) l (k+j) sv wi A C (V.setCell ⟨gr,1,none⟩ (.int .i64 ((k:Int)+(j:Int)))):=by
   rw[ekj]
   exact (uQ HE1).put (Kp.set V gr 1 _) ((uQ HE1).box.set 1 _)
  refine bodyPost_ret (results_tmp rfl _ _ _) rfl ⟨ad,cp,j,A,C,x,rfl,F1,?_,?_,uQ HPS,(uQ HE4).trans (Kp.set V gr 1 _) (by simp)⟩
  ·rw[uQ HXL]
   exact CBox.kp (uQ HE2) (Kp.set V gr 1 _) (by simp;omega)
  ·rw[uQ HXL]
   have ho:=uQ HE3
   exact q03 ho (Kp.set V gr 1 _) (fun g hg=>by have:=(World.ownsRow.lt ho g hg).1;simp;omega)
end Go.Proofs.YtfgkikeeadlcfaaGreatDoor
