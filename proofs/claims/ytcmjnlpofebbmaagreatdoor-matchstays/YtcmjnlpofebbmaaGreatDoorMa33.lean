/-
  Walks and plain facts, made small.
-/
import Derived.Test.YtcmjnlpofebbmaaGreatDoorMa32
set_option maxRecDepth 100000
set_option maxHeartbeats 8000000
set_option linter.unusedSimpArgs false
namespace Go.Proofs.YtcmjnlpofebbmaaGreatDoor
open Go.RowKit Go.Shelf
def Cl (w:World)(b:Nat)(s:List TypeId):Prop:= ∃cs t,CBox b cs t w/\t∈s
def Mp (w:World)(b:Nat):Prop:= ∃es c,w.heap[b]?=some (.map es c)
theorem Cl.ne {w:World}{a b:Nat}{s s':List TypeId}(h:Cl w a s)(h2:Cl w b s')(hd: ∀t∈s,t∉s'):a≠b:=fun e=>by
 obtain ⟨cs,t,h3,h4⟩:=h
 obtain ⟨cs',t',h5,h6⟩:=h2
 refine q0p h3 h5 (fun e=>?_) e
 exact hd t h4 (by rw[e];exact h6)
theorem Mp.ne {w:World}{a b:Nat}{s:List TypeId}(h:Mp w a)(h2:Cl w b s):a≠b:=fun e=>by
 obtain ⟨es,c,h1⟩:=h
 obtain ⟨cs,t,h3,_⟩:=h2
 rw[e,show w.heap[b]?=some (.cells cs t) from h3]at h1
 cases h1
theorem Cl.wide {w:World}{b:Nat}{s s':List TypeId}(h:Cl w b s)(hs: ∀t∈s,t∈s'):Cl w b s':=let ⟨cs,t,h1,h2⟩:=h;⟨cs,t,h1,hs t h2⟩
theorem CBox.cl {w:World}{b:Nat}{cs:Array Value}{t:TypeId}(h:CBox b cs t w):Cl w b [t]:=⟨cs,t,h,by simp⟩
theorem SetP.mp {w:World}{b:Nat}{S:List Spt}(h:SetP w b S):Mp w b:=let ⟨es,c,h1,_⟩:=h;⟨es,c,h1⟩
def fgT:List TypeId:=[37,31,32,9,141,186]
def Ow (w:World)(b:Nat):Prop:=Mp w b\/ ∃cs t,CBox b cs t w/\t∉fgT
theorem Cl.ow {w:World}{b:Nat}{s:List TypeId}(h:Cl w b s)(hs: ∀t∈s,t∉fgT):Ow w b:=let ⟨cs,t,h1,h2⟩:=h;Or.inr ⟨cs,t,h1,hs t h2⟩
def Yw (w:World)(b:Nat):Prop:=(∃r,w.heap[b]?=some (.loop r))\/Cl w b [37,31,32]
theorem Yw.ne {w:World}{a b:Nat}{s:List TypeId}(h:Yw w a)(h2:Cl w b s)(hd: ∀t∈s,t∉[37,31,32]):b≠a:=by
 rcases h with ⟨r,h⟩|h
 ·intro e
  obtain ⟨cs,t,h3,_⟩:=h2
  rw[<-e,show w.heap[b]?=some (.cells cs t) from h3]at h
  cases h
 ·exact h2.ne h hd
theorem Yw.neM {w:World}{a b:Nat}(h:Yw w a)(h2:Mp w b):b≠a:=by
 rcases h with ⟨r,h⟩|h
 ·intro e
  obtain ⟨es,c,h3⟩:=h2
  rw[<-e,h3]at h
  cases h
 ·exact h2.ne h
structure KT (w w':World):Prop where
 sz:w.heap.size<=w'.heap.size
 bl: ∀b cs t,CBox b cs t w->t∈[141,186]->CBox b cs t w'
theorem KT.refl (w:World):KT w w:=⟨Nat.le_refl _,fun _ _ _ h _=>h⟩
theorem KT.trans {a b c:World}(h:KT a b)(k:KT b c):KT a c:=⟨Nat.le_trans h.sz k.sz,fun i cs t h1 h2=>k.bl i cs t (h.bl i cs t h1 h2) h2⟩
theorem KT.own {w w':World}{F:List Nat}(hk:Kp F w w')(hF: ∀b∈F,Ow w b):KT w w':=⟨hk.size,fun b cs t h1 h2=>h1.kp hk (fun hm=>by
 rcases hF b hm with h|⟨cs',t',h3,h4⟩
 ·exact h.ne h1.cl rfl
 ·refine q0p h1 h3 (fun e=>?_) rfl
  apply h4
  rw[<-e]
  unfold fgT
  simp only[List.mem_cons,List.not_mem_nil,or_false]at h2 ⊢
  exact Or.inr (Or.inr (Or.inr (Or.inr h2))))⟩
theorem KT.yld {w w':World}{F:List Nat}(hk:Kp F w w')(hF: ∀b∈F,Yw w b):KT w w':=⟨hk.size,fun b cs t h1 h2=>h1.kp hk (fun hm=>by
 refine (hF b hm).ne (s:=[t]) h1.cl (fun u hu=>?_) rfl
 rw[List.mem_singleton]at hu
 subst hu
 simp only[List.mem_cons,List.not_mem_nil,or_false]at h2
 rcases h2 with rfl|rfl <;> decide)⟩
structure SC where
 x:XK
 gs:Nat
 gd:Nat
 B:Nat
 rs:List Value
 R:List (List RdC)
 J:Bool->List Cp->World->Prop
structure ScI (c:SC):Prop where
 hX:XkI c.x
 ro: ∀w,Kp c.x.k.F0 c.x.k.w0 w->CBox c.B c.rs.toArray 139 w/\(∀(i:Nat) (v:Value) (r:List RdC),c.rs[i]?=some v->c.R[i]?=some r->w.ownsRow 0 141 5 v r.length (r.flatMap RdC.l))/\ ∀r∈c.R, ∀y∈r,IRo w y.v (y.bs.map Int.ofNat)
 rl:c.R.length=c.x.k.l.length
 rv:c.rs.length=c.R.length
 ry: ∀(j:Nat) (r:List RdC),c.R[j]?=some r->RdY c.x.ss j (rdT c.x.ss j) r
 gf:c.gs∈c.x.k.F0
 df:c.gd∈c.x.k.F0
 nf: ∀b∈ntF c.x,b∈c.x.k.F0
 nl:c.x.nvs.length=c.x.k.l.length
 jk: ∀go xs w w' F,c.J go xs w->Kp F w w'->(∀b∈F,Ow w b)->c.J go xs w'
 jl: ∀go xs w,c.J go xs w->xs.length<=100000
 w1:1<=c.x.W
def DdG (c:SC)(en q:Nat)(s:Spt):Prop:= ∀r∈c.R, ∀y∈r,y.fr=s.fr->y.td=s.td->Mt.Dd c.x.k.P en q s.fr s.td y.bs s.f
structure StE (c:SC)(go:Bool)(T:List (List Nat))(en tl:Nat)(xs:List Cp)(pv lv:Value)(vs:List Value)(D:List (Option Nat))(w:World):Prop where
 bx:CBox c.gs (srC c.x.k c.x.gx c.B c.gd en tl) 97 w
 hk:HkS c.x.k w T (hkL c.x.k T) pv lv vs
 nt:NtS c.x w
 dd:DdS c.gd c.x.k.es.length c.x.k.w0.heap.size (DdG c en) D w
 cp: ∀x∈xs,CpAt w x
 dj: ∀x∈xs, ∀b∈x.B,b∉plB pv vs
 jj:c.J go xs w
def St (c:SC)(go:Bool)(T:List (List Nat))(en:Nat)(xs:List Cp)(w:World):Prop:= ∃pv lv vs D,StE c go T en xs.length xs pv lv vs D w
theorem qe3 {w:World}{pv:Value}{vs:List Value}{T:List (List Nat)}(h:PlS w pv vs T){b:Nat}(hb:b∈plB pv vs):Cl w b [38,3]:=by
 rcases mem_plB.1 hb with hb|⟨u,hu,hb⟩
 ·obtain ⟨cs,h1⟩:=q08 h.row hb
  exact ⟨cs,_,h1,by simp⟩
 ·obtain ⟨i,hi⟩:=List.getElem?_of_mem hu
  have hlt:i<vs.length:=(List.getElem?_eq_some_iff.1 hi).1
  obtain ⟨p,hp⟩: ∃p,(Mt.toZ T)[i]?=some p:=⟨_,List.getElem?_eq_getElem (by rw[<-h.ins.1];exact hlt)⟩
  obtain ⟨cs,h1⟩:=q08 (h.ins.2 i u p hi hp) hb
  exact ⟨cs,_,h1,by simp⟩
theorem q27 {w:World}{x:Cp}(h:CpAt w x){b:Nat}(hb:b∈x.B):Cl w b [38,3]:=by
 unfold Cp.B at hb
 rw[List.mem_cons,List.mem_flatMap]at hb
 rcases hb with rfl|⟨u,hu,hb⟩
 ·exact h.row.cl.wide (by simp)
 ·obtain ⟨i,hi⟩:=List.getElem?_of_mem hu
  have hlt:i<x.vs.length:=(List.getElem?_eq_some_iff.1 hi).1
  obtain ⟨p,hp⟩: ∃p,(Mt.toZ x.T)[i]?=some p:=⟨_,List.getElem?_eq_getElem (by rw[<-h.ins.1];exact hlt)⟩
  obtain ⟨cs,h1⟩:=q08 (h.ins.2 i u p hi hp) (by simpa using hb)
  exact ⟨cs,_,h1,by simp⟩
theorem q18 {k:HK}{w:World}{T:List (List Nat)}{L:List Ev}{pv lv:Value}{vs:List Value}(h:HkS k w T L pv lv vs){b:Nat}(hb:b∈hkF k pv lv vs):Cl w b [99,38,3,29]:=by
 unfold hkF at hb
 rw[List.mem_cons,List.mem_append]at hb
 rcases hb with rfl|hb|hb
 ·exact h.box.cl.wide (by simp)
 ·exact (qe3 h.pl hb).wide (by simp)
 ·obtain ⟨cs,h1⟩:=q08 h.la (by simpa using hb)
  exact ⟨cs,_,h1,by simp⟩
theorem q1Y {c:SC}(hI:ScI c){w:World}(hk:Kp c.x.k.F0 c.x.k.w0 w)(h:NtS c.x w){b:Nat}(hb:b∈ntF c.x):Cl w b [144]:=by
 unfold ntF at hb
 rw[List.mem_flatMap]at hb
 obtain ⟨u,hu,hb⟩:=hb
 obtain ⟨t,ht⟩:=List.getElem?_of_mem hu
 have hlt:t<c.x.k.l.length:=by rw[<-hI.nl];exact (List.getElem?_eq_some_iff.1 ht).1
 obtain ⟨gn,cn,v,_,hv,_,h1,h2⟩:=hI.hX.nz w hk t hlt
 rw[ht]at hv
 cases hv
 rcases Nat.lt_or_ge 1 (asT c.x.ss t).length with h3|h3
 ·rw[h1 h3]at hb
  simp[Value.ownBlock]at hb
 ·obtain ⟨b2,e,_⟩:=h2 h3
  rw[e]at ht hb
  obtain ⟨row,h4,_⟩:=h t b2 ht
  simp[Value.ownBlock]at hb
  subst hb
  exact h4.cl
theorem q5B {gd n lo:Nat}{G:Nat->Spt->Prop}{D:List (Option Nat)}{w:World}(h:DdS gd n lo G D w){b:Nat}(hb:b∈ddF gd D):Mp w b\/Cl w b [100]:=by
 rcases q2n hb with rfl|⟨q,hq⟩
 ·exact Or.inr h.row.cl
 ·obtain ⟨_,S,h2,_⟩:=h.mp q b hq
  exact Or.inl h2.mp
theorem q1T {gd n lo:Nat}{G:Nat->Spt->Prop}{D:List (Option Nat)}{w:World}(h:DdS gd n lo G D w){b a:Nat}(hb:b∈ddF gd D){s:List TypeId}(ha:Cl w a s)(hs:100∉s):b≠a:=by
 rcases q5B h hb with h1|h1
 ·exact h1.ne ha
 ·exact h1.ne ha (fun t ht=>by rw[List.mem_singleton]at ht;rw[ht];exact hs)
theorem qdt {gd n lo:Nat}{G:Nat->Spt->Prop}{D:List (Option Nat)}{w:World}(h:DdS gd n lo G D w){b:Nat}(hb:b∈ddF gd D):Ow w b:=by
 rcases q5B h hb with h1|h1
 ·exact Or.inl h1
 ·exact h1.ow (by decide)
section
variable {c:SC} {go:Bool} {T T':List (List Nat)} {en tl:Nat} {xs:List Cp} {pv lv pv' lv':Value} {vs vs':List Value} {D:List (Option Nat)} {w w':World}
theorem StE.take (h:StE c go T en tl xs pv lv vs D w)(hI:ScI c)(hn:HkN c.x.k w (hkF c.x.k pv lv vs) T' (hkL c.x.k T') pv' lv' vs' w'):StE c go T' en tl xs pv' lv' vs' D w'/\KT w w':=by
 have how: ∀b∈hkF c.x.k pv lv vs,Ow w b:=fun b hb=>(q18 h.hk hb).ow (by decide)
 have hcp: ∀x∈xs, ∀b∈x.B,b∉hkF c.x.k pv lv vs:=fun x hx b hb hm=>by
  have h1:=q27 (h.cp x hx) hb
  unfold hkF at hm
  rw[List.mem_cons,List.mem_append]at hm
  rcases hm with rfl|hm|hm
  ·exact h1.ne h.hk.box.cl (by decide) rfl
  ·exact h.dj x hx b hb hm
  ·obtain ⟨cs,h2⟩:=q08 h.hk.la (by simpa using hm)
   exact h1.ne h2.cl (by decide) rfl
 refine ⟨⟨h.bx.kp hn.kp (fun hm=>(q18 h.hk hm).ne h.bx.cl (by decide) rfl),hn.s,h.nt.kp hn.kp (fun b hb hm=>(q18 h.hk hm).ne (q1Y hI h.hk.kp h.nt hb) (by decide) rfl),h.dd.kp hn.kp (fun b hb hm=>q1T h.dd hb (q18 h.hk hm) (by decide) rfl),fun x hx=>(h.cp x hx).kp hn.kp (hcp x hx),fun x hx b hb hm=>?_,hI.jk _ _ _ _ _ h.jj hn.kp how⟩,KT.own hn.kp how⟩
 have h2:b∈hkF c.x.k pv' lv' vs':=by unfold hkF;rw[List.mem_cons,List.mem_append];exact Or.inr (Or.inl hm)
 rcases hn.nw b h2 with h3|h3
 ·exact hcp x hx b hb h3
 ·have:=(h.cp x hx).lt b hb
  omega
theorem StE.al (h:StE c go T en tl xs pv lv vs D w)(hI:ScI c)(hk:Kp [] w w'):StE c go T en tl xs pv lv vs D w':=
 ⟨h.bx.kp hk (by simp),h.hk.al hk,h.nt.kp hk (by simp),h.dd.kp hk (by simp),fun x hx=>(h.cp x hx).kp hk (by simp),h.dj,hI.jk _ _ _ _ _ h.jj hk (by simp)⟩
theorem StE.note (h:StE c go T en tl xs pv lv vs D w)(hI:ScI c)(hn:NtS c.x w')(hk:Kp (ntF c.x) w w'):StE c go T en tl xs pv lv vs D w'/\KT w w':=by
 have hcl: ∀b∈ntF c.x,Cl w b [144]:=fun b hb=>q1Y hI h.hk.kp h.nt hb
 have how: ∀b∈ntF c.x,Ow w b:=fun b hb=>(hcl b hb).ow (by decide)
 exact ⟨⟨h.bx.kp hk (fun hm=>(hcl _ hm).ne h.bx.cl (by decide) rfl),h.hk.go hk (fun b hb hm=>(q18 h.hk hb).ne (hcl b hm) (by decide) rfl) (fun b hb=>Or.inl (hI.nf b hb)),hn,h.dd.kp hk (fun b hb hm=>q1T h.dd hb (hcl b hm) (by decide) rfl),fun x hx=>(h.cp x hx).kp hk (fun b hb hm=>(q27 (h.cp x hx) hb).ne (hcl b hm) (by decide) rfl),h.dj,hI.jk _ _ _ _ _ h.jj hk how⟩,KT.own hk how⟩
theorem StE.bury {D':List (Option Nat)}(h:StE c go T en tl xs pv lv vs D w)(hI:ScI c)(hd:DdS c.gd c.x.k.es.length c.x.k.w0.heap.size (DdG c en) D' w')(hk:Kp (ddF c.gd D) w w'):StE c go T en tl xs pv lv vs D' w'/\KT w w':=by
 have how: ∀b∈ddF c.gd D,Ow w b:=fun b hb=>qdt h.dd hb
 have hlo: ∀b∈ddF c.gd D,b∈c.x.k.F0\/c.x.k.w0.heap.size<=b:=fun b hb=>by
  rcases q2n hb with rfl|⟨q,hq⟩
  ·exact Or.inl hI.df
  ·exact Or.inr (h.dd.mp q b hq).1
 exact ⟨⟨h.bx.kp hk (fun hm=>q1T h.dd hm h.bx.cl (by decide) rfl),h.hk.go hk (fun b hb hm=>q1T h.dd hm (q18 h.hk hb) (by decide) rfl) hlo,h.nt.kp hk (fun b hb hm=>q1T h.dd hm (q1Y hI h.hk.kp h.nt hb) (by decide) rfl),hd,fun x hx=>(h.cp x hx).kp hk (fun b hb hm=>q1T h.dd hm (q27 (h.cp x hx) hb) (by decide) rfl),h.dj,hI.jk _ _ _ _ _ h.jj hk how⟩,KT.own hk how⟩
theorem StE.gsb (h:StE c go T en tl xs pv lv vs D w)(hI:ScI c)(i:Nat)(v:Value):HkS c.x.k (w.setCell ⟨c.gs,i,none⟩ v) T (hkL c.x.k T) pv lv vs/\NtS c.x (w.setCell ⟨c.gs,i,none⟩ v)/\DdS c.gd c.x.k.es.length c.x.k.w0.heap.size (DdG c en) D (w.setCell ⟨c.gs,i,none⟩ v)/\(∀x∈xs,CpAt (w.setCell ⟨c.gs,i,none⟩ v) x)/\c.J go xs (w.setCell ⟨c.gs,i,none⟩ v)/\KT w (w.setCell ⟨c.gs,i,none⟩ v):=by
 have hk:=Kp.set w c.gs i v
 have how: ∀b∈[c.gs],Ow w b:=fun b hb=>by rw[List.mem_singleton]at hb;rw[hb];exact h.bx.cl.ow (by decide)
 have hin: ∀b,b∈[c.gs]->Cl w b [97]:=fun b hb=>by rw[List.mem_singleton]at hb;rw[hb];exact h.bx.cl
 exact ⟨h.hk.go hk (fun b hb hm=>(q18 h.hk hb).ne (hin b hm) (by decide) rfl) (fun b hb=>Or.inl (by rw[List.mem_singleton]at hb;rw[hb];exact hI.gf)),h.nt.kp hk (fun b hb hm=>(q1Y hI h.hk.kp h.nt hb).ne (hin b hm) (by decide) rfl),h.dd.kp hk (fun b hb hm=>q1T h.dd hb (hin b hm) (by decide) rfl),fun x hx=>(h.cp x hx).kp hk (fun b hb hm=>(q27 (h.cp x hx) hb).ne (hin b hm) (by decide) rfl),hI.jk _ _ _ _ _ h.jj hk how,KT.own hk how⟩
theorem StE.tick (h:StE c go T en tl xs pv lv vs D w)(hI:ScI c):StE c go T en (tl+1) xs pv lv vs D (w.setCell ⟨c.gs,5,none⟩ (.int .i64 ((tl:Int)+1)))/\KT w (w.setCell ⟨c.gs,5,none⟩ (.int .i64 ((tl:Int)+1))):=by
 obtain ⟨h1,h2,h3,h4,h5,h6⟩:=h.gsb hI 5 (.int .i64 ((tl:Int)+1))
 exact ⟨⟨h.bx.set 5 _,h1,h2,h3,h4,h.dj,h5⟩,h6⟩
theorem StE.yld {go':Bool}{x:Cp}{F:List Nat}(h:StE c go T en tl xs pv lv vs D w)(hI:ScI c)(hx:CpAt w x)(hd: ∀b∈x.B,b∉plB pv vs)(hk:Kp F w w')(hF: ∀b∈F,Yw w b/\(b∈c.x.k.F0\/c.x.k.w0.heap.size<=b))(hJ:c.J go' (xs++[x]) w'):StE c go' T en tl (xs++[x]) pv lv vs D w'/\KT w w':=by
 refine ⟨⟨h.bx.kp hk (fun hm=>(hF _ hm).1.ne h.bx.cl (by decide) rfl),h.hk.go hk (fun b hb hm=>(hF _ hm).1.ne (q18 h.hk hb) (by decide) rfl) (fun b hb=>(hF b hb).2),h.nt.kp hk (fun b hb hm=>(hF _ hm).1.ne (q1Y hI h.hk.kp h.nt hb) (by decide) rfl),h.dd.kp hk (fun b hb hm=>?_),fun y hy=>?_,fun y hy=>?_,hJ⟩,KT.yld hk (fun b hb=>(hF b hb).1)⟩
 ·rcases q5B h.dd hb with h1|h1
  ·exact (hF b hm).1.neM h1 rfl
  ·exact (hF b hm).1.ne h1 (by decide) rfl
 ·rw[List.mem_append,List.mem_singleton]at hy
  rcases hy with hy|rfl
  ·exact (h.cp y hy).kp hk (fun b hb hm=>(hF b hm).1.ne (q27 (h.cp y hy) hb) (by decide) rfl)
  ·exact hx.kp hk (fun b hb hm=>(hF b hm).1.ne (q27 hx hb) (by decide) rfl)
 ·rw[List.mem_append,List.mem_singleton]at hy
  rcases hy with hy|rfl
  ·exact h.dj y hy
  ·exact hd
end
def Ylds (c:SC)(l:Nat):Prop:= ∀(m:Nat) (xs:List Cp) (w:World) (x:Cp),c.J true xs w->CpAt w x->x.T.length<=8->(∀l∈x.T,l≠[]/\l.length<=4096)->YieldAt Fence.wide m Tryz.prog l #[x.v] w fun e w'=> ∃F go,e= .returned (.bool go)/\Kp F w w'/\(∀b∈F,Yw w b/\(b∈c.x.k.F0\/c.x.k.w0.heap.size<=b))/\c.J go (xs++[x]) w'
def PrT (go:Bool)(ys:List Cp)(A:List (List (List Nat))):Prop:=(go=true/\ys.map (·.T)=A)\/(go=false/\ ∃z,A=ys.map (·.T)++z)
def EndS (c:SC)(T:List (List Nat))(en:Nat)(xs:List Cp)(w:World)(A:List (List (List Nat)))(e:Ending)(w':World):Prop:= ∃go ys,e= .returned (.bool go)/\St c go T en (xs++ys) w'/\KT w w'/\PrT go ys A
theorem PrT.nil:PrT true [] []:=Or.inl ⟨rfl,rfl⟩
theorem PrT.app {go:Bool}{ys zs:List Cp}{A B:List (List (List Nat))}(h:PrT true ys A)(k:PrT go zs B):PrT go (ys++zs) (A++B):=by
 rcases h with ⟨_,h⟩|⟨h,_⟩
 ·rcases k with ⟨e,k⟩|⟨e,z,k⟩
  ·exact Or.inl ⟨e,by rw[List.map_append,h,k]⟩
  ·exact Or.inr ⟨e,z,by rw[List.map_append,h,k,List.append_assoc]⟩
 ·cases h
theorem PrT.stop {ys:List Cp}{A:List (List (List Nat))}(h:PrT false ys A)(B:List (List (List Nat))):PrT false ys (A++B):=by
 rcases h with ⟨h,_⟩|⟨_,z,h⟩
 ·cases h
 ·exact Or.inr ⟨rfl,z++B,by rw[h,List.append_assoc]⟩
open Go.RowKit
section
variable {P:Program} {n:Nat}
theorem q7c {l m:Nat}{r:Loop}{W:World}{args:Array Value}{R:Ending->World->Prop}{Q:Exit->Act->World->Prop}(hl:W.heap[l]?=some (.loop r))(hst:r.state= .ready)(hs:args.size=r.params.size)(a₁:Act)
  (hassign: ∀K:Act->World->Prop,K a₁ W->r.assign.wpIn (Fence.wide.inRound l) m P (Exit.then K (fun _ _ _=>False)) { tmps:=(r.params.zip args).foldl (fun t (p,v)=>t.setIfInBounds p v) r.tmps,defers:=[] } W)
  (hbody:r.body.wpIn (Fence.wide.inRound l) m P Q a₁ (W.putObj l (.loop { r with state:= .busy })))
  (hQ: ∀e a W',Q e a W'->W'.heap[l]?=some (.loop { r with state:= .busy })/\((e= .normal/\R (.returned (.bool true)) (W'.putObj l (.loop { r with state:= .ready,pending:=none })))\/(e= .ret/\R (.returned (.bool false)) (W'.putObj l (.loop { r with state:= .done,pending:=some .ret }))))):
  YieldAt Fence.wide m P l args W R:=by
 refine ⟨r.fn,_,r.assign,r.body,run_yield hl hs,roundIn_of_wpIn trivial (hassign _ ?_)⟩
 refine ⟨_,run_beginRound hl hst,?_⟩
 refine wpIn_mono hbody ?_
 intro e a W' hq
 obtain ⟨hl2,h|h⟩:=hQ e a W' hq
 ·obtain ⟨rfl,hR⟩:=h
  exact ⟨_,_,run_endRound (P:=P) none hl2,hR⟩
 ·obtain ⟨rfl,hR⟩:=h
  exact ⟨_,_,run_endRound (P:=P) (some .ret) hl2,hR⟩
theorem qbe {g:Operand}{ps:Array Tmp}{assign body:Code}{Q:Exit->Act->World->Prop}{a:Act}{w:World}{gf:Nat}{lb:Array Value}(hg:a.eval g= .func (.func gf) #[] lb)(eg: ∀args w,(callFunc gf args).run P w= .ok (.enter gf args) w)
  (hcall: ∀(fn:FuncId) (r:Loop),r=({ state:=LoopState.ready,pending:=none,fn:=fn,tmps:=a.tmps,params:=ps,assign:=assign,body:=body,defers:=w.heap.size }:Loop)->
   CallsIn Fence.wide (n-1) P gf (#[.func (.yield (w.heap.size+1)) #[] #[]]++lb) ((w.alloc (.deferred (some []))).alloc (.loop r)) fun e W'=>(∃v,e= .returned v)/\
    ((W'.heap[w.heap.size+1]?=some (.loop r)/\Q .normal { a with defers:={ target:= .collected w.heap.size,args:=#[] }::a.defers } (W'.putObj (w.heap.size+1) (.loop { r with state:= .exhausted })))\/
     (W'.heap[w.heap.size+1]?=some (.loop { r with state:= .done,pending:=some .ret })/\Code.ret.wpIn Fence.wide n P Q { a with defers:={ target:= .collected w.heap.size,args:=#[] }::a.defers } (W'.putObj (w.heap.size+1) (.loop { r with state:= .exhausted,pending:=some .ret }))))):
  (Code.rangeFunc g ps assign body).wpIn Fence.wide n P Q a w:=by
 refine wpIn_rangeFunc ?_
 intro fn _
 obtain ⟨r,hr⟩: ∃r:Loop,r=({ state:=LoopState.ready,pending:=none,fn:=fn,tmps:=a.tmps,params:=ps,assign:=assign,body:=body,defers:=w.heap.size }:Loop):=⟨_,rfl⟩
 have he:=run_enterLoop_outer (P:=P) (w:=w) fn a.tmps ps assign body
 rw[<-hr]at he
 have hc:=hcall fn r hr
 have hrs:r.state= .ready:=by rw[hr]
 have hrp:r.pending=none:=by rw[hr]
 clear hcall hr
 generalize (w.alloc (.deferred (some []))).alloc (.loop r)=W1 at *
 refine ⟨w.heap.size+1,[{ target:= .collected w.heap.size,args:=#[] }],W1,{ target:= .fn (.func gf) lb,args:=#[.func (.yield (w.heap.size+1)) #[] #[]] },W1,gf,#[.func (.yield (w.heap.size+1)) #[] #[]]++lb,W1,?_,?_,?_,?_,?_,?_⟩
 ·exact he
 ·simp only[resolve,hg]
  simp[go_sem]
 ·intro f' _
  trivial
 ·simp[invoke,go_sem,eg]
 ·intro h
  simp[Fence.wide]at h
 ·refine hc.mono ?_
  rintro e W' ⟨⟨v,rfl⟩,⟨hl,hq⟩|⟨hl,hq⟩⟩
  ·have h1:=run_endLoop (P:=P) hl (by rw[hrs];simp)
   rw[hrp]at h1 hq
   exact ⟨none,_,h1,hq⟩
  ·have h1:=run_endLoop (P:=P) hl (by simp)
   exact ⟨some .ret,_,h1,hq⟩
end
open Go.RowKit Go.Shelf
attribute [local go_sem] Oper.semAt_some
theorem qcF (n:Nat)(c:SC)(hI:ScI c)(l:Nat)(hY:Ylds c l)(T:List (List Nat))(en:Nat)(xs:List Cp)(w:World)(h:St c true T en xs w)(t:Nat)(hT:T.length=t+1)(hle:T.length<=c.x.k.l.length)(hne: ∀l∈T,l≠[]/\l.length<=4096):
  CallsIn Fence.wide n Tryz.prog 80 #[.pointer (some ⟨c.gs,0,none⟩), .int .i64 (t:Int), .func (.yield l) #[] #[]] w (EndS c T en xs w (if T.length=c.x.k.l.length then [T] else [])):=by
 obtain ⟨A,hA⟩: ∃A,A=if T.length=c.x.k.l.length then [T] else []:=⟨_,rfl⟩
 rw[<-hA]
 have HA:=hZq hA
 clear hA
 obtain ⟨pv,lv,vs,D,hS⟩:=h
 have hl8:=hI.hX.hI.l8
 have hjl:=hI.jl _ _ _ hS.jj
 have b0:=hS.bx.cell (i:=0) (v:= .pointer (some ⟨c.x.k.gt,0,none⟩)) rfl
 have b5:=hS.bx.cell (i:=5) (v:= .int .i64 (xs.length:Int)) rfl
 have f5:=hS.bx.froz 5
 have hgg:c.gs≠c.x.k.gt:=q0p hS.bx hS.hk.box (by decide)
 have t0:=hS.hk.box.cell (i:=0) (v:= .slice c.x.k.sa c.x.k.l.length c.x.k.sc) rfl
 have HS:=hZq hS
 have HI:=hZq hI
 have HY:=hZq hY
 have HNE:=hZq hne
 clear hI hS hY hne
 refine callsIn_of_wp Tryz.func80 rfl trivial ?_ rfl
 simp only[Tryz.ntmps80,List.size_toArray,List.length_cons,List.length_nil,Nat.reduceAdd,Nat.reduceSub,Array.replicate_succ,Array.replicate_zero,List.push_toArray,List.append_toArray,List.nil_append,List.cons_append]
 obtain ⟨N,hN⟩: ∃N,c.x.k.l.length=N:=⟨_,rfl⟩
 rw[hN]at hle hl8 t0
 have HN:=hZq hN
 clear hN
 by_cases hlt:t+1<N
 ·have hi:(t:Int)+1<(N:Int):=by omega
  gi_wp2
  go_ret
  refine ⟨true,[],rfl,⟨pv,lv,vs,D,by rw[List.append_nil];exact uQ HS⟩,KT.refl _,?_⟩
  rw[uQ HA,if_neg (show ¬ T.length=c.x.k.l.length by rw[uQ HN];omega)]
  exact PrT.nil
 ·have hi: ¬ (t:Int)+1<(N:Int):=by omega
  obtain ⟨hS1,hk1⟩:=(uQ HS).tick (uQ HI)
  have t4:=hS1.hk.box.cell (i:=4) (v:=pv) rfl
  have b1:=hS1.bx.cell (i:=0) (v:= .pointer (some ⟨c.x.k.gt,0,none⟩)) rfl
  have hwn:IntKind.i64.wrap ((xs.length:Int)+1)=(xs.length:Int)+1:=by simp only[IntKind.wrap_i64];omega
  have CP:=hZq ((callsIn_wide (n:=n-1)).2 (q82 _ T pv vs hS1.hk.pl (by omega) (fun l hl=>(uQ HNE l hl).1) (fun l hl=>by have:=(uQ HNE l hl).2;omega)))
  have HS1:=hZq hS1
  have HK1:=hZq hk1
  clear hS1 hk1 HS
  gi_wp2_with fail
  refine ⟨trivial,(fun h=>by cases h),(uQ CP).mono ?_⟩
  rintro e w2 ⟨x,rfl,hx2,hxT,hk2,hxB⟩
  clear CP t4 b1 b0 b5 f5 t0
  have hS2:=(uQ HS1).al (uQ HI) hk2
  have hdj: ∀b∈x.B,b∉plB pv vs:=fun b hb hm=>by
   have h1:=hxB b hb
   have h2:=(uQ HS1).hk.pl.lt b hm
   omega
  obtain ⟨fn,tmps,assign,body,hy,hR⟩:=uQ HY (n-1) xs w2 x hS2.jj hx2 (by rw[hxT];omega) (by rw[hxT];exact uQ HNE)
  have HR:=hZq hR
  have HF:Hid (∀F go w3,Kp F w2 w3->(∀b∈F,Yw w2 b/\(b∈c.x.k.F0\/c.x.k.w0.heap.size<=b))->c.J go (xs++[x]) w3->EndS c T en xs w A (.returned (.bool go)) w3):=hZq (fun F go w3 h1 h2 h3=>by
   obtain ⟨h4,h5⟩:=hS2.yld (uQ HI) hx2 hdj h1 h2 h3
   refine ⟨go,[x],rfl,⟨pv,lv,vs,D,by rw[List.length_append];exact h4⟩,((uQ HK1).trans (KT.own hk2 (by simp))).trans h5,?_⟩
   rw[uQ HA,if_pos (show T.length=c.x.k.l.length by rw[uQ HN];omega)]
   cases go with
   |true=>exact Or.inl ⟨rfl,by rw[List.map_cons,hxT];rfl⟩
   |false=>exact Or.inr ⟨rfl,[],by rw[List.map_cons,hxT];rfl⟩)
  unfold Cp.v at hy ⊢
  clear hR hx2 hxT hk2 hxB hS2 hdj HS1 HK1
  gi_wp2
  refine ⟨(fun h=>by cases h),?_⟩
  refine (uQ HR).mono ?_
  rintro e w3 ⟨F,go,rfl,h1,h2,h3⟩
  have HE:=hZq (uQ HF F go w3 h1 h2 h3)
  clear HR HF h1 h2 h3 hy
  gi_wp2
  go_ret
  exact uQ HE
theorem qaQ (c:SC)(hI:ScI c)(l:Nat)(hY:Ylds c l)(T:List (List Nat))(en:Nat)(xs:List Cp)(w:World)(h:St c true T en xs w)(t:Nat)(hT:T.length=t+1)(hle:T.length<=c.x.k.l.length)(hne: ∀l∈T,l≠[]/\l.length<=4096):
  Calls Tryz.prog 80 #[.pointer (some ⟨c.gs,0,none⟩), .int .i64 (t:Int), .func (.yield l) #[] #[]] w (EndS c T en xs w (if T.length=c.x.k.l.length then [T] else [])):=callsIn_wide.1 (qcF 0 c hI l hY T en xs w h t hT hle hne)
end Go.Proofs.YtcmjnlpofebbmaaGreatDoor
namespace Go.Proofs.YtcmjnlpofebbmaaGreatDoor
open Go.RowKit Go.Shelf
structure TOk (fs:Nat)(T:List (List Nat)):Prop where
 ne:T≠[]
 ea: ∀l∈T,l≠[]/\l.length<=Mt.endT T+1/\ ∀y∈l,fs<=y/\y<=Mt.endT T
theorem TOk.one (q:Nat):TOk q [[q]]:=⟨by simp,fun l hl=>by
 rw[List.mem_singleton]at hl
 subst hl
 refine ⟨by simp,by simp,fun y hy=>?_⟩
 rw[List.mem_singleton]at hy
 subst hy
 exact ⟨Nat.le_refl _,Nat.le_refl _⟩⟩
theorem TOk.lst {fs:Nat}{T:List (List Nat)}(h:TOk fs T){l:List Nat}(hl:l∈T):fs<=Mt.lst l/\Mt.lst l<=Mt.endT T:=(h.ea l hl).2.2 _ (Mt.lst_mem (h.ea l hl).1)
theorem TOk.fin {fs:Nat}{T:List (List Nat)}(h:TOk fs T):fs<=Mt.endT T:=by
 obtain ⟨l,hl⟩:=List.exists_mem_of_ne_nil T h.ne
 have:=h.lst hl
 omega
theorem TOk.ext {fs:Nat}{T:List (List Nat)}(h:TOk fs T){t q:Nat}(hq:Mt.endT T<q):TOk fs (Mt.ext T t q):=by
 have hf:=h.fin
 have ho: ∀l∈T,l≠[]/\l.length<=q+1/\ ∀y∈l,fs<=y/\y<=q:=fun l hl=>by
  obtain ⟨h1,h2,h3⟩:=h.ea l hl
  exact ⟨h1,by omega,fun y hy=>by have:=h3 y hy;omega⟩
 refine ⟨Mt.ext_ne T t q,fun l hl=>?_⟩
 rw[Mt.endT_ext]
 unfold Mt.ext at hl
 split at hl
 ·rw[List.mem_append,List.mem_singleton]at hl
  rcases hl with hl|rfl
  ·exact ho l hl
  ·refine ⟨by simp,by simp,fun y hy=>?_⟩
   rw[List.mem_singleton]at hy
   omega
 ·rw[List.mem_append,List.mem_singleton]at hl
  rcases hl with hl|rfl
  ·exact ho l (List.dropLast_subset T hl)
  ·have hm:T.getLastD []∈T:=by
    rw[List.getLastD_eq_getLast?,List.getLast?_eq_some_getLast h.ne]
    exact List.getLast_mem h.ne
   obtain ⟨h1,h2,h3⟩:=h.ea _ hm
   refine ⟨by simp,by rw[List.length_append];show _+1<=_;omega,fun y hy=>?_⟩
   rw[List.mem_append,List.mem_singleton]at hy
   rcases hy with hy|rfl
   ·have:=h3 y hy;omega
   ·omega
def q3i (c:SC)(l en:Nat)(T:List (List Nat))(t q:Nat):Prop:= ∀(xs:List Cp) (w:World),St c true T en xs w->Calls Tryz.prog 43 #[.pointer (some ⟨c.gs,0,none⟩), .int .i64 (t:Int), .int .i64 (q:Int), .func (.yield l) #[] #[]] w (EndS c T en xs w (Mt.all c.x.k.P en (Mt.ext T t q)))
structure RoadOf (c:SC)(T:List (List Nat))(y:RdC):Prop where
 g:RdG c.x.ss y
 fr:y.fr+1=T.length
 td:(y.td=y.fr/\mnAt c.x.ss y.fr=true)\/y.td=y.fr+1
 lt:y.td<c.x.k.l.length
theorem St.ask {c:SC}(hI:ScI c){go:Bool}{T:List (List Nat)}{en fs:Nat}{xs:List Cp}{w:World}(h:St c go T en xs w)(hT:TOk fs T)(hen:en<=c.x.k.es.length)(hfw:en<=fs+c.x.W){t q:Nat}(ht:t<c.x.k.l.length)(htT:t<=T.length)(hq:Mt.endT T<q)(hqe:q<en):
  Calls Tryz.prog 42 #[.pointer (some ⟨c.x.gx,0,none⟩), .int .i64 (t:Int), .int .i64 (q:Int)] w fun e w'=>e= .returned (.bool (c.x.k.P.H t (Mt.las T t) q))/\St c go T en xs w'/\KT w w':=by
 obtain ⟨pv,lv,vs,D,hS⟩:=h
 have hel:=hI.hX.hI.el
 have hw1:=hI.w1
 have hgd: ∀i∈(asT c.x.ss t).head?,fs<=(Mt.las T t).getD i 0/\(Mt.las T t).getD i 0<=Mt.endT T:=fun i hi=>by
  have hit:i<t:=q5n hI.hX.hp t i (List.mem_of_mem_head? hi)
  have hiT:i<T.length:=by omega
  rw[q5Y hit,List.getD_eq_getElem?_getD,List.getElem?_eq_getElem hiT]
  exact hT.lst (List.getElem_mem hiT)
 refine (q4o c.x hI.hX w T pv lv vs hS.hk hS.nt (fun b hb hm=>(q18 hS.hk hm).ne (q1Y hI hS.hk.kp hS.nt hb) (by decide) rfl) t q ht htT (fun l hl=>⟨(hT.ea l hl).1,by have:=(hT.ea l hl).2.1;omega⟩) (by omega) (fun i hi=>by have:=hgd i hi;omega) ?_).mono ?_
 ·unfold Mt.apN
  cases ha:asT c.x.ss t with
  |nil=>exact hw1
  |cons i r=>
   have:=hgd i (by rw[ha];rfl)
   dsimp only
   omega
 ·rintro e w' ⟨rfl,hn,hk⟩
  obtain ⟨h1,h2⟩:=hS.note hI hn hk
  exact ⟨rfl,⟨pv,lv,vs,D,h1⟩,h2⟩
theorem St.gs1 {c:SC}{go:Bool}{T:List (List Nat)}{en:Nat}{xs:List Cp}{w:World}(h:St c go T en xs w):w.cell? ⟨c.gs,1,none⟩=some (.pointer (some ⟨c.x.gx,0,none⟩)):=let ⟨_,_,_,_,hS⟩:=h;hS.bx.cell rfl
theorem St.gs4 {c:SC}{go:Bool}{T:List (List Nat)}{en:Nat}{xs:List Cp}{w:World}(h:St c go T en xs w):w.cell? ⟨c.gs,4,none⟩=some (.int .i64 (en:Int)):=let ⟨_,_,_,_,hS⟩:=h;hS.bx.cell rfl
theorem St.gs5 {c:SC}{go:Bool}{T:List (List Nat)}{en:Nat}{xs:List Cp}{w:World}(h:St c go T en xs w):w.cell? ⟨c.gs,5,none⟩=some (.int .i64 (xs.length:Int)):=let ⟨_,_,_,_,hS⟩:=h;hS.bx.cell rfl
theorem St.al {c:SC}(hI:ScI c){go:Bool}{T:List (List Nat)}{en:Nat}{xs:List Cp}{w w':World}(h:St c go T en xs w)(hk:Kp [] w w'):St c go T en xs w':=let ⟨pv,lv,vs,D,hS⟩:=h;⟨pv,lv,vs,D,hS.al hI hk⟩
structure RBx (b:Nat)(fr td:Nat)(oh oe:Bool)(v:Value)(w:World):Prop where
 bx:CBox b #[.int .i64 (fr:Int), .int .i64 (td:Int), .bool oh, .bool oe,v] 141 w
theorem RBx.kt {b fr td:Nat}{oh oe:Bool}{v:Value}{w w':World}(h:RBx b fr td oh oe v w)(hk:KT w w'):w'.cell? ⟨b,0,none⟩=some (.int .i64 (fr:Int))/\w'.cell? ⟨b,1,none⟩=some (.int .i64 (td:Int))/\w'.cell? ⟨b,2,none⟩=some (.bool oh)/\w'.cell? ⟨b,3,none⟩=some (.bool oe)/\w'.cell? ⟨b,4,none⟩=some v:=by
 have:=hk.bl _ _ _ h.bx (by simp)
 exact ⟨this.cell rfl,this.cell rfl,this.cell rfl,this.cell rfl,this.cell rfl⟩
theorem RBx.go {b fr td:Nat}{oh oe:Bool}{v:Value}{w w':World}(h:RBx b fr td oh oe v w)(hk:KT w w'):RBx b fr td oh oe v w':=⟨hk.bl _ _ _ h.bx (by simp)⟩
theorem qbJ (c:SC)(hI:ScI c)(l en fs:Nat)(T:List (List Nat))(hT:TOk fs T)(hen:en<=c.x.k.es.length)(hfw:en<=fs+c.x.W)(y:RdC)(hy:RoadOf c T y)(IH: ∀q,Mt.endT T<q->q<en->q3i c l en T y.td q)(xs:List Cp)(w:World)(h:St c true T en xs w)(he:Mt.endT T<=4096):
  Calls Tryz.prog 108 #[.pointer (some ⟨c.gs,0,none⟩), .agg y.l.toArray, .int .i64 (Mt.endT T:Int), .func (.yield l) #[] #[]] w (EndS c T en xs w (Mt.alo c.x.k.P en T y.td)):=by
 obtain ⟨A,hA⟩: ∃A,A=Mt.alo c.x.k.P en T y.td:=⟨_,rfl⟩
 rw[<-hA]
 have hel:=hI.hX.hI.el
 have hAS:=Mt.asks_pm c.x.k.p c.x.k.es
 have hyT:y.td<=T.length:=by have:=hy.fr;rcases hy.td with h|h <;> omega
 have HLO:Hid (∀q,y.td=y.fr->Mt.endT T<q->Mt.btw c.x.k.P T y.td (Mt.endT T) q=true->q<en->c.x.k.P.H y.td (Mt.las T y.td) q=true->Mt.all c.x.k.P en (Mt.ext T y.td q)=[]->Mt.wal c.x.k.P en T y.td (q+1)=[]):=hZq (fun q e h1 h2 h3 h4 h5=>Mt.wal_loop hAS (by exact hen) (by rw[e];exact hy.fr) (by
  rcases hy.td with h|h
  ·rw[e];exact h.2
  ·omega) h1 h2 h3 h4 h5)
 have HST:Hid (∀q,Mt.endT T<q->Mt.btw c.x.k.P T y.td (Mt.endT T) q=true->q<en->Mt.wal c.x.k.P en T y.td q=(if c.x.k.P.H y.td (Mt.las T y.td) q=true then Mt.all c.x.k.P en (Mt.ext T y.td q) else [])++(if stay (hwAt c.x.ss y.td) (c.x.k.P.H y.td (Mt.las T y.td) q)=true then Mt.wal c.x.k.P en T y.td (q+1) else [])):=hZq (fun q h1 h2 h3=>Mt.wal_step h1 h2 h3)
 have HBN:Hid (∀q,Mt.endT T<q->Mt.btw c.x.k.P T y.td (Mt.endT T) q=true->stay (hwAt c.x.ss y.td) (c.x.k.P.H y.td (Mt.las T y.td) q)=true->Mt.btw c.x.k.P T y.td (Mt.endT T) (q+1)=true):=hZq (fun q h1 h2 h3=>by
  rw[Mt.btw_next h1 h2]
  exact h3)
 have HAK:=hZq (fun (go:Bool) (ys:List Cp) (W:World) (hs:St c go T en ys W) (q:Nat) (h1:Mt.endT T<q) (h2:q<en)=>hs.ask hI hT hen hfw hy.lt hyT h1 h2)
 have HIN:=hZq IH
 have HA:=hZq hA
 have HA0:Hid (A=Mt.wal c.x.k.P en T y.td (Mt.endT T+1)):=hZq hA
 have hb0:Mt.btw c.x.k.P T y.td (Mt.endT T) (Mt.endT T+1)=true:=Mt.btw_first _ _ _ _
 have HWE:Hid (∀q,en<=q->Mt.wal c.x.k.P en T y.td q=[]):=hZq (fun q h1=>Mt.wal_end h1)
 have hoh:=hy.g.oh
 have hoe:=hy.g.oe
 have kw:=Kp.alloc w (.cells y.l.toArray 141)
 have hs1:=h.al hI kw
 have rb1:=CBox.new w y.l.toArray 141
 obtain ⟨fr,td,oh,oe,xa,xc,bs⟩:=y
 unfold RdC.l RdC.v at *
 dsimp only at *
 generalize Value.slice xa bs.length xc=ov at *
 have HRB:Hid (RBx w.heap.size fr td oh oe ov (w.alloc (.cells #[.int .i64 (fr:Int), .int .i64 (td:Int), .bool oh, .bool oe,ov] 141))):=hZq ⟨rb1⟩
 have HS1:=hZq hs1
 have HI:=hZq hI
 have HKW:=hZq (KT.own kw (by simp))
 obtain ⟨W1,hW1⟩: ∃W1,W1=w.alloc (.cells #[.int .i64 (fr:Int), .int .i64 (td:Int), .bool oh, .bool oe,ov] 141):=⟨_,rfl⟩
 rw[<-hW1]at HRB HS1 HKW
 have HOH:Hid (oh=stay (hwAt c.x.ss td) true/\oe=stay (hwAt c.x.ss td) false):=hZq ⟨hoh,hoe⟩
 clear hI h hT hy IH hA hs1 rb1 kw hAS hoh hoe
 generalize Mt.endT T=la at *
 have hlw:IntKind.i64.wrap ((la:Int)+1)=(la:Int)+1:=by simp only[IntKind.wrap_i64];omega
 have hen4:en<=4096:=by omega
 go_enter Tryz.func108,Tryz.ntmps108
 go_upto_region 1 with fail
 rw[<-hW1]
 clear hW1
 go_wp2_with fail
 go_loopw [9] (fun pl wr=> ∃(q:Nat) (ys:List Cp),la<q/\q<=4200/\pl= .int .i64 (q:Int)/\Hid (Mt.btw c.x.k.P T td la q=true/\A=ys.map (·.T)++Mt.wal c.x.k.P en T td q/\St c true T en (xs++ys) wr/\KT W1 wr)) (fun pl _=>4200-(intOf pl).toNat)
 case atStart=>exact ⟨la+1,[],by omega,by omega,by go_num,hZq ⟨hb0,uQ HA0,by rw[List.append_nil];exact uQ HS1,KT.refl _⟩⟩
 case round=>
  obtain ⟨q,ys,hq1,hq2,rfl,HR⟩:=hrel
  obtain ⟨hbt,hAq,hst,hkr⟩:=uQ HR
  have g4:=hst.gs4
  have g1:=hst.gs1
  obtain ⟨r0,r1,r2,r3, -⟩:=(uQ HRB).kt hkr
  have HKR:=hZq hkr
  have HSR:=hZq hst
  have HAQ:=hZq hAq
  have HBT:=hZq hbt
  clear HR HS1 HA0 hb0 hst hkr hAq hbt
  by_cases hqe:q<en
  ·have hqi:(q:Int)<(en:Int):=by omega
   obtain ⟨V,hV⟩: ∃V,V=wr.drew:=⟨_,rfl⟩
   have kV:Kp [] wr V:=by rw[hV];exact Kp.drew _
   have hsV:=(uQ HSR).al (uQ HI) kV
   have XH:=hZq (uQ HAK true (xs++ys) V hsV q hq1 hqe)
   have S0:V.cell? ⟨c.gs,1,none⟩=some (.pointer (some ⟨c.x.gx,0,none⟩))/\V.cell? ⟨w.heap.size,1,none⟩=some (.int .i64 (td:Int)):=⟨hsV.gs1,kV.cell r1 (by simp)⟩
   have HRV:=hZq ((uQ HRB).go ((uQ HKR).trans (KT.own kV (by simp))))
   clear hsV
   go_upto_region 5 with fail
   refine wp_region_held_drew (S:=fun W=>W.cell? ⟨c.gs,1,none⟩=some (.pointer (some ⟨c.x.gx,0,none⟩))/\W.cell? ⟨w.heap.size,1,none⟩=some (.int .i64 (td:Int))) (by kernel_rfl) (by rw[<-hV];exact S0) (fun hHeld=>?_)
   rw[<-hV]at hHeld ⊢
   clear hV S0
   show wpAnyH _ _ _ _ _ 8 (Array.replicate 8 false) _ _
   refine zzH (i:=0) (v:=?_) rfl (fun _ _ _ h=>h) (Or.inl ⟨by rfl,?_⟩) (by assumption) ?_
   rotate_left 1
   ·intro w0 hSw;(try dsimp only at hSw);go_simp;(try with_reducible rfl)
   try simp only[Act.put,zz1,zz2,zz3]
   refine zzH (i:=1) (v:=?_) rfl (fun _ _ _ h=>h) (Or.inl ⟨by rfl,?_⟩) (by assumption) ?_
   rotate_left 1
   ·intro w0 hSw;(try dsimp only at hSw);go_simp;(try with_reducible rfl)
   try simp only[Act.put,zz1,zz2,zz3]
   refine zzH (i:=2) (v:=?_) rfl (fun _ _ _ h=>h) (Or.inl ⟨by rfl,?_⟩) (by assumption) ?_
   rotate_left 1
   ·intro w0 hSw;(try dsimp only at hSw);go_simp;(try with_reducible rfl)
   try simp only[Act.put,zz1,zz2,zz3]
   refine zzH (i:=3) (v:=?_) rfl (fun _ _ _ h=>h) (Or.inl ⟨by rfl,?_⟩) (by assumption) ?_
   rotate_left 1
   ·intro w0 hSw;(try dsimp only at hSw);go_simp;(try with_reducible rfl)
   try simp only[Act.put,zz1,zz2,zz3]
   refine zzH (i:=4) (v:=?_) rfl (fun _ _ _ h=>h) (Or.inl ⟨by rfl,?_⟩) (by assumption) ?_
   rotate_left 1
   ·intro w0 hSw;(try dsimp only at hSw);go_simp;(try with_reducible rfl)
   try simp only[Act.put,zz1,zz2,zz3]
   refine zzH (i:=5) (v:=?_) rfl (fun _ _ _ h=>h) (Or.inl ⟨by rfl,?_⟩) (by assumption) ?_
   rotate_left 1
   ·intro w0 hSw;(try dsimp only at hSw);go_simp;(try with_reducible rfl)
   try simp only[Act.put,zz1,zz2,zz3]
   refine zzH (i:=6) (v:=?_) rfl (fun _ _ _ h=>h) (Or.inl ⟨by rfl,?_⟩) (by assumption) ?_
   rotate_left 1
   ·intro w0 hSw;(try dsimp only at hSw);go_simp;(try with_reducible rfl)
   try simp only[Act.put,zz1,zz2,zz3]
   refine wpAnyH_ready (rs:=[7]) (by kernel_rfl) (by simp) ?_
   refine AllReadyH.cons rfl (fun K hK=>?_) AllReadyH.nil
   go_simp
   refine (uQ XH).mono ?_
   rintro e w2 ⟨rfl,hs2,hk2⟩
   have HS2:w2.cell? ⟨c.gs,1,none⟩=some (.pointer (some ⟨c.x.gx,0,none⟩))/\w2.cell? ⟨w.heap.size,1,none⟩=some (.int .i64 (td:Int)):=⟨St.gs1 hs2,((uQ HRV).kt hk2).2.1⟩
   have HST2:=hZq hs2
   have HKT2:=hZq ((uQ HKR).trans ((KT.own kV (by simp)).trans hk2))
   clear XH hs2 hk2
   refine hK.out _ _ ?_ (fun hHeld=>?_)
   ·exact HS2
   clear hK K
   try simp only[Act.put,zz1,zz2,zz3]
   refine wpAnyH_done (by kernel_rfl) ?_ _
   have HAS:=hZq (uQ HST q hq1 (uQ HBT) hqe)
   have HBX:=hZq (uQ HBN q hq1 (uQ HBT))
   obtain ⟨r0,r1,r2,r3, -⟩:=(uQ HRB).kt (uQ HKT2)
   have g5:=(uQ HST2).gs5
   obtain ⟨n1,hn1⟩: ∃n,n=(xs++ys).length:=⟨_,rfl⟩
   rw[<-hn1]at g5
   have HN1:=hZq hn1
   clear hn1
   obtain ⟨ho1,ho2⟩:=uQ HOH
   clear HRV HKR HSR HAK HST HBN HS2 g4 g1 hHeld kV
   cases hH:c.x.k.P.H td (Mt.las T td) q with
   |false=>
    rw[hH, <-ho2]at HAS HBX
    have HCT:Hid (oe=true->Mt.btw c.x.k.P T td la (q+1)=true):=HBX
    have HAN:Hid (A=ys.map (·.T)++(if oe=true then Mt.wal c.x.k.P en T td (q+1) else [])):=hZq (by rw[uQ HAQ,uQ HAS,if_neg (by simp)];rfl)
    have HSN:=HST2
    have HKN:=HKT2
    clear HAS HBX HST2 HKT2 HLO HIN HWE HAQ HBT HI ho1 ho2
    cases oe with
    |true=>
     have HN:Hid (Mt.btw c.x.k.P T td la (q+1)=true/\A=(ys).map (·.T)++Mt.wal c.x.k.P en T td (q+1)/\St c true T en (xs++(ys)) w2/\KT W1 w2):=hZq ⟨uQ HCT rfl,uQ HAN,uQ HSN,uQ HKN⟩
     clear HCT HAN HSN HKN
     go_wp2
     go_roundw
     case rel=>exact ⟨q+1,ys,by omega,by omega,by go_num,HN⟩
     case measure=>simp[intOf];omega
    |false=>
     have HF:Hid (EndS c T en xs w A (.returned (.bool true)) w2):=hZq ⟨true,ys,rfl,uQ HSN,(uQ HKW).trans (uQ HKN),Or.inl ⟨rfl,((uQ HAN).trans (List.append_nil _)).symm⟩⟩
     clear HCT HAN HSN HKN
     go_wp2
     go_ret
     exact uQ HF
   |true=>
    rw[hH, <-ho1]at HAS HBX
    have HCT:Hid (oh=true->Mt.btw c.x.k.P T td la (q+1)=true):=HBX
    have HIC:=hZq (uQ HIN q hq1 hqe (xs++ys) w2 (uQ HST2))
    have HLP:=hZq (fun e h5=>uQ HLO q e hq1 (uQ HBT) hqe hH h5)
    obtain ⟨M,hM⟩: ∃M,M=Mt.all c.x.k.P en (Mt.ext T td q):=⟨_,rfl⟩
    rw[<-hM]at HIC HAS HLP
    have HAM:Hid (A=ys.map (·.T)++(M++(if oh=true then Mt.wal c.x.k.P en T td (q+1) else []))):=hZq (by rw[uQ HAQ,uQ HAS,if_pos rfl])
    clear HAS HBX HST2 HLO HIN HWE HAQ HBT HI hM ho1 ho2
    go_wp2_with fail
    refine (uQ HIC).mono ?_
    rintro e w3 ⟨go,zs,rfl,hst3,hk3,hpre⟩
    have HKN:=hZq ((uQ HKT2).trans hk3)
    obtain ⟨r0,r1,r2,r3, -⟩:=(uQ HRB).kt (uQ HKN)
    have HSN:Hid (St c go T en (xs++(ys++zs)) w3):=hZq (by rw[<-List.append_assoc];exact hst3)
    have h5:=hst3.gs5
    have HPR:=hZq hpre
    clear HIC hst3 hk3 hpre HKT2
    obtain ⟨n2,hn2⟩: ∃n,n=(xs++ys++zs).length:=⟨_,rfl⟩
    have HNN:Hid (n2=n1↔zs=[]):=hZq (by
     have e:(xs++ys++zs).length=(xs++ys).length+zs.length:=List.length_append
     rw[uQ HN1,hn2,e]
     constructor
     ·intro e;exact List.length_eq_zero_iff.1 (by omega)
     ·rintro rfl;rfl)
    rw[<-hn2]at h5
    clear hn2 g5
    cases go with
    |false=>
     have HF:Hid (EndS c T en xs w A (.returned (.bool false)) w3):=hZq ⟨false,ys++zs,rfl,uQ HSN,(uQ HKW).trans (uQ HKN),by
      rw[uQ HAM, <-List.append_assoc]
      exact PrT.stop (PrT.app (Or.inl ⟨rfl,rfl⟩) (uQ HPR)) _⟩
     clear HSN HKN HPR HAM HLP HCT
     go_wp2
     go_ret
     exact uQ HF
    |true=>
     have hMz:zs.map (·.T)=M:=by
      rcases uQ HPR with ⟨_,e⟩|⟨e,_⟩
      ·exact e
      ·cases e
     have HAN:Hid (A=(ys++zs).map (·.T)++(if oh=true then Mt.wal c.x.k.P en T td (q+1) else [])):=hZq (by rw[uQ HAM,List.map_append,hMz,List.append_assoc])
     have HMZ:=hZq hMz
     clear HAM HPR hMz
     by_cases hft:td=fr
     ·subst hft
      by_cases hz:zs=[]
      ·have hnn:(n2:Int)=(n1:Int):=by rw[(uQ HNN).2 hz]
       have HF:Hid (EndS c T en xs w A (.returned (.bool true)) w3):=hZq ⟨true,ys++zs,rfl,uQ HSN,(uQ HKW).trans (uQ HKN),Or.inl ⟨rfl,by
        rw[uQ HAN,uQ HLP rfl (by rw[<-uQ HMZ,hz];rfl)]
        simp⟩⟩
       clear HSN HKN HAN HLP HCT HMZ HNN
       go_wp2
       go_ret
       exact uQ HF
      ·have hnn: ¬ (n2:Int)=(n1:Int):=fun e=>hz ((uQ HNN).1 (by omega))
       clear HLP HMZ HNN
       cases oh with
       |true=>
        have HN:Hid (Mt.btw c.x.k.P T td la (q+1)=true/\A=(ys++zs).map (·.T)++Mt.wal c.x.k.P en T td (q+1)/\St c true T en (xs++(ys++zs)) w3/\KT W1 w3):=hZq ⟨uQ HCT rfl,uQ HAN,uQ HSN,uQ HKN⟩
        clear HCT HAN HSN HKN
        go_wp2
        go_roundw
        case rel=>exact ⟨q+1,ys++zs,by omega,by omega,by go_num,HN⟩
        case measure=>simp[intOf];omega
       |false=>
        have HF:Hid (EndS c T en xs w A (.returned (.bool true)) w3):=hZq ⟨true,ys++zs,rfl,uQ HSN,(uQ HKW).trans (uQ HKN),Or.inl ⟨rfl,((uQ HAN).trans (List.append_nil _)).symm⟩⟩
        clear HCT HAN HSN HKN
        go_wp2
        go_ret
        exact uQ HF
     ·have hfi: ¬ (fr:Int)=(td:Int):=by omega
      clear HLP HMZ HNN
      cases oh with
      |true=>
       have HN:Hid (Mt.btw c.x.k.P T td la (q+1)=true/\A=(ys++zs).map (·.T)++Mt.wal c.x.k.P en T td (q+1)/\St c true T en (xs++(ys++zs)) w3/\KT W1 w3):=hZq ⟨uQ HCT rfl,uQ HAN,uQ HSN,uQ HKN⟩
       clear HCT HAN HSN HKN
       go_wp2
       go_roundw
       case rel=>exact ⟨q+1,ys++zs,by omega,by omega,by go_num,HN⟩
       case measure=>simp[intOf];omega
      |false=>
       have HF:Hid (EndS c T en xs w A (.returned (.bool true)) w3):=hZq ⟨true,ys++zs,rfl,uQ HSN,(uQ HKW).trans (uQ HKN),Or.inl ⟨rfl,((uQ HAN).trans (List.append_nil _)).symm⟩⟩
       clear HCT HAN HSN HKN
       go_wp2
       go_ret
       exact uQ HF
  ·have hqi: ¬ (q:Int)<(en:Int):=by omega
   have HF:Hid (EndS c T en xs w A (.returned (.bool true)) wr):=hZq ⟨true,ys,rfl,uQ HSR,(uQ HKW).trans (uQ HKR),Or.inl ⟨rfl,by rw[uQ HAQ,uQ HWE q (by omega),List.append_nil]⟩⟩
   clear HKR HSR HAQ HBT HLO HST HBN HAK HIN HWE HRB HI HKW HOH
   go_wp2
   go_ret
   exact uQ HF
end Go.Proofs.YtcmjnlpofebbmaaGreatDoor
