/-
  Walks and plain facts, made small.
-/
import Derived.Test.YtcmjnlpofebbmaaGreatDoorMa13
set_option maxRecDepth 100000
set_option maxHeartbeats 8000000
set_option linter.unusedSimpArgs false
namespace Go.Proofs.YtcmjnlpofebbmaaGreatDoor
open Go.RowKit Go.Shelf
attribute [local irreducible] opsV
theorem q3p {gr:Nat}{lv tk:Value}{l:List Tk}{k d:Nat}{ps:List Pt}{W:World}(h:Rd gr lv tk l k d ps W):gr<=W.heap.size:=by
 have:=h.cells
 omega
theorem qay {gr:Nat}{lv tk:Value}{l:List Tk}{k d:Nat}{ps:List Pt}{W:World}(h:Rd gr lv tk l k d ps W){t:Tk}{r:List Tk}(ht:l.drop k=t::r)(hps:ps.length<=1000000)(hfr:q1I (wdT t)=false):
  Calls Tryz.prog 188 #[.pointer (some ⟨gr,0,none⟩)] W (RdR gr lv tk l d ps W (fdE (txt []) (t::r))):=by
 obtain ⟨hkl,_,hd1⟩:=q0g ht
 have hk:k<=100000:=by have:=h.env.len;omega
 have WD:=hZq (q25 h ht)
 have HR:=hZq h
 have HT:=hZq ht
 have FR:=hZq (fun w (hT:TbE w)=>q2I (wdS t) w hT)
 have FO:=hZq (fun w (hT:TbE w)=>q2j (wdS t) w hT)
 rw[q1f,hfr]at FR
 rw[q1f]at FO
 have hg:=q3p h
 have hpr:fdE (txt []) (t::r)=if 0<=q0n (wdT t) then .good [⟨3,0,txt [],txt [],q0n (wdT t)⟩] r else .bad (t::r):=rfl
 obtain ⟨F,hF⟩: ∃F,q0n (wdT t)=F:=⟨_,rfl⟩
 rw[hF]at FO hpr
 have HPR:=hZq hpr
 clear hpr
 generalize fdE (txt []) (t::r)=PRl at *
 clear h ht hfr hF
 go_enter Tryz.func188,Tryz.ntmps188
 go_wp2_with fail
 refine (uQ WD).mono ?_
 rintro e w1 ⟨rfl,hb1⟩
 have HR1:=hZq ((uQ HR).below hb1)
 have HB1:=hZq (hb1.mono hg)
 clear hb1 WD HR
 go_wp2_with fail
 refine (uQ FR w1 (uQ HR1).env.tab).mono ?_
 rintro e w1' ⟨rfl,rfl⟩
 have WD1:=hZq (q25 (uQ HR1) (uQ HT))
 clear FR
 go_wp2_with fail
 refine (uQ WD1).mono ?_
 rintro e w2 ⟨rfl,hb2⟩
 have HR2:=hZq ((uQ HR1).below hb2)
 have HB2:=hZq ((uQ HB1).trans (hb2.mono (q3p (uQ HR1))))
 clear hb2 WD1 HR1 HB1
 go_wp2_with fail
 refine (uQ FO w2 (uQ HR2).env.tab).mono ?_
 rintro e w2' ⟨rfl,rfl⟩
 clear FO
 by_cases h0:0<=F
 ·have h0':((0:Int)<=F)=True:=by simp[h0]
  have TA:=hZq (q2S (uQ HR2) ⟨3,0,txt [],txt [],F⟩ hk hps)
  unfold Pt.v at TA
  go_wp2_with fail
  refine (uQ TA).mono ?_
  rintro e w3 ⟨rfl,hr3,hb3⟩
  have HE:=hZq (And.intro hr3 ((uQ HB2).trans hb3))
  clear hr3 hb3 TA
  go_wp2
  refine bodyPost_ret (results_tmp rfl _ _ _) rfl ?_
  rw[uQ HPR,if_pos h0]
  exact ⟨rfl,⟨k+1,hd1,by omega,(uQ HE).1⟩,(uQ HE).2⟩
 ·have h0':((0:Int)<=F)=False:=by simp;omega
  go_wp2
  refine bodyPost_ret (results_tmp rfl _ _ _) rfl ?_
  rw[uQ HPR,if_neg (by omega)]
  exact ⟨rfl,⟨k,ps,uQ HT,by omega,uQ HR2⟩,uQ HB2⟩
theorem qaz {gr:Nat}{lv tk:Value}{l:List Tk}{k d:Nat}{ps:List Pt}{W:World}(h:Rd gr lv tk l k d ps W){t c:Tk}{q:List Tk}(ht:l.drop k=t::c::q)(hk1:t.kd=1)(hq:wdT c=[46]->q≠[])(hps:ps.length<=1000000)(hfr:q1I (wdT t)=true):
  Calls Tryz.prog 188 #[.pointer (some ⟨gr,0,none⟩)] W (RdR gr lv tk l d ps W (if wdT c=[46] then fdE t.s q else .bad (c::q))):=by
 obtain ⟨hkl,hat,hd1⟩:=q0g ht
 obtain ⟨hkl1,_,hd2⟩:=q0g hd1
 have hk:k<=90000000:=by have:=h.env.len;omega
 have hk2:k+1+1<=100000:=by have:=h.env.len;omega
 have WD:=hZq (q25 h ht)
 have HR:=hZq h
 have HT1:=hZq hd1
 have HT2:=hZq hd2
 have hws:wdS t=t.s:=by unfold wdS;rw[if_pos (Or.inl hk1)]
 have hsz:t.s.size<=281474976710656:=by have:=h.env.ok t (by rw[<-hat];exact List.getElem_mem hkl);omega
 have FR:=hZq (fun w (hT:TbE w)=>q2I (wdS t) w hT)
 have CL:=hZq (fun w=>q1E t.s w hsz)
 rw[q1f,hfr,hws]at FR
 rw[hws]at WD
 have hg:=q3p h
 have SK:=hZq (fun W' (hr:Rd gr lv tk l (k+1) d ps W')=>q2O hr hd1 ⟨#[46]⟩)
 rw[show (⟨#[46]⟩:ByteArray).data.toList=[46] from rfl]at SK
 clear h ht hfr hat hws hsz hd1 hd2
 obtain ⟨PRl,hpr⟩: ∃P,(if wdT c=[46] then fdE t.s q else .bad (c::q))=P:=⟨_,rfl⟩
 rw[hpr]
 have HPR:=hZq hpr
 clear hpr
 generalize t.s=ST at *
 go_enter Tryz.func188,Tryz.ntmps188
 go_wp2_with fail
 refine (uQ WD).mono ?_
 rintro e w1 ⟨rfl,hb1⟩
 have HR1:=hZq ((uQ HR).below hb1)
 have HB1:=hZq (hb1.mono hg)
 clear hb1 WD HR
 go_wp2_with fail
 refine (uQ FR w1 (uQ HR1).env.tab).mono ?_
 rintro e w1' ⟨rfl,rfl⟩
 clear FR
 go_wp2_with fail
 refine (uQ CL w1').mono ?_
 rintro e w2 ⟨rfl,hb2⟩
 have HR2:=hZq ((uQ HR1).below hb2)
 have HB2:=hZq ((uQ HB1).trans (hb2.mono (q3p (uQ HR1))))
 obtain ⟨c72,_,f72,_⟩:=(uQ HR2).cells
 have HR3:=hZq (uQ HR2).next
 have HB3:=hZq ((uQ HB2).setCell (p:=⟨gr,72,none⟩) (Nat.le_refl _) (.int .i64 ((k:Int)+1)))
 clear hb2 HR1 HB1 CL HR2 HB2
 go_wp2_with fail
 refine (uQ SK _ (uQ HR3)).mono ?_
 rintro e w3 ⟨rfl,hr3,hb3⟩
 have HB4:=hZq ((uQ HB3).trans hb3)
 have HR4:=hZq hr3
 clear hr3 hb3 c72 f72 SK HB3 HR3
 by_cases hc:wdT c=[46]
 ·rw[if_pos hc]at HR4 HPR
  rw[decide_eq_true hc]
  obtain ⟨x,s,rfl⟩: ∃x s,q=x::s:=by
   cases q with
   |nil=>exact absurd rfl (hq hc)
   |cons x s=>exact ⟨x,s,rfl⟩
  obtain ⟨hkl2,_,hd3⟩:=q0g (uQ HT2)
  have WD2:=hZq (q25 (uQ HR4) (uQ HT2))
  have FO:=hZq (fun w (hT:TbE w)=>q2j (wdS x) w hT)
  rw[q1f]at FO
  have hpr:fdE ST (x::s)=if 0<=q0n (wdT x) then .good [⟨3,0,txt [],ST,q0n (wdT x)⟩] s else .bad (x::s):=rfl
  rw[hpr]at HPR
  obtain ⟨F,hF⟩: ∃F,q0n (wdT x)=F:=⟨_,rfl⟩
  rw[hF]at FO HPR
  clear hpr hF hc hq
  go_wp2_with fail
  refine (uQ WD2).mono ?_
  rintro e w4 ⟨rfl,hb4⟩
  have HR5:=hZq ((uQ HR4).below hb4)
  have HB5:=hZq ((uQ HB4).trans (hb4.mono (q3p (uQ HR4))))
  clear hb4 WD2 HR4 HB4
  go_wp2_with fail
  refine (uQ FO w4 (uQ HR5).env.tab).mono ?_
  rintro e w4' ⟨rfl,rfl⟩
  clear FO
  by_cases h0:0<=F
  ·have h0':((0:Int)<=F)=True:=by simp[h0]
   have TA:=hZq (q2S (uQ HR5) ⟨3,0,txt [],ST,F⟩ hk2 hps)
   unfold Pt.v at TA
   go_wp2_with fail
   refine (uQ TA).mono ?_
   rintro e w5 ⟨rfl,hr6,hb6⟩
   have HE:=hZq (And.intro hr6 ((uQ HB5).trans hb6))
   clear hr6 hb6 TA
   go_wp2
   refine bodyPost_ret (results_tmp rfl _ _ _) rfl ?_
   rw[<-uQ HPR,if_pos h0]
   exact ⟨rfl,⟨k+1+1+1,hd3,by omega,(uQ HE).1⟩,(uQ HE).2⟩
  ·have h0':((0:Int)<=F)=False:=by simp;omega
   go_wp2
   refine bodyPost_ret (results_tmp rfl _ _ _) rfl ?_
   rw[<-uQ HPR,if_neg (by omega)]
   exact ⟨rfl,⟨k+1+1,ps,uQ HT2,by omega,uQ HR5⟩,uQ HB5⟩
 ·rw[if_neg hc]at HR4 HPR
  rw[decide_eq_false hc]
  clear hc
  go_wp2
  refine bodyPost_ret (results_tmp rfl _ _ _) rfl ?_
  rw[<-uQ HPR]
  exact ⟨rfl,⟨k+1,ps,uQ HT1,by omega,uQ HR4⟩,uQ HB4⟩
theorem q92 {gr:Nat}{lv tk:Value}{l:List Tk}{k d:Nat}{ps:List Pt}{W:World}(h:Rd gr lv tk l k d ps W){t:Tk}{r:List Tk}(ht:l.drop k=t::r)(hk1:t.kd=1)(hE:Endd (t::r))(hps:ps.length<=1000000):
  Calls Tryz.prog 188 #[.pointer (some ⟨gr,0,none⟩)] W (RdR gr lv tk l d ps W (fdR t r)):=by
 unfold fdR
 cases hf:q1I (wdT t)with
 |false=>exact qay h ht hps hf
 |true=>
  have hr:=hE.tail (by omega)
  cases r with
  |nil=>exact absurd rfl hr.ne
  |cons c q=>exact qaz h ht hk1 (fun hc=>(hr.tail (q0Q (by rw[hc];simp))).ne) hps hf
end Go.Proofs.YtcmjnlpofebbmaaGreatDoor
namespace Go.Proofs.YtcmjnlpofebbmaaGreatDoor
open Go.RowKit Go.Shelf
attribute [local irreducible] opsV
def RdOK (f:Nat):Prop:= ∀(gr:Nat) (lv tk:Value) (l:List Tk) (k d:Nat) (ps:List Pt) (W:World) (m:Nat),Rd gr lv tk l k d ps W->m<=6->Endd (l.drop k)->d<=200->ps.length+(l.drop k).length<=500000->mRd m (l.drop k)<=f->
 Calls Tryz.prog 138 #[.pointer (some ⟨gr,0,none⟩), .int .i64 (m:Int)] W (RdR gr lv tk l d ps W (pRd f m d [] (l.drop k)))
theorem Rd.deep {gr:Nat}{lv tk:Value}{l:List Tk}{k d:Nat}{ps:List Pt}{W:World}(h:Rd gr lv tk l k d ps W)(d':Nat):Rd gr lv tk l k d' ps (W.setCell ⟨gr,73,none⟩ (.int .i64 (d':Int))):=by
 obtain ⟨pv,h1,h2⟩:=h.box
 have hlt:=(Array.getElem?_eq_some_iff.1 h1).1
 have c:=h1.set 73 (.int .i64 (d':Int))
 rw[qeD]at c
 exact ⟨h.env.below ((Kp.set W gr 73 _).below (by omega) (by simp)),pv,c,q02 h2 (Kp.set _ _ _ _) (fun g hg=>by have:=(h2.lt g hg).1;simp;omega)⟩
def PR.ok:PR->Bool
 | .bad _=>false
 | .good _ _=>true
def PR.st (o:PR)(ps:List Pt)(ps':List Pt):Prop:=match o with
 | .good x _=>ps'=ps++x
 | .bad _=>True
theorem RdR.to {gr:Nat}{lv tk:Value}{l:List Tk}{d:Nat}{ps:List Pt}{W:World}{o:PR}{e:Ending}{w':World}(h:RdR gr lv tk l d ps W o e w'):e= .returned (.bool o.ok)/\ ∃k ps',l.drop k=o.rest/\k<=l.length/\Rd gr lv tk l k d ps' w'/\o.st ps ps'/\Below gr W w':=by
 cases o with
 |bad q=>obtain ⟨rfl,⟨k,ps',h1,h2,h3⟩,h4⟩:=h;exact ⟨rfl,k,ps',h1,h2,h3,trivial,h4⟩
 |good x q=>obtain ⟨rfl,⟨k,h1,h2,h3⟩,h4⟩:=h;exact ⟨rfl,k,_,h1,h2,h3,rfl,h4⟩
theorem RdR.of {gr:Nat}{lv tk:Value}{l:List Tk}{k d:Nat}{ps ps':List Pt}{W:World}{o:PR}{w':World}(h1:l.drop k=o.rest)(h2:k<=l.length)(h3:Rd gr lv tk l k d ps' w')(hs:o.st ps ps')(h4:Below gr W w'):RdR gr lv tk l d ps W o (.returned (.bool o.ok)) w':=by
 cases o with
 |bad q=>exact ⟨rfl,⟨k,ps',h1,h2,h3⟩,h4⟩
 |good x q=>obtain rfl:=hs;exact ⟨rfl,⟨k,h1,h2,h3⟩,h4⟩
def inP (f n d:Nat)(ts:List Tk):PR:=if d+1<=200 then pRd f n (d+1) [] ts else .bad ts
theorem q4V {f:Nat}(IH:RdOK f){gr:Nat}{lv tk:Value}{l:List Tk}{k d:Nat}{ps:List Pt}{W:World}(h:Rd gr lv tk l k d ps W)(n:Nat)(hn:n<=6)(hE:Endd (l.drop k))(hd:d<=200)(hps:ps.length+(l.drop k).length<=500000)(hm:mRd n (l.drop k)<=f)(hkl:k<=l.length):
  Calls Tryz.prog 186 #[.pointer (some ⟨gr,0,none⟩), .int .i64 (n:Int)] W (RdR gr lv tk l d ps W (inP f n d (l.drop k))):=by
 obtain ⟨_,c73,fz,hgl⟩:=h.cells
 have e1:((d:Int)+1)=((d+1:Nat):Int):=by omega
 have HD:=hZq (h.deep (d+1))
 rw[<-e1]at HD
 have HB:=hZq ((Below.refl gr W).setCell (p:=⟨gr,73,none⟩) (Nat.le_refl _) (.int .i64 ((d:Int)+1)))
 have HRD:Hid (∀W',Rd gr lv tk l k (d+1) ps W'->d+1<=200->Calls Tryz.prog 138 #[.pointer (some ⟨gr,0,none⟩), .int .i64 (n:Int)] W' (RdR gr lv tk l (d+1) ps W' (pRd f n (d+1) [] (l.drop k)))):=hZq (fun W' hr hd'=>IH gr lv tk l k (d+1) ps W' n hr hn hE hd' hps hm)
 obtain ⟨P,hP⟩: ∃P,inP f n d (l.drop k)=P:=⟨_,rfl⟩
 rw[hP]
 have HP:=hZq hP
 clear h hE hm hP e1 IH
 by_cases hdd:d+1<=200
 ·have hc1:((d:Int)+1<=200)=True:=by simp;omega
  have HP2:Hid (pRd f n (d+1) [] (l.drop k)=P):=hZq (by rw[<-uQ HP];unfold inP;rw[if_pos hdd])
  have RD:=hZq (uQ HRD _ (uQ HD) hdd)
  rw[uQ HP2]at RD
  have c73':=(uQ HD).cells.2.1
  have e2:((d+1:Nat):Int)=(d:Int)+1:=by omega
  rw[e2]at c73'
  have hw:IntKind.i64.wrap ((d:Int)+1-1)=(d:Int):=by rw[IntKind.wrap_i64];omega
  clear HRD HP HP2
  go_enter Tryz.func186,Tryz.ntmps186
  go_wp2_with fail
  refine (uQ RD).mono ?_
  intro e w1 hR
  obtain ⟨rfl,k1,ps1,a1,a2,a3,a4,a5⟩:=hR.to
  obtain ⟨_,d73,fz1,_⟩:=a3.cells
  rw[e2]at d73
  have HF:=hZq (And.intro a1 (And.intro a2 (And.intro (a3.deep d) (And.intro a4 (((uQ HB).trans a5).setCell (p:=⟨gr,73,none⟩) (Nat.le_refl _) (.int .i64 (d:Int)))))))
  clear hR a1 a2 a3 a4 a5 RD HD HB c73 c73' fz e2
  generalize hok:P.ok=b at *
  have HOK:=hZq hok
  clear hok
  go_wp2
  refine bodyPost_ret (results_tmp rfl _ _ _) rfl ?_
  obtain ⟨q1,q2,q3,q4,q5⟩:=uQ HF
  have:=RdR.of q1 q2 q3 q4 q5
  rw[uQ HOK]at this
  exact this
 ·have hc1:((d:Int)+1<=200)=False:=by simp;omega
  obtain rfl:P= .bad (l.drop k):=by rw[<-uQ HP];unfold inP;rw[if_neg hdd]
  have c73':=(uQ HD).cells.2.1
  have fz':=(uQ HD).cells.2.2.1
  have e2:((d+1:Nat):Int)=(d:Int)+1:=by omega
  rw[e2]at c73'
  have HF:=hZq (And.intro ((uQ HD).deep d) ((uQ HB).setCell (p:=⟨gr,73,none⟩) (Nat.le_refl _) (.int .i64 (d:Int))))
  have hw:IntKind.i64.wrap ((d:Int)+1-1)=(d:Int):=by rw[IntKind.wrap_i64];omega
  clear HRD HP e2
  go_enter Tryz.func186,Tryz.ntmps186
  go_wp2
  refine bodyPost_ret (results_tmp rfl _ _ _) rfl ?_
  exact ⟨rfl,⟨k,ps,rfl,hkl,(uQ HF).1⟩,(uQ HF).2⟩
def preO (kk:Int):PR->PR
 | .bad q=> .bad q
 | .good x q=> .good (opP kk::x) q
theorem qdO {f d:Nat}{t:Tk}{r:List Tk}(h:opA 2 (wdT t)=none):pRd (f+1) 2 d [] (t::r)=pRd f 3 d [] (t::r):=by rw[pRd,if_neg (by omega),if_pos rfl,h]
theorem qdP {f d:Nat}{t:Tk}{r:List Tk}{kk:Int}(h:opA 2 (wdT t)=some kk):pRd (f+1) 2 d [] (t::r)=preO kk (inP f 2 d r):=by
 rw[pRd,if_neg (by omega),if_pos rfl,h]
 unfold inP
 dsimp only
 split
 ·cases pRd f 2 (d+1) [] r <;> rfl
 ·rfl
theorem RdR.pre {gr:Nat}{lv tk:Value}{l:List Tk}{d:Nat}{ps:List Pt}{W W1:World}{o:PR}{kk:Int}{e:Ending}{w':World}(h:RdR gr lv tk l d (ps++[opP kk]) W1 o e w')(hb:Below gr W W1):RdR gr lv tk l d ps W (preO kk o) e w':=by
 cases o with
 |bad q=>exact ⟨h.1,h.2.1,hb.trans h.2.2⟩
 |good x q=>
  obtain ⟨k,a1,a2,a3⟩:=h.2.1
  exact ⟨h.1,⟨k,a1,a2,by rw[List.append_assoc]at a3;exact a3⟩,hb.trans h.2.2⟩
theorem RdR.ret {gr:Nat}{lv tk:Value}{l:List Tk}{d:Nat}{ps:List Pt}{W:World}{o:PR}{e:Ending}{w':World}(h:RdR gr lv tk l d ps W o e w'):e= .returned (.bool o.ok):=by cases o <;> exact h.1
theorem Rd.len {gr:Nat}{lv tk:Value}{l:List Tk}{k d:Nat}{ps:List Pt}{W:World}(h:Rd gr lv tk l k d ps W): ∃(ad:Option Addr) (cap:Nat),W.cell? ⟨gr,74,none⟩=some (.slice ad ps.length cap):=by
 obtain ⟨pv,h1,h2⟩:=h.box
 obtain ⟨_,⟨rfl,h0⟩|⟨g,cap,cur,rfl,_⟩⟩:=h2
 ·exact ⟨none,0,by rw[h0];exact h1.cell (q1Z lv tk k d _)⟩
 ·exact ⟨_,cap,h1.cell (q1Z lv tk k d _)⟩
theorem q84 {f:Nat}(IH:RdOK f){gr:Nat}{lv tk:Value}{l:List Tk}{k d:Nat}{ps:List Pt}{W:World}(h:Rd gr lv tk l k d ps W){t:Tk}{r:List Tk}(ht:l.drop k=t::r)(hE:Endd (t::r))(hd:d<=200)(hps:ps.length+(t::r).length<=500000)(hm:mRd 2 (t::r)<=f+1):
  Calls Tryz.prog 160 #[.pointer (some ⟨gr,0,none⟩), .int .i64 2] W (RdR gr lv tk l d ps W (pRd (f+1) 2 d [] (t::r))):=by
 obtain ⟨hkl,_,hd1⟩:=q0g ht
 obtain ⟨ad,cap,c74⟩:=h.len
 have hlr:(t::r).length=r.length+1:=rfl
 have hmm:8 * (r.length+1)+7-2<=f+1:=by rw[q0P (by omega)]at hm;exact hm
 have TO:Hid (Calls Tryz.prog 185 #[.pointer (some ⟨gr,0,none⟩), .int .i64 2, .int .i64 (ps.length:Int)] W (TkO gr lv tk l k d ps ps.length W (opA 2 (wdT t)))):=hZq (q2R h ht 2 (by omega) ps.length (Nat.le_refl _) (by omega))
 have HIH:=hZq IH
 have HT:=hZq ht
 have HE:=hZq hE
 cases ho:opA 2 (wdT t)with
 |none=>
  rw[ho]at TO
  rw[qdO ho]
  obtain ⟨P,hP⟩: ∃P,pRd f 3 d [] (t::r)=P:=⟨_,rfl⟩
  have HPR:=hZq hP
  rw[hP]
  clear hP hE ht IH h ho hm
  go_enter Tryz.func160,Tryz.ntmps160
  go_wp2_with fail
  refine (uQ TO).mono ?_
  rintro e w1 ⟨rfl,hr1,hb1⟩
  have RD:Hid (Calls Tryz.prog 138 #[.pointer (some ⟨gr,0,none⟩), .int .i64 3] w1 (RdR gr lv tk l d ps w1 (pRd f 3 d [] (l.drop k)))):=hZq (uQ HIH gr lv tk l k d ps w1 3 hr1 (by omega) (by rw[uQ HT];exact uQ HE) hd (by rw[uQ HT];exact hps) (by rw[uQ HT,q0P (by omega),hlr];omega))
  rw[uQ HT,uQ HPR]at RD
  have HB1:=hZq hb1
  clear hr1 hb1 TO HIH c74
  go_wp2_with fail
  refine (uQ RD).mono ?_
  intro e w2 hR
  obtain ⟨rfl,k1,ps1,a1,a2,a3,a4,a5⟩:=hR.to
  have HF:=hZq (And.intro a1 (And.intro a2 (And.intro a3 (And.intro a4 ((uQ HB1).trans a5)))))
  clear hR a1 a2 a3 a4 a5 RD HB1
  generalize hok:P.ok=b at *
  have HOK:=hZq hok
  clear hok
  go_wp2
  refine bodyPost_ret (results_tmp rfl _ _ _) rfl ?_
  obtain ⟨q1,q2,q3,q4,q5⟩:=uQ HF
  have:=RdR.of q1 q2 q3 q4 q5
  rw[uQ HOK]at this
  exact this
 |some kk=>
  rw[ho]at TO
  rw[qdP ho]
  have hEr:=hE.tail (q2u ho)
  obtain ⟨Q,hQ⟩: ∃Q,inP f 2 d r=Q:=⟨_,rfl⟩
  rw[hQ]
  have IN0:=fun w1 (hr1:Rd gr lv tk l (k+1) d (ps++[opP kk]) w1)=>q4V IH hr1 2 (by omega) (by rw[hd1];exact hEr) hd (by rw[hd1,List.length_append];simp at hps ⊢;omega) (by rw[hd1,q0P (by omega)];omega) (by omega)
  rw[hd1,hQ]at IN0
  have HIN:=hZq IN0
  clear hE ht IH h ho hm hEr IN0 hQ HIH HE HT
  go_enter Tryz.func160,Tryz.ntmps160
  go_wp2_with fail
  refine (uQ TO).mono ?_
  rintro e w1 ⟨rfl,hr1,hb1⟩
  rw[List.take_length,List.drop_length]at hr1
  have RD:Hid (Calls Tryz.prog 186 #[.pointer (some ⟨gr,0,none⟩), .int .i64 2] w1 (RdR gr lv tk l d (ps++[opP kk]) w1 Q)):=hZq (uQ HIN w1 hr1)
  have HB1:=hZq hb1
  clear hr1 hb1 TO HIN c74
  go_wp2_with fail
  refine (uQ RD).mono ?_
  intro e w2 hR
  obtain rfl:=hR.ret
  have HF:=hZq (hR.pre (uQ HB1))
  clear hR RD HB1
  generalize preO kk Q=PQ at *
  generalize Q.ok=b at *
  go_wp2
  refine bodyPost_ret (results_tmp rfl _ _ _) rfl ?_
  exact uQ HF
end Go.Proofs.YtcmjnlpofebbmaaGreatDoor
namespace Go.Proofs.YtcmjnlpofebbmaaGreatDoor
open Go.RowKit Go.Shelf
attribute [local irreducible] opsV
def midO (kk:Int)(x:List Pt):PR->PR
 | .bad s=> .bad s
 | .good y s=> .good (opP kk::(x++y)) s
theorem qdQ {f d:Nat}{t:Tk}{r q:List Tk}(h:pRd f 4 d [] (t::r)= .bad q):pRd (f+1) 3 d [] (t::r)= .bad q:=by rw[pRd,if_neg (by omega),if_neg (by omega),if_pos rfl,h]
theorem qdR {f d:Nat}{t c:Tk}{r q:List Tk}{x:List Pt}(h:pRd f 4 d [] (t::r)= .good x (c::q))(ho:opA 3 (wdT c)=none):pRd (f+1) 3 d [] (t::r)= .good x (c::q):=by
 rw[pRd,if_neg (by omega),if_neg (by omega),if_pos rfl,h]
 dsimp only
 rw[ho]
theorem qdS {f d:Nat}{t c:Tk}{r q:List Tk}{x:List Pt}{kk:Int}(h:pRd f 4 d [] (t::r)= .good x (c::q))(ho:opA 3 (wdT c)=some kk):pRd (f+1) 3 d [] (t::r)=midO kk x (pRd f 4 d [] q):=by
 rw[pRd,if_neg (by omega),if_neg (by omega),if_pos rfl,h]
 dsimp only
 rw[ho]
 dsimp only
 cases pRd f 4 d [] q <;> rfl
theorem RdR.mid {gr:Nat}{lv tk:Value}{l:List Tk}{d:Nat}{ps x:List Pt}{W W1:World}{o:PR}{kk:Int}{e:Ending}{w':World}(h:RdR gr lv tk l d (ps++opP kk::x) W1 o e w')(hb:Below gr W W1):RdR gr lv tk l d ps W (midO kk x o) e w':=by
 cases o with
 |bad q=>exact ⟨h.1,h.2.1,hb.trans h.2.2⟩
 |good y q=>
  obtain ⟨k,a1,a2,a3⟩:=h.2.1
  exact ⟨h.1,⟨k,a1,a2,by rw[List.append_assoc,List.cons_append]at a3;exact a3⟩,hb.trans h.2.2⟩
theorem q9l (ps x:List Pt)(p:Pt):(ps++x).take ps.length++p::(ps++x).drop ps.length=ps++p::x:=by
 rw[List.take_left',List.drop_left'] <;> rfl
theorem qb9 {f:Nat}(IH:RdOK f){gr:Nat}{lv tk:Value}{l:List Tk}{k d:Nat}{ps:List Pt}{W:World}(h:Rd gr lv tk l k d ps W){t:Tk}{r:List Tk}(ht:l.drop k=t::r)(hE:Endd (t::r))(hd:d<=200)(hps:ps.length+(t::r).length<=500000)(hm:mRd 3 (t::r)<=f+1):
  Calls Tryz.prog 161 #[.pointer (some ⟨gr,0,none⟩), .int .i64 3] W (RdR gr lv tk l d ps W (pRd (f+1) 3 d [] (t::r))):=by
 obtain ⟨ad,cap,c74⟩:=h.len
 have hlr:(t::r).length=r.length+1:=rfl
 have hmm:8 * (r.length+1)+7-3<=f+1:=by rw[q0P (by omega)]at hm;exact hm
 have RD:Hid (Calls Tryz.prog 138 #[.pointer (some ⟨gr,0,none⟩), .int .i64 4] W (RdR gr lv tk l d ps W (pRd f 4 d [] (t::r)))):=hZq (by
  have:=IH gr lv tk l k d ps W 4 h (by omega) (by rw[ht];exact hE) hd (by rw[ht];exact hps) (by rw[ht,q0P (by omega),hlr];omega)
  rw[ht]at this
  exact this)
 obtain ⟨ok1,ok2⟩:=q2x f 4 d [] (t::r) hE
 rw[if_pos (by omega)]at ok1
 have ok2:=ok2 (by omega)
 have HIH:=hZq IH
 cases hA:pRd f 4 d [] (t::r)with
 |bad q=>
  rw[hA]at RD
  rw[qdQ hA]
  clear h ht hE hps hm hmm hlr IH HIH ok1 ok2 hA
  go_enter Tryz.func161,Tryz.ntmps161
  go_wp2_with fail
  refine (uQ RD).mono ?_
  intro e w1 hR
  obtain rfl:e= .returned (.bool false):=hR.ret
  have HF:=hZq hR
  clear hR RD c74
  go_wp2
  refine bodyPost_ret (results_tmp rfl _ _ _) rfl ?_
  exact uQ HF
 |good x q=>
  rw[hA]at RD ok1
  obtain ⟨hEq,hlen1,_⟩:=ok1
  have hlt:=ok2 x q hA
  cases q with
  |nil=>exact absurd rfl hEq.ne
  |cons c q=>
   have hlq:(c::q).length=q.length+1:=rfl
   have TO0:=fun w1 k1 (hr:Rd gr lv tk l k1 d (ps++x) w1) (h1:l.drop k1=c::q)=>q2R hr h1 3 (by omega) ps.length (by simp) (by rw[List.length_append];omega)
   cases ho:opA 3 (wdT c)with
   |none=>
    rw[ho]at TO0
    rw[qdR hA ho]
    have HTO:=hZq TO0
    clear h ht hE hps hm hmm IH HIH ok2 hA hEq hlen1 hlt TO0 hlq hlr ho
    go_enter Tryz.func161,Tryz.ntmps161
    go_wp2_with fail
    refine (uQ RD).mono ?_
    rintro e w1 ⟨rfl,⟨k1,a1,a2,a3⟩,a4⟩
    have TO:Hid (Calls Tryz.prog 185 #[.pointer (some ⟨gr,0,none⟩), .int .i64 3, .int .i64 (ps.length:Int)] w1 (TkO gr lv tk l k1 d (ps++x) ps.length w1 none)):=hZq (uQ HTO w1 k1 a3 a1)
    have HA:=hZq (And.intro a1 (And.intro a2 a4))
    clear RD c74 a1 a2 a3 a4 HTO
    go_wp2_with fail
    refine (uQ TO).mono ?_
    rintro e w2 ⟨rfl,b1,b2⟩
    have HF:Hid (RdR gr lv tk l d ps W (.good x (c::q)) (.returned (.bool true)) w2):=hZq ⟨rfl,⟨k1,(uQ HA).1,(uQ HA).2.1,b1⟩,(uQ HA).2.2.trans b2⟩
    clear b1 b2 TO HA
    go_wp2
    refine bodyPost_ret (results_tmp rfl _ _ _) rfl ?_
    exact uQ HF
   |some kk=>
    rw[ho]at TO0
    rw[qdS hA ho]
    have HTO:=hZq TO0
    have hEq2:=hEq.tail (q2u ho)
    have HRD2:Hid (∀w1 k1,Rd gr lv tk l k1 d (ps++opP kk::x) w1->l.drop k1=q->Calls Tryz.prog 138 #[.pointer (some ⟨gr,0,none⟩), .int .i64 4] w1 (RdR gr lv tk l d (ps++opP kk::x) w1 (pRd f 4 d [] q))):=hZq (fun w1 k1 hr h1=>by
     have:=IH gr lv tk l k1 d (ps++opP kk::x) w1 4 hr (by omega) (by rw[h1];exact hEq2) hd (by rw[h1,List.length_append,List.length_cons];omega) (by rw[h1,q0P (by omega)];omega)
     rw[h1]at this
     exact this)
    obtain ⟨Q,hQ⟩: ∃Q,pRd f 4 d [] q=Q:=⟨_,rfl⟩
    rw[hQ]at HRD2 ⊢
    clear h ht hE hps hm hmm IH HIH ok2 hA hEq hlen1 hlt TO0 hlq hlr ho hEq2 hQ
    go_enter Tryz.func161,Tryz.ntmps161
    go_wp2_with fail
    refine (uQ RD).mono ?_
    rintro e w1 ⟨rfl,⟨k1,a1,a2,a3⟩,a4⟩
    have TO:Hid (Calls Tryz.prog 185 #[.pointer (some ⟨gr,0,none⟩), .int .i64 3, .int .i64 (ps.length:Int)] w1 (TkO gr lv tk l k1 d (ps++x) ps.length w1 (some kk))):=hZq (uQ HTO w1 k1 a3 a1)
    have HA:=hZq (And.intro (q0g a1).2.2 (And.intro a2 a4))
    clear RD c74 a1 a2 a3 a4 HTO
    go_wp2_with fail
    refine (uQ TO).mono ?_
    rintro e w2 ⟨rfl,b1,b2⟩
    rw[q9l]at b1
    have RD2:=hZq (uQ HRD2 w2 (k1+1) b1 (uQ HA).1)
    have HB2:=hZq ((uQ HA).2.2.trans b2)
    clear b1 b2 TO HA HRD2
    go_wp2_with fail
    refine (uQ RD2).mono ?_
    intro e w3 hR
    obtain rfl:=hR.ret
    have HF:=hZq (hR.mid (uQ HB2))
    clear hR RD2 HB2
    generalize midO kk x Q=PQ at *
    generalize Q.ok=b at *
    go_wp2
    refine bodyPost_ret (results_tmp rfl _ _ _) rfl ?_
    exact uQ HF
end Go.Proofs.YtcmjnlpofebbmaaGreatDoor
namespace Go.Proofs.YtcmjnlpofebbmaaGreatDoor
open Go.RowKit Go.Shelf
attribute [local irreducible] opsV
def q8A:PR->PR
 | .bad q=> .bad q
 | .good x q=>shut x q
theorem qdT {f d:Nat}{t:Tk}{r:List Tk}(h:t.kd=2):pRd (f+1) 6 d [] (t::r)= .good [⟨1,t.n,txt [],txt [],0⟩] r:=by rw[pRd,if_pos rfl,if_pos h]
theorem qdU {f d:Nat}{t:Tk}{r:List Tk}(h:t.kd=3):pRd (f+1) 6 d [] (t::r)= .good [⟨2,0,t.s,txt [],0⟩] r:=by rw[pRd,if_pos rfl,if_neg (by omega),if_pos h]
theorem qdV {f d:Nat}{t:Tk}{r:List Tk}(h:t.kd=1):pRd (f+1) 6 d [] (t::r)=fdR t r:=by rw[pRd,if_pos rfl,if_neg (by omega),if_neg (by omega),if_pos h]
theorem qdW {f d:Nat}{t:Tk}{r:List Tk}(h1:t.kd≠1)(h2:t.kd≠2)(h3:t.kd≠3)(h:wdT t=[40]):pRd (f+1) 6 d [] (t::r)=q8A (inP f 0 d r):=by
 rw[pRd,if_pos rfl,if_neg h2,if_neg h3,if_neg h1,if_pos h]
 unfold inP
 split
 ·cases pRd f 0 (d+1) [] r <;> rfl
 ·rfl
theorem qdX {f d:Nat}{t:Tk}{r:List Tk}(h1:t.kd≠1)(h2:t.kd≠2)(h3:t.kd≠3)(h:wdT t≠[40]):pRd (f+1) 6 d [] (t::r)= .bad (t::r):=by rw[pRd,if_pos rfl,if_neg h2,if_neg h3,if_neg h1,if_neg h]
theorem qdK (f n d:Nat)(ts:List Tk)(hn:n<=6)(h:Endd ts):PRok 0 ts (inP f n d ts):=by
 unfold inP
 split
 ·have:=(q2x f n (d+1) [] ts h).1
  rwa [if_pos hn]at this
 ·exact ⟨h,Nat.le_refl _⟩
theorem qa2 {gr:Nat}{lv tk:Value}{l:List Tk}{k d:Nat}{ps:List Pt}{W:World}(h:Rd gr lv tk l k d ps W){t:Tk}{r:List Tk}(ht:l.drop k=t::r): ∃b off cap,k<l.length/\l.length<=100000/\b<W.heap.size/\gr<W.heap.size/\
  (∀W',Kp [] W W'->W'.cell? ⟨gr,71,none⟩=some (.slice (some ⟨b,off,none⟩) l.length cap)/\W'.cell? ⟨gr,72,none⟩=some (.int .i64 (k:Int))/\W'.cell? ⟨b,off+k * 4,none⟩=some (.int .i64 t.kd)/\W'.cell? ⟨b,off+k * 4+1,none⟩=some (.string t.s)/\W'.cell? ⟨b,off+k * 4+2,none⟩=some (.int .i64 t.n)/\W'.cell? ⟨b,off+k * 4+3,none⟩=some (.int .i64 t.pl)):=by
 obtain ⟨hk,ha,_⟩:=q0g ht
 obtain ⟨pv,hb,_⟩:=h.box
 obtain ⟨b,off,cap,htk,hlt,hc⟩:=h.env.tks
 obtain ⟨c0,c1,c2,c3⟩:=hc k hk
 rw[ha]at c0 c1 c2 c3
 have hgl:=(Array.getElem?_eq_some_iff.1 hb).1
 refine ⟨b,off,cap,hk,h.env.len,by omega,hgl,fun W' hk'=>?_⟩
 have e1:=hb.cell (q9I lv tk k d pv)
 have e2:=hb.cell (q43 lv tk k d pv)
 rw[htk]at e1
 exact ⟨hk'.cell e1 (by simp),hk'.cell e2 (by simp),hk'.cell c0 (by simp),hk'.cell c1 (by simp),hk'.cell c2 (by simp),hk'.cell c3 (by simp)⟩
theorem qb4 {f:Nat}(IH:RdOK f){gr:Nat}{lv tk:Value}{l:List Tk}{k d:Nat}{ps:List Pt}{W:World}(h:Rd gr lv tk l k d ps W){t:Tk}{r:List Tk}(ht:l.drop k=t::r)(hE:Endd (t::r))(hd:d<=200)(hps:ps.length+(t::r).length<=500000)(hm:mRd 6 (t::r)<=f+1):
  Calls Tryz.prog 162 #[.pointer (some ⟨gr,0,none⟩), .int .i64 6] W (RdR gr lv tk l d ps W (pRd (f+1) 6 d [] (t::r))):=by
 obtain ⟨b,off,cap,hkl,hlen,hbW,hgl,hcs⟩:=qa2 h ht
 obtain ⟨g1,g2,d0,d1,d2,d3⟩:=hcs _ (Kp.alloc W (.cells #[.int .i64 0, .string { data:=#[] }, .int .i64 0, .int .i64 0] 78))
 obtain ⟨e1,e2,c0,c1,c2,c3⟩:=hcs W (Kp.refl _ _)
 have hd1:=(q0g ht).2.2
 have hat:=(q0g ht).2.1
 have hsz:t.s.size<=281474976710656:=by have:=h.env.ok t (by rw[<-hat];exact List.getElem_mem hkl);omega
 have hbl:Below W.heap.size W (W.alloc (.cells #[.int .i64 t.kd, .string t.s, .int .i64 t.n, .int .i64 t.pl] 78)).drew:=((Below.refl _ _).alloc (Nat.le_refl _) _).trans ⟨rfl,rfl,rfl,Nat.le_refl _,fun _ _=>rfl⟩
 have HR0:=hZq (h.below hbl)
 have HB0:=hZq (hbl.mono (show gr<=W.heap.size by omega))
 have hlr:(t::r).length=r.length+1:=rfl
 have hps1:ps.length<=1000000:=by omega
 have hk1:k<=100000:=by omega
 obtain ⟨P,hP⟩: ∃P,pRd (f+1) 6 d [] (t::r)=P:=⟨_,rfl⟩
 rw[hP]
 have HP:=hZq hP
 have HIH:=hZq IH
 have HT:=hZq ht
 have HE:=hZq hE
 have HD1:=hZq hd1
 clear hcs hP h hat hd1 ht hE IH hbl
 generalize hkd:t.kd=kd at *
 generalize hS:t.s=s at *
 generalize hN:t.n=n at *
 generalize t.pl=pl at *
 have HK:=hZq hkd
 have HSS:=hZq hS
 have HNN:=hZq hN
 clear hkd hS hN
 go_enter Tryz.func162,Tryz.ntmps162
 go_wp2
 go_region
 clear g1 g2 d0 d1 d2 d3 e1 e2 c0 c1 c2 c3
 by_cases h2:kd=2
 ·subst h2
  have TA:=hZq (q2S (uQ HR0) ⟨1,n,txt [],txt [],0⟩ hk1 hps1)
  unfold Pt.v at TA
  go_wp2_with fail
  refine (uQ TA).mono ?_
  rintro e w3 ⟨rfl,hr3,hb3⟩
  have HF:Hid (RdR gr lv tk l d ps W P (.returned (.bool true)) w3):=hZq (by
   rw[<-uQ HP,qdT (uQ HK),uQ HNN]
   exact ⟨rfl,⟨k+1,uQ HD1,by omega,hr3⟩,(uQ HB0).trans hb3⟩)
  clear hr3 hb3 TA
  go_wp2
  refine bodyPost_ret (results_tmp rfl _ _ _) rfl ?_
  exact uQ HF
 have q2:(kd==2)=false:=beq_eq_false_iff_ne.2 h2
 by_cases h3:kd=3
 ·subst h3
  have CL:=hZq (q1E s (W.alloc (.cells #[.int .i64 3, .string s, .int .i64 n, .int .i64 pl] 78)).drew hsz)
  go_wp2_with fail
  refine (uQ CL).mono ?_
  rintro e w2 ⟨rfl,hb2⟩
  have HR1:=hZq ((uQ HR0).below hb2)
  have HB1:=hZq ((uQ HB0).trans (hb2.mono (q3p (uQ HR0))))
  have TA:=hZq (q2S (uQ HR1) ⟨2,0,s,txt [],0⟩ hk1 hps1)
  unfold Pt.v at TA
  clear hb2 CL HR0 HB0
  go_wp2_with fail
  refine (uQ TA).mono ?_
  rintro e w3 ⟨rfl,hr3,hb3⟩
  have HF:Hid (RdR gr lv tk l d ps W P (.returned (.bool true)) w3):=hZq (by
   rw[<-uQ HP,qdU (uQ HK),uQ HSS]
   exact ⟨rfl,⟨k+1,uQ HD1,by omega,hr3⟩,(uQ HB1).trans hb3⟩)
  clear hr3 hb3 TA
  go_wp2
  refine bodyPost_ret (results_tmp rfl _ _ _) rfl ?_
  exact uQ HF
 have q3:(kd==3)=false:=beq_eq_false_iff_ne.2 h3
 by_cases h1:kd=1
 ·subst h1
  have FD:=hZq (q92 (uQ HR0) (uQ HT) (uQ HK) (uQ HE) hps1)
  rw[<-qdV (f:=f) (d:=d) (uQ HK),uQ HP]at FD
  go_wp2_with fail
  refine (uQ FD).mono ?_
  intro e w2 hR
  obtain ⟨rfl,k1,ps1,a1,a2,a3,a4,a5⟩:=hR.to
  have HF:=hZq (RdR.of a1 a2 a3 a4 ((uQ HB0).trans a5))
  clear hR FD a1 a2 a3 a4 a5 HP
  generalize P.ok=bb at *
  go_wp2
  refine bodyPost_ret (results_tmp rfl _ _ _) rfl ?_
  exact uQ HF
 have q1:(kd==1)=false:=beq_eq_false_iff_ne.2 h1
 have SK:Hid (Calls Tryz.prog 189 #[.pointer (some ⟨gr,0,none⟩), .string { data:=#[40] }] (W.alloc (.cells #[.int .i64 kd, .string s, .int .i64 n, .int .i64 pl] 78)).drew fun e w'=>e= .returned (.bool (decide (wdT t=[40])))/\Rd gr lv tk l (if wdT t=[40] then k+1 else k) d ps w'/\Below gr (W.alloc (.cells #[.int .i64 kd, .string s, .int .i64 n, .int .i64 pl] 78)).drew w'):=hZq (q2O (uQ HR0) (uQ HT) ⟨#[40]⟩)
 by_cases hp:wdT t=[40]
 ·rw[if_pos hp,decide_eq_true hp]at SK
  have hEr:=(uQ HE).tail (q0Q (by rw[hp];simp))
  have HP2:Hid (P=q8A (inP f 0 d r)):=hZq (by rw[<-uQ HP];exact qdW (by rw[uQ HK];exact h1) (by rw[uQ HK];exact h2) (by rw[uQ HK];exact h3) hp)
  have hok:=qdK f 0 d r (by omega) hEr
  have HIN:Hid (∀w1,Rd gr lv tk l (k+1) d ps w1->Calls Tryz.prog 186 #[.pointer (some ⟨gr,0,none⟩), .int .i64 0] w1 (RdR gr lv tk l d ps w1 (inP f 0 d r))):=hZq (fun w1 hr1=>by
   have:=q4V (uQ HIH) hr1 0 (by omega) (by rw[uQ HD1];exact hEr) hd (by rw[uQ HD1];omega) (by rw[uQ HD1,q0P (by omega)];rw[q0P (by omega)]at hm;omega) (by omega)
   rw[uQ HD1]at this
   exact this)
  generalize inP f 0 d r=Q at *
  have HOK:=hZq hok
  clear hok hEr hp HP HE HT HIH HD1 hm HK
  go_wp2_with fail
  refine (uQ SK).mono ?_
  rintro e w1 ⟨rfl,hr1,hb1⟩
  have IN:=hZq (uQ HIN w1 hr1)
  have HB1:=hZq ((uQ HB0).trans hb1)
  clear hr1 hb1 SK HIN HR0 HB0
  cases Q with
  |bad q=>
   go_wp2_with fail
   refine (uQ IN).mono ?_
   intro e w2 hR
   obtain rfl:e= .returned (.bool false):=hR.ret
   have HF:Hid (RdR gr lv tk l d ps W P (.returned (.bool false)) w2):=hZq (by
    rw[uQ HP2]
    exact ⟨rfl,hR.2.1,(uQ HB1).trans hR.2.2⟩)
   clear hR IN HB1 HP2
   go_wp2
   refine bodyPost_ret (results_tmp rfl _ _ _) rfl ?_
   exact uQ HF
  |good x q=>
   obtain ⟨c,q',rfl⟩: ∃c q',q=c::q':=by
    cases q with
    |nil=>exact absurd rfl (uQ HOK).1.ne
    |cons c q'=>exact ⟨c,q',rfl⟩
   go_wp2_with fail
   refine (uQ IN).mono ?_
   rintro e w2 ⟨rfl,⟨k1,a1,a2,a3⟩,a4⟩
   have hk2:=(q0g a1).2.2
   have hk3:=(q0g a1).1
   have SK2:Hid (Calls Tryz.prog 189 #[.pointer (some ⟨gr,0,none⟩), .string { data:=#[41] }] w2 fun e w'=>e= .returned (.bool (decide (wdT c=[41])))/\Rd gr lv tk l (if wdT c=[41] then k1+1 else k1) d (ps++x) w'/\Below gr w2 w'):=hZq (q2O a3 a1 ⟨#[41]⟩)
   have HB2:=hZq ((uQ HB1).trans a4)
   have HA1:=hZq a1
   clear a1 a2 a3 a4 IN HB1
   go_wp2_with fail
   refine (uQ SK2).mono ?_
   rintro e w3 ⟨rfl,hr3,hb3⟩
   have HF:Hid (RdR gr lv tk l d ps W P (.returned (.bool (decide (wdT c=[41])))) w3):=hZq (by
    rw[uQ HP2,q8A,shut]
    by_cases hc:wdT c=[41]
    ·rw[if_pos hc]at hr3 ⊢
     exact ⟨by rw[decide_eq_true hc],⟨k1+1,hk2,by omega,hr3⟩,(uQ HB2).trans hb3⟩
    ·rw[if_neg hc]at hr3 ⊢
     exact ⟨by rw[decide_eq_false hc],⟨k1,ps++x,uQ HA1,by omega,hr3⟩,(uQ HB2).trans hb3⟩)
   clear hr3 hb3 SK2 HB2 HP2 HA1
   generalize decide (wdT c=[41])=bb at *
   go_wp2
   refine bodyPost_ret (results_tmp rfl _ _ _) rfl ?_
   exact uQ HF
 ·rw[if_neg hp,decide_eq_false hp]at SK
  have HP2:Hid (P= .bad (t::r)):=hZq (by rw[<-uQ HP];exact qdX (by rw[uQ HK];exact h1) (by rw[uQ HK];exact h2) (by rw[uQ HK];exact h3) hp)
  clear hp HP
  go_wp2_with fail
  refine (uQ SK).mono ?_
  rintro e w1 ⟨rfl,hr1,hb1⟩
  have HF:Hid (RdR gr lv tk l d ps W P (.returned (.bool false)) w1):=hZq (by
   rw[uQ HP2]
   exact ⟨rfl,⟨k,ps,uQ HT,by omega,hr1⟩,(uQ HB0).trans hb1⟩)
  clear hr1 hb1 SK HP2
  go_wp2
  refine bodyPost_ret (results_tmp rfl _ _ _) rfl ?_
  exact uQ HF
end Go.Proofs.YtcmjnlpofebbmaaGreatDoor
namespace Go.Proofs.YtcmjnlpofebbmaaGreatDoor
open Go.RowKit Go.Shelf
attribute [local irreducible] opsV
theorem qdY {f m d:Nat}{t:Tk}{r q:List Tk}(hm:m=0\/m=1\/m=4\/m=5)(h:pRd f (m+1) d [] (t::r)= .bad q):pRd (f+1) m d [] (t::r)= .bad q:=by rw[pRd,if_neg (by omega),if_neg (by omega),if_neg (by omega),if_pos (by omega),h]
theorem qdZ {f m d:Nat}{t:Tk}{r q:List Tk}{x:List Pt}(hm:m=0\/m=1\/m=4\/m=5)(h:pRd f (m+1) d [] (t::r)= .good x q):pRd (f+1) m d [] (t::r)=pRd f (m+10) d x q:=by rw[pRd,if_neg (by omega),if_neg (by omega),if_neg (by omega),if_pos (by omega),h]
theorem qe2 {f m d:Nat}{acc:List Pt}{t:Tk}{r:List Tk}(h:opA m (wdT t)=none):pRd (f+1) (m+10) d acc (t::r)= .good acc (t::r):=by rw[pRd,if_neg (by omega),if_neg (by omega),if_neg (by omega),if_neg (by omega),Nat.add_sub_cancel,h]
theorem qe0 {f m d:Nat}{acc:List Pt}{t:Tk}{r q:List Tk}{kk:Int}(h:opA m (wdT t)=some kk)(h2:pRd f (m+1) d [] r= .bad q):pRd (f+1) (m+10) d acc (t::r)= .bad q:=by
 rw[pRd,if_neg (by omega),if_neg (by omega),if_neg (by omega),if_neg (by omega),Nat.add_sub_cancel,h]
 dsimp only
 rw[h2]
theorem qe1 {f m d:Nat}{acc y:List Pt}{t:Tk}{r q:List Tk}{kk:Int}(h:opA m (wdT t)=some kk)(h2:pRd f (m+1) d [] r= .good y q):pRd (f+1) (m+10) d acc (t::r)=pRd f (m+10) d (opP kk::(acc++y)) q:=by
 rw[pRd,if_neg (by omega),if_neg (by omega),if_neg (by omega),if_neg (by omega),Nat.add_sub_cancel,h]
 dsimp only
 rw[h2]
end Go.Proofs.YtcmjnlpofebbmaaGreatDoor
namespace Go.Proofs.YtcmjnlpofebbmaaGreatDoor
open Go.RowKit Go.Shelf
attribute [local irreducible] opsV
def ChI (gr:Nat)(lv tk:Value)(l:List Tk)(m d f N:Nat)(ps:List Pt)(W:World)(R:PR)(b:Bool)(wr:World):Prop:=if b=true
 then∃f' acc k',f'<=f/\Rd gr lv tk l k' d (ps++acc) wr/\Endd (l.drop k')/\mRd (m+10) (l.drop k')<=f'/\acc.length+(l.drop k').length<=N/\pRd f' (m+10) d acc (l.drop k')=R/\Below gr W wr
 else∃k' ps',R= .bad (l.drop k')/\k'<=l.length/\Rd gr lv tk l k' d ps' wr/\Below gr W wr
def nxW (gr:Nat)(w:World):Nat:=match w.cell? ⟨gr,72,none⟩with
 |some v=>(intOf v).toNat
 |none=>0
def msC (gr n:Nat)(v:Value)(w:World):Nat:=match v with
 | .bool true=>n+1-nxW gr w
 |_=>0
theorem q9x {gr:Nat}{lv tk:Value}{l:List Tk}{k d:Nat}{ps:List Pt}{W:World}(h:Rd gr lv tk l k d ps W):nxW gr W=k:=by
 unfold nxW
 rw[h.cells.1]
 simp[intOf]
theorem q26 {f:Nat}(IH: ∀f',f'<=f->RdOK f'){gr:Nat}{lv tk:Value}{l:List Tk}{k d:Nat}{ps:List Pt}{W:World}(h:Rd gr lv tk l k d ps W){t:Tk}{r:List Tk}(ht:l.drop k=t::r)(m:Nat)(hm4:m=0\/m=1\/m=4\/m=5)(hE:Endd (t::r))(hd:d<=200)(hps:ps.length+(t::r).length<=500000)(hm:mRd m (t::r)<=f+1):
  Calls Tryz.prog 159 #[.pointer (some ⟨gr,0,none⟩), .int .i64 (m:Int)] W (RdR gr lv tk l d ps W (pRd (f+1) m d [] (t::r))):=by
 obtain ⟨ad,cap,c74⟩:=h.len
 have hlr:(t::r).length=r.length+1:=rfl
 have hmm:8 * (r.length+1)+7-m<=f+1:=by rw[q0P (by omega)]at hm;exact hm
 have RD:Hid (Calls Tryz.prog 138 #[.pointer (some ⟨gr,0,none⟩), .int .i64 ((m:Int)+1)] W (RdR gr lv tk l d ps W (pRd f (m+1) d [] (t::r)))):=hZq (by
  have:=IH f (Nat.le_refl _) gr lv tk l k d ps W (m+1) h (by omega) (by rw[ht];exact hE) hd (by rw[ht];exact hps) (by rw[ht,q0P (by omega),hlr];omega)
  rw[ht]at this
  exact this)
 obtain ⟨ok1,ok2⟩:=q2x f (m+1) d [] (t::r) hE
 rw[if_pos (by omega)]at ok1
 have ok2:=ok2 (by omega)
 obtain ⟨R,hR⟩: ∃R,pRd (f+1) m d [] (t::r)=R:=⟨_,rfl⟩
 rw[hR]
 have hw1:IntKind.i64.wrap ((m:Int)+1)=(m:Int)+1:=by rw[IntKind.wrap_i64];omega
 have HST:Hid (∀e w1,RdR gr lv tk l d ps W (pRd f (m+1) d [] (t::r)) e w1-> ∃b,e= .returned (.bool b)/\ChI gr lv tk l m d f (t::r).length ps W R b w1):=hZq (fun e w1 h1=>by
  cases hA:pRd f (m+1) d [] (t::r)with
  |bad q=>
   rw[hA]at h1
   obtain ⟨rfl,⟨k1,ps1,a1,a2,a3⟩,a4⟩:=h1
   refine ⟨false,rfl,?_⟩
   unfold ChI
   rw[if_neg (by simp)]
   exact ⟨k1,ps1,by rw[<-hR,qdY hm4 hA,a1],a2,a3,a4⟩
  |good x q=>
   have hlt:=ok2 x q hA
   rw[hA]at h1 ok1
   obtain ⟨hEq,hl1,_⟩:=ok1
   obtain ⟨rfl,⟨k1,a1,a2,a3⟩,a4⟩:=h1
   refine ⟨true,rfl,?_⟩
   unfold ChI
   rw[if_pos rfl]
   refine ⟨f,x,k1,Nat.le_refl _,a3,by rw[a1];exact hEq,?_,by rw[a1];omega,by rw[a1, <-hR,qdZ hm4 hA],a4⟩
   rw[a1]
   unfold mRd
   rw[if_neg (by omega)]
   omega)
 have HIH:=hZq IH
 clear IH h ht hE hm hmm ok1 ok2 hR
 go_enter Tryz.func159,Tryz.ntmps159
 go_wp2_with fail
 refine (uQ RD).mono ?_
 intro e w1 hR1
 obtain ⟨b,rfl,hI⟩:=uQ HST e w1 hR1
 have HI0:=hZq hI
 clear hI hR1 RD HST c74
 go_wp2
 go_loopw [6] (fun v wr=> ∃b,v= .bool b/\Hid (ChI gr lv tk l m d f (t::r).length ps W R b wr)) (fun v wr=>msC gr l.length v wr)
 case atStart=>exact ⟨b,rfl,HI0⟩
 case round=>
  obtain ⟨b1,rfl,HI⟩:=hrel
  cases b1 with
  |false=>
   have HF:Hid (RdR gr lv tk l d ps W R (.returned (.bool false)) wr):=hZq (by
    have:=uQ HI
    unfold ChI at this
    rw[if_neg (by simp)]at this
    obtain ⟨k1,ps1,rfl,a2,a3,a4⟩:=this
    exact ⟨rfl,⟨k1,ps1,rfl,a2,a3⟩,a4⟩)
   clear HI
   go_wp2
   refine bodyPost_ret (results_tmp rfl _ _ _) rfl ?_
   exact uQ HF
  |true=>
   have hI:=uQ HI
   unfold ChI at hI
   rw[if_pos rfl]at hI
   obtain ⟨f',acc,k1,hf1,hr1,hE1,hm1,hl1,hp1,hb1⟩:=hI
   obtain ⟨c,q,hc⟩: ∃c q,l.drop k1=c::q:=by
    cases hx:l.drop k1 with
    |nil=>exact absurd hx hE1.ne
    |cons c q=>exact ⟨c,q,rfl⟩
   rw[hc]at hE1 hm1 hl1 hp1
   obtain ⟨hk1,_,hc1⟩:=q0g hc
   have hlq:(c::q).length=q.length+1:=rfl
   have hm2:8 * (q.length+1)+8<=f':=by unfold mRd at hm1;rw[if_neg (by omega)]at hm1;exact hm1
   obtain ⟨f2,rfl⟩: ∃f2,f'=f2+1:=⟨f'-1,by omega⟩
   have hms:msC gr l.length (.bool true) wr=l.length+1-k1:=by unfold msC;rw[q9x hr1]
   have HMS:=hZq hms
   have TO:=hZq (q2R hr1 hc m (by omega) ps.length (by simp) (by rw[List.length_append];omega))
   cases ho:opA m (wdT c)with
   |none=>
    rw[ho]at TO
    rw[qe2 ho]at hp1
    have HK:=hZq (And.intro hp1 (And.intro hc hb1))
    clear hr1 hE1 hm1 hp1 hb1 hms ho hc hc1 HI HI0
    go_wp2_with fail
    refine (uQ TO).mono ?_
    rintro e w2 ⟨rfl,b1,b2⟩
    have HF:Hid (RdR gr lv tk l d ps W R (.returned (.bool true)) w2):=hZq (by
     rw[<-(uQ HK).1]
     exact ⟨rfl,⟨k1,(uQ HK).2.1,by omega,b1⟩,(uQ HK).2.2.trans b2⟩)
    clear b1 b2 TO HK
    go_wp2
    refine bodyPost_ret (results_tmp rfl _ _ _) rfl ?_
    exact uQ HF
   |some kk=>
    rw[ho]at TO
    have hE2:=hE1.tail (q2u ho)
    have HRD:Hid (∀w2,Rd gr lv tk l (k1+1) d (ps++opP kk::acc) w2->Calls Tryz.prog 138 #[.pointer (some ⟨gr,0,none⟩), .int .i64 ((m:Int)+1)] w2 (RdR gr lv tk l d (ps++opP kk::acc) w2 (pRd f2 (m+1) d [] q))):=hZq (fun w2 hr2=>by
     have:=uQ HIH f2 (by omega) gr lv tk l (k1+1) d (ps++opP kk::acc) w2 (m+1) hr2 (by omega) (by rw[hc1];exact hE2) hd (by rw[hc1,List.length_append,List.length_cons];omega) (by rw[hc1,q0P (by omega)];omega)
     rw[hc1]at this
     exact this)
    obtain ⟨ok1,ok2⟩:=q2x f2 (m+1) d [] q hE2
    rw[if_pos (by omega)]at ok1
    have ok2:=ok2 (by omega)
    have HST:Hid (∀e w2 w3,Below gr wr w2->RdR gr lv tk l d (ps++opP kk::acc) w2 (pRd f2 (m+1) d [] q) e w3-> ∃b,e= .returned (.bool b)/\ChI gr lv tk l m d f (t::r).length ps W R b w3/\msC gr l.length (.bool b) w3<l.length+1-k1):=hZq (fun e w2 w3 hb2 h1=>by
     cases hA:pRd f2 (m+1) d [] q with
     |bad s=>
      rw[hA]at h1
      obtain ⟨rfl,⟨k2,ps2,a1,a2,a3⟩,a4⟩:=h1
      refine ⟨false,rfl,?_,by show 0<_;omega⟩
      unfold ChI
      rw[if_neg (by simp)]
      exact ⟨k2,ps2,by rw[<-hp1,qe0 ho hA,a1],a2,a3,(hb1.trans hb2).trans a4⟩
     |good y s=>
      have hlt:=ok2 y s hA
      rw[hA]at h1 ok1
      obtain ⟨hEs,hl2,_⟩:=ok1
      obtain ⟨rfl,⟨k2,a1,a2,a3⟩,a4⟩:=h1
      have hkk:k1<k2:=by
       have e1:(l.drop k2).length=l.length-k2:=List.length_drop
       have e2:(l.drop (k1+1)).length=l.length-(k1+1):=List.length_drop
       rw[a1]at e1
       rw[hc1]at e2
       omega
      refine ⟨true,rfl,?_,by show l.length+1-nxW gr w3<_;rw[q9x a3];omega⟩
      unfold ChI
      rw[if_pos rfl]
      refine ⟨f2,opP kk::(acc++y),k2,by omega,by rw[List.append_assoc,List.cons_append]at a3;exact a3,by rw[a1];exact hEs,?_,by rw[a1,List.length_cons,List.length_append];omega,by rw[a1, <-hp1,qe1 ho hA],(hb1.trans hb2).trans a4⟩
      rw[a1]
      unfold mRd
      rw[if_neg (by omega)]
      omega)
    clear hr1 hE1 hm1 hp1 hb1 hms ho hc hc1 HI HI0 hE2 ok1 ok2
    go_wp2_with fail
    refine (uQ TO).mono ?_
    rintro e w2 ⟨rfl,b1,b2⟩
    rw[q9l]at b1
    have RD2:=hZq (uQ HRD w2 b1)
    have HB2:=hZq b2
    clear b1 b2 TO HRD
    go_wp2_with fail
    refine (uQ RD2).mono ?_
    intro e w3 hR3
    obtain ⟨b3,rfl,hI3,hms3⟩:=uQ HST e w2 w3 (uQ HB2) hR3
    have HI3:=hZq hI3
    have HM3:=hZq hms3
    clear hR3 hI3 hms3 RD2 HST HB2
    go_wp2
    go_roundw
    case rel=>exact ⟨b3,rfl,HI3⟩
    case measure=>rw[uQ HMS];exact uQ HM3
end Go.Proofs.YtcmjnlpofebbmaaGreatDoor
