/-
  Walks and plain facts, made small.
-/
import Derived.Test.YtcmjnlpofebbmaaGreatDoorMa18
set_option maxRecDepth 100000
set_option maxHeartbeats 8000000
set_option linter.unusedSimpArgs false
namespace Go.Proofs.YtcmjnlpofebbmaaGreatDoor
open Go.RowKit Go.Shelf
structure SR where
 s:Stg
 ad:Option Addr
 c:Nat
def stgs (l:List SR):List Stg:=l.map (·.s)
def StsAt (w:World)(ad:Option Addr)(l:List SR):Prop:=l≠[]-> ∃b off,ad=some ⟨b,off,none⟩/\b<w.heap.size/\ ∀i (h:i<l.length),w.cell? ⟨b,off+i * 4,none⟩=some (.string l[i].s.nm)/\w.cell? ⟨b,off+i * 4+1,none⟩=some (.int .i64 l[i].s.hw)/\w.cell? ⟨b,off+i * 4+2,none⟩=some (.bool l[i].s.mn)/\w.cell? ⟨b,off+i * 4+3,none⟩=some (.slice l[i].ad l[i].s.cd.length l[i].c)/\PtsAt w l[i].ad l[i].s.cd
theorem StsAt.kp {w w':World}{ad:Option Addr}{l:List SR}(h:StsAt w ad l)(hk:Kp [] w w'):StsAt w' ad l:=fun hl=>by
 obtain ⟨b,off,e,hlt,hc⟩:=h hl
 refine ⟨b,off,e,Nat.lt_of_lt_of_le hlt hk.size,fun i hi=>?_⟩
 obtain ⟨c0,c1,c2,c3,c4⟩:=hc i hi
 exact ⟨hk.cell c0 (by simp),hk.cell c1 (by simp),hk.cell c2 (by simp),hk.cell c3 (by simp),c4.kp hk⟩
theorem StsAt.at {w:World}{ad:Option Addr}{l:List SR}(h:StsAt w ad l)(i:Nat)(hi:i<l.length): ∃b off,ad=some ⟨b,off,none⟩/\b<w.heap.size/\w.cell? ⟨b,off+i * 4,none⟩=some (.string l[i].s.nm)/\w.cell? ⟨b,off+i * 4+1,none⟩=some (.int .i64 l[i].s.hw)/\w.cell? ⟨b,off+i * 4+2,none⟩=some (.bool l[i].s.mn)/\w.cell? ⟨b,off+i * 4+3,none⟩=some (.slice l[i].ad l[i].s.cd.length l[i].c)/\PtsAt w l[i].ad l[i].s.cd:=by
 obtain ⟨b,off,e,hlt,hc⟩:=h (fun e=>by rw[e]at hi;simp at hi)
 exact ⟨b,off,e,hlt,hc i hi⟩
def Stg.ok (s:Stg):Prop:=s.nm.size<=9223372036854775807/\(-9223372036854775808<=s.hw/\s.hw<=9223372036854775807)/\ ∀p∈s.cd,p.ok
theorem q16 {l:List SR}{i:Nat}(h:i<l.length):(stgs l)[i]'(by unfold stgs;rw[List.length_map];exact h)=l[i].s:=by
 unfold stgs
 rw[List.getElem_map]
theorem q03 (l:List SR):(stgs l).length=l.length:=by unfold stgs;rw[List.length_map]
theorem q9F {w W:World}{a b:Value}{t:TypeId}(hk:Kp [] (w.alloc (.cells #[a,b] t)) W):W.cell? ⟨w.heap.size,0,none⟩=some a/\W.cell? ⟨w.heap.size,1,none⟩=some b/\w.heap.size<W.heap.size:=by
 have h:=(CBox.new w #[a,b] t).kp hk (by simp)
 exact ⟨h.cell rfl,h.cell rfl,by have:=hk.size;simp at this;omega⟩
theorem q1M (sa:Option Addr)(sc:Nat)(l:List SR)(wi:Int)(w:World)(h:StsAt w sa l)(hT:TbE w)(hok: ∀r∈l,r.s.ok)(hl:l.length<=9223372036854775807):
  Calls Tryz.prog 19 #[.agg #[.slice sa l.length sc, .int .i64 wi]] w fun e w'=>e= .returned (.tuple #[.int .i64 (pcR ⟨stgs l,wi⟩).1, .int .i64 (pcR ⟨stgs l,wi⟩).2])/\Below w.heap.size w w':=by
 have b0:=(Below.refl w.heap.size w).alloc (Nat.le_refl _) (.cells #[.slice sa l.length sc, .int .i64 wi] 24)
 have HPC:Hid (∀W,Kp [] (w.alloc (.cells #[.slice sa l.length sc, .int .i64 wi] 24)) W->W.cell? ⟨w.heap.size,0,none⟩=some (.slice sa l.length sc)/\W.cell? ⟨w.heap.size,1,none⟩=some (.int .i64 wi)/\w.heap.size<W.heap.size):=hZq (fun W hk=>q9F hk)
 have HB0:=hZq b0
 by_cases hn:l.length<1\/8<l.length
 ·have hp:pcR ⟨stgs l,wi⟩=(0,120):=by unfold pcR;rw[if_pos (by dsimp only;rw[q03];exact hn)]
  rw[hp]
  obtain ⟨c0,c1,_⟩:=uQ HPC _ (Kp.refl _ _)
  clear h hT hok hp b0
  rcases hn with hn|hn
  ·have g1:((l.length:Int)<1)=True:=by simp;omega
   go_enter Tryz.func19,Tryz.ntmps19
   go_wp2
   exact bodyPost_ret (results_tmp2 rfl _ _ _) rfl ⟨rfl,uQ HB0⟩
  ·have g1:((l.length:Int)<1)=False:=by simp;omega
   have g2:((8:Int)<(l.length:Int))=True:=by simp;omega
   go_enter Tryz.func19,Tryz.ntmps19
   go_wp2
   exact bodyPost_ret (results_tmp2 rfl _ _ _) rfl ⟨rfl,uQ HB0⟩
 ·have hp:pcR ⟨stgs l,wi⟩=match bad1 (stgs l) [] 0 with|some i=>((i:Int),120)|none=>if wiOk wi then (0,0) else ((l.length:Int),120):=by
   unfold pcR
   rw[if_neg (by dsimp only;rw[q03];exact hn)]
   dsimp only
   rw[q03]
   rfl
  rw[hp]
  have g1:((l.length:Int)<1)=False:=by simp;omega
  have g2:((8:Int)<(l.length:Int))=False:=by simp;omega
  have hl8:l.length<=8:=by omega
  obtain ⟨c0,c1,hlt0⟩:=uQ HPC _ (Kp.refl _ _)
  have HST:=hZq h
  have HTB:=hZq hT
  have HOK:=hZq hok
  have HNX:Hid (∀k (hk:k<l.length),bad1 ((stgs l).drop k) (q00 ((stgs l).take k)) k=if stOk l[k].s (q00 ((stgs l).take k)) then bad1 ((stgs l).drop (k+1)) (q00 ((stgs l).take (k+1))) (k+1) else some k):=hZq (fun k hk=>by
   have:=q8N (l:=stgs l) (k:=k) (by rw[q03];exact hk)
   rw[q16 hk]at this
   exact this)
  have HNM:Hid (∀k (hk:k<l.length),q00 ((stgs l).take (k+1))=q00 ((stgs l).take k)++[l[k].s.nm]):=hZq (fun k hk=>by
   have:=q41 (l:=stgs l) (k:=k) (by rw[q03];exact hk)
   rw[q16 hk]at this
   exact this)
  have HNL:Hid (∀k,k<=l.length->(q00 ((stgs l).take k)).length=k):=hZq (fun k hk=>by rw[q0D,List.length_take,q03];omega)
  have HEN:Hid (bad1 ((stgs l).drop l.length) (q00 ((stgs l).take l.length)) l.length=none):=hZq (by have:=qac (stgs l);rwa [q03]at this)
  obtain ⟨R,hR⟩: ∃R,bad1 (stgs l) [] 0=R:=⟨_,rfl⟩
  have HR0:Hid (R=bad1 ((stgs l).drop 0) (q00 ((stgs l).take 0)) 0):=hZq (by rw[<-hR];rfl)
  rw[hR]
  obtain ⟨P,hP⟩: ∃P,(match R with|some i=>((i:Int),(120:Int))|none=>if wiOk wi then (0,0) else ((l.length:Int),120))=P:=⟨_,rfl⟩
  have HPS:Hid (∀i,R=some i->P.1=(i:Int)/\P.2=120):=hZq (fun i e=>by rw[<-hP,e];exact ⟨rfl,rfl⟩)
  have HPN:Hid (R=none->P=if wiOk wi then (0,0) else ((l.length:Int),120)):=hZq (fun e=>by rw[<-hP,e])
  rw[hP]
  obtain ⟨PA,PC⟩:=P
  dsimp only at HPS ⊢
  clear hP hR h hT hok hp b0 hn
  obtain ⟨n,hn⟩: ∃n,l.length=n:=⟨_,rfl⟩
  have HN:=hZq hn
  rw[hn]at g1 g2 hl8 HEN HPC HB0 c0 c1 hlt0 HNL HPN ⊢
  clear hn hl
  obtain ⟨i0,hi,hz0,hz1,hz2⟩:=info_parts q5S
  obtain ⟨w1,hmk,how,hgr⟩:=run_make_own (P:=Tryz.prog) (w.alloc (.cells #[.slice sa n sc, .int .i64 wi] 24)) (w.heap.size+1) 83 9 i0 (.string ⟨#[]⟩) 1 Tryz.underlying83 hi hz0 hz1 .i64 .i64 8 (by rw[hz2];decide) (by decide) (by simp)
  have k1:Kp [] (w.alloc (.cells #[.slice sa n sc, .int .i64 wi] 24)) w1:=Kp.of hgr
  have HK1:=hZq k1
  have HB1:=hZq ((uQ HB0).trans (k1.below (uQ HB0).size (by simp)))
  have HOW:Hid (OwnsW (w.heap.size+1) w1 (.slice (some ⟨(w.alloc (.cells #[.slice sa n sc, .int .i64 wi] 24)).heap.size,0,none⟩) 0 8) []):=hZq how
  have hw1:(w.alloc (.cells #[.slice sa n sc, .int .i64 wi] 24)).heap.size=w.heap.size+1:=by simp
  rw[hw1]at hmk HOW
  have hmk':(Instr.makeSlice 83 (.int .i64 0) (.int .i64 8)).run Tryz.prog (w.alloc (.cells #[.slice sa n sc, .int .i64 wi] 24))= .ok (.slice (some ⟨w.heap.size+1,0,none⟩) 0 8) w1:=hmk
  obtain ⟨d0,d1,hlt1⟩:=uQ HPC w1 k1
  clear hi hz0 hz1 hz2 how hgr k1 hmk hw1 i0 HB0
  go_enter Tryz.func19,Tryz.ntmps19
  go_wp2_with fail
  go_loopw [4,21] (fun v i wr=> ∃(k:Nat) (g c:Nat),k<=n/\i= .int .i64 (k:Int)/\v= .slice (some ⟨g,0,none⟩) k c/\Hid (OwnsW (w.heap.size+1) wr (.slice (some ⟨g,0,none⟩) k c) (q00 ((stgs l).take k)))/\Hid (Kp [] (w.alloc (.cells #[.slice sa n sc, .int .i64 wi] 24)) wr/\Below w.heap.size w wr)/\Hid (R=bad1 ((stgs l).drop k) (q00 ((stgs l).take k)) k)) (fun _ i _=>n-(intOf i).toNat)
  case atStart=>exact ⟨0,w.heap.size+1,8,Nat.zero_le _,rfl,rfl,HOW,hZq ⟨uQ HK1,uQ HB1⟩,HR0⟩
  case round=>
   obtain ⟨k,g,c,hk,rfl,rfl,HO,HKB,HRR⟩:=hrel
   clear HOW HK1 HB1 HR0 d0 d1 c0 c1 hmk'
   by_cases hlt:k<n
   ·have hkx:k<l.length:=by rw[uQ HN];exact hlt
    have hli:(k:Int)<(n:Int):=by omega
    have kw:Kp [] w wr:=(Kp.alloc w (.cells #[.slice sa n sc, .int .i64 wi] 24)).trans (uQ HKB).1 (by simp)
    obtain ⟨b,off,rfl,hbl,x0,x1,x2,x3,hpts⟩:=((uQ HST).kp kw).at k hkx
    have hnl:=uQ HNL k (by omega)
    have HX:=hZq (uQ HNX k hkx)
    have HNX2:=hZq (uQ HNM k hkx)
    have hok1:=uQ HOK _ (List.getElem_mem hkx)
    obtain ⟨a',c',hv,hnm,_⟩:=(uQ HO).at
    injection hv with e1 e2 e3
    subst e1 e3
    have kst:=Kp.alloc wr (.cells (stV l[k].s l[k].ad l[k].c) 86)
    have hTr:=(uQ HTB).kp kw (by simp)
    have MF:=q5i l[k].s l[k].ad (some ⟨g,0,none⟩) l[k].c c (q00 ((stgs l).take k)) _ (hpts.kp kst) (hnm.kp kst (by simp)) (by omega) (hTr.kp kst (by simp)) (fun p hp=>(hok1.2.2 p hp).2.2.2.1) hok1.1
    rw[hnl]at MF
    have HMF:=hZq MF
    have HKS:=hZq kst
    have HL8:Hid ((q00 ((stgs l).take k)).length=k):=hZq hnl
    clear hpts MF kst hnl hok1 hnm e2 hTr kw HNX HNM HNL HOK HTB HST
    generalize l[k].s=s at *
    generalize l[k].ad=ad at *
    generalize l[k].c=cc at *
    generalize q00 ((stgs l).take k)=AH at *
    obtain ⟨nm,hw,mn,cd⟩:=s
    unfold stV at HMF HKS
    dsimp only at x0 x1 x2 x3 HMF HKS HX HNX2
    generalize stOk ⟨nm,hw,mn,cd⟩ AH=SO at *
    generalize cd.length=CL at *
    have bx:=CBox.new wr #[.string nm, .int .i64 hw, .bool mn, .slice ad CL cc] 86
    have z0:=bx.cell (i:=0) (v:= .string nm) rfl
    have z1:=bx.cell (i:=1) (v:= .int .i64 hw) rfl
    have z2:=bx.cell (i:=2) (v:= .bool mn) rfl
    have z3:=bx.cell (i:=3) (v:= .slice ad CL cc) rfl
    go_wp2_with fail
    refine (uQ HMF).mono ?_
    rintro e w3 ⟨rfl,hb3⟩
    have k3:=(uQ HKS).trans (Kp.ofBelow hb3) (by simp)
    have y0:=(bx.kp (Kp.ofBelow hb3) (by simp)).cell (i:=0) (v:= .string nm) rfl
    have HB3:=hZq ((uQ HKB).2.trans (k3.below (uQ HKB).2.size (by simp)))
    have HK3:=hZq ((uQ HKB).1.trans k3 (by simp))
    have HO3:=hZq ((uQ HO).kp k3)
    have hlt3:wr.heap.size<w3.heap.size:=by have:=hb3.size;simp at this;omega
    clear HMF hb3 k3 HKS HKB HO bx z0 z1 z2 z3 x0 x1 x2 x3
    cases SO with
    |false=>
     obtain ⟨rfl,rfl⟩:=uQ HPS k (by rw[uQ HRR,uQ HX];rfl)
     clear HX HRR HNX2
     dsimp only
     go_wp2
     exact bodyPost_ret (results_tmp2 rfl _ _ _) rfl ⟨rfl,uQ HB3⟩
    |true=>
     have HR2:Hid (R=bad1 ((stgs l).drop (k+1)) (q00 ((stgs l).take (k+1))) (k+1)):=hZq (by rw[uQ HRR,uQ HX];rfl)
     have k6:=Kp.alloc w3 (.cells #[.string nm] 9)
     have hb6:=(uQ HB3).trans (k6.below (uQ HB3).size (by simp))
     obtain ⟨g',cap',w',hrun,hO',hbw,hgw⟩:=OwnsW.app (c:=1) ((uQ HO3).kp k6) (by have:=(uQ HK3).size;simp at this ⊢;omega) nm (g:=w3.heap.size) ((CBox.new w3 _ _).cell rfl) (by rw[uQ HL8];omega) 83
     rw[uQ HL8]at hrun hO'
     rw[<-uQ HNX2]at hO'
     have HRUN:=hZq hrun
     have HO':=hZq hO'
     have hgg:w.heap.size+1<=g:=(World.ownsRow.lt (uQ HO3) g rfl).1
     have HKB':Hid (Kp [] (w.alloc (.cells #[.slice (some ⟨b,off,none⟩) n sc, .int .i64 wi] 24)) w'/\Below w.heap.size w w'):=hZq ⟨((uQ HK3).trans k6 (by simp)).trans (Kp.of hgw) (fun x hx=>Or.inr (by simp[Value.ownBlock]at hx;simp;omega)),hb6.trans (hbw.mono (by omega))⟩
     clear hrun hO' hbw hb6 k6 hgw HX HRR
     dsimp only
     go_wp2_with (at_builtin;refine q0e rfl _ _ _ rfl rfl rfl (uQ HRUN) ?_)
     go_roundw
     case rel=>exact ⟨k+1,g',cap',by omega,by go_num,rfl,HO',HKB',HR2⟩
     case measure=>simp[intOf];omega
   ·obtain rfl:k=n:=by omega
    have hP:=uQ HPN (by rw[uQ HRR];exact uQ HEN)
    obtain ⟨e0,e1,hltw⟩:=uQ HPC wr (uQ HKB).1
    have HB:=hZq (uQ HKB).2
    clear HRR HEN HNX HNM HNL HO HKB HOK HTB HST HPN HPS
    unfold wiOk at hP
    by_cases h1:wi<1
    ·have gd:decide (1<=wi)=false:=decide_eq_false (by omega)
     rw[gd,Bool.false_and,if_neg (by simp)]at hP
     obtain ⟨rfl,rfl⟩:=Prod.mk.inj hP
     have g1:(wi<1)=True:=by simp;omega
     clear hP gd
     go_wp2
     exact bodyPost_ret (results_tmp2 rfl _ _ _) rfl ⟨rfl,uQ HB⟩
    ·have gd:decide (1<=wi)=true:=decide_eq_true (by omega)
     rw[gd,Bool.true_and]at hP
     have g1:(wi<1)=False:=by simp;omega
     by_cases h2:256<wi
     ·rw[decide_eq_false (by omega: ¬ wi<=256),if_neg (by simp)]at hP
      obtain ⟨rfl,rfl⟩:=Prod.mk.inj hP
      have g2:((256:Int)<wi)=True:=by simp;omega
      clear hP gd
      go_wp2
      exact bodyPost_ret (results_tmp2 rfl _ _ _) rfl ⟨rfl,uQ HB⟩
     ·rw[decide_eq_true (by omega:wi<=256),if_pos rfl]at hP
      obtain ⟨rfl,rfl⟩:=Prod.mk.inj hP
      have g2:((256:Int)<wi)=False:=by simp;omega
      clear hP gd
      go_wp2
      exact bodyPost_ret (results_tmp2 rfl _ _ _) rfl ⟨rfl,uQ HB⟩
open Go.RowKit Go.Shelf
structure HK where
 wB:World
 w0:World
 F0:List Nat
 gt:Nat
 sa:Option Addr
 sc:Nat
 l:List SR
 wi:Int
 ea:Option Addr
 ec:Nat
 es:List Ev
 an:Option Addr
 cn:Nat
def HK.p (k:HK):Ptn:=⟨stgs k.l,k.wi⟩
def HK.P (k:HK):Mt.Pm:=Mt.pm k.p k.es
structure HkI (k:HK):Prop where
 st:StsAt k.wB k.sa k.l
 ev:EvsAt k.wB k.ea k.es
 tb:TbE k.wB
 nm:NmsAt k.w0 k.an (q00 (stgs k.l))
 nf: ∀b off,k.an=some ⟨b,off,none⟩->b∉k.F0
 b0:Kp [] k.wB k.w0
 f0: ∀x∈k.F0,k.wB.heap.size<=x
 gf:k.gt∈k.F0
 ft: ∀r∈k.l, ∀q∈r.s.cd,q.fit
 l8:k.l.length<=8
 el:k.es.length<=4096
 cn:k.l.length<=k.cn
 cx:k.cn<=9223372036854775807
def hkC (k:HK)(pv lv:Value):Array Value:=#[.slice k.sa k.l.length k.sc, .int .i64 k.wi, .slice k.ea k.es.length k.ec, .slice k.an k.l.length k.cn,pv,lv]
def hkL (k:HK)(T:List (List Nat)):List Ev:=Mt.lasE k.es (Mt.las T T.length)
structure HkS (k:HK)(w:World)(T:List (List Nat))(L:List Ev)(pv lv:Value)(vs:List Value):Prop where
 box:CBox k.gt (hkC k pv lv) 99 w
 pl:PlS w pv vs T
 la:OwnsX 0 w lv L
 kp:Kp k.F0 k.w0 w
 lo: ∀x∈plB pv vs++lv.ownBlock.toList,k.w0.heap.size<=x
def hkF (k:HK)(pv lv:Value)(vs:List Value):List Nat:=k.gt::(plB pv vs++lv.ownBlock.toList)
theorem HkS.go {k:HK}{w w':World}{T:List (List Nat)}{L:List Ev}{pv lv:Value}{vs:List Value}{F:List Nat}(h:HkS k w T L pv lv vs)(hk:Kp F w w')(hF: ∀x∈hkF k pv lv vs,x∉F)(hF0: ∀x∈F,x∈k.F0\/k.w0.heap.size<=x):HkS k w' T L pv lv vs:=by
 refine ⟨h.box.kp hk (hF _ (by unfold hkF;simp)),h.pl.kp hk (fun x hx=>hF x (by unfold hkF;simp[hx])),q02 h.la hk (fun x hx=>hF x (by unfold hkF;simp[hx])),h.kp.trans hk hF0,h.lo⟩
theorem HkS.al {k:HK}{w w':World}{T:List (List Nat)}{L:List Ev}{pv lv:Value}{vs:List Value}(h:HkS k w T L pv lv vs)(hk:Kp [] w w'):HkS k w' T L pv lv vs:=h.go hk (by simp) (by simp)
theorem HkS.kb {k:HK}{w:World}{T:List (List Nat)}{L:List Ev}{pv lv:Value}{vs:List Value}(h:HkS k w T L pv lv vs)(hI:HkI k):Kp [] k.wB w:=hI.b0.trans h.kp (fun x hx=>Or.inr (hI.f0 x hx))
theorem q5X (T:List (List Nat)):(Mt.las T T.length).length=T.length:=Mt.las_len (Nat.le_refl _)
theorem q3D (es:List Ev)(L:List Nat):(Mt.lasE es L).length=L.length:=by unfold Mt.lasE;rw[List.length_map]
theorem q2H {w:World}{u:Value}{l:List Nat}(h:IRo w u (l.map Int.ofNat))(h0:l≠[]): ∃g cap,u= .slice (some ⟨g,0,none⟩) l.length cap/\l.length<=cap/\cap<=maxLen/\w.cell? ⟨g,l.length-1,none⟩=some (.int .i64 (Mt.lst l:Int)):=by
 have hp:=List.length_pos_iff.2 h0
 have hlen:(l.map Int.ofNat).length=l.length:=List.length_map _
 obtain ⟨a,c,e,hat⟩:=h.at
 obtain ⟨_,⟨e2,h1⟩|⟨g,cap,cur,rfl,_,hh,hc,hm,_⟩⟩:=h
 ·rw[hlen]at h1;omega
 ·rw[hlen]at hc
  injection e with e1 e2 e3
  subst e1
  obtain ⟨b,off,eb,_,hcell⟩:=hat (fun e=>h0 (List.map_eq_nil_iff.1 e))
  cases eb
  refine ⟨g,cap,by rw[hlen],hc,hm,?_⟩
  have:=hcell (l.length-1) (by rw[hlen];omega)
  rw[Nat.zero_add]at this
  rw[this]
  simp only[List.getElem_map,Option.some.injEq,Value.int.injEq,true_and]
  show ((l[l.length-1]:Nat):Int)=_
  congr 1
  unfold Mt.lst
  rw[List.getLastD_eq_getLast?,List.getLast?_eq_getElem?,List.getElem?_eq_getElem (by omega)]
  rfl
theorem q57 (k:HK)(w:World)(T:List (List Nat))(L:List Ev)(pv lv:Value)(vs:List Value)(h:HkS k w T L pv lv vs)(i:Nat)(l:List Nat)(hl:T[i]?=some l)(h0:l≠[])(hlb:l.length<=1000000):
  Calls Tryz.prog 105 #[.pointer (some ⟨k.gt,0,none⟩), .int .i64 (i:Int)] w fun e w'=>e= .returned (.int .i64 (Mt.lst l:Int))/\w'=w:=by
 obtain ⟨u,hu,hiu⟩:=h.pl.at hl
 have hiT:i<T.length:=(List.getElem?_eq_some_iff.1 hl).1
 obtain ⟨g2,c2,rfl,hc2,_,hlast⟩:=q2H hiu h0
 have c4:w.cell? ⟨k.gt,4,none⟩=some pv:=h.box.cell rfl
 rcases h.pl.form with ⟨_,e⟩|⟨g,cap,rfl,hcap,_⟩
 ·rw[e]at hiT;simp at hiT
 have c5:=h.pl.cell hu
 have hp:=List.length_pos_iff.2 h0
 obtain ⟨m,hm⟩: ∃m,l.length=m+1:=⟨l.length-1,by omega⟩
 rw[hm,Nat.add_sub_cancel]at hlast
 rw[hm]at hlb hc2 c5
 clear h hiu hu hl h0 hp hm
 have g1:(i:Int)<(T.length:Int):=by omega
 generalize T.length=n at *
 generalize Mt.lst l=q at *
 go_enter Tryz.func105,Tryz.ntmps105
 go_wp2
 go_ret
 exact ⟨rfl,rfl⟩
open Go.RowKit Go.Shelf
theorem q11 {P:Program}{ops:Array Oper}{o:Oper}{a:Act}{w w':World}{K:Act->World->Prop}{Q:Exit->Act->World->Prop}{E:Prop}{v y r:Value}
  (hg:o.guard=none) (s x:Operand) (t:TypeId) (hop:o.op=Op.call { callee:=Callee.builtin Builtin.append,args:=#[s,x],argTypes:=#[t,t] }) (hs:a.eval s=v) (hx:a.eval x=y)
  (hrun:(Builtin.append_ #[t,t] o.type #[v,y]).run P w= .ok r w') (hK:K (a.put o.dst r) w'):if Region.wanted o (yielded ops a.tmps)=true then Oper.wp P o a w K Q else E:=by
 have hw:Region.wanted o (yielded ops a.tmps)=true:=by simp[Region.wanted,hg]
 rw[if_pos hw]
 unfold Oper.wp
 simp[execOp,hop,resolve,invoke,builtin,hs,hx,hrun,Result.andThen]
 exact hK
section
variable {B:Nat} {V W:World} {v u:Value} {ns:List ByteArray} {es:List Ev}
end
open Go.RowKit Go.Shelf
theorem OwnsX.app2 {w:World}{v:Value}{l:List Ev}(ho:OwnsX 0 w v l)(e:Ev){g c:Nat}(hc:CBox g e.c 29 w)(hl:l.length+1<=1000000)(ty:TypeId):
  ∃g' cap w',(Builtin.append_ #[25,25] ty #[v, .slice (some ⟨g,0,none⟩) 1 c]).run Tryz.prog w= .ok (.slice (some ⟨g',0,none⟩) (l.length+1) cap) w'/\OwnsX 0 w' (.slice (some ⟨g',0,none⟩) (l.length+1) cap) (l++[e])/\Kp v.ownBlock.toList w w'/\(v.ownBlock=some g'\/w.heap.size<=g'):=by
 obtain ⟨i0,hi,hz0,hz1,hz2⟩:=info_parts q3B
 obtain ⟨g',cap,w',hrun,r1,r2,r3,_⟩:=run_append_lies (P:=Tryz.prog) (w:=w) 25 ty 0 29 i0 _ 7 80 Tryz.underlying25 hi hz0 hz1 hz2 rfl (by decide) v l.length (l.flatMap evW) ho ⟨g,0,none⟩ 1 c (evW e) rfl (fun j u hj=>by
  have:e.c[j]?=some u:=by
   rw[<-hj]
   unfold evW Ev.c
   simp
  rw[Go.WideShapes.add_plain,Nat.zero_add]
  exact hc.cell this) (by
   intro u hu
   unfold evW at hu
   simp only[List.mem_cons,List.not_mem_nil,or_false]at hu
   rcases hu with rfl|rfl|rfl|rfl|rfl|rfl|rfl <;> rfl) (by omega) (by unfold maxLen;omega) (by omega) (Nat.zero_le _) _ rfl
 refine ⟨g',cap,w',hrun,?_,Kp.of r2,r3.imp_right (fun e=>by omega)⟩
 unfold OwnsX
 rw[List.length_append,List.flatMap_append]
 simpa using r1
theorem q1q (L:List Ev):(L.flatMap evW).length=L.length * 7:=by
 induction L with
 |nil=>rfl
 |cons a l ih=>rw[List.flatMap_cons,List.length_append,ih,q1h,List.length_cons];omega
theorem q93 (L:List Ev)(i:Nat)(h:i<L.length)(e:Ev):(((((((L.flatMap evW).set (i * 7) (.string e.k)).set (i * 7+1) (.string e.t)).set (i * 7+2) (.int .i64 e.n0)).set (i * 7+3) (.int .i64 e.n1)).set (i * 7+4) (.int .i64 e.n2)).set (i * 7+5) (.int .i64 e.n3)).set (i * 7+6) (.string e.x)=(L.set i e).flatMap evW:=by
 have e1:L=L.take i++L[i]::L.drop (i+1):=by rw[List.getElem_cons_drop,List.take_append_drop]
 have hl:(L.take i).length=i:=by rw[List.length_take];omega
 have e2:L.set i e=L.take i++e::L.drop (i+1):=by rw[List.set_eq_take_append_cons_drop,if_pos h]
 rw[e2]
 conv=>lhs;rw[e1]
 rw[List.flatMap_append,List.flatMap_append,List.flatMap_cons,List.flatMap_cons]
 have hA:((L.take i).flatMap evW).length=i * 7:=by rw[q1q,hl]
 generalize (L.take i).flatMap evW=A at *
 generalize (L.drop (i+1)).flatMap evW=B at *
 generalize L[i]=x at *
 rw[<-hA]
 have key: ∀(X:List Value) (j:Nat) (u:Value),(A++X).set (A.length+j) u=A++X.set j u:=fun X j u=>by
  rw[List.set_append_right _ _ (by omega)]
  congr 2
  omega
 have key0: ∀(X:List Value) (u:Value),(A++X).set A.length u=A++X.set 0 u:=fun X u=>key X 0 u
 rw[key0,key,key,key,key,key,key]
 unfold evW
 simp
theorem OwnsX.put7 {w:World}{g n cap:Nat}{L:List Ev}(h:OwnsX 0 w (.slice (some ⟨g,0,none⟩) n cap) L)(i:Nat)(hi:i<L.length)(e:Ev):
  OwnsX 0 (((((((w.setCell ⟨g,i * 7,none⟩ (.string e.k)).setCell ⟨g,i * 7+1,none⟩ (.string e.t)).setCell ⟨g,i * 7+2,none⟩ (.int .i64 e.n0)).setCell ⟨g,i * 7+3,none⟩ (.int .i64 e.n1)).setCell ⟨g,i * 7+4,none⟩ (.int .i64 e.n2)).setCell ⟨g,i * 7+5,none⟩ (.int .i64 e.n3)).setCell ⟨g,i * 7+6,none⟩ (.string e.x)) (.slice (some ⟨g,0,none⟩) n cap) (L.set i e)/\
  Kp [g] w (((((((w.setCell ⟨g,i * 7,none⟩ (.string e.k)).setCell ⟨g,i * 7+1,none⟩ (.string e.t)).setCell ⟨g,i * 7+2,none⟩ (.int .i64 e.n0)).setCell ⟨g,i * 7+3,none⟩ (.int .i64 e.n1)).setCell ⟨g,i * 7+4,none⟩ (.int .i64 e.n2)).setCell ⟨g,i * 7+5,none⟩ (.int .i64 e.n3)).setCell ⟨g,i * 7+6,none⟩ (.string e.x)):=by
 have hn:n=L.length:=by
  obtain ⟨_,⟨e,_⟩|⟨g',cap',cur',e,_⟩⟩:=id h
  ·cases e
  ·injection e with _ e2 _
 subst hn
 have s1:=(World.ownsRow.stored h (i * 7) (.string e.k)).1
 have s2:=(World.ownsRow.stored s1 (i * 7+1) (.string e.t)).1
 have s3:=(World.ownsRow.stored s2 (i * 7+2) (.int .i64 e.n0)).1
 have s4:=(World.ownsRow.stored s3 (i * 7+3) (.int .i64 e.n1)).1
 have s5:=(World.ownsRow.stored s4 (i * 7+4) (.int .i64 e.n2)).1
 have s6:=(World.ownsRow.stored s5 (i * 7+5) (.int .i64 e.n3)).1
 have s7:=(World.ownsRow.stored s6 (i * 7+6) (.string e.x)).1
 rw[q93 L i hi e]at s7
 refine ⟨by unfold OwnsX;rw[List.length_set];exact s7,?_⟩
 have hs: ∀(W:World) (j:Nat) (u:Value),Kp [g] W (W.setCell ⟨g,j,none⟩ u):=fun W j u=>Kp.set W g j u
 exact ((((((hs _ _ _).trans (hs _ _ _) (by simp)).trans (hs _ _ _) (by simp)).trans (hs _ _ _) (by simp)).trans (hs _ _ _) (by simp)).trans (hs _ _ _) (by simp)).trans (hs _ _ _) (by simp)
section
variable {k:HK} {w:World} {T:List (List Nat)} {L:List Ev} {pv lv:Value} {vs:List Value}
theorem HkS.ne (h:HkS k w T L pv lv vs):k.gt∉plB pv vs++lv.ownBlock.toList:=fun hm=>by
 rw[List.mem_append,mem_plB]at hm
 rcases hm with (hm|⟨u,hu,hm⟩)|hm
 ·exact q0d h.pl.row h.box (by decide) hm
 ·obtain ⟨i,hi,rfl⟩:=List.getElem_of_mem hu
  exact q0d (h.pl.ins.2 i _ _ (List.getElem?_eq_getElem hi) (List.getElem?_eq_getElem (by rw[<-h.pl.ins.1];exact hi))) h.box (by decide) hm
 ·exact q0d h.la h.box (by decide) (by simpa using hm)
theorem HkS.ne2 (h:HkS k w T L pv lv vs): ∀x∈lv.ownBlock.toList,x∉plB pv vs:=fun x hx hm=>by
 have hx':lv.ownBlock=some x:=by simpa using hx
 rw[mem_plB]at hm
 rcases hm with hm|⟨u,hu,hm⟩
 ·exact q2z h.la h.pl.row (by decide) x hx' (by rw[hm];simp)
 ·obtain ⟨i,hi,rfl⟩:=List.getElem_of_mem hu
  exact q2z h.la (h.pl.ins.2 i _ _ (List.getElem?_eq_getElem hi) (List.getElem?_eq_getElem (by rw[<-h.pl.ins.1];exact hi))) (by decide) x hx' (by rw[hm];simp)
structure HkN (k:HK)(w:World)(F:List Nat)(T':List (List Nat))(L':List Ev)(pv' lv':Value)(vs':List Value)(w':World):Prop where
 s:HkS k w' T' L' pv' lv' vs'
 kp:Kp F w w'
 nw: ∀x∈hkF k pv' lv' vs',x∈F\/w.heap.size<=x
theorem HkN.trans {F:List Nat}{w1 w2:World}{T1 T2:List (List Nat)}{L1 L2:List Ev}{p1 l1 p2 l2:Value}{v1 v2:List Value}(h:HkN k w F T1 L1 p1 l1 v1 w1)(h2:HkN k w1 (hkF k p1 l1 v1) T2 L2 p2 l2 v2 w2):HkN k w F T2 L2 p2 l2 v2 w2:=by
 have hs:=h.kp.size
 exact ⟨h2.s,h.kp.trans h2.kp h.nw,fun x hx=>(h2.nw x hx).elim (h.nw x) (fun e=>Or.inr (by omega))⟩
theorem HkS.next (h:HkS k w T L pv lv vs)(hI:HkI k){w':World}{T':List (List Nat)}{L':List Ev}{pv' lv':Value}{vs':List Value}(hp:PlS w' pv' vs' T')(hb:CBox k.gt (hkC k pv' lv') 99 w')(hl:OwnsX 0 w' lv' L')(hk:Kp (hkF k pv lv vs) w w')(hn: ∀x∈plB pv' vs'++lv'.ownBlock.toList,x∈plB pv vs++lv.ownBlock.toList\/w.heap.size<=x):HkN k w (hkF k pv lv vs) T' L' pv' lv' vs' w':=by
 have hz:=h.kp.size
 refine ⟨⟨hb,hp,hl,h.kp.trans hk (fun x hx=>?_),fun x hx=>(hn x hx).elim (h.lo x) (fun e=>by omega)⟩,hk,fun x hx=>?_⟩
 ·unfold hkF at hx
  rw[List.mem_cons]at hx
  rcases hx with rfl|hx
  ·exact Or.inl hI.gf
  ·exact Or.inr (h.lo x hx)
 ·unfold hkF at hx ⊢
  rw[List.mem_cons]at hx
  rcases hx with rfl|hx
  ·exact Or.inl (by simp)
  ·exact (hn x hx).imp_left (fun e=>List.mem_cons_of_mem _ e)
theorem HkS.gtlt (h:HkS k w T L pv lv vs):k.gt<w.heap.size:=(Array.getElem?_eq_some_iff.1 h.box).1
theorem HkS.mono1 {F:List Nat}{w1 w2:World}(h:Kp F w w1)(g:Kp F w1 w2):Kp F w w2:=h.trans g (fun _ hx=>Or.inl hx)
theorem HkS.grow (h:HkS k w T L pv lv vs)(hI:HkI k){Wa:World}(hka:Kp [] w Wa){gz c:Nat}(hz:CBox gz #[.slice none 0 0] 38 Wa)(hl:T.length+1<=1000000)(ty:TypeId):
  ∃g' cap w1,(Builtin.append_ #[35,35] ty #[pv, .slice (some ⟨gz,0,none⟩) 1 c]).run Tryz.prog Wa= .ok (.slice (some ⟨g',0,none⟩) (T.length+1) cap) w1/\CBox k.gt (hkC k pv lv) 99 w1/\
   HkN k w (hkF k pv lv vs) (T++[[]]) L (.slice (some ⟨g',0,none⟩) (T.length+1) cap) lv (vs++[.slice none 0 0]) (w1.setCell ⟨k.gt,4,none⟩ (.slice (some ⟨g',0,none⟩) (T.length+1) cap)):=by
 have ha:=h.al hka
 obtain ⟨g',cap,w1,hrun,hp,hk,hor⟩:=ha.pl.grow hz hl ty
 have hsz:=hka.size
 have hmem: ∀x∈plB (.slice (some ⟨g',0,none⟩) (T.length+1) cap) (vs++[.slice none 0 0]),x∈plB pv vs\/w.heap.size<=x:=fun x hx=>by
  rw[mem_plB]at hx
  rcases hx with hx|⟨u,hu,hx⟩
  ·simp[Value.ownBlock]at hx
   subst hx
   exact hor.imp (fun e=>mem_plB.2 (Or.inl e)) (fun e=>by omega)
  ·rw[List.mem_append,List.mem_singleton]at hu
   rcases hu with hu|rfl
   ·exact Or.inl (mem_plB.2 (Or.inr ⟨u,hu,hx⟩))
   ·cases hx
 have hgt:k.gt∉pv.ownBlock.toList:=fun hm=>ha.ne (by rw[List.mem_append];exact Or.inl (mem_plB.2 (Or.inl (by simpa using hm))))
 have hb1:=ha.box.kp hk hgt
 have hks:=Kp.set w1 k.gt 4 (.slice (some ⟨g',0,none⟩) (T.length+1) cap)
 have hlt:=h.gtlt
 refine ⟨g',cap,w1,hrun,hb1,h.next hI (hp.kp hks (fun x hx hm=>?_)) (hb1.set 4 _) (q02 (q02 ha.la hk (fun x hx hm=>?_)) hks (fun x hx hm=>?_)) ?_ (fun x hx=>?_)⟩
 ·rw[List.mem_singleton]at hm
  subst hm
  rcases hmem _ hx with hm|hm
  ·exact ha.ne (by rw[List.mem_append];exact Or.inl hm)
  ·omega
 ·exact ha.ne2 x (by rw[hx];simp) (mem_plB.2 (Or.inl (by simpa using hm)))
 ·rw[List.mem_singleton]at hm
  subst hm
  exact ha.ne (by rw[List.mem_append];exact Or.inr (by rw[hx];simp))
 ·refine HkS.mono1 (HkS.mono1 (hka.mono (by simp)) (hk.mono (G:=hkF k pv lv vs) (fun x hx=>?_))) (hks.mono (G:=hkF k pv lv vs) (fun x hx=>?_))
  ·unfold hkF
   rw[List.mem_cons,List.mem_append]
   exact Or.inr (Or.inl (mem_plB.2 (Or.inl (by simpa using hx))))
  ·rw[List.mem_singleton]at hx
   unfold hkF
   rw[hx]
   simp
 ·rw[List.mem_append]at hx ⊢
  rcases hx with hx|hx
  ·exact (hmem x hx).imp_left Or.inl
  ·exact Or.inl (Or.inr hx)
theorem HkS.growL (h:HkS k w T L pv lv vs)(hI:HkI k){Wa:World}(hka:Kp [] w Wa)(e:Ev){gz c:Nat}(hz:CBox gz e.c 29 Wa)(hl:L.length+1<=1000000)(ty:TypeId):
  ∃g' cap w1,(Builtin.append_ #[25,25] ty #[lv, .slice (some ⟨gz,0,none⟩) 1 c]).run Tryz.prog Wa= .ok (.slice (some ⟨g',0,none⟩) (L.length+1) cap) w1/\CBox k.gt (hkC k pv lv) 99 w1/\
   HkN k w (hkF k pv lv vs) T (L++[e]) pv (.slice (some ⟨g',0,none⟩) (L.length+1) cap) vs (w1.setCell ⟨k.gt,5,none⟩ (.slice (some ⟨g',0,none⟩) (L.length+1) cap)):=by
 have ha:=h.al hka
 obtain ⟨g',cap,w1,hrun,hp,hk,hor⟩:=ha.la.app2 e hz hl ty
 have hsz:=hka.size
 have hgt:k.gt∉lv.ownBlock.toList:=fun hm=>ha.ne (by rw[List.mem_append];exact Or.inr hm)
 have hb1:=ha.box.kp hk hgt
 have hks:=Kp.set w1 k.gt 5 (.slice (some ⟨g',0,none⟩) (L.length+1) cap)
 have hlt:=h.gtlt
 refine ⟨g',cap,w1,hrun,hb1,h.next hI ((ha.pl.kp hk (fun x hx hm=>ha.ne2 x hm hx)).kp hks (fun x hx hm=>?_)) (hb1.set 5 _) (q02 hp hks (fun x hx hm=>?_)) ?_ (fun x hx=>?_)⟩
 ·rw[List.mem_singleton]at hm
  subst hm
  exact ha.ne (by rw[List.mem_append];exact Or.inl hx)
 ·rw[List.mem_singleton]at hm
  subst hm
  simp[Value.ownBlock]at hx
  rcases hor with hor|hor
  ·exact hgt (by rw[hor,hx];simp)
  ·omega
 ·refine HkS.mono1 (HkS.mono1 (hka.mono (by simp)) (hk.mono (G:=hkF k pv lv vs) (fun x hx=>?_))) (hks.mono (G:=hkF k pv lv vs) (fun x hx=>?_))
  ·unfold hkF
   rw[List.mem_cons,List.mem_append]
   exact Or.inr (Or.inr hx)
  ·rw[List.mem_singleton]at hx
   unfold hkF
   rw[hx]
   simp
 ·rw[List.mem_append]at hx ⊢
  rcases hx with hx|hx
  ·exact Or.inl (Or.inl hx)
  ·simp[Value.ownBlock]at hx
   subst hx
   exact hor.imp (fun e=>Or.inr (by rw[e];simp)) (fun e=>by omega)
theorem HkS.more {g n cap:Nat}(h:HkS k w T L (.slice (some ⟨g,0,none⟩) n cap) lv vs)(hI:HkI k){Wa:World}(hka:Kp [] w Wa){t q:Nat}{u:Value}{l:List Nat}(hu:vs[t]?=some u)(hl:T[t]?=some l){gz c:Nat}(hz:CBox gz #[.int .i64 (q:Int)] 3 Wa)(hb:l.length+1<=1000000)(ty:TypeId):
  ∃g' cap' w1,(Builtin.append_ #[38,38] ty #[u, .slice (some ⟨gz,0,none⟩) 1 c]).run Tryz.prog Wa= .ok (.slice (some ⟨g',0,none⟩) (l.length+1) cap') w1/\CBox k.gt (hkC k (.slice (some ⟨g,0,none⟩) n cap) lv) 99 w1/\w1.cell? ⟨g,t,none⟩=some u/\w1.frozen? ⟨g,t,none⟩=false/\
   HkN k w (hkF k (.slice (some ⟨g,0,none⟩) n cap) lv vs) (T.set t (l++[q])) L (.slice (some ⟨g,0,none⟩) n cap) lv (vs.set t (.slice (some ⟨g',0,none⟩) (l.length+1) cap')) (w1.setCell ⟨g,t,none⟩ (.slice (some ⟨g',0,none⟩) (l.length+1) cap')):=by
 have ha:=h.al hka
 have hiu:IRo Wa u (l.map Int.ofNat):=ha.pl.ins.2 t u _ hu (q4g hl)
 have hll:(l.map Int.ofNat).length=l.length:=List.length_map _
 obtain ⟨g',cap',w1,hrun,hi1,hk,hor⟩:=hiu.app (q:Int) hz (by rw[hll];exact hb) ty
 rw[hll]at hrun hi1
 have hi2:IRo w1 (.slice (some ⟨g',0,none⟩) (l.length+1) cap') ((l++[q]).map Int.ofNat):=by rw[List.map_append];exact hi1
 have hsz:=hka.size
 have hum: ∀x∈u.ownBlock.toList,x∈plB (.slice (some ⟨g,0,none⟩) n cap) vs:=fun x hx=>mem_plB.2 (Or.inr ⟨u,List.mem_of_getElem? hu,by simpa using hx⟩)
 have hgt:k.gt∉u.ownBlock.toList:=fun hm=>ha.ne (by rw[List.mem_append];exact Or.inl (hum _ hm))
 have hb1:=ha.box.kp hk hgt
 have hgm:g∈plB (.slice (some ⟨g,0,none⟩) n cap) vs:=mem_plB.2 (Or.inl rfl)
 have hp:=ha.pl.put hu hk hi2 (hor.elim (fun e=>Or.inl (by rw[e];rfl)) (fun e=>Or.inr ⟨g',rfl,e⟩))
 have hgu:g∉u.ownBlock.toList:=fun hm=>ha.pl.apart hiu rfl (by simpa using hm) rfl
 have hrow1:VRo w1 (.slice (some ⟨g,0,none⟩) n cap) vs:=ha.pl.row.kp hk (fun b hb hm=>by simp[Value.ownBlock]at hb;subst hb;exact hgu hm)
 obtain ⟨cur,hcur⟩:=hrow1.block (b:=g) rfl
 have hcell:w1.cell? ⟨g,t,none⟩=some u:=hk.cell (ha.pl.cell hu) hgu
 have hks:=Kp.set w1 g t (.slice (some ⟨g',0,none⟩) (l.length+1) cap')
 have hggt:g≠k.gt:=fun e=>ha.ne (by rw[<-e,List.mem_append];exact Or.inl hgm)
 refine ⟨g',cap',w1,hrun,hb1,hcell,CBox.froz (show CBox g cur 38 w1 from hcur) t,h.next hI hp (hb1.kp hks (by simpa using hggt.symm)) (q02 (q02 ha.la hk (fun x hx hm=>?_)) hks (fun x hx hm=>?_)) ?_ (fun x hx=>?_)⟩
 ·exact ha.ne2 x (by rw[hx];simp) (hum x hm)
 ·rw[List.mem_singleton]at hm
  subst hm
  exact ha.ne2 x (by rw[hx];simp) hgm
 ·refine HkS.mono1 (HkS.mono1 (hka.mono (by simp)) (hk.mono (G:=hkF k (.slice (some ⟨g,0,none⟩) n cap) lv vs) (fun x hx=>?_))) (hks.mono (G:=hkF k (.slice (some ⟨g,0,none⟩) n cap) lv vs) (fun x hx=>?_))
  ·unfold hkF
   rw[List.mem_cons,List.mem_append]
   exact Or.inr (Or.inl (hum x hx))
  ·rw[List.mem_singleton]at hx
   unfold hkF
   rw[hx,List.mem_cons,List.mem_append]
   exact Or.inr (Or.inl hgm)
 ·rw[List.mem_append]at hx ⊢
  rcases hx with hx|hx
  ·rw[mem_plB]at hx
   rcases hx with hx|⟨y,hy,hx⟩
   ·exact Or.inl (Or.inl (mem_plB.2 (Or.inl hx)))
   ·rcases List.mem_or_eq_of_mem_set hy with hy|rfl
    ·exact Or.inl (Or.inl (mem_plB.2 (Or.inr ⟨y,hy,hx⟩)))
    ·simp[Value.ownBlock]at hx
     subst hx
     exact hor.imp (fun e=>Or.inl (hum _ (by rw[e];simp))) (fun e=>by omega)
  ·exact Or.inl (Or.inr hx)
theorem HkS.last {g n cap:Nat}(h:HkS k w T L pv (.slice (some ⟨g,0,none⟩) n cap) vs)(hI:HkI k){Wa:World}(hka:Kp [] w Wa)(t:Nat)(ht:t<L.length)(e:Ev):
  HkN k w (hkF k pv (.slice (some ⟨g,0,none⟩) n cap) vs) T (L.set t e) pv (.slice (some ⟨g,0,none⟩) n cap) vs (((((((Wa.setCell ⟨g,t * 7,none⟩ (.string e.k)).setCell ⟨g,t * 7+1,none⟩ (.string e.t)).setCell ⟨g,t * 7+2,none⟩ (.int .i64 e.n0)).setCell ⟨g,t * 7+3,none⟩ (.int .i64 e.n1)).setCell ⟨g,t * 7+4,none⟩ (.int .i64 e.n2)).setCell ⟨g,t * 7+5,none⟩ (.int .i64 e.n3)).setCell ⟨g,t * 7+6,none⟩ (.string e.x)):=by
 have ha:=h.al hka
 obtain ⟨h1,h2⟩:=ha.la.put7 t ht e
 have hgm:g∈(Value.slice (some ⟨g,0,none⟩) n cap).ownBlock.toList:=by simp[Value.ownBlock]
 refine h.next hI (ha.pl.kp h2 (fun x hx hm=>?_)) (ha.box.kp h2 (fun hm=>?_)) h1 ?_ (fun x hx=>Or.inl hx)
 ·rw[List.mem_singleton]at hm
  subst hm
  exact ha.ne2 x hgm hx
 ·rw[List.mem_singleton]at hm
  exact ha.ne (by rw[hm,List.mem_append];exact Or.inr hgm)
 ·refine HkS.mono1 (hka.mono (by simp)) (h2.mono (G:=hkF k pv (.slice (some ⟨g,0,none⟩) n cap) vs) (fun x hx=>?_))
  rw[List.mem_singleton]at hx
  unfold hkF
  rw[hx,List.mem_cons,List.mem_append]
  exact Or.inr (Or.inr hgm)
end
end Go.Proofs.YtcmjnlpofebbmaaGreatDoor
