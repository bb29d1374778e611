/-
  Walks and plain facts, made small.
-/
import Derived.Test.YtcmjnlpofebbmaaGreatDoorMa17
import Derived.Test.YtcmjnlpofebbmaaGreatDoorMa15
set_option maxRecDepth 100000
set_option maxHeartbeats 8000000
set_option linter.unusedSimpArgs false
namespace Go.Proofs.YtcmjnlpofebbmaaGreatDoor
open Go.RowKit Go.Shelf
theorem q4b (ad:Option Addr)(cap:Nat)(xs:List Pt)(w:World)(hc:PtsAt w ad xs)(hT:TbE w)(hfit: ∀p∈xs,p.fit):
  Calls Tryz.prog 97 #[.slice ad xs.length cap] w fun e w'=> ∃v,e= .returned (.tuple #[v, .int .i64 (if ckK xs=0 then 110 else 0)])/\OwnsW w.heap.size w' v (stgS xs)/\Below w.heap.size w w':=by
 have CK:=hZq (q1D ad cap xs w hc hT hfit)
 by_cases h0:ckK xs=0
 ·have hs:stgS xs=[]:=by unfold stgS;rw[if_pos h0]
  rw[hs]
  rw[h0,if_pos rfl]at CK
  rw[if_pos h0]
  clear hc hT hfit h0 hs
  go_enter Tryz.func97,Tryz.ntmps97
  go_wp2_with fail
  refine (uQ CK).mono ?_
  rintro e w1 ⟨rfl,hb⟩
  clear CK
  go_wp2
  exact bodyPost_ret (results_tmp2 rfl _ _ _) rfl ⟨_,rfl,OwnsW.nil _ _,hb⟩
 ·have hs:stgS xs=stgL xs:=by unfold stgS;rw[if_neg h0]
  rw[hs]
  rw[if_neg h0]at CK
  rw[if_neg h0]
  have HST:=hZq (qen h0)
  obtain ⟨_,_,_,_,_,hx,_⟩:=q1o h0
  have HC:=hZq hc
  have HTK:=hZq (fun k (hk:k<xs.length)=>q9W xs k hk)
  have HLN:=hZq (fun k=>Nat.le_trans (q6y (xs.take k)) (by rw[List.length_take];omega:(xs.take k).length<=200))
  have HEN:Hid (stgL (xs.take xs.length)=stgL xs):=hZq (by rw[List.take_length])
  clear hc hT hfit h0 hs
  generalize ckK xs=ck at *
  obtain ⟨n,hn⟩: ∃n,xs.length=n:=⟨_,rfl⟩
  have HN:=hZq hn
  rw[hn]at hx CK HEN ⊢
  clear hn
  go_enter Tryz.func97,Tryz.ntmps97
  go_wp2_with fail
  refine (uQ CK).mono ?_
  rintro e w1 ⟨rfl,hb1⟩
  have HB1:=hZq hb1
  clear CK hb1
  go_wp2_with fail
  go_loopw [6,19] (fun v i wr=> ∃(k:Nat) (a:Option Addr) (c NL:Nat),k<=n/\i= .int .i64 (k:Int)/\v= .slice a NL c/\NL=(stgL (xs.take k)).length/\Hid (OwnsW w.heap.size wr (.slice a NL c) (stgL (xs.take k)))/\Below w.heap.size w wr) (fun _ i _=>n-(intOf i).toNat)
  case atStart=>exact ⟨0,none,0,0,Nat.zero_le _,rfl,rfl,rfl,hZq (OwnsW.nil _ _),uQ HB1⟩
  case round=>
   obtain ⟨k,a,c,NL,hk,rfl,rfl,hNL,HO,hb⟩:=hrel
   by_cases hlt:k<n
   ·have hkx:k<xs.length:=by rw[uQ HN];exact hlt
    have hli:(k:Int)<(n:Int):=by omega
    obtain ⟨b,off,rfl,hbl,x0,x1,x2,x3,x4⟩:=((uQ HC).kp (Kp.ofBelow hb)).at k hkx
    have HSG:=hZq (uQ HST _ (List.getElem_mem hkx))
    have HNX:=hZq (uQ HTK k hkx)
    have hl2:=uQ HLN k
    unfold stgA at HNX
    clear HTK HLN HST HEN HC HB1
    generalize xs[k]=p at *
    obtain ⟨pk,pn,ps,pt,pf⟩:=p
    dsimp only at x0 x1 x2 x3 x4 HSG HNX
    have hb2:Below w.heap.size w (wr.alloc (.cells #[.int .i64 pk, .int .i64 pn, .string ps, .string pt, .int .i64 pf] 166)):=hb.alloc hb.size _
    have ho2:=(uQ HO).kp (Kp.alloc wr (.cells #[.int .i64 pk, .int .i64 pn, .string ps, .string pt, .int .i64 pf] 166))
    have c3:(wr.alloc (.cells #[.int .i64 pk, .int .i64 pn, .string ps, .string pt, .int .i64 pf] 166)).cell? ⟨wr.heap.size,3,none⟩=some (.string pt):=(CBox.new wr _ _).cell rfl
    generalize stgL (xs.take k)=L at *
    obtain ⟨a',c',hv,hnm,_⟩:=ho2.at
    injection hv with e1 e2 e3
    subst e1 e3
    have CT:=hZq (q1p a c L pt _ (by omega) hnm)
    rw[<-hNL]at CT
    have HB2:=hZq hb2
    have HO2:=hZq ho2
    have HNL:=hZq hNL
    have hwl:wr.heap.size<(wr.alloc (.cells #[.int .i64 pk, .int .i64 pn, .string ps, .string pt, .int .i64 pf] 166)).heap.size:=by simp
    clear hb hb2 ho2 HO hnm hNL e2
    have g1:=q14 pt
    have g2:=q1O pt
    cases hE:q05 pt with
    |true=>
     rw[hE]at g1 g2
     rw[hE,Bool.true_or,if_pos rfl]at HNX
     clear hE CT
     go_wp2_with fail
     go_roundw
     case rel=>exact ⟨k+1,a,c,NL,by omega,by go_num,rfl,by rw[uQ HNX];exact uQ HNL,by rw[uQ HNX];exact HO2,uQ HB2⟩
     case measure=>simp[intOf];omega
    |false=>
     rw[hE]at g1 g2
     rw[hE,Bool.false_or]at HNX
     clear hE
     cases hH:hasN L pt with
     |true=>
      rw[hH]at CT HNX
      rw[if_pos rfl]at HNX
      clear hH
      go_wp2_with fail
      refine (uQ CT).mono ?_
      rintro e w4 ⟨rfl,rfl⟩
      clear CT
      go_wp2
      go_roundw
      case rel=>exact ⟨k+1,a,c,NL,by omega,by go_num,rfl,by rw[uQ HNX];exact uQ HNL,by rw[uQ HNX];exact HO2,uQ HB2⟩
      case measure=>simp[intOf];omega
     |false=>
      rw[hH]at CT HNX
      rw[if_neg (by simp)]at HNX
      clear hH
      have hpz:pt.size<=32:=(uQ HSG).2
      have CL:=hZq (fun W=>q1E pt W (by omega))
      go_wp2_with fail
      refine (uQ CT).mono ?_
      rintro e w4 ⟨rfl,rfl⟩
      clear CT
      generalize wr.alloc (.cells #[.int .i64 pk, .int .i64 pn, .string ps, .string pt, .int .i64 pf] 166)=W2 at *
      go_wp2_with fail
      refine (uQ CL _).mono ?_
      rintro e w5 ⟨rfl,hb5⟩
      have k5:=(Kp.ofBelow hb5).trans (Kp.alloc w5 (.cells #[.string pt] 9)) (by simp)
      have hb6:=(uQ HB2).trans (k5.below (uQ HB2).size (by simp))
      have ho6:=(uQ HO2).kp k5
      obtain ⟨g',cap',w',hrun,hO',hbw,_⟩:=OwnsW.app (c:=1) ho6 hb6.size pt (g:=w5.heap.size) ((CBox.new w5 _ _).cell rfl) (by omega) 83
      rw[<-uQ HNL]at hrun hO'
      have HRUN:=hZq hrun
      have HO':=hZq hO'
      have HBW:=hZq (hb6.trans hbw)
      clear hrun hO' hbw hb6 ho6 k5 hb5 CL
      dsimp only
      go_wp2_with (at_builtin;refine q0e rfl _ _ _ rfl rfl rfl (uQ HRUN) ?_)
      go_roundw
      case rel=>exact ⟨k+1,_,cap',NL+1,by omega,by go_num,rfl,by rw[uQ HNX,List.length_append, <-uQ HNL];rfl,by rw[uQ HNX];exact HO',uQ HBW⟩
      case measure=>simp[intOf];omega
   ·obtain rfl:k=n:=by omega
    have HE:=uQ HEN
    rw[HE]at HO
    clear HE HEN HTK HLN HST HC HB1 hNL
    go_wp2
    exact bodyPost_ret (results_tmp2 rfl _ _ _) rfl ⟨_,rfl,uQ HO,hb⟩
open Go.RowKit Go.Shelf
theorem qcK:(Tryz.prog.info? 238).map (·.size)=some 75:=by kernel_rfl
def OwnsP (B:Nat)(w:World)(v:Value)(l:List Pt):Prop:=w.ownsRow B 166 5 v l.length (l.flatMap ptE)
def PsT (l:List Tk)(B:Nat)(P:PR)(e:Ending)(w':World):Prop:=match P with
 | .bad q=>e= .returned (.tuple #[.slice none 0 0, .int .i64 0, .agg #[.int .i64 (hdPl q), .int .i64 110]])
 | .good x q=>if ckK x=0 then e= .returned (.tuple #[.slice none 0 0, .int .i64 0, .agg #[.int .i64 0, .int .i64 110]]) else∃v k,e= .returned (.tuple #[v, .int .i64 ((k:Nat):Int), .agg #[.int .i64 0, .int .i64 0]])/\k<=l.length/\l.drop k=q/\OwnsP B w' v x
theorem PsT.bad {l:List Tk}{B:Nat}{P:PR}{t:Tk}{r:List Tk}{w':World}(h:P= .bad (t::r)):PsT l B P (.returned (.tuple #[.slice none 0 0, .int .i64 0, .agg #[.int .i64 t.pl, .int .i64 110]])) w':=by subst h;rfl
theorem PsT.no {l:List Tk}{B:Nat}{P:PR}{x:List Pt}{q:List Tk}{w':World}(h:P= .good x q)(h0:ckK x=0):PsT l B P (.returned (.tuple #[.slice none 0 0, .int .i64 0, .agg #[.int .i64 0, .int .i64 110]])) w':=by
 subst h
 unfold PsT
 dsimp only
 rw[if_pos h0]
theorem PsT.yes {l:List Tk}{B:Nat}{P:PR}{x:List Pt}{q:List Tk}{w':World}{v:Value}{k:Nat}(h:P= .good x q)(h0:ckK x≠0)(hk:k<=l.length)(hq:l.drop k=q)(ho:OwnsP B w' v x):PsT l B P (.returned (.tuple #[v, .int .i64 (k:Int), .agg #[.int .i64 0, .int .i64 0]])) w':=by
 subst h
 unfold PsT
 dsimp only
 rw[if_neg h0]
 exact ⟨v,k,rfl,hk,hq,ho⟩
theorem TksLow.mono {B B':Nat}{W:World}{tk:Value}{l:List Tk}(h:TksLow B W tk l)(hB:B<=B'):TksLow B' W tk l:=by
 obtain ⟨b,off,cap,e,hlt,hc⟩:=h
 exact ⟨b,off,cap,e,by omega,hc⟩
theorem OpsLow.mono {B B':Nat}{W:World}{ov:Value}{os:List Int}(h:OpsLow B W ov os)(hB:B<=B'):OpsLow B' W ov os:=by
 rcases h with h|⟨b,e,hlt,hc⟩
 ·exact Or.inl h
 ·exact Or.inr ⟨b,e,by omega,hc⟩
theorem LvsLow.mono {B B':Nat}{W:World}{lv:Value}(h:LvsLow B W lv)(hB:B<=B'):LvsLow B' W lv:=by
 obtain ⟨b,e,hlt,hc⟩:=h
 refine ⟨b,e,by omega,fun n hn=>?_⟩
 obtain ⟨c0,ov,c1,c2⟩:=hc n hn
 exact ⟨c0,ov,c1,c2.mono hB⟩
theorem OwnsP.mono {B B':Nat}{w:World}{v:Value}{l:List Pt}(h:OwnsP B w v l)(hB:B'<=B):OwnsP B' w v l:=by
 obtain ⟨h1,h2|⟨g,cap,cur,e,hg,r⟩⟩:=h
 ·exact ⟨h1,Or.inl h2⟩
 ·exact ⟨h1,Or.inr ⟨g,cap,cur,e,by omega,r⟩⟩
theorem OwnsP.kp {B:Nat}{w w':World}{v:Value}{l:List Pt}(h:OwnsP B w v l)(hk:Kp [] w w'):OwnsP B w' v l:=q02 h hk (by simp)
theorem OwnsP.nil (B:Nat)(w:World):OwnsP B w (.slice none 0 0) []:=World.ownsRow_nil _ _ _ _
theorem OwnsP.at {B:Nat}{w:World}{v:Value}{l:List Pt}(h:OwnsP B w v l): ∃ad cp,v= .slice ad l.length cp/\PtsAt w ad l/\l.length<=cp:=by
 obtain ⟨_,⟨rfl,h0⟩|⟨g,cp,cur,rfl,_,_,hcap,_⟩⟩:=id h
 ·refine ⟨none,0,by rw[h0],fun hne=>?_,by omega⟩
  exact absurd (List.eq_nil_of_length_eq_zero h0) hne
 ·have hl:=World.ownsRow.lt h g rfl
  refine ⟨_,_,rfl,fun _=>⟨g,0,rfl,hl.2,fun i hi=>?_⟩,hcap⟩
  have c:=fun j (hj:j<5)=>q0t q0S h i j hi hj
  simp only[Nat.zero_add]
  exact ⟨c 0 (by omega),c 1 (by omega),c 2 (by omega),c 3 (by omega),c 4 (by omega)⟩
theorem FBox.two {b:Nat}{w:World}(h:FBox b w)(x y:Value):CBox b #[x,y] 44 ((w.setCell ⟨b,0,none⟩ x).setCell ⟨b,1,none⟩ y):=CBox.set (CBox.set h 0 x) 1 y
theorem q1m {b:Nat}{w:World}{x y:Value}(h:CBox b #[x,y] 44 w):w.cell? ⟨b,0,none⟩=some x/\w.cell? ⟨b,1,none⟩=some y:=⟨h.cell rfl,h.cell rfl⟩
theorem q2g {b B:Nat}{w w':World}(h:Below B w w')(hB:B<=b)(x y:Value):Below B w (((w'.setCell ⟨b,0,none⟩ x).setCell ⟨b,1,none⟩ y)):=(h.setCell (p:=⟨b,0,none⟩) hB _).setCell (p:=⟨b,1,none⟩) hB _
theorem qbf (lv tk:Value):((Array.foldl (fun cs x=>cs.setIfInBounds (1+x.snd) x.fst) (Tryz.zeroCells238.setIfInBounds 0 lv) opsV.zipIdx 0 opsV.size).setIfInBounds 71 tk)=rdC lv tk 0 0 (.slice none 0 0):=by kernel_rfl
theorem qd7 (lv:Value):(Array.foldl (fun cs x=>cs.setIfInBounds (1+x.snd) x.fst) (Tryz.zeroCells238.setIfInBounds 0 lv) opsV.zipIdx 0 opsV.size).size=75:=by kernel_rfl
theorem qd4 (lv tk:Value)(h1:lv.oneCell'=true)(h2:tk.oneCell'=true):(rdC lv tk 0 0 (.slice none 0 0)).all (·.oneCell')=true:=by
 unfold rdC
 rw[Array.all_append,Array.all_append,q3F]
 simp[h1,h2]
 exact ⟨rfl,rfl⟩
theorem q6j (lv tk:Value):(rdC lv tk 0 0 (.slice none 0 0)).size=75:=by
 unfold rdC
 rw[Array.size_append,Array.size_append,q0w]
 rfl
theorem qbg (w:World)(lv tk:Value)(h1:lv.oneCell'=true)(h2:tk.oneCell'=true):(storeCells ⟨w.heap.size,0,none⟩ ((Array.foldl (fun cs x=>cs.setIfInBounds (1+x.snd) x.fst) (Tryz.zeroCells238.setIfInBounds 0 lv) opsV.zipIdx 0 opsV.size).toList.set 71 tk) 0).run Tryz.prog (w.alloc (.cells Tryz.zeroCells238 238))= .ok () (w.alloc (.cells (rdC lv tk 0 0 (.slice none 0 0)) 238)):=by
 rw[<-Array.toList_setIfInBounds,qbf]
 exact run_storeCells_new w 238 Tryz.zeroCells238 (rdC lv tk 0 0 (.slice none 0 0)) (by rw[q6j];exact qcK) (by rw[q6j];kernel_rfl) (qd4 lv tk h1 h2)
attribute [local irreducible] opsV
theorem q9D (tk:Value)(l:List Tk)(w:World)(ht:TksLow w.heap.size w tk l)(hT:TbE w)(hl:l.length<=100000)(hok: ∀t∈l,t.s.size<=140737488351232)(hE:Endd l)(hk: ∀t∈l,t.ok):
  Calls Tryz.prog 115 #[tk] w fun e w'=>PsT l w.heap.size (psR l) e w'/\Below w.heap.size w w':=by
 obtain ⟨tb,tf,tc,rfl,htb,htc⟩:=id ht
 clear htb htc
 have HT:=hZq ht
 have HTb:=hZq hT
 have HE:=hZq hE
 have HK:=hZq hk
 have HOK:=hZq hok
 clear ht hT hE hk hok
 go_enter Tryz.func115,Tryz.ntmps115
 go_wp2_with fail
 refine (q6O _).mono ?_
 rintro e w1 ⟨lv,rfl,hlv,hk1⟩
 obtain ⟨lb,rfl,hlb,hlc⟩:=id hlv
 clear hlb hlc
 have HLV:=hZq hlv
 have HK1:=hZq hk1
 clear hlv hk1
 go_wp2_with fail
 refine (q1y _).mono ?_
 rintro e w2 ⟨rfl,hk2⟩
 have HK2:=hZq hk2
 clear hk2
 have rs:=qd7 (.slice (some ⟨lb,0,none⟩) 7 7)
 have st:=qbg w2 (.slice (some ⟨lb,0,none⟩) 7 7) (.slice (some ⟨tb,tf,none⟩) l.length tc) rfl rfl
 have hs70:=q0w
 rw[q0w]at rs st
 go_wp2_with fail
 clear rs st
 have hb0:Below w.heap.size w w2:=by
  have a0:Below w.heap.size w (w.alloc (.cells #[.int .i64 0, .int .i64 0] 44)):=(Below.refl _ _).alloc (Nat.le_refl _) _
  have a1:=(uQ HK1).below (B:=w.heap.size) (by simp) (by simp)
  have a2:=(uQ HK2).below (B:=w.heap.size) (by have:=(uQ HK1).size;simp at this;omega) (by simp)
  exact (a0.trans a1).trans a2
 have fb0:FBox w.heap.size w2:=CBox.kp (CBox.kp (CBox.new w _ _) (uQ HK1) (by simp)) (uQ HK2) (by simp)
 have hw2:=hb0.size
 have hB3:Below w2.heap.size w2 (w2.alloc (.cells (rdC (.slice (some ⟨lb,0,none⟩) 7 7) (.slice (some ⟨tb,tf,none⟩) l.length tc) 0 0 (.slice none 0 0)) 238)):=(Below.refl _ _).alloc (Nat.le_refl _) _
 have hRd:Rd w2.heap.size (.slice (some ⟨lb,0,none⟩) 7 7) (.slice (some ⟨tb,tf,none⟩) l.length tc) l 0 0 [] (w2.alloc (.cells (rdC (.slice (some ⟨lb,0,none⟩) 7 7) (.slice (some ⟨tb,tf,none⟩) l.length tc) 0 0 (.slice none 0 0)) 238)):=by
  have t1:TbE w2:=(uQ HTb).below hb0 (uQ HTb).low
  have t2:TksLow w2.heap.size w2 (.slice (some ⟨tb,tf,none⟩) l.length tc) l:=((uQ HT).below hb0).mono hw2
  have t3:LvsLow w2.heap.size w2 (.slice (some ⟨lb,0,none⟩) 7 7):=((uQ HLV).below ((uQ HK2).below (Nat.le_refl _) (by simp))).mono (uQ HK2).size
  exact ⟨⟨t2.below hB3,t3.below hB3,t1.alloc _,t1.low,hl,uQ HOK⟩,_,CBox.new w2 _ _,World.ownsRow_nil _ _ _ _⟩
 have RD:=qe6 (mRd 0 l) w2.heap.size (.slice (some ⟨lb,0,none⟩) 7 7) (.slice (some ⟨tb,tf,none⟩) l.length tc) l 0 0 [] _ 0 hRd (by omega) (by rw[List.drop_zero];exact uQ HE) (by omega) (by rw[List.drop_zero];simp;omega) (by rw[List.drop_zero];exact Nat.le_refl _)
 rw[List.drop_zero]at RD
 have HRD:=hZq RD
 clear RD
 refine (uQ HRD).mono ?_
 intro e w3 hR
 clear HRD hRd
 have hfit:=q6h (mRd 0 l) 0 0 [] l (uQ HK) (fun p hp=>by cases hp)
 have hend:=(q2x (mRd 0 l) 0 0 [] l (uQ HE)).1
 have hP0:psR l=pRd (mRd 0 l) 0 0 [] l:=rfl
 rw[<-hP0]at hR hfit hend
 clear hP0
 cases hP:psR l with
 |bad q=>
  rw[hP]at hR hend
  obtain ⟨rfl,⟨k,ps',hq,hkl,hr⟩,hb3⟩:=hR
  have hb:Below w.heap.size w w3:=hb0.trans ((hB3.trans hb3).mono hw2)
  have fb3:=fb0.below (hB3.trans hb3) fb0.lt
  cases q with
  |nil=>exact absurd rfl hend.1.ne
  |cons t r=>
   obtain ⟨hk,hlt,_⟩:=q0g hq
   obtain ⟨b',off',cap',e1,hlt2,hc⟩:=hr.env.tks
   cases e1
   obtain ⟨_,_,_,c3⟩:=hc k hk
   rw[hlt]at c3
   obtain ⟨c72,_,_,_⟩:=hr.cells
   obtain ⟨f0,f1,fz0,fz1⟩:=fb3.cells
   have hlf:=fb3.lt
   have HF3:=hZq fb3
   have HPs:=hZq hP
   have HPB:Hid (∀W,PsT l w.heap.size (psR l) (.returned (.tuple #[.slice none 0 0, .int .i64 0, .agg #[.int .i64 t.pl, .int .i64 110]])) W):=hZq (fun W=>PsT.bad (uQ HPs))
   have HB:=hZq hb
   clear hr hc hlt hq hend hfit hP hb hb3 hB3 hb0 fb0 fb3 HT HTb HE HK HOK HLV HK1 HK2
   generalize Value.agg (Array.setIfInBounds _ 71 _)=AG
   obtain ⟨tkd,ts,tn,tpl⟩:=t
   dsimp only at c3 HPB
   go_wp2
   go_region
   go_wp2
   have q2:CBox w.heap.size #[.int .i64 tpl, .int .i64 110] 44 (((w3.setCell ⟨w.heap.size,0,none⟩ (.int .i64 tpl)).setCell ⟨w.heap.size,1,none⟩ (.int .i64 110)).drew):=(uQ HF3).two _ _
   obtain ⟨z0,z1⟩:=q1m q2
   exact bodyPost_ret (v:= .tuple #[.slice none 0 0, .int .i64 0, .agg #[.int .i64 tpl, .int .i64 110]]) (by simp[results,Tryz.results115,go_sem,z0,z1]) rfl ⟨uQ HPB _,(q2g (uQ HB) (Nat.le_refl _) _ _).drew⟩
 |good x q=>
  rw[hP]at hR hend hfit
  obtain ⟨rfl,⟨k,hq,hkl,hr⟩,hb3⟩:=hR
  have hb:Below w.heap.size w w3:=hb0.trans ((hB3.trans hb3).mono hw2)
  have fb3:=fb0.below (hB3.trans hb3) fb0.lt
  rw[List.nil_append]at hr
  obtain ⟨pv,hbox,hown⟩:=hr.box
  have hown':OwnsP (w2.heap.size+1) w3 pv x:=hown
  obtain ⟨ad,cp,rfl,hat,hcp⟩:=hown'.at
  have CK:=q1D ad cp x w3 hat hr.env.tab (fun p hp=>(hfit p hp).2.2.2.1)
  have c72:=hbox.cell (q43 _ _ _ _ _)
  have c74:=hbox.cell (q1Z _ _ _ _ _)
  have HL:Hid (∀w4,Below w3.heap.size w3 w4->(w4.cell? ⟨w2.heap.size,72,none⟩=some (.int .i64 (k:Int))/\w4.cell? ⟨w2.heap.size,74,none⟩=some (.slice ad x.length cp))/\FBox w.heap.size w4/\Hid (OwnsP w.heap.size w4 (.slice ad x.length cp) x)/\Hid (Below w.heap.size w w4)):=hZq (fun w4 hb4=>⟨⟨(Kp.ofBelow hb4).cell c72 (by simp),(Kp.ofBelow hb4).cell c74 (by simp)⟩,fb3.below hb4 fb3.lt,hZq ((hown'.kp (Kp.ofBelow hb4)).mono (by omega)),hZq (hb.trans (hb4.mono hb.size))⟩)
  have HCK:=hZq CK
  have HPs:=hZq hP
  clear hr hbox hown hown' hat hend hP hb hb3 hB3 hb0 fb0 fb3 HT HTb HE HK HOK HLV HK1 HK2 CK hfit c72
  generalize Value.agg (Array.setIfInBounds _ 71 _)=AG
  by_cases h0:ckK x=0
  ·have HPB:Hid (∀W,PsT l w.heap.size (psR l) (.returned (.tuple #[.slice none 0 0, .int .i64 0, .agg #[.int .i64 0, .int .i64 110]])) W):=hZq (fun W=>PsT.no (uQ HPs) h0)
   rw[h0,if_pos rfl]at HCK
   clear h0
   go_wp2_with fail
   refine (uQ HCK).mono ?_
   rintro e w4 ⟨rfl,hb4⟩
   obtain ⟨⟨d72,d74⟩,fb4,HO,HB⟩:=uQ HL w4 hb4
   obtain ⟨f0,f1,fz0,fz1⟩:=fb4.cells
   have HF4:=hZq fb4
   clear HCK HL hb4 fb4 c74
   go_wp2
   have q2:CBox w.heap.size #[.int .i64 0, .int .i64 110] 44 (((w4.setCell ⟨w.heap.size,0,none⟩ (.int .i64 0)).setCell ⟨w.heap.size,1,none⟩ (.int .i64 110))):=(uQ HF4).two _ _
   obtain ⟨z0,z1⟩:=q1m q2
   exact bodyPost_ret (v:= .tuple #[.slice none 0 0, .int .i64 0, .agg #[.int .i64 0, .int .i64 110]]) (by simp[results,Tryz.results115,go_sem,z0,z1]) rfl ⟨uQ HPB _,q2g (uQ HB) (Nat.le_refl _) _ _⟩
  ·have HPB:Hid (∀W,OwnsP w.heap.size W (.slice ad x.length cp) x->PsT l w.heap.size (psR l) (.returned (.tuple #[.slice ad x.length cp, .int .i64 (k:Int), .agg #[.int .i64 0, .int .i64 0]])) W):=hZq (fun W ho=>PsT.yes (uQ HPs) h0 hkl hq ho)
   rw[if_neg h0]at HCK
   generalize ckK x=ck at *
   clear h0
   go_wp2_with fail
   refine (uQ HCK).mono ?_
   rintro e w4 ⟨rfl,hb4⟩
   obtain ⟨⟨d72,d74⟩,fb4,HO,HB⟩:=uQ HL w4 hb4
   obtain ⟨f0,f1,fz0,fz1⟩:=fb4.cells
   have HF4:=hZq fb4
   clear HCK HL hb4 fb4 c74
   go_wp2
   have HO2:Hid (OwnsP w.heap.size (((w4.setCell ⟨w.heap.size,0,none⟩ (.int .i64 0)).setCell ⟨w.heap.size,1,none⟩ (.int .i64 0)).drew) (.slice ad x.length cp) x):=hZq (q02 (F:=[w.heap.size]) (W':=(w4.setCell ⟨w.heap.size,0,none⟩ (.int .i64 0)).setCell ⟨w.heap.size,1,none⟩ (.int .i64 0)) (uQ HO) ((Kp.set w4 w.heap.size 0 (.int .i64 0)).trans (Kp.set (w4.setCell ⟨w.heap.size,0,none⟩ (.int .i64 0)) w.heap.size 1 (.int .i64 0)) (by simp)) (fun g hg=>by have:=q0d (uQ HO) (uQ HF4) (by decide);rw[hg]at this;simp at this ⊢;exact this))
   go_region
   go_wp2
   have q2:CBox w.heap.size #[.int .i64 0, .int .i64 0] 44 (((w4.setCell ⟨w.heap.size,0,none⟩ (.int .i64 0)).setCell ⟨w.heap.size,1,none⟩ (.int .i64 0)).drew):=(uQ HF4).two _ _
   obtain ⟨z0,z1⟩:=q1m q2
   exact bodyPost_ret (v:= .tuple #[.slice ad x.length cp, .int .i64 (k:Int), .agg #[.int .i64 0, .int .i64 0]]) (by simp[results,Tryz.results115,go_sem,z0,z1]) rfl ⟨uQ HPB _ (uQ HO2),(q2g (uQ HB) (Nat.le_refl _) _ _).drew⟩
end Go.Proofs.YtcmjnlpofebbmaaGreatDoor
namespace Go.Proofs.YtcmjnlpofebbmaaGreatDoor
open Go.RowKit Go.Shelf
theorem OwnsP.one (w:World)(p:Pt):OwnsP w.heap.size (w.alloc (.cells (ptE p).toArray 166)) (.slice (some ⟨w.heap.size,0,none⟩) 1 1) [p]:=
 ⟨by simp[ptE],Or.inr ⟨w.heap.size,1,_,rfl,Nat.le_refl _,CBox.new w _ _,Nat.le_refl _,by unfold maxLen;omega,rfl,by simp[ptE]⟩⟩
open Go.RowKit Go.Shelf
theorem q3Z (s:ByteArray)(w:World)(hT:TbE w)(hs:s.size<=9223372036854775807):
  Calls Tryz.prog 70 #[.string s] w fun e w'=>e= .returned (.bool (isSg s))/\Below w.heap.size w w':=by
 have ho:=OwnsP.one w ⟨3,0,⟨#[]⟩,s,0⟩
 obtain ⟨a',c',e',hat,_⟩:=ho.at
 injection e' with e1 e2 e3
 subst e1 e3
 have CK:=hZq (q1D (some ⟨w.heap.size,0,none⟩) 1 [⟨3,0,⟨#[]⟩,s,0⟩] _ hat (hT.alloc _) (fun p hp=>by simp only[List.mem_singleton]at hp;subst hp;exact hs))
 have HB:=hZq ((Below.refl w.heap.size w).alloc (Nat.le_refl _) (.cells (ptE ⟨3,0,⟨#[]⟩,s,0⟩).toArray 166))
 have hN:=qcV s
 have g1:=q14 s
 have g2:=q1O s
 rw[hN]
 unfold ptE at CK HB
 dsimp only at CK HB
 rw[List.length_singleton]at CK
 clear ho hat e2 hN hT
 generalize (if ckK [⟨3,0,⟨#[]⟩,s,0⟩]=0 then (110:Int) else 0)=EC at *
 generalize ckK [⟨3,0,⟨#[]⟩,s,0⟩]=KC at *
 generalize q05 s=ES at *
 cases ES with
 |true=>
  rw[Bool.not_true,Bool.false_and]
  go_enter Tryz.func70,Tryz.ntmps70
  go_wp2_with fail
  refine (uQ CK).mono ?_
  rintro e w1 ⟨rfl,hb1⟩
  have HB1:=hZq ((uQ HB).trans (hb1.mono (uQ HB).size))
  clear CK hb1 HB
  go_wp2
  go_ret
  exact ⟨rfl,uQ HB1⟩
 |false=>
  rw[Bool.not_false,Bool.true_and]
  go_enter Tryz.func70,Tryz.ntmps70
  go_wp2_with fail
  refine (uQ CK).mono ?_
  rintro e w1 ⟨rfl,hb1⟩
  have HB1:=hZq ((uQ HB).trans (hb1.mono (uQ HB).size))
  clear CK hb1 HB
  go_wp2
  go_ret
  exact ⟨rfl,uQ HB1⟩
theorem qa9 {l:List ByteArray}{f:ByteArray->Bool}{k:Nat}(h:(l.take k).all f=true)(hk:k<l.length)(hf:f l[k]=true):(l.take (k+1)).all f=true:=by
 rw[List.take_succ_eq_append_getElem hk,List.all_append,h]
 simp[hf]
theorem q8H {l:List ByteArray}{f:ByteArray->Bool}{k:Nat}(hk:k<l.length)(hf:f l[k]=false):l.all f=false:=by
 rw[List.all_eq_false]
 exact ⟨l[k],List.getElem_mem _,by rw[hf];simp⟩
theorem q8h (ad aa:Option Addr)(cap ca:Nat)(xs:List Pt)(ah:List ByteArray)(w:World)(hc:PtsAt w ad xs)(hn:NmsAt w aa ah)(hl:ah.length<=9223372036854775807)(hT:TbE w)(hfit: ∀p∈xs,p.fit):
  Calls Tryz.prog 72 #[.slice ad xs.length cap, .slice aa ah.length ca] w fun e w'=>e= .returned (.bool (cdOk xs ah))/\Below w.heap.size w w':=by
 have CK:=hZq (q1D ad cap xs w hc hT hfit)
 unfold cdOk
 by_cases h3:ckK xs=3
 ·have h0:(if ckK xs=0 then (110:Int) else 0)=0:=if_neg (by rw[h3];decide)
  have ST:=hZq (fun W (hb:Below w.heap.size w W)=>q4b ad cap xs W (hc.kp (Kp.ofBelow hb)) (hT.blw hb) hfit)
  rw[h0]at ST CK
  rw[h3]at CK
  rw[decide_eq_true h3,Bool.true_and]
  have hsl:=q3O xs
  have HN:=hZq hn
  clear h0 h3 hc hT hfit hn
  generalize stgS xs=L at *
  have HAT:=hZq (fun k (hk:k<L.length) (h:(L.take k).all (hasN ah)=true) (hf:hasN ah L[k]=true)=>qa9 h hk hf)
  have HAF:=hZq (fun k (hk:k<L.length) (hf:hasN ah L[k]=false)=>q8H (f:=hasN ah) hk hf)
  have HAE:Hid ((L.take L.length).all (hasN ah)=true->L.all (hasN ah)=true):=hZq (fun h=>by rwa [List.take_length]at h)
  obtain ⟨R,hR⟩: ∃R,L.all (hasN ah)=R:=⟨_,rfl⟩
  rw[hR]at HAF HAE ⊢
  clear hR
  go_enter Tryz.func72,Tryz.ntmps72
  go_wp2_with fail
  refine (uQ CK).mono ?_
  rintro e w1 ⟨rfl,hb1⟩
  have ST1:=hZq (uQ ST w1 hb1)
  have HB1:=hZq hb1
  clear CK hb1 ST
  go_wp2_with fail
  refine (uQ ST1).mono ?_
  rintro e w2 ⟨v,rfl,ho,hb2⟩
  obtain ⟨a2,c2,rfl,hn2,_⟩:=ho.at
  have HN2:=hZq hn2
  have HB2:=hZq ((uQ HB1).trans (hb2.mono (uQ HB1).size))
  have HNA:=hZq ((uQ HN).kp (Kp.ofBelow (uQ HB2)) (by simp))
  obtain ⟨n,hn⟩: ∃n,L.length=n:=⟨_,rfl⟩
  have HNL:=hZq hn
  rw[hn]at hsl HAE ⊢
  clear ST1 hb2 ho hn2 HB1 HN hn
  go_wp2_with fail
  go_loopw [25] (fun i wr=> ∃k:Nat,k<=n/\i= .int .i64 (k:Int)/\wr=w2/\Hid ((L.take k).all (hasN ah)=true)) (fun i _=>n-(intOf i).toNat)
  case atStart=>exact ⟨0,Nat.zero_le _,rfl,rfl,hZq (by simp)⟩
  case round=>
   obtain ⟨k,hk,rfl,hwr,HK⟩:=hrel
   subst hwr
   by_cases hlt:k<n
   ·have hkl:k<L.length:=by rw[uQ HNL];exact hlt
    have hne:L≠[]:=fun e=>by rw[e]at hkl;simp at hkl
    obtain ⟨b,off,rfl,_,hc2⟩:=uQ HN2 hne
    have cj:=hc2 k hkl
    have hli:(k:Int)<(n:Int):=by omega
    have HX:=hZq (uQ HAT k hkl (uQ HK))
    have HY:=hZq (uQ HAF k hkl)
    clear hc2 hne HAT HAF HAE HK
    generalize L[k]=s at *
    have CT:=hZq (q1p aa ca ah s _ hl (uQ HNA))
    cases hH:hasN ah s with
    |true=>
     rw[hH]at CT
     have HX2:=hZq (uQ HX hH)
     clear HX HY hH
     go_wp2_with fail
     refine (uQ CT).mono ?_
     rintro e w4 ⟨rfl,rfl⟩
     clear CT
     go_wp2
     go_roundw
     case rel=>exact ⟨k+1,by omega,by go_num,by first|trivial|rfl,HX2⟩
     case measure=>simp[intOf];omega
    |false=>
     rw[hH]at CT
     obtain rfl:=uQ HY hH
     clear HX HY hH
     go_wp2_with fail
     refine (uQ CT).mono ?_
     rintro e w4 ⟨rfl,rfl⟩
     clear CT
     go_wp2
     go_ret
     exact ⟨rfl,uQ HB2⟩
   ·obtain rfl:k=n:=by omega
    obtain rfl:=uQ HAE (uQ HK)
    clear HAT HAF HAE
    go_wp2
    go_ret
    exact ⟨rfl,uQ HB2⟩
 ·rw[decide_eq_false h3,Bool.false_and]
  have g3:(ckK xs==3)=false:=beq_eq_false_iff_ne.2 h3
  clear hc hT hfit hn h3
  generalize (if ckK xs=0 then (110:Int) else 0)=EC at *
  generalize ckK xs=ck at *
  go_enter Tryz.func72,Tryz.ntmps72
  go_wp2_with fail
  refine (uQ CK).mono ?_
  rintro e w1 ⟨rfl,hb1⟩
  clear CK
  go_wp2
  go_ret
  exact ⟨rfl,hb1⟩
def stV (s:Stg)(ad:Option Addr)(c:Nat):Array Value:=#[.string s.nm, .int .i64 s.hw, .bool s.mn, .slice ad s.cd.length c]
theorem box4 {w W:World}{a b c d:Value}{t:TypeId}(hk:Kp [] (w.alloc (.cells #[a,b,c,d] t)) W):W.cell? ⟨w.heap.size,0,none⟩=some a/\W.cell? ⟨w.heap.size,1,none⟩=some b/\W.cell? ⟨w.heap.size,3,none⟩=some d:=by
 have h:=(CBox.new w #[a,b,c,d] t).kp hk (by simp)
 exact ⟨h.cell rfl,h.cell rfl,h.cell rfl⟩
theorem q5i (s:Stg)(ad aa:Option Addr)(c ca:Nat)(ah:List ByteArray)(w:World)(hc:PtsAt w ad s.cd)(hn:NmsAt w aa ah)(hl:ah.length<=9223372036854775807)(hT:TbE w)(hfit: ∀p∈s.cd,p.fit)(hs:s.nm.size<=9223372036854775807):
  Calls Tryz.prog 36 #[.agg (stV s ad c), .slice aa ah.length ca] w fun e w'=>e= .returned (.bool (stOk s ah))/\Below w.heap.size w w':=by
 obtain ⟨nm,hw,mn,cd⟩:=s
 unfold stV stOk
 dsimp only at *
 have k0:=Kp.alloc w (.cells #[.string nm, .int .i64 hw, .bool mn, .slice ad cd.length c] 86)
 have b0:=(Below.refl w.heap.size w).alloc (Nat.le_refl _) (.cells #[.string nm, .int .i64 hw, .bool mn, .slice ad cd.length c] 86)
 have IN:=hZq (q3Z nm _ (hT.alloc (.cells #[.string nm, .int .i64 hw, .bool mn, .slice ad cd.length c] 86)) hs)
 have HW:Hid (∀W,Kp [] (w.alloc (.cells #[.string nm, .int .i64 hw, .bool mn, .slice ad cd.length c] 86)) W->(W.cell? ⟨w.heap.size,0,none⟩=some (.string nm)/\W.cell? ⟨w.heap.size,1,none⟩=some (.int .i64 hw)/\W.cell? ⟨w.heap.size,3,none⟩=some (.slice ad cd.length c))/\Hid (Below w.heap.size w W)/\Hid (PtsAt W ad cd)/\Hid (NmsAt W aa ah)/\Hid (TbE W)):=hZq (fun W hk=>⟨box4 hk,hZq ((k0.trans hk (by simp)).below (Nat.le_refl _) (by simp)),hZq ((hc.kp k0).kp hk),hZq ((hn.kp k0 (by simp)).kp hk (by simp)),hZq ((hT.kp k0 (by simp)).kp hk (by simp))⟩)
 have HFIT:=hZq hfit
 obtain ⟨v0,v1,v3⟩:=(uQ HW _ (Kp.refl _ _)).1
 obtain ⟨R,hR⟩: ∃R,(isSg nm && (!hasN ah nm && (hwOk hw ah.length && cdOk cd ah)))=R:=⟨_,rfl⟩
 rw[hR]
 have HR:Hid (R=(isSg nm && (!hasN ah nm && (hwOk hw ah.length && cdOk cd ah)))):=hZq hR.symm
 clear k0 b0 hc hn hT hfit hs hR
 have eh:(hw==0)=decide (hw=0):=rfl
 have el:((ah.length:Int)==0)=decide (ah.length=0):=by
  by_cases h:ah.length=0 <;> simp[h]
 go_enter Tryz.func36,Tryz.ntmps36
 go_wp2_with fail
 refine (uQ IN).mono ?_
 rintro e w1 ⟨rfl,hb1⟩
 have HK1:=hZq (Kp.ofBelow hb1)
 obtain ⟨⟨u0,u1,u3⟩,HB1,HP1,HN1,HT1⟩:=uQ HW w1 (uQ HK1)
 clear IN hb1 v0 v1 v3
 have CT:=hZq (q1p aa ca ah nm w1 hl (uQ HN1))
 have IC:=hZq (q8h ad aa c ca cd ah w1 (uQ HP1) (uQ HN1) hl (uQ HT1) (uQ HFIT))
 clear HN1 HP1 HT1 HFIT HW HK1
 generalize isSg nm=SN at *
 generalize hasN ah nm=HH at *
 generalize cdOk cd ah=CD at *
 cases SN with
 |false=>
  obtain rfl:R=false:=by rw[uQ HR];rfl
  clear HR
  go_wp2
  go_ret
  exact ⟨rfl,uQ HB1⟩
 |true=>
  cases HH with
  |true=>
   obtain rfl:R=false:=by rw[uQ HR];rfl
   clear HR
   go_wp2_with fail
   refine (uQ CT).mono ?_
   rintro e w2 ⟨rfl,rfl⟩
   clear CT
   go_wp2
   go_ret
   exact ⟨rfl,uQ HB1⟩
  |false=>
   unfold hwOk at HR
   by_cases h0:hw<0
   ·have gd:decide (0<=hw)=false:=decide_eq_false (by omega)
    obtain rfl:R=false:=by rw[uQ HR,gd];rfl
    have g0:(hw<0)=True:=by simp;omega
    clear gd IC HR
    go_wp2_with fail
    refine (uQ CT).mono ?_
    rintro e w2 ⟨rfl,rfl⟩
    clear CT
    go_wp2
    go_ret
    exact ⟨rfl,uQ HB1⟩
   ·have gd:decide (0<=hw)=true:=decide_eq_true (by omega)
    have g0:(hw<0)=False:=by simp;omega
    by_cases h3:3<hw
    ·have gd3:decide (hw<=3)=false:=decide_eq_false (by omega)
     obtain rfl:R=false:=by rw[uQ HR,gd,gd3];rfl
     have g3:((3:Int)<hw)=True:=by simp;omega
     clear gd gd3 IC HR
     go_wp2_with fail
     refine (uQ CT).mono ?_
     rintro e w2 ⟨rfl,rfl⟩
     clear CT
     go_wp2
     go_ret
     exact ⟨rfl,uQ HB1⟩
    ·have gd3:decide (hw<=3)=true:=decide_eq_true (by omega)
     have g3:((3:Int)<hw)=False:=by simp;omega
     have HR2:Hid (R=((decide (hw=0)==decide (ah.length=0)) && CD)):=hZq (by rw[uQ HR,gd,gd3];rfl)
     clear gd gd3 h0 h3 HR
     generalize decide (hw=0)=X at *
     generalize decide (ah.length=0)=Y at *
     by_cases hXY:X=Y
     ·subst hXY
      obtain rfl:R=CD:=by rw[uQ HR2];cases X <;> rfl
      clear HR2
      cases X
      all_goals
       go_wp2_with fail
       refine (uQ CT).mono ?_
       rintro e w2 ⟨rfl,rfl⟩
       clear CT
       go_wp2_with fail
       refine (uQ IC).mono ?_
       rintro e w3 ⟨rfl,hb3⟩
       have HB3:=hZq ((uQ HB1).trans (hb3.mono (uQ HB1).size))
       clear IC hb3
       go_wp2
       go_ret
       exact ⟨rfl,uQ HB3⟩
     ·obtain rfl:R=false:=by rw[uQ HR2];revert hXY;cases X <;> cases Y <;> simp
      clear HR2 IC
      cases X <;> cases Y
      all_goals
       first
        |exact absurd rfl hXY
        |(clear hXY
          go_wp2_with fail
          refine (uQ CT).mono ?_
          rintro e w2 ⟨rfl,rfl⟩
          clear CT
          go_wp2
          go_ret
          try exact ⟨rfl,uQ HB1⟩)
end Go.Proofs.YtcmjnlpofebbmaaGreatDoor
