/-
  Walks and plain facts, made small.
-/
import Derived.Test.YtcmjnlpofebbmaaGreatDoorMa25
import Derived.Deep.RegionHeld
set_option maxRecDepth 100000
set_option maxHeartbeats 8000000
set_option linter.unusedSimpArgs false
namespace Go.Proofs.YtcmjnlpofebbmaaGreatDoor
open Go.RowKit Go.Shelf
theorem q8u {gr:Nat}{tk:Value}{l:List Tk}{k n:Nat}{sv:Value}{wi:Int}{rs:List SR}{W:World}(h:PB gr tk l k sv wi 0 0 W)(hk:k<l.length)(hL:Tail (l.drop k) n)(hG:OwnsG (gr+1) W sv rs)(hrs:rs.length<=8):
  Calls Tryz.prog 34 #[.pointer (some ⟨gr,0,none⟩)] W (StT gr tk l n sv wi rs W (stgR (l.drop k))):=by
 have ht0:=q06 hk
 cases hQ:hwOf (wdT l[k])with
 |none=>
  refine q8v h hk hQ _ ?_
  unfold stgR
  rw[ht0]
  simp only[wdL]
  rw[hQ]
 |some q=>
  obtain ⟨hk1,hL1,_⟩:=hL.step ht0 (qeu (by rw[hQ];rfl))
  have ht1:=q06 hk1
  have hR:stgR (l.drop k)=nmR q (l.drop (k+1)):=by
   unfold stgR
   rw[ht0]
   simp only[wdL,List.drop_one,List.tail_cons]
   rw[hQ]
  rw[hR]
  by_cases hS:isSg (wdS l[k+1])=true
  ·obtain ⟨hk2,hL2,_⟩:=hL1.step ht1 (qeI hS)
   refine q71 h hk q hQ hk1 hS hk2 hL2 _ ?_ hG hrs
   unfold nmR
   rw[ht1]
   simp only[wdM,List.drop_one,List.tail_cons]
   rw[if_pos hS]
  ·refine q70 h hk q hQ hk1 (by simpa using hS) _ ?_
   unfold nmR
   rw[ht1]
   simp only[wdM]
   exact if_neg hS
def PtT (gr:Nat)(tk:Value)(l:List Tk)(W:World)(P:PRd)(e:Ending)(w':World):Prop:=Below gr W w'/\match P with
 | .bad a c=>e= .returned (.bool false)/\ ∃k' sv wi A C,PB gr tk l k' sv wi A C w'/\k'<l.length/\((C≠0/\a=A/\c=C)\/(C=0/\a=hdPl (l.drop k')/\c=120))
 | .good p=>e= .returned (.bool true)/\ ∃k' sv rs,PB gr tk l k' sv p.wi 0 0 w'/\OwnsG (gr+1) w' sv rs/\stgs rs=p.ss
theorem PtT.bad {gr:Nat}{tk:Value}{l:List Tk}{sv:Value}{wi:Int}{W w':World}{P:PRd}{k':Nat}(h:PB gr tk l k' sv wi 0 0 w')(hk:k'<l.length)(hB:Below gr W w')(hP:P= .bad (hdPl (l.drop k')) 120):PtT gr tk l W P (.returned (.bool false)) w':=by
 subst hP
 exact ⟨hB,rfl,k',sv,wi,0,0,h,hk,Or.inr ⟨rfl,rfl,rfl⟩⟩
theorem PtT.st {gr:Nat}{tk:Value}{l:List Tk}{n:Nat}{sv:Value}{wi:Int}{rs:List SR}{W V w':World}{P:PRd}{a c:Int}{e:Ending}(h:StT gr tk l n sv wi rs V (.bad a c) e w')(hB:Below gr W V)(hV:gr<V.heap.size)(hP:P= .bad a c):PtT gr tk l W P e w'/\e= .returned (.bool false):=by
 obtain ⟨he,k',A,C,h1,h2,h3,h4⟩:=h
 subst hP
 exact ⟨⟨hB.trans (h4.below (by omega) (by simp)),he,k',sv,wi,A,C,h1,h2,h3⟩,he⟩
def lenAt (g:Nat)(W:World):Nat:=match W.cell? ⟨g,2,none⟩with
 |some (.slice _ n _)=>n
 |_=>0
theorem PB.lenAt {gr:Nat}{tk:Value}{l:List Tk}{k:Nat}{sva:Option Addr}{n svc:Nat}{wi rA rC:Int}{W:World}(h:PB gr tk l k (.slice sva n svc) wi rA rC W):Go.Proofs.YtcmjnlpofebbmaaGreatDoor.lenAt gr W=n:=by
 unfold Go.Proofs.YtcmjnlpofebbmaaGreatDoor.lenAt
 rw[h.cells.2.2.1]
theorem qbu (rs:List SR)(r:SR):stgs (rs++[r])=stgs rs++[r.s]:=by unfold stgs;rw[List.map_append];rfl
theorem qbc {f:Nat}{acc:List Stg}{l:List Tk}(h1:wdL l≠witW)(h2:acc.length≠8):ptR (f+1) acc l=match stgR l with| .bad a c=> .bad a c| .good s r=>ptR f (acc++[s]) r:=by
 rw[ptR,if_neg h1,if_neg h2]
 cases stgR l <;> rfl
theorem qex {l:List Tk}{k:Nat}(h:k<l.length):hdKd (l.drop k)=l[k].kd:=by rw[q06 h];rfl
theorem qeC {l:List Tk}{k:Nat}(h:k<l.length):hdPl (l.drop k)=l[k].pl:=by rw[q06 h];rfl
theorem q6i {gr:Nat}{tk:Value}{l:List Tk}{n:Nat}{W:World}(h:PB gr tk l 0 (.slice none 0 0) 0 0 0 W)(hL:Tail l n):
  Calls Tryz.prog 17 #[.pointer (some ⟨gr,0,none⟩)] W (PtT gr tk l W (ptR 9 [] l)):=by
 have hl0:0<l.length:=by
  have:=hL.endd.ne
  exact List.length_pos_iff.2 this
 obtain ⟨P,hP⟩: ∃P,ptR 9 [] l=P:=⟨_,rfl⟩
 rw[hP]
 have HP:=hZq hP
 have H0:=hZq h
 have HL0:=hZq hL
 have hGr:=h.lt
 have ewit:(⟨#[119,105,116,104,105,110]⟩:ByteArray).data.toList=witW:=rfl
 have HSK:Hid (∀k (hk:k<l.length) sv W1,PB gr tk l k sv 0 0 0 W1->Calls Tryz.prog 33 #[.pointer (some ⟨gr,0,none⟩), .string ⟨#[119,105,116,104,105,110]⟩] W1 fun e w'=>e= .returned (.bool (decide (wdT l[k]=witW)))/\PB gr tk l (if wdT l[k]=witW then k+1 else k) sv 0 0 0 w'/\Kp [gr] W1 w'):=hZq (fun k hk sv W1 hp=>q2c hp (q06 hk) ⟨#[119,105,116,104,105,110]⟩)
 clear h hP ewit hL
 go_enter Tryz.func17,Tryz.ntmps17
 go_wp2_with fail
 go_loopw [] (fun wr=> ∃(k:Nat) (rs:List SR) (sva:Option Addr) (svc NR:Nat),NR=rs.length/\NR<=8/\k<l.length/\Hid (PB gr tk l k (.slice sva NR svc) 0 0 0 wr/\OwnsG (gr+1) wr (.slice sva NR svc) rs/\Tail (l.drop k) n/\Below gr W wr/\ptR (9-NR) (stgs rs) (l.drop k)=P)) (fun wr=>9-lenAt gr wr)
 case atStart=>exact ⟨0,[],none,0,0,rfl,by omega,hl0,hZq ⟨uQ H0,OwnsG.nil _ _,by simpa using uQ HL0,Below.refl _ _,uQ HP⟩⟩
 case round=>
  obtain ⟨k,rs,sva,svc,NR,hNR,hN8,hk,HI⟩:=hrel
  obtain ⟨hp,hG,hT,hB,hPt⟩:=uQ HI
  have S1:=hZq (uQ HSK k hk _ _ hp)
  have HG:=hZq hG
  have HT:=hZq hT
  have HB:=hZq hB
  have HPT:=hZq hPt
  have HNR:=hZq hNR
  have hlen:=hp.len
  have hGw:=hp.lt
  have hlA:=hp.lenAt
  have HLA:=hZq hlA
  clear HI hp hG hT hB hPt hNR H0 HL0 HP hlA HSK
  by_cases hw:wdT l[k]=witW
  ·rw[hw]at S1
   simp only[decide_true,if_true]at S1
   obtain ⟨hk1,hT1,_⟩:=(uQ HT).step (q06 hk) (q0Q (by rw[hw];decide))
   have HP2:Hid (P=nbR (stgs rs) (l.drop (k+1))):=hZq (by
    obtain ⟨f,hf⟩: ∃f,9-NR=f+1:=⟨8-NR,by omega⟩
    rw[<-uQ HPT,hf,ptR,q06 hk]
    simp only[wdL,List.drop_one,List.tail_cons]
    exact if_pos hw)
   have HNB:=hZq (fun W1 (hp:PB gr tk l (k+1) (.slice sva NR svc) 0 0 0 W1)=>q6Z hp (q06 hk1))
   clear hw HPT HLA
   go_wp2_with fail
   refine (uQ S1).mono ?_
   rintro e w1 ⟨rfl,hp1,hkp1⟩
   have hB1:=(uQ HB).trans (hkp1.below (by omega) (by simp))
   have hG1:=(uQ HG).kp hkp1 (by simp)
   have HG1:=hZq hG1
   have HB1:=hZq hB1
   have N1:=hZq (uQ HNB w1.drew (hp1.kp (Kp.drew w1) (by simp)))
   have HP1:=hZq hp1
   have hGw1:=hp1.lt
   clear S1 hp1 hkp1 hB1 hG1 HNB HG HB
   by_cases h2:l[k+1].kd=2
   ·rw[h2]at N1
    simp only[decide_true,if_true]at N1
    obtain ⟨hk2,hT2,_⟩:=hT1.step (q06 hk1) (by rw[h2];decide)
    have HP3:Hid (P=if l[k+1+1].kd=0 then .good ⟨stgs rs,if 257<l[k+1].n then 257 else l[k+1].n⟩ else .bad (hdPl (l.drop (k+1+1))) 120):=hZq (by
     rw[uQ HP2,q06 hk1,nbR,if_pos h2,qex hk2])
    generalize (if 257<l[k+1].n then (257:Int) else l[k+1].n)=WI at *
    have HCE:Hid (∀w2,PB gr tk l (k+1+1) (.slice sva NR svc) WI 0 0 w2->Kp [gr] w1.drew w2-> ∃b off c,tk= .slice (some ⟨b,off,none⟩) l.length c/\w2.cell? ⟨gr,0,none⟩=some tk/\w2.cell? ⟨gr,1,none⟩=some (.int .i64 ((k:Int)+1+1))/\w2.cell? ⟨b,off+(k+1+1) * 4,none⟩=some (.int .i64 l[k+1+1].kd)/\Hid (PtT gr tk l W P (.returned (.bool (decide (l[k+1+1].kd=0)))) w2)):=hZq (fun w2 hp2 hkp2=>by
     obtain ⟨b,off,c,e,hlt2,hc2⟩:=hp2.tks
     obtain ⟨x0,x1,_⟩:=hp2.cells
     refine ⟨b,off,c,e,x0,by rw[x1];simp,(hc2 (k+1+1) hk2).1,hZq ?_⟩
     have hB2:=((uQ HB1).trans ((Kp.drew w1).below (by omega) (by simp))).trans (hkp2.below (by show gr<=w1.heap.size;omega) (by simp))
     have hG2:=((uQ HG1).kp (Kp.drew w1) (by simp)).kp hkp2 (by simp)
     by_cases h0:l[k+1+1].kd=0
     ·rw[uQ HP3,if_pos h0,decide_eq_true h0]
      exact ⟨hB2,rfl,k+1+1,_,rs,hp2,hG2,rfl⟩
     ·rw[uQ HP3,if_neg h0,decide_eq_false h0]
      exact PtT.bad hp2 hk2 hB2 rfl)
    have hk2i:((k:Int)+1+1)<(l.length:Int):=by omega
    clear HP2 h2 hT1 HP3 HG1 HB1 HP1 hT2
    generalize l[k+1+1].kd=KD at *
    go_wp2_with fail
    go_region_with (go_at_call 35;refine (uQ N1).mono ?_;rintro e w2 ⟨rfl,hp2,hkp2⟩;obtain ⟨b,off,c,rfl,x0,x1,x2,HF⟩:=uQ HCE w2 hp2 hkp2;clear hp2 hkp2)
    all_goals
     go_wp2
     refine bodyPost_ret (results_tmp rfl _ _ _) rfl ?_
     exact uQ HF
   ·have hN2:P= .bad (hdPl (l.drop (k+1))) 120:=by
     rw[uQ HP2,q06 hk1,nbR,if_neg h2]
    rw[decide_eq_false h2,if_neg h2,if_neg h2]at N1
    have HCE:Hid (∀w2,PB gr tk l (k+1) (.slice sva NR svc) 0 0 0 w2->Kp [gr] w1.drew w2->PtT gr tk l W P (.returned (.bool false)) w2):=hZq (fun w2 hp2 hkp2=>PtT.bad hp2 hk1 (((uQ HB1).trans ((Kp.drew w1).below (by omega) (by simp))).trans (hkp2.below (by show gr<=w1.heap.size;omega) (by simp))) hN2)
    clear HP2 h2 hT1 hN2 HG1 HB1 HP1
    go_wp2_with fail
    refine wp_region_held_drew (S:=fun _=>True) (by kernel_rfl) trivial (fun hHeld=>?_)
    show wpAnyH _ _ _ _ _ 17 (Array.replicate 17 false) _ _
    refine wpAnyH_take (i:=0) (oi:=⟨some 18,Op.move (.tmp 0),81,"read.go:30",#[],none⟩) (v:=?_) rfl (by kernel_rfl) (by kernel_rfl) (by kernel_rfl) (fun _ _ _ h=>h) (Or.inl ⟨by rfl,?_⟩) trivial ?_
    rotate_left 1
    ·intro w0 hSw
     go_simp
     (try with_reducible rfl)
    try simp only[Act.put,zz1,zz2,zz3]
    refine wpAnyH_ready (rs:=[1]) (by kernel_rfl) (by simp) ?_
    refine AllReadyH.cons (o:=⟨some 19,Op.call { callee:= .value (.func 35),args:=#[.tmp 18],argTypes:=#[81] },4,"read.go:30",#[⟨0, .data⟩],none⟩) rfl (fun K hK=>?_) AllReadyH.nil
    go_simp
    go_at_call 35
    refine (uQ N1).mono ?_
    rintro e w2 ⟨rfl,hp2,hkp2⟩
    have HF:=hZq (uQ HCE w2 hp2 hkp2)
    clear hp2 hkp2
    refine hK.out _ _ trivial (fun hHeld=>?_)
    clear hK K
    try simp only[Act.put,zz1,zz2,zz3]
    refine wpAnyH_take (i:=2) (oi:=⟨some 20,Op.move (.tmp 19),4,"read.go:30",#[⟨1, .data⟩,⟨1, .chain⟩],none⟩) (v:=?_) rfl (by kernel_rfl) (by kernel_rfl) (by kernel_rfl) (fun _ _ _ h=>h) (Or.inl ⟨by rfl,?_⟩) trivial ?_
    rotate_left 1
    ·intro w0 hSw
     go_simp
     (try with_reducible rfl)
    try simp only[Act.put,zz1,zz2,zz3]
    refine wpAnyH_take (i:=3) (oi:=⟨some 21,Op.move (.tmp 0),81,"read.go:30",#[⟨2, .guard⟩],some (2,true)⟩) (v:=undef) rfl (by kernel_rfl) (by kernel_rfl) (by kernel_rfl) (fun _ _ _ h=>h) (Or.inr ⟨by rfl,rfl⟩) trivial ?_
    try simp only[Act.put,zz1,zz2,zz3]
    refine wpAnyH_take (i:=4) (oi:=⟨some 22,Op.nilCheck (.tmp 21),0,"read.go:30",#[⟨3, .data⟩,⟨2, .guard⟩],some (2,true)⟩) (v:=undef) rfl (by kernel_rfl) (by kernel_rfl) (by kernel_rfl) (fun _ _ _ h=>h) (Or.inr ⟨by rfl,rfl⟩) trivial ?_
    try simp only[Act.put,zz1,zz2,zz3]
    refine wpAnyH_take (i:=5) (oi:=⟨some 23,Op.fieldAddr 61 (.tmp 22) 0,0,"read.go:30",#[⟨4, .data⟩,⟨2, .guard⟩],some (2,true)⟩) (v:=undef) rfl (by kernel_rfl) (by kernel_rfl) (by kernel_rfl) (fun _ _ _ h=>h) (Or.inr ⟨by rfl,rfl⟩) trivial ?_
    try simp only[Act.put,zz1,zz2,zz3]
    refine wpAnyH_take (i:=6) (oi:=⟨some 24,Op.load 57 (.tmp 23),57,"read.go:30",#[⟨5, .data⟩,⟨2, .guard⟩],some (2,true)⟩) (v:=undef) rfl (by kernel_rfl) (by kernel_rfl) (by kernel_rfl) (fun _ _ _ h=>h) (Or.inr ⟨by rfl,rfl⟩) trivial ?_
    try simp only[Act.put,zz1,zz2,zz3]
    refine wpAnyH_take (i:=7) (oi:=⟨some 25,Op.move (.tmp 0),81,"read.go:30",#[⟨2, .guard⟩],some (2,true)⟩) (v:=undef) rfl (by kernel_rfl) (by kernel_rfl) (by kernel_rfl) (fun _ _ _ h=>h) (Or.inr ⟨by rfl,rfl⟩) trivial ?_
    try simp only[Act.put,zz1,zz2,zz3]
    refine wpAnyH_take (i:=8) (oi:=⟨some 26,Op.nilCheck (.tmp 25),0,"read.go:30",#[⟨7, .data⟩,⟨2, .guard⟩],some (2,true)⟩) (v:=undef) rfl (by kernel_rfl) (by kernel_rfl) (by kernel_rfl) (fun _ _ _ h=>h) (Or.inr ⟨by rfl,rfl⟩) trivial ?_
    try simp only[Act.put,zz1,zz2,zz3]
    refine wpAnyH_take (i:=9) (oi:=⟨some 27,Op.fieldAddr 61 (.tmp 26) 1,0,"read.go:30",#[⟨8, .data⟩,⟨2, .guard⟩],some (2,true)⟩) (v:=undef) rfl (by kernel_rfl) (by kernel_rfl) (by kernel_rfl) (fun _ _ _ h=>h) (Or.inr ⟨by rfl,rfl⟩) trivial ?_
    try simp only[Act.put,zz1,zz2,zz3]
    refine wpAnyH_take (i:=10) (oi:=⟨some 28,Op.load 3 (.tmp 27),3,"read.go:30",#[⟨9, .data⟩,⟨2, .guard⟩],some (2,true)⟩) (v:=undef) rfl (by kernel_rfl) (by kernel_rfl) (by kernel_rfl) (fun _ _ _ h=>h) (Or.inr ⟨by rfl,rfl⟩) trivial ?_
    try simp only[Act.put,zz1,zz2,zz3]
    refine wpAnyH_take (i:=11) (oi:=⟨some 29,Op.indexAddr 57 (.tmp 24) (.tmp 28),0,"read.go:30",#[⟨6, .data⟩,⟨10, .data⟩,⟨2, .guard⟩],some (2,true)⟩) (v:=undef) rfl (by kernel_rfl) (by kernel_rfl) (by kernel_rfl) (fun _ _ _ h=>h) (Or.inr ⟨by rfl,rfl⟩) trivial ?_
    try simp only[Act.put,zz1,zz2,zz3]
    refine wpAnyH_take (i:=12) (oi:=⟨some 30,Op.fieldAddr 78 (.tmp 29) 0,0,"read.go:30",#[⟨11, .data⟩,⟨2, .guard⟩],some (2,true)⟩) (v:=undef) rfl (by kernel_rfl) (by kernel_rfl) (by kernel_rfl) (fun _ _ _ h=>h) (Or.inr ⟨by rfl,rfl⟩) trivial ?_
    try simp only[Act.put,zz1,zz2,zz3]
    refine wpAnyH_take (i:=13) (oi:=⟨some 31,Op.load 3 (.tmp 30),3,"read.go:30",#[⟨12, .data⟩,⟨2, .guard⟩],some (2,true)⟩) (v:=undef) rfl (by kernel_rfl) (by kernel_rfl) (by kernel_rfl) (fun _ _ _ h=>h) (Or.inr ⟨by rfl,rfl⟩) trivial ?_
    try simp only[Act.put,zz1,zz2,zz3]
    refine wpAnyH_take (i:=14) (oi:=⟨some 32,Op.binOp BinOp.eql 3 (.tmp 31) (.const (Value.int IntKind.i64 0)) 3,4,"read.go:30",#[⟨13, .data⟩,⟨2, .guard⟩],some (2,true)⟩) (v:=undef) rfl (by kernel_rfl) (by kernel_rfl) (by kernel_rfl) (fun _ _ _ h=>h) (Or.inr ⟨by rfl,rfl⟩) trivial ?_
    try simp only[Act.put,zz1,zz2,zz3]
    refine wpAnyH_take (i:=15) (oi:=⟨some 33,Op.pick (.tmp 20) (.tmp 32) (.const (Value.bool false)),4,"read.go:30",#[⟨2, .data⟩,⟨14, .data⟩],none⟩) (v:=?_) rfl (by kernel_rfl) (by kernel_rfl) (by kernel_rfl) (fun _ _ _ h=>h) (Or.inl ⟨by rfl,?_⟩) trivial ?_
    rotate_left 1
    ·intro w0 hSw
     go_simp
     (try with_reducible rfl)
    try simp only[Act.put,zz1,zz2,zz3]
    refine wpAnyH_take (i:=16) (oi:=⟨some 2,Op.assign (.tmp 33),4,"read.go:30",#[⟨15, .data⟩,⟨2, .chain⟩,⟨0, .phase⟩,⟨1, .phase⟩,⟨2, .phase⟩,⟨3, .phase⟩,⟨4, .phase⟩,⟨5, .phase⟩,⟨6, .phase⟩,⟨7, .phase⟩,⟨8, .phase⟩,⟨9, .phase⟩,⟨10, .phase⟩,⟨11, .phase⟩,⟨12, .phase⟩,⟨13, .phase⟩,⟨14, .phase⟩,⟨15, .phase⟩],none⟩) (v:=?_) rfl (by kernel_rfl) (by kernel_rfl) (by kernel_rfl) (fun _ _ _ h=>h) (Or.inl ⟨by rfl,?_⟩) trivial ?_
    rotate_left 1
    ·intro w0 hSw
     go_simp
     (try with_reducible rfl)
    try simp only[Act.put,zz1,zz2,zz3]
    refine wpAnyH_done (by kernel_rfl) ?_ _
    go_wp2
    refine bodyPost_ret (results_tmp rfl _ _ _) rfl ?_
    exact uQ HF
  ·rw[decide_eq_false hw,if_neg hw]at S1
   have hwl:wdL (l.drop k)≠witW:=by rw[q06 hk];exact hw
   by_cases h8:NR=8
   ·have HPb:Hid (P= .bad (hdPl (l.drop k)) 120):=hZq (by
     rw[<-uQ HPT,h8,ptR,if_neg hwl,if_pos (by rw[q03, <-uQ HNR];exact h8)])
    clear HPT
    subst h8
    go_wp2_with fail
    refine (uQ S1).mono ?_
    rintro e w1 ⟨rfl,hp1,hkp1⟩
    obtain ⟨_,_,c2,_⟩:=hp1.cells
    have hB1:=(uQ HB).trans (hkp1.below (by omega) (by simp))
    have HF:=hZq (PtT.bad hp1 hk hB1 (uQ HPb))
    have hGw1:=hp1.lt
    clear S1 hp1 hkp1 hB1 HB HG HT HPb
    go_wp2
    refine bodyPost_ret (results_tmp rfl _ _ _) rfl ?_
    exact uQ HF
   ·have g8:((NR:Int)==8)=false:=beq_eq_false_iff_ne.2 (by omega)
    have HST:Hid (∀W1,PB gr tk l k (.slice sva NR svc) 0 0 0 W1->OwnsG (gr+1) W1 (.slice sva NR svc) rs->Calls Tryz.prog 34 #[.pointer (some ⟨gr,0,none⟩)] W1 (StT gr tk l n (.slice sva NR svc) 0 rs W1 (stgR (l.drop k)))):=hZq (fun W1 hp hg=>q8u hp hk (uQ HT) hg (by rw[<-uQ HNR];omega))
    have HPn:Hid (P=match stgR (l.drop k)with| .bad a c=> .bad a c| .good s r=>ptR (8-NR) (stgs rs++[s]) r):=hZq (by
     obtain ⟨f,hf⟩: ∃f,9-NR=f+1:=⟨8-NR,by omega⟩
     rw[<-uQ HPT,hf,qbc hwl (by rw[q03, <-uQ HNR];exact h8),show f=8-NR by omega])
    clear HPT hw hwl
    go_wp2_with fail
    refine (uQ S1).mono ?_
    rintro e w1 ⟨rfl,hp1,hkp1⟩
    obtain ⟨_,_,c2,_⟩:=hp1.cells
    have HB1:=hZq ((uQ HB).trans (hkp1.below (by omega) (by simp)))
    have hGw1:=hp1.lt
    have T1:=hZq (uQ HST w1 hp1 ((uQ HG).kp hkp1 (by simp)))
    clear S1 hp1 hkp1 HB HG HT HST
    go_wp2_with fail
    refine (uQ T1).mono ?_
    rintro e w2 hst
    cases hsr:stgR (l.drop k)with
    |bad a c=>
     rw[hsr]at hst HPn
     obtain ⟨hF,rfl⟩:=PtT.st hst (uQ HB1) hGw1 (uQ HPn)
     have HF:=hZq hF
     clear hF hst T1 HPn HB1 c2
     go_wp2
     refine bodyPost_ret (results_tmp rfl _ _ _) rfl ?_
     exact uQ HF
    |good s r=>
     rw[hsr]at hst HPn
     dsimp only at HPn
     obtain ⟨rfl,k',sv',ad,cp,hp2,hk2,hT2,hd2,hG2,hB2⟩:=hst
     obtain ⟨a2,c2',rfl,_⟩:=hG2.at
     have HI2:Hid (PB gr tk l k' (.slice a2 (NR+1) c2') 0 0 0 w2/\OwnsG (gr+1) w2 (.slice a2 (NR+1) c2') (rs++[⟨s,ad,cp⟩])/\Tail (l.drop k') n/\Below gr W w2/\ptR (9-(NR+1)) (stgs (rs++[⟨s,ad,cp⟩])) (l.drop k')=P):=hZq (by
      rw[List.length_append,List.length_singleton, <-uQ HNR]at hp2 hG2
      exact ⟨hp2,hG2,hT2,(uQ HB1).trans hB2,by rw[qbu,hd2,uQ HPn,show 9-(NR+1)=8-NR by omega]⟩)
     have HLB:Hid ((rs++[(⟨s,ad,cp⟩:SR)]).length=NR+1):=hZq (by rw[List.length_append,List.length_singleton, <-uQ HNR])
     clear hp2 hG2 hT2 hB2 hd2 T1 HPn HB1 c2
     go_wp2
     go_roundw
     case rel=>exact ⟨k',rs++[⟨s,ad,cp⟩],a2,c2',NR+1,(uQ HLB).symm,by omega,hk2,HI2⟩
     case measure=>
      rw[uQ HLA,(uQ HI2).1.lenAt]
      omega
open Go.RowKit Go.Shelf
theorem q8t {gr:Nat}{tk:Value}{l:List Tk}{k:Nat}{sv:Value}{wi A C a c:Int}{W:World}(h:PB gr tk l k sv wi A C W)(hk:k<l.length)(hf:(C≠0/\a=A/\c=C)\/(C=0/\a=hdPl (l.drop k)/\c=120)):
  Calls Tryz.prog 18 #[.pointer (some ⟨gr,0,none⟩)] W fun e w'=>e= .returned (.agg #[.int .i64 a, .int .i64 c])/\Below W.heap.size W w':=by
 have hlen:=h.len
 have hgl:=h.lt
 have kf:=Kp.alloc W (.cells #[.int .i64 0, .int .i64 0] 44)
 have h1:=h.kp kf (by simp)
 have fb:FBox W.heap.size (W.alloc (.cells #[.int .i64 0, .int .i64 0] 44)):=CBox.new W _ _
 have HB:=hZq ((Below.refl W.heap.size W).alloc (Nat.le_refl _) (.cells #[.int .i64 0, .int .i64 0] 44))
 obtain ⟨c0,c1,_,_,c4,c5,_⟩:=h1.cells
 rcases hf with ⟨hC,rfl,rfl⟩|⟨rfl,rfl,rfl⟩
 ·have gC:(c==0)=false:=beq_eq_false_iff_ne.2 hC
  obtain ⟨f0,f1,z0,z1⟩:=FBox.cells fb
  have HFB:=hZq fb
  clear h h1 kf fb hC c0 c1
  go_enter Tryz.func18,Tryz.ntmps18
  go_wp2
  obtain ⟨y0,y1⟩:=q1m (CBox.new W #[.int .i64 a, .int .i64 c] 44)
  exact bodyPost_ret (v:= .agg #[.int .i64 a, .int .i64 c]) (by simp[results,Tryz.results18,go_sem,y0,y1]) rfl ⟨rfl,(Below.refl W.heap.size W).alloc (Nat.le_refl _) _⟩
 ·obtain ⟨b,off,cap,htk,hlt,hc⟩:=h1.tks
  obtain ⟨_,_,_,x3⟩:=hc k hk
  rw[htk]at c0
  rw[qeC hk]
  have hki:(k:Int)<(l.length:Int):=by omega
  have HFB:=hZq fb
  obtain ⟨f0,f1,z0,z1⟩:=FBox.cells fb
  clear h h1 kf fb hc htk
  generalize l[k].pl=PL at *
  go_enter Tryz.func18,Tryz.ntmps18
  go_wp2
  go_region
  go_wp2
  have q2:CBox W.heap.size #[.int .i64 PL, .int .i64 120] 44 (W.alloc (.cells #[.int .i64 PL, .int .i64 120] 44)).drew:=CBox.new W _ _
  obtain ⟨y0,y1⟩:=q1m q2
  exact bodyPost_ret (v:= .agg #[.int .i64 PL, .int .i64 120]) (by simp[results,Tryz.results18,go_sem,y0,y1]) rfl ⟨rfl,((Below.refl W.heap.size W).alloc (Nat.le_refl _) _).drew⟩
def SRd.fits:SRd->Prop
 | .bad _ _=>True
 | .good s _=>s.ok
theorem qag (h:Int)(hh:0<=h/\h<=3)(nm:ByteArray)(hn:nm.size<=9223372036854775807)(m:Bool)(l:List Tk)(hl: ∀t∈l,t.ok):(cdR h nm m l).fits:=by
 unfold cdR
 have hf:=q6h (mRd 0 l) 0 0 [] l hl (by simp)
 unfold psR
 cases hp:pRd (mRd 0 l) 0 0 [] l with
 |bad q=>exact trivial
 |good x q=>
  rw[hp]at hf
  dsimp only
  split
  ·exact trivial
  ·split
   ·exact ⟨hn,⟨by dsimp only;omega,by dsimp only;omega⟩,hf⟩
   ·exact trivial
theorem q1g {l:List Tk}(hl: ∀t∈l,t.ok)(k:Nat): ∀t∈l.drop k,t.ok:=fun t ht=>hl t (List.mem_of_mem_drop ht)
theorem q5v (h:Int)(hh:0<=h/\h<=3)(nm:ByteArray)(hn:nm.size<=9223372036854775807)(m:Bool)(l:List Tk)(hl: ∀t∈l,t.ok):(clR h nm m l).fits:=by
 unfold clR
 split
 ·exact qag h hh nm hn m _ (q1g hl 1)
 ·exact trivial
theorem qaS {s:List UInt8}{h:Int}(e:hwOf s=some h):0<=h/\h<=3:=by
 unfold hwOf at e
 repeat' split at e
 all_goals first|(cases e;omega)|cases e
theorem qbK {l:List Tk}(hl: ∀t∈l,t.ok):(wdM l).size<=9223372036854775807:=by
 cases l with
 |nil=>show (0:Nat)<=_;omega
 |cons t r=>
  show (wdS t).size<=_
  unfold wdS
  split
  ·exact (hl t (by simp)).2.1
  ·show (0:Nat)<=_;omega
theorem q9X (l:List Tk)(hl: ∀t∈l,t.ok):(stgR l).fits:=by
 unfold stgR
 cases hq:hwOf (wdL l)with
 |none=>exact trivial
 |some h=>
  have hh:=qaS hq
  dsimp only
  unfold nmR
  split
  ·unfold mnR
   have hn:=qbK (q1g hl 1)
   split
   ·exact q5v h hh _ hn _ _ (q1g (q1g (q1g hl 1) 1) 1)
   ·exact q5v h hh _ hn _ _ (q1g (q1g hl 1) 1)
  ·exact trivial
theorem qc0 {h:Int}{nm:ByteArray}{m:Bool}{l:List Tk}{s:Stg}{r:List Tk}(hr:cdR h nm m l= .good s r):r<:+l:=by
 unfold cdR at hr
 have hs:=q7H (mRd 0 l) 0 0 [] l
 unfold psR at hr
 cases hp:pRd (mRd 0 l) 0 0 [] l with
 |bad q=>rw[hp]at hr;cases hr
 |good x q=>
  rw[hp]at hr hs
  dsimp only at hr
  split at hr
  ·cases hr
  ·split at hr
   ·cases hr
    exact (List.drop_suffix 1 q).trans hs
   ·cases hr
theorem q7i {h:Int}{nm:ByteArray}{m:Bool}{l:List Tk}{s:Stg}{r:List Tk}(hr:clR h nm m l= .good s r):r<:+l:=by
 unfold clR at hr
 split at hr
 ·exact (qc0 hr).trans (List.drop_suffix 1 l)
 ·cases hr
theorem qbt {l:List Tk}{s:Stg}{r:List Tk}(hr:stgR l= .good s r):r<:+l:=by
 unfold stgR at hr
 cases hq:hwOf (wdL l)with
 |none=>rw[hq]at hr;cases hr
 |some h=>
  rw[hq]at hr
  dsimp only at hr
  unfold nmR at hr
  split at hr
  ·unfold mnR at hr
   split at hr
   ·exact ((q7i hr).trans (List.drop_suffix 1 _)).trans ((List.drop_suffix 1 _).trans (List.drop_suffix 1 l))
   ·exact (q7i hr).trans ((List.drop_suffix 1 _).trans (List.drop_suffix 1 l))
  ·cases hr
theorem qbb (f:Nat): ∀(acc:List Stg) (l:List Tk) (p:Ptn),(∀s∈acc,s.ok)->(∀t∈l,t.ok)->ptR f acc l= .good p->(∀s∈p.ss,s.ok)/\ -9223372036854775808<=p.wi/\p.wi<=257/\p.ss.length<=acc.length+f:=by
 induction f with
 |zero=>intro acc l p _ _ h;rw[ptR]at h;cases h
 |succ f ih=>
  intro acc l p ha hl h
  rw[ptR]at h
  split at h
  ·unfold nbR at h
   cases hd:l.drop 1 with
   |nil=>rw[hd]at h;cases h
   |cons t r=>
    rw[hd]at h
    dsimp only at h
    split at h
    ·split at h
     ·cases h
      have ht:=q1g hl 1 t (by rw[hd];simp)
      refine ⟨ha,?_,?_,by dsimp only;omega⟩
      ·dsimp only;have:=ht.2.2.1.1;split <;> omega
      ·dsimp only;split <;> omega
     ·cases h
    ·cases h
  ·split at h
   ·cases h
   ·cases hs:stgR l with
    |bad a c=>rw[hs]at h;cases h
    |good s r=>
     rw[hs]at h
     dsimp only at h
     have h1:=q9X l hl
     rw[hs]at h1
     have h2:=ih (acc++[s]) r p (fun x hx=>by rcases List.mem_append.1 hx with hx|hx;exact ha x hx;simp only[List.mem_singleton]at hx;subst hx;exact h1) (q7R (qbt hs) hl) h
     rw[List.length_append,List.length_singleton]at h2
     exact ⟨h2.1,h2.2.1,h2.2.2.1,by omega⟩
theorem q6q {B B':Nat}{w:World}{e:TypeId}{sz:Nat}{v:Value}{n:Nat}{xs:List Value}(h:w.ownsRow B e sz v n xs)(hB:B'<=B):w.ownsRow B' e sz v n xs:=by
 obtain ⟨h1,h2|⟨g,cp,cur,h2,h3,h4⟩⟩:=h
 ·exact ⟨h1,Or.inl h2⟩
 ·exact ⟨h1,Or.inr ⟨g,cp,cur,h2,by omega,h4⟩⟩
theorem OwnsG.mono {B B':Nat}{w:World}{v:Value}{l:List SR}(h:OwnsG B w v l)(hB:B'<=B):OwnsG B' w v l:=⟨q6q h.row hB,fun r hr=>q6q (h.cds r hr) hB⟩
theorem qd (p:Ptn):(pcR p).2=0\/(pcR p).2=120:=by
 unfold pcR
 split
 ·exact Or.inr rfl
 ·split
  ·exact Or.inr rfl
  ·split
   ·exact Or.inl rfl
   ·exact Or.inr rfl
def poR:PRd->PO
 | .bad a c=>⟨noP,a,c⟩
 | .good p=>if (pcR p).2=0 then ⟨p,0,0⟩ else ⟨noP,0,120⟩
theorem qd5 (n:Nat)(ts:List Tk):rdPG n ts=poR (ptR 9 [] (ts++[endZ n])):=by
 unfold rdPG poR
 cases ptR 9 [] (ts++[endZ n]) <;> rfl
def RdPT (B:Nat)(o:PO)(e:Ending)(w':World):Prop:= ∃ad cp rs,e= .returned (.tuple #[.agg #[.slice ad (rs:List SR).length cp, .int .i64 o.p.wi], .agg #[.int .i64 o.at_, .int .i64 o.c]])/\OwnsG B w' (.slice ad rs.length cp) rs/\stgs rs=o.p.ss
theorem RdPT.none {B:Nat}{o:PO}{a c:Int}{w':World}(h:o=⟨noP,a,c⟩):RdPT B o (.returned (.tuple #[.agg #[.slice Option.none 0 0, .int .i64 0], .agg #[.int .i64 a, .int .i64 c]])) w':=by
 subst h
 exact ⟨Option.none,0,[],rfl,OwnsG.nil _ _,rfl⟩
theorem q47 (w:World)(cs:Array Value)(t:TypeId)(B:Obj):CBox w.heap.size cs t ((w.alloc (.cells cs t)).alloc B):=CBox.kp (CBox.new w _ _) (Kp.alloc _ _) (by simp)
theorem q48 (w:World)(cs:Array Value)(t:TypeId)(A:Obj):CBox (w.heap.size+1) cs t ((w.alloc A).alloc (.cells cs t)):=by
 have:=CBox.new (w.alloc A) cs t
 rwa [show (w.alloc A).heap.size=w.heap.size+1 by simp]at this
theorem q0j {g:Nat}{a b:Value}{t:TypeId}{w:World}(h:CBox g #[a,b] t w):w.cell? ⟨g,0,none⟩=some a/\w.cell? ⟨g,1,none⟩=some b/\w.frozen? ⟨g,0,none⟩=false/\w.frozen? ⟨g,1,none⟩=false:=⟨h.cell rfl,h.cell rfl,h.froz 0,h.froz 1⟩
theorem q49 {w V:World}{a b c d:Value}(hP:CBox w.heap.size #[a,b] 24 V)(hF:CBox (w.heap.size+1) #[c,d] 44 V)(x y u v:Value):
  CBox w.heap.size #[x,y] 24 ((((V.setCell ⟨w.heap.size,0,none⟩ x).setCell ⟨w.heap.size,1,none⟩ y).setCell ⟨w.heap.size+1,0,none⟩ u).setCell ⟨w.heap.size+1,1,none⟩ v)/\CBox (w.heap.size+1) #[u,v] 44 ((((V.setCell ⟨w.heap.size,0,none⟩ x).setCell ⟨w.heap.size,1,none⟩ y).setCell ⟨w.heap.size+1,0,none⟩ u).setCell ⟨w.heap.size+1,1,none⟩ v)/\Kp [w.heap.size,w.heap.size+1] V ((((V.setCell ⟨w.heap.size,0,none⟩ x).setCell ⟨w.heap.size,1,none⟩ y).setCell ⟨w.heap.size+1,0,none⟩ u).setCell ⟨w.heap.size+1,1,none⟩ v):=by
 have k1:Kp [w.heap.size] V ((V.setCell ⟨w.heap.size,0,none⟩ x).setCell ⟨w.heap.size,1,none⟩ y):=(Kp.set _ _ _ _).trans (Kp.set _ _ _ _) (by simp)
 have k2:Kp [w.heap.size+1] ((V.setCell ⟨w.heap.size,0,none⟩ x).setCell ⟨w.heap.size,1,none⟩ y) ((((V.setCell ⟨w.heap.size,0,none⟩ x).setCell ⟨w.heap.size,1,none⟩ y).setCell ⟨w.heap.size+1,0,none⟩ u).setCell ⟨w.heap.size+1,1,none⟩ v):=(Kp.set _ _ _ _).trans (Kp.set _ _ _ _) (by simp)
 have p1:CBox w.heap.size #[x,y] 24 ((V.setCell ⟨w.heap.size,0,none⟩ x).setCell ⟨w.heap.size,1,none⟩ y):=(hP.set 0 x).set 1 y
 have f1:CBox (w.heap.size+1) #[u,v] 44 ((((V.setCell ⟨w.heap.size,0,none⟩ x).setCell ⟨w.heap.size,1,none⟩ y).setCell ⟨w.heap.size+1,0,none⟩ u).setCell ⟨w.heap.size+1,1,none⟩ v):=CBox.set (CBox.set (hF.kp k1 (by simp)) 0 u) 1 v
 exact ⟨p1.kp k2 (by simp),f1,(k1.mono (by simp)).trans k2 (by simp)⟩
theorem q9H (s:ByteArray)(w:World)(hT:TbE w)(hs:s.size<=9223372036854775807):
  Calls Tryz.prog 7 #[.string s] w fun e w'=>RdPT w.heap.size (rdP s) e w'/\Below w.heap.size w w':=by
 have k0:Kp [] w ((w.alloc (.cells #[.slice none 0 0, .int .i64 0] 24)).alloc (.cells #[.int .i64 0, .int .i64 0] 44)):=(Kp.alloc _ _).trans (Kp.alloc _ _) (by simp)
 have hp0:CBox w.heap.size #[.slice none 0 0, .int .i64 0] 24 ((w.alloc (.cells #[.slice none 0 0, .int .i64 0] 24)).alloc (.cells #[.int .i64 0, .int .i64 0] 44)):=q47 w _ _ _
 have hf0:CBox (w.heap.size+1) #[.int .i64 0, .int .i64 0] 44 ((w.alloc (.cells #[.slice none 0 0, .int .i64 0] 24)).alloc (.cells #[.int .i64 0, .int .i64 0] 44)):=q48 w _ _ _
 have TK:=hZq (q4h s _ (hT.kp k0 (by simp)).tok hs)
 have HK0:=hZq k0
 have HP0:=hZq hp0
 have HF0:=hZq hf0
 have HTB:=hZq hT
 have HRD:Hid (∃o,rdP s=o):=hZq ⟨_,rfl⟩
 clear hT k0 hp0 hf0
 rcases qbF s with ⟨ts,h1,h2,h3⟩|⟨h1,h2⟩
 ·have hL:Tail (ts++[endZ s.size]) s.size:=⟨⟨s.data.toList,[],ts,rfl,by simpa using h2,rfl⟩,h3⟩
  have hrd:rdP s=rdPG s.size ts:=by unfold rdP;rw[h1]
  rw[hrd]
  rw[h1]at TK
  have e1:tsL s.size (.good ts)=ts++[endZ s.size]:=rfl
  rw[e1]at TK
  have e2:tsA (.good ts)=0:=rfl
  have e3:tsC (.good ts)=0:=rfl
  rw[e2,e3]at TK
  rw[qd5]
  generalize ts++[endZ s.size]=l at *
  generalize s.size=n at *
  clear e1 e2 e3 hrd h1 h2
  obtain ⟨P,hP⟩: ∃P,ptR 9 [] l=P:=⟨_,rfl⟩
  rw[hP]
  obtain ⟨O,hO⟩: ∃O:PO,poR P=O:=⟨_,rfl⟩
  rw[hO]
  have HO:=hZq hO
  have HP:=hZq hP
  have hlen:=hL.len
  have HL:=hZq hL
  clear hO hP hL HRD
  go_enter Tryz.func7,Tryz.ntmps7
  go_wp2_with fail
  refine (uQ TK).mono ?_
  rintro e w1 ⟨v,rfl,ho,hb1⟩
  obtain ⟨av,cv,rfl,hav,hcv⟩:=ho.at
  have k1:Kp [] ((w.alloc (.cells #[.slice none 0 0, .int .i64 0] 24)).alloc (.cells #[.int .i64 0, .int .i64 0] 44)) w1:=Kp.ofBelow hb1
  have hlow:=ho.low (uQ HL).endd.ne
  obtain ⟨tb,tf,tc,etk,htb,htc⟩:=id hlow
  have hcv2:cv<=9223372036854775807:=by
   obtain ⟨_,⟨e,_⟩|⟨g,cp,cur,e,_,_,_,hm,_⟩⟩:=(id ho:w1.ownsRow _ _ _ _ _ _)
   ·injection e with _ _ e3;omega
   ·injection e with _ _ e3;unfold maxLen at hm;omega
  injection etk with ea eb ec
  subst ea ec
  have hsz:w.heap.size+1<w1.heap.size:=by have:=k1.size;simp at this;omega
  have kf:Kp [] w1 ((w1.alloc (.cells #[.int .i64 0, .int .i64 0] 44)).alloc (.cells (prC (.slice (some ⟨tb,tf,none⟩) l.length cv) 0 (.slice none 0 0) 0 0 0) 61)):=(Kp.alloc _ _).trans (Kp.alloc _ _) (by simp)
  have hb:CBox (w1.heap.size+1) (prC (.slice (some ⟨tb,tf,none⟩) l.length cv) 0 (.slice none 0 0) 0 0 0) 61 ((w1.alloc (.cells #[.int .i64 0, .int .i64 0] 44)).alloc (.cells (prC (.slice (some ⟨tb,tf,none⟩) l.length cv) 0 (.slice none 0 0) 0 0 0) 61)):=q48 w1 _ _ _
  have hTw:=((uQ HTB).kp (uQ HK0) (by simp)).kp k1 (by simp)
  have hPB:PB (w1.heap.size+1) (.slice (some ⟨tb,tf,none⟩) l.length cv) l 0 (.slice none 0 0) 0 0 0 ((w1.alloc (.cells #[.int .i64 0, .int .i64 0] 44)).alloc (.cells (prC (.slice (some ⟨tb,tf,none⟩) l.length cv) 0 (.slice none 0 0) 0 0 0) 61)):=
   ⟨(hlow.below (kf.below (Nat.le_refl _) (by simp))).mono (by omega),hTw.kp kf (by simp),by have:=hTw.low;omega,hb,by omega,(uQ HL).ok,⟨tb,tf,cv,rfl,hcv,hcv2⟩⟩
  have PT:=q6i hPB (uQ HL)
  rw[uQ HP]at PT
  have hW1:=(uQ HK0).trans k1 (by simp)
  have HB1:=hZq ((hW1.trans kf (by simp)).below (Nat.le_refl _) (by simp))
  have HPB1:=hZq ((uQ HP0).kp (k1.trans kf (by simp)) (by simp))
  have HFB1:=hZq ((uQ HF0).kp (k1.trans kf (by simp)) (by simp))
  obtain ⟨x0,x1,_,_⟩:=q0j (CBox.new w1 #[.int .i64 0, .int .i64 0] 44)
  have HPT:=hZq PT
  unfold prC at HPT HB1 HPB1 HFB1
  obtain ⟨LN,hLN⟩: ∃q,l.length=q:=⟨_,rfl⟩
  have HLN:=hZq hLN
  rw[hLN]at HPT HB1 HPB1 HFB1 hlen ⊢
  clear TK ho hb1 hav hlow htb htc kf hb hTw hPB PT hW1 k1 eb HK0 HP0 HF0 HTB hcv hcv2 hLN
  go_wp2_with fail
  refine (uQ HPT).mono ?_
  rintro e w3 ⟨hB3,hm⟩
  have hP3:CBox w.heap.size #[.slice none 0 0, .int .i64 0] 24 w3:=(hB3.block w.heap.size (by omega)).trans (uQ HPB1)
  have hF3:CBox (w.heap.size+1) #[.int .i64 0, .int .i64 0] 44 w3:=(hB3.block (w.heap.size+1) (by omega)).trans (uQ HFB1)
  have HB3:=hZq ((uQ HB1).trans (hB3.mono (by omega)))
  clear HPT HPB1 HFB1 HB1 hB3 x0 x1
  cases P with
  |bad a c=>
   obtain ⟨rfl,k',sv,wi,A,C,hp3,hk3,hf3⟩:=hm
   have FA:=hZq (q8t hp3 hk3 hf3)
   have HO2:Hid (O=⟨noP,a,c⟩):=hZq (uQ HO).symm
   have HP3:=hZq hP3
   have HF3:=hZq hF3
   clear hp3 hk3 hf3 HO hP3 hF3
   go_wp2_with fail
   refine (uQ FA).mono ?_
   rintro e w4 ⟨rfl,hb4⟩
   have hP4:=(uQ HP3).kp (Kp.ofBelow hb4) (by simp)
   have hF4:=(uQ HF3).kp (Kp.ofBelow hb4) (by simp)
   obtain ⟨p0,p1,pz0,pz1⟩:=q0j hP4
   obtain ⟨f0,f1,fz0,fz1⟩:=q0j hF4
   have HB4:=hZq ((uQ HB3).trans (hb4.mono (uQ HB3).size))
   have HPW:=hZq (q49 hP4 hF4 (.slice none 0 0) (.int .i64 0) (.int .i64 a) (.int .i64 c))
   clear FA hb4 hP4 hF4 HP3 HF3 HB3
   dsimp only
   go_wp2
   obtain ⟨q1,q2,q3⟩:=uQ HPW
   obtain ⟨y0,y1,_,_⟩:=q0j q1
   obtain ⟨z0,z1,_,_⟩:=q0j q2
   exact bodyPost_ret (v:= .tuple #[.agg #[.slice none 0 0, .int .i64 0], .agg #[.int .i64 a, .int .i64 c]]) (by simp[results,Tryz.results7,go_sem,y0,y1,z0,z1]) rfl ⟨RdPT.none (uQ HO2),(uQ HB4).trans (q3.below (uQ HB4).size (by simp))⟩
  |good p=>
   obtain ⟨rfl,k',sv,rs,hp3,hG3,hst3⟩:=hm
   obtain ⟨ra,rc,rfl,hsts,hrc⟩:=hG3.at
   obtain ⟨g1,g2,g3,g4⟩:=qbb 9 [] l p (by simp) (uQ HL).ok (uQ HP)
   have hrl:rs.length<=9:=by rw[<-q03,hst3];simpa using g4
   have CK:=q1M ra rc rs p.wi w3 hsts hp3.tab (fun r hr=>g1 r.s (by rw[<-hst3];unfold stgs;exact List.mem_map_of_mem hr)) (by omega)
   have hpe:(⟨stgs rs,p.wi⟩:Ptn)=p:=by rw[hst3]
   rw[hpe]at CK
   obtain ⟨_,_,c2,c3,_⟩:=hp3.cells
   have HCK:=hZq CK
   have HP3:=hZq hP3
   have HF3:=hZq hF3
   have HPB3:=hZq hp3
   have HG3:=hZq hG3
   have HST:=hZq hst3
   have HO2:Hid (O=if (pcR p).2=0 then ⟨p,0,0⟩ else ⟨noP,0,120⟩):=hZq (uQ HO).symm
   have hgr:=hp3.lt
   clear CK hp3 hG3 hsts hpe hst3 g1 g4 hP3 hF3 HO HL HP
   have hcd:=qd p
   generalize (pcR p).1=PA at *
   generalize (pcR p).2=PC at *
   obtain ⟨NR,hNR⟩: ∃q,rs.length=q:=⟨_,rfl⟩
   have HNR:=hZq hNR
   rw[hNR]at HCK HPB3 HG3 c2 hrl
   clear hNR
   have HW:=hZq (fun w4 (hb4:Below w3.heap.size w3 w4)=>And.intro ((uQ HP3).kp (Kp.ofBelow hb4) (by simp)) (And.intro ((uQ HF3).kp (Kp.ofBelow hb4) (by simp)) (And.intro ((uQ HPB3).kp (Kp.ofBelow hb4) (by simp)) ((uQ HG3).kp (Kp.ofBelow hb4) (by simp)))))
   rcases hcd with rfl|rfl
   ·have HO3:Hid (O=⟨p,0,0⟩):=hZq (by rw[uQ HO2];exact if_pos rfl)
    clear HO2
    go_wp2_with fail
    refine (uQ HCK).mono ?_
    rintro e w4 ⟨rfl,hb4⟩
    obtain ⟨hP4,hF4,hpb4,hG4⟩:=uQ HW w4 hb4
    obtain ⟨_,_,d2,d3,_⟩:=hpb4.cells
    obtain ⟨p0,p1,pz0,pz1⟩:=q0j hP4
    obtain ⟨f0,f1,fz0,fz1⟩:=q0j hF4
    have HB4:=hZq ((uQ HB3).trans (hb4.mono (uQ HB3).size))
    have HPW:=hZq (q49 hP4 hF4 (.slice ra NR rc) (.int .i64 p.wi) (.int .i64 0) (.int .i64 0))
    have HG4:=hZq hG4
    clear HCK hb4 hP4 hF4 HP3 HF3 HB3 HW hpb4 hG4 HPB3 HG3 c2 c3
    dsimp only
    go_wp2
    obtain ⟨q1,q2,q3⟩:=uQ HPW
    obtain ⟨y0,y1,_,_⟩:=q0j q1
    obtain ⟨z0,z1,_,_⟩:=q0j q2
    refine bodyPost_ret (v:= .tuple #[.agg #[.slice ra NR rc, .int .i64 p.wi], .agg #[.int .i64 0, .int .i64 0]]) (by simp[results,Tryz.results7,go_sem,y0,y1,z0,z1]) rfl ⟨?_,(uQ HB4).trans (q3.below (uQ HB4).size (by simp))⟩
    rw[uQ HO3]
    refine ⟨ra,rc,rs,by rw[uQ HNR],?_,uQ HST⟩
    rw[uQ HNR]
    exact ((uQ HG4).kp q3 (by simp;omega)).mono (by omega)
   ·have HO3:Hid (O=⟨noP,0,120⟩):=hZq (by rw[uQ HO2];exact if_neg (by decide))
    clear HO2
    go_wp2_with fail
    refine (uQ HCK).mono ?_
    rintro e w4 ⟨rfl,hb4⟩
    obtain ⟨hP4,hF4,hpb4,hG4⟩:=uQ HW w4 hb4
    obtain ⟨p0,p1,pz0,pz1⟩:=q0j hP4
    obtain ⟨f0,f1,fz0,fz1⟩:=q0j hF4
    have HB4:=hZq ((uQ HB3).trans (hb4.mono (uQ HB3).size))
    have HPW:=hZq (q49 hP4 hF4 (.slice none 0 0) (.int .i64 0) (.int .i64 0) (.int .i64 120))
    clear HCK hb4 hP4 hF4 HP3 HF3 HB3 HW hpb4 hG4 HPB3 HG3 c2 c3
    dsimp only
    go_wp2
    obtain ⟨q1,q2,q3⟩:=uQ HPW
    obtain ⟨y0,y1,_,_⟩:=q0j q1
    obtain ⟨z0,z1,_,_⟩:=q0j q2
    exact bodyPost_ret (v:= .tuple #[.agg #[.slice none 0 0, .int .i64 0], .agg #[.int .i64 0, .int .i64 120]]) (by simp[results,Tryz.results7,go_sem,y0,y1,z0,z1]) rfl ⟨RdPT.none (uQ HO3),(uQ HB4).trans (q3.below (uQ HB4).size (by simp))⟩
 ·have hrd:rdP s=⟨noP,tsA (tsR s),tsC (tsR s)⟩:=by
   unfold rdP
   cases hr:tsR s with
   |bad p q=>rfl
   |good ts=>rw[hr]at h2;exact absurd rfl h2
  rw[h1]at TK
  rw[hrd]
  generalize tsA (tsR s)=A at *
  generalize tsC (tsR s)=C at *
  have gC:(C==0)=false:=beq_eq_false_iff_ne.2 h2
  clear h1 hrd h2
  go_enter Tryz.func7,Tryz.ntmps7
  go_wp2_with fail
  refine (uQ TK).mono ?_
  rintro e w1 ⟨v,rfl,ho,hb1⟩
  obtain ⟨av,cv,rfl,_,_⟩:=ho.at
  have k1:Kp [] _ w1:=Kp.ofBelow hb1
  have kf:=Kp.alloc w1 (.cells #[.int .i64 A, .int .i64 C] 44)
  have k2:=k1.trans kf (by simp)
  have hp1:=(uQ HP0).kp k2 (by simp)
  have hf1:=(uQ HF0).kp k2 (by simp)
  obtain ⟨p0,p1,pz0,pz1⟩:=q0j hp1
  obtain ⟨f0,f1,fz0,fz1⟩:=q0j hf1
  obtain ⟨x0,x1,_,_⟩:=q0j (CBox.new w1 #[.int .i64 A, .int .i64 C] 44)
  have hsz:w.heap.size+1<w1.heap.size:=by have:=k1.size;simp at this;omega
  have HBW:=hZq (((uQ HK0).trans k2 (by simp)).below (Nat.le_refl _) (by simp))
  have HPW:=hZq (q49 hp1 hf1 (.slice none 0 0) (.int .i64 0) (.int .i64 A) (.int .i64 C))
  clear TK ho hb1 hp1 hf1 k1 k2 kf HK0 HP0 HF0 HTB HRD
  go_wp2_with fail
  generalize w1.alloc (.cells #[.int .i64 A, .int .i64 C] 44)=V at *
  generalize w1.heap.size=GF at *
  go_region
  go_wp2_with fail
  obtain ⟨q1,q2,q3⟩:=uQ HPW
  have q1d:CBox w.heap.size #[.slice none 0 0, .int .i64 0] 24 ((((V.setCell ⟨w.heap.size,0,none⟩ (.slice none 0 0)).setCell ⟨w.heap.size,1,none⟩ (.int .i64 0)).setCell ⟨w.heap.size+1,0,none⟩ (.int .i64 A)).setCell ⟨w.heap.size+1,1,none⟩ (.int .i64 C)).drew:=q1
  have q2d:CBox (w.heap.size+1) #[.int .i64 A, .int .i64 C] 44 ((((V.setCell ⟨w.heap.size,0,none⟩ (.slice none 0 0)).setCell ⟨w.heap.size,1,none⟩ (.int .i64 0)).setCell ⟨w.heap.size+1,0,none⟩ (.int .i64 A)).setCell ⟨w.heap.size+1,1,none⟩ (.int .i64 C)).drew:=q2
  obtain ⟨y0,y1,_,_⟩:=q0j q1d
  obtain ⟨z0,z1,_,_⟩:=q0j q2d
  exact bodyPost_ret (v:= .tuple #[.agg #[.slice none 0 0, .int .i64 0], .agg #[.int .i64 A, .int .i64 C]]) (by simp[results,Tryz.results7,go_sem,y0,y1,z0,z1]) rfl ⟨RdPT.none rfl,((uQ HBW).trans (q3.below (uQ HBW).size (by simp))).drew⟩
end Go.Proofs.YtcmjnlpofebbmaaGreatDoor
