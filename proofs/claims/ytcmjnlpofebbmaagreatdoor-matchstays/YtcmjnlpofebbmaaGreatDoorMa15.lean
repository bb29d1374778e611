/-
  Walks and plain facts, made small.
-/
import Derived.Test.YtcmjnlpofebbmaaGreatDoorMa14
set_option maxRecDepth 100000
set_option maxHeartbeats 8000000
set_option linter.unusedSimpArgs false
namespace Go.Proofs.YtcmjnlpofebbmaaGreatDoor
open Go.RowKit Go.Shelf
attribute [local irreducible] opsV
theorem q0X {gr:Nat}{lv tk:Value}{l:List Tk}{k d:Nat}{ps:List Pt}{W:World}(h:Rd gr lv tk l k d ps W)(m:Nat)(hm:m<7){P:PR}
  (hen: ∀args w,(callFunc (lvF m) args).run Tryz.prog w= .ok (.enter (lvF m) args) w)
  (HC:Calls Tryz.prog (lvF m) #[.pointer (some ⟨gr,0,none⟩), .int .i64 (m:Int)] W (RdR gr lv tk l d ps W P)):
  Calls Tryz.prog 138 #[.pointer (some ⟨gr,0,none⟩), .int .i64 (m:Int)] W (RdR gr lv tk l d ps W P):=by
 obtain ⟨pv,hb,_⟩:=h.box
 have c0:=hb.cell (qbW lv tk k d pv)
 obtain ⟨gl,hlv,_,hc⟩:=h.env.lvs
 have c1:=(hc m hm).1
 rw[hlv]at c0
 have HCC:=hZq HC
 have HEN:=hZq hen
 clear h hb hc hlv HC hen
 generalize lvF m=FN at *
 go_enter Tryz.func138,Tryz.ntmps138
 go_wp2_with fail
 rw[uQ HEN,Oper.upon_enter]
 refine (uQ HCC).mono ?_
 intro e w1 hR
 obtain rfl:=hR.ret
 have HF:=hZq hR
 clear hR HCC HEN c0 c1
 generalize P.ok=b at *
 dsimp only
 go_wp2
 refine bodyPost_ret (results_tmp rfl _ _ _) rfl ?_
 exact uQ HF
theorem qe6: ∀f,RdOK f:=by
 intro f
 induction f using Nat.strongRecOn with
 |ind f ih=>
  intro gr lv tk l k d ps W m h hm hE hd hps hf
  cases hts:l.drop k with
  |nil=>exact absurd hts hE.ne
  |cons t r=>
   rw[hts]at hE hps hf
   cases f with
   |zero=>
    exfalso
    rw[q0P hm,List.length_cons]at hf
    omega
   |succ f=>
    have IH: ∀f',f'<=f->RdOK f':=fun f' hf'=>ih f' (by omega)
    rcases (show m=0\/m=1\/m=2\/m=3\/m=4\/m=5\/m=6 by omega)with rfl|rfl|rfl|rfl|rfl|rfl|rfl
    ·exact q0X h 0 (by omega) (enters_of Tryz.func159 (by kernel_rfl) rfl) (q26 IH h hts 0 (by omega) hE hd hps hf)
    ·exact q0X h 1 (by omega) (enters_of Tryz.func159 (by kernel_rfl) rfl) (q26 IH h hts 1 (by omega) hE hd hps hf)
    ·exact q0X h 2 (by omega) (enters_of Tryz.func160 (by kernel_rfl) rfl) (q84 (IH f (Nat.le_refl _)) h hts hE hd hps hf)
    ·exact q0X h 3 (by omega) (enters_of Tryz.func161 (by kernel_rfl) rfl) (qb9 (IH f (Nat.le_refl _)) h hts hE hd hps hf)
    ·exact q0X h 4 (by omega) (enters_of Tryz.func159 (by kernel_rfl) rfl) (q26 IH h hts 4 (by omega) hE hd hps hf)
    ·exact q0X h 5 (by omega) (enters_of Tryz.func159 (by kernel_rfl) rfl) (q26 IH h hts 5 (by omega) hE hd hps hf)
    ·exact q0X h 6 (by omega) (enters_of Tryz.func162 (by kernel_rfl) rfl) (qb4 (IH f (Nat.le_refl _)) h hts hE hd hps hf)
end Go.Proofs.YtcmjnlpofebbmaaGreatDoor
namespace Go.Proofs.YtcmjnlpofebbmaaGreatDoor
open Go.RowKit Go.Shelf
theorem q2w {B b:Nat}{W:World}{os:List Int}(h:CBox b (os.map (Value.int .i64)).toArray 3 W)(hlt:b<B):OpsLow B W (.slice (some ⟨b,0,none⟩) os.length os.length) os:=Or.inr ⟨b,rfl,hlt,fun i hi=>h.cell (by simp[hi])⟩
theorem qaO (w:World):LvsLow (((((((w.alloc (.cells #[.int .i64 12] 3)).alloc (.cells #[.int .i64 11] 3)).alloc (.cells #[.int .i64 13] 3)).alloc (.cells #[.int .i64 7, .int .i64 8, .int .i64 9, .int .i64 10] 3)).alloc (.cells #[.int .i64 4, .int .i64 5] 3)).alloc (.cells #[.int .i64 6] 3)).alloc (.cells #[.func (.func 159) #[] #[], .slice (some ⟨w.heap.size,0,none⟩) 1 1, .func (.func 159) #[] #[], .slice (some ⟨w.heap.size+1,0,none⟩) 1 1, .func (.func 160) #[] #[], .slice (some ⟨w.heap.size+1+1,0,none⟩) 1 1, .func (.func 161) #[] #[], .slice (some ⟨w.heap.size+1+1+1,0,none⟩) 4 4, .func (.func 159) #[] #[], .slice (some ⟨w.heap.size+1+1+1+1,0,none⟩) 2 2, .func (.func 159) #[] #[], .slice (some ⟨w.heap.size+1+1+1+1+1,0,none⟩) 1 1, .func (.func 162) #[] #[], .slice none 0 0] 270)).heap.size (((((((w.alloc (.cells #[.int .i64 12] 3)).alloc (.cells #[.int .i64 11] 3)).alloc (.cells #[.int .i64 13] 3)).alloc (.cells #[.int .i64 7, .int .i64 8, .int .i64 9, .int .i64 10] 3)).alloc (.cells #[.int .i64 4, .int .i64 5] 3)).alloc (.cells #[.int .i64 6] 3)).alloc (.cells #[.func (.func 159) #[] #[], .slice (some ⟨w.heap.size,0,none⟩) 1 1, .func (.func 159) #[] #[], .slice (some ⟨w.heap.size+1,0,none⟩) 1 1, .func (.func 160) #[] #[], .slice (some ⟨w.heap.size+1+1,0,none⟩) 1 1, .func (.func 161) #[] #[], .slice (some ⟨w.heap.size+1+1+1,0,none⟩) 4 4, .func (.func 159) #[] #[], .slice (some ⟨w.heap.size+1+1+1+1,0,none⟩) 2 2, .func (.func 159) #[] #[], .slice (some ⟨w.heap.size+1+1+1+1+1,0,none⟩) 1 1, .func (.func 162) #[] #[], .slice none 0 0] 270)) (.slice (some ⟨w.heap.size+1+1+1+1+1+1,0,none⟩) 7 7)/\Kp [] w (((((((w.alloc (.cells #[.int .i64 12] 3)).alloc (.cells #[.int .i64 11] 3)).alloc (.cells #[.int .i64 13] 3)).alloc (.cells #[.int .i64 7, .int .i64 8, .int .i64 9, .int .i64 10] 3)).alloc (.cells #[.int .i64 4, .int .i64 5] 3)).alloc (.cells #[.int .i64 6] 3)).alloc (.cells #[.func (.func 159) #[] #[], .slice (some ⟨w.heap.size,0,none⟩) 1 1, .func (.func 159) #[] #[], .slice (some ⟨w.heap.size+1,0,none⟩) 1 1, .func (.func 160) #[] #[], .slice (some ⟨w.heap.size+1+1,0,none⟩) 1 1, .func (.func 161) #[] #[], .slice (some ⟨w.heap.size+1+1+1,0,none⟩) 4 4, .func (.func 159) #[] #[], .slice (some ⟨w.heap.size+1+1+1+1,0,none⟩) 2 2, .func (.func 159) #[] #[], .slice (some ⟨w.heap.size+1+1+1+1+1,0,none⟩) 1 1, .func (.func 162) #[] #[], .slice none 0 0] 270)):=by
 obtain ⟨w1,e1⟩: ∃w1,w1=w.alloc (.cells #[.int .i64 12] 3):=⟨_,rfl⟩
 rw[<-e1]
 obtain ⟨w2,e2⟩: ∃w2,w2=w1.alloc (.cells #[.int .i64 11] 3):=⟨_,rfl⟩
 rw[<-e2]
 obtain ⟨w3,e3⟩: ∃w3,w3=w2.alloc (.cells #[.int .i64 13] 3):=⟨_,rfl⟩
 rw[<-e3]
 obtain ⟨w4,e4⟩: ∃w4,w4=w3.alloc (.cells #[.int .i64 7, .int .i64 8, .int .i64 9, .int .i64 10] 3):=⟨_,rfl⟩
 rw[<-e4]
 obtain ⟨w5,e5⟩: ∃w5,w5=w4.alloc (.cells #[.int .i64 4, .int .i64 5] 3):=⟨_,rfl⟩
 rw[<-e5]
 obtain ⟨w6,e6⟩: ∃w6,w6=w5.alloc (.cells #[.int .i64 6] 3):=⟨_,rfl⟩
 rw[<-e6]
 obtain ⟨w7,e7⟩: ∃w7,w7=w6.alloc (.cells #[.func (.func 159) #[] #[], .slice (some ⟨w.heap.size,0,none⟩) 1 1, .func (.func 159) #[] #[], .slice (some ⟨w.heap.size+1,0,none⟩) 1 1, .func (.func 160) #[] #[], .slice (some ⟨w.heap.size+1+1,0,none⟩) 1 1, .func (.func 161) #[] #[], .slice (some ⟨w.heap.size+1+1+1,0,none⟩) 4 4, .func (.func 159) #[] #[], .slice (some ⟨w.heap.size+1+1+1+1,0,none⟩) 2 2, .func (.func 159) #[] #[], .slice (some ⟨w.heap.size+1+1+1+1+1,0,none⟩) 1 1, .func (.func 162) #[] #[], .slice none 0 0] 270):=⟨_,rfl⟩
 rw[<-e7]
 have k1:Kp [] w w1:=by rw[e1];exact Kp.alloc _ _
 have s1:w1.heap.size=w.heap.size+1:=by rw[e1];simp
 have b0:CBox (w.heap.size) #[.int .i64 12] 3 w1:=by have:=CBox.new w #[.int .i64 12] 3;rw[<-e1]at this;exact this
 have k2:Kp [] w1 w2:=by rw[e2];exact Kp.alloc _ _
 have s2:w2.heap.size=w.heap.size+1+1:=by rw[e2];simp[s1]
 have b1:CBox (w.heap.size+1) #[.int .i64 11] 3 w2:=by have:=CBox.new w1 #[.int .i64 11] 3;rw[<-e2,s1]at this;exact this
 have k3:Kp [] w2 w3:=by rw[e3];exact Kp.alloc _ _
 have s3:w3.heap.size=w.heap.size+1+1+1:=by rw[e3];simp[s2]
 have b2:CBox (w.heap.size+1+1) #[.int .i64 13] 3 w3:=by have:=CBox.new w2 #[.int .i64 13] 3;rw[<-e3,s2]at this;exact this
 have k4:Kp [] w3 w4:=by rw[e4];exact Kp.alloc _ _
 have s4:w4.heap.size=w.heap.size+1+1+1+1:=by rw[e4];simp[s3]
 have b3:CBox (w.heap.size+1+1+1) #[.int .i64 7, .int .i64 8, .int .i64 9, .int .i64 10] 3 w4:=by have:=CBox.new w3 #[.int .i64 7, .int .i64 8, .int .i64 9, .int .i64 10] 3;rw[<-e4,s3]at this;exact this
 have k5:Kp [] w4 w5:=by rw[e5];exact Kp.alloc _ _
 have s5:w5.heap.size=w.heap.size+1+1+1+1+1:=by rw[e5];simp[s4]
 have b4:CBox (w.heap.size+1+1+1+1) #[.int .i64 4, .int .i64 5] 3 w5:=by have:=CBox.new w4 #[.int .i64 4, .int .i64 5] 3;rw[<-e5,s4]at this;exact this
 have k6:Kp [] w5 w6:=by rw[e6];exact Kp.alloc _ _
 have s6:w6.heap.size=w.heap.size+1+1+1+1+1+1:=by rw[e6];simp[s5]
 have b5:CBox (w.heap.size+1+1+1+1+1) #[.int .i64 6] 3 w6:=by have:=CBox.new w5 #[.int .i64 6] 3;rw[<-e6,s5]at this;exact this
 have k7:Kp [] w6 w7:=by rw[e7];exact Kp.alloc _ _
 have s7:w7.heap.size=w.heap.size+1+1+1+1+1+1+1:=by rw[e7];simp[s6]
 have b6:CBox (w.heap.size+1+1+1+1+1+1) #[.func (.func 159) #[] #[], .slice (some ⟨w.heap.size,0,none⟩) 1 1, .func (.func 159) #[] #[], .slice (some ⟨w.heap.size+1,0,none⟩) 1 1, .func (.func 160) #[] #[], .slice (some ⟨w.heap.size+1+1,0,none⟩) 1 1, .func (.func 161) #[] #[], .slice (some ⟨w.heap.size+1+1+1,0,none⟩) 4 4, .func (.func 159) #[] #[], .slice (some ⟨w.heap.size+1+1+1+1,0,none⟩) 2 2, .func (.func 159) #[] #[], .slice (some ⟨w.heap.size+1+1+1+1+1,0,none⟩) 1 1, .func (.func 162) #[] #[], .slice none 0 0] 270 w7:=by have:=CBox.new w6 #[.func (.func 159) #[] #[], .slice (some ⟨w.heap.size,0,none⟩) 1 1, .func (.func 159) #[] #[], .slice (some ⟨w.heap.size+1,0,none⟩) 1 1, .func (.func 160) #[] #[], .slice (some ⟨w.heap.size+1+1,0,none⟩) 1 1, .func (.func 161) #[] #[], .slice (some ⟨w.heap.size+1+1+1,0,none⟩) 4 4, .func (.func 159) #[] #[], .slice (some ⟨w.heap.size+1+1+1+1,0,none⟩) 2 2, .func (.func 159) #[] #[], .slice (some ⟨w.heap.size+1+1+1+1+1,0,none⟩) 1 1, .func (.func 162) #[] #[], .slice none 0 0] 270;rw[<-e7,s6]at this;exact this
 have c0:=((((((b0.kp k2 (by simp)).kp k3 (by simp)).kp k4 (by simp)).kp k5 (by simp)).kp k6 (by simp)).kp k7 (by simp))
 have c1:=(((((b1.kp k3 (by simp)).kp k4 (by simp)).kp k5 (by simp)).kp k6 (by simp)).kp k7 (by simp))
 have c2:=((((b2.kp k4 (by simp)).kp k5 (by simp)).kp k6 (by simp)).kp k7 (by simp))
 have c3:=(((b3.kp k5 (by simp)).kp k6 (by simp)).kp k7 (by simp))
 have c4:=((b4.kp k6 (by simp)).kp k7 (by simp))
 have c5:=(b5.kp k7 (by simp))
 refine ⟨⟨w.heap.size+1+1+1+1+1+1,rfl,by rw[s7];omega,fun n hn=>?_⟩,?_⟩
 ·rcases (show n=0\/n=1\/n=2\/n=3\/n=4\/n=5\/n=6 by omega)with rfl|rfl|rfl|rfl|rfl|rfl|rfl
  ·exact ⟨b6.cell rfl,_,b6.cell rfl,q2w (os:=[12]) c0 (by rw[s7];omega)⟩
  ·exact ⟨b6.cell rfl,_,b6.cell rfl,q2w (os:=[11]) c1 (by rw[s7];omega)⟩
  ·exact ⟨b6.cell rfl,_,b6.cell rfl,q2w (os:=[13]) c2 (by rw[s7];omega)⟩
  ·exact ⟨b6.cell rfl,_,b6.cell rfl,q2w (os:=[7,8,9,10]) c3 (by rw[s7];omega)⟩
  ·exact ⟨b6.cell rfl,_,b6.cell rfl,q2w (os:=[4,5]) c4 (by rw[s7];omega)⟩
  ·exact ⟨b6.cell rfl,_,b6.cell rfl,q2w (os:=[6]) c5 (by rw[s7];omega)⟩
  ·exact ⟨b6.cell rfl,_,b6.cell rfl,Or.inl ⟨rfl,rfl⟩⟩
 ·exact ((((((k1.trans k2 (by simp)).trans k3 (by simp)).trans k4 (by simp)).trans k5 (by simp)).trans k6 (by simp)).trans k7 (by simp))
theorem q6O (w:World):Calls Tryz.prog 136 #[] w fun e w'=> ∃lv,e= .returned lv/\LvsLow w'.heap.size w' lv/\Kp [] w w':=by
 go_enter Tryz.func136,Tryz.ntmps136
 go_wp2
 refine bodyPost_ret (results_tmp rfl _ _ _) rfl ⟨_,rfl,?_⟩
 exact qaO w
open Go.RowKit
def Tk.ok (a:Tk):Prop:=(-9223372036854775808<=a.kd/\a.kd<=9223372036854775807)/\a.s.size<=9223372036854775807/\(-9223372036854775808<=a.n/\a.n<=9223372036854775807)/\(-9223372036854775808<=a.pl/\a.pl<=9223372036854775807)
def TksAt (w:World)(ad:Option Addr)(l:List Tk):Prop:=
 l≠[]-> ∃b off,ad=some ⟨b,off,none⟩/\b<w.heap.size/\ ∀i (h:i<l.length),w.cell? ⟨b,off+i * 4,none⟩=some (.int .i64 l[i].kd)/\w.cell? ⟨b,off+i * 4+1,none⟩=some (.string l[i].s)/\w.cell? ⟨b,off+i * 4+2,none⟩=some (.int .i64 l[i].n)/\w.cell? ⟨b,off+i * 4+3,none⟩=some (.int .i64 l[i].pl)
theorem TksAt.kp {w w':World}{ad:Option Addr}{l:List Tk}(h:TksAt w ad l)(hk:Kp [] w w'):TksAt w' ad l:=fun hl=>by
 obtain ⟨b,off,e,hlt,hc⟩:=h hl
 refine ⟨b,off,e,Nat.lt_of_lt_of_le hlt hk.size,fun i hi=>?_⟩
 obtain ⟨c0,c1,c2,c3⟩:=hc i hi
 exact ⟨hk.cell c0 (by simp),hk.cell c1 (by simp),hk.cell c2 (by simp),hk.cell c3 (by simp)⟩
theorem TksAt.at {w:World}{ad:Option Addr}{l:List Tk}(h:TksAt w ad l)(i:Nat)(hi:i<l.length): ∃b off,ad=some ⟨b,off,none⟩/\b<w.heap.size/\w.cell? ⟨b,off+i * 4,none⟩=some (.int .i64 l[i].kd)/\w.cell? ⟨b,off+i * 4+1,none⟩=some (.string l[i].s)/\w.cell? ⟨b,off+i * 4+2,none⟩=some (.int .i64 l[i].n)/\w.cell? ⟨b,off+i * 4+3,none⟩=some (.int .i64 l[i].pl):=by
 obtain ⟨b,off,e,hlt,hc⟩:=h (by intro e;subst e;simp at hi)
 exact ⟨b,off,e,hlt,hc i hi⟩
theorem qdg (l:List Tk)(i:Nat)(h:i<l.length):(tkC l)[i * 4]?=some (.int .i64 l[i].kd)/\(tkC l)[i * 4+1]?=some (.string l[i].s)/\(tkC l)[i * 4+2]?=some (.int .i64 l[i].n)/\(tkC l)[i * 4+3]?=some (.int .i64 l[i].pl):=by
 induction l generalizing i with
 |nil=>simp at h
 |cons x r ih=>
  have e:tkC (x::r)=[.int .i64 x.kd, .string x.s, .int .i64 x.n, .int .i64 x.pl]++tkC r:=by unfold tkC;rw[List.flatMap_cons]
  cases i with
  |zero=>rw[e];simp
  |succ i=>
   have hi:i<r.length:=by simpa using h
   obtain ⟨a,b,c,d⟩:=ih i hi
   rw[e]
   simp only[List.getElem_cons_succ]
   refine ⟨?_,?_,?_,?_⟩
   ·rw[List.getElem?_append_right (by simp;omega)];rw[<-a];congr 1;simp;omega
   ·rw[List.getElem?_append_right (by simp;omega)];rw[<-b];congr 1;simp;omega
   ·rw[List.getElem?_append_right (by simp;omega)];rw[<-c];congr 1;simp;omega
   ·rw[List.getElem?_append_right (by simp;omega)];rw[<-d];congr 1;simp;omega
theorem OwnsK.at {B:Nat}{w:World}{v:Value}{l:List Tk}(h:OwnsK B w v l): ∃ad cp,v= .slice ad l.length cp/\TksAt w ad l/\l.length<=cp:=by
 obtain ⟨_,⟨rfl,h0⟩|⟨g,cp,cur,rfl,_,_,hcap,_⟩⟩:=id h
 ·refine ⟨none,0,by rw[h0],fun hne=>?_,by omega⟩
  exact absurd (List.eq_nil_of_length_eq_zero h0) hne
 ·have hl:=World.ownsRow.lt h g rfl
  refine ⟨_,_,rfl,fun _=>⟨g,0,rfl,hl.2,fun i hi=>?_⟩,hcap⟩
  obtain ⟨a,b,c,d⟩:=qdg l i hi
  simp only[Nat.zero_add]
  refine ⟨?_,?_,?_,?_⟩
  ·rw[World.ownsRow.cellAt h (i * 4) (by omega)];exact a
  ·rw[World.ownsRow.cellAt h (i * 4+1) (by omega)];exact b
  ·rw[World.ownsRow.cellAt h (i * 4+2) (by omega)];exact c
  ·rw[World.ownsRow.cellAt h (i * 4+3) (by omega)];exact d
theorem qbC (l:List UInt8)(k c:Nat)(ts:List Tk)(h:toks l k c= .good ts)(hk:k+l.length<=9223372036854775807): ∀t∈ts,t.ok:=by
 revert ts
 refine q24 (P:=fun l k c=> ∀ts,toks l k c= .good ts->k+l.length<=9223372036854775807-> ∀t∈ts,t.ok) ?_ ?_ ?_ ?_ ?_ l k c |> fun g ts h=>g ts h hk
 ·intro k c ts h hk
  rw[q1A]at h
  cases h
  simp
 ·intro b r k c hb ih ts h hk
  rw[q12 hb]at h
  exact ih ts h (by simp at hk;omega)
 ·intro l k c h0 hb hn ts h
  rw[q1l hn h0 hb]at h
  cases h
 ·intro l k t n hn ts h
  rw[q1k hn]at h
  cases h
 ·intro l k c t n hn hc4 ih ts h hk
  rw[q13 hn hc4]at h
  obtain ⟨r,hr,rfl⟩:=q2L h
  obtain ⟨g1,g2,g3,g4,g5,g6,g7,g8,g9,_⟩:=q0o hn
  intro u hu
  simp at hu
  rcases hu with rfl|hu
  ·unfold Tk.ok Tk.out
   dsimp only
   omega
  ·exact ih r hr (by rw[List.length_drop];omega) u hu
theorem qbF (s:ByteArray):(∃ts,tsR s= .good ts/\toks s.data.toList 0 0= .good ts/\s.size<=262144)\/(tsL s.size (tsR s)=[]/\ ¬ tsC (tsR s)=0):=by
 unfold tsR
 split
 ·exact Or.inr ⟨rfl,by simp[tsC]⟩
 ·cases hR:toks s.data.toList 0 0 with
  |good ts=>exact Or.inl ⟨ts,rfl,rfl,by omega⟩
  |bad k c=>
   refine Or.inr ⟨rfl,?_⟩
   have key: ∀l k c p q,toks l k c= .bad p q->q≠0:=by
    intro l k c
    refine q24 (P:=fun l k c=> ∀p q,toks l k c= .bad p q->q≠0) ?_ ?_ ?_ ?_ ?_ l k c
    ·intro k c p q h;cases h
    ·intro b r k c hb ih p q h;rw[q12 hb]at h;exact ih p q h
    ·intro l k c h0 hb hn p q h;rw[q1l hn h0 hb]at h;cases h;omega
    ·intro l k t n hn p q h;rw[q1k hn]at h;cases h;omega
    ·intro l k c t n hn hc ih p q h;rw[q13 hn hc]at h;exact ih p q (qd2 h)
   exact key _ _ _ _ _ hR
open Go.RowKit
def psR (l:List Tk):PR:=pRd (mRd 0 l) 0 0 [] l
def hdPl:List Tk->Int
 |[]=>0
 |t::_=>t.pl
def hdKd:List Tk->Int
 |[]=>0
 |t::_=>t.kd
def PR.fits:PR->Prop
 | .bad _=>True
 | .good x _=> ∀p∈x,p.ok
theorem e0:(txt []).size=0:=rfl
theorem qdM {k:Int}(h: -100<=k/\k<=100):(opP k).ok:=by
 unfold opP Pt.ok
 dsimp only
 rw[e0]
 omega
theorem q65 {n:Nat}{s:List UInt8}{k:Int}(h:opA n s=some k):(opP k).ok:=by
 have h1:=(q66 h).1
 apply qdM
 unfold lvO at h1
 repeat' split at h1
 all_goals first|(simp at h1;omega)|simp at h1
theorem q95 (s:List UInt8): -1<=q0n s/\q0n s<=5:=by
 unfold q0n
 repeat' split
 all_goals omega
theorem q5F (st:ByteArray)(hst:st.size<=9223372036854775807)(ts:List Tk):(fdE st ts).fits:=by
 cases ts with
 |nil=>trivial
 |cons c r=>
  rw[fdE]
  split
  ·intro p hp
   simp only[List.mem_singleton]at hp
   subst hp
   have:=q95 (wdT c)
   unfold Pt.ok
   dsimp only
   rw[e0]
   omega
  ·trivial
theorem qav (t:Tk)(ht:t.ok)(r:List Tk):(fdR t r).fits:=by
 unfold fdR
 split
 ·cases r with
  |nil=>trivial
  |cons c q=>
   dsimp only
   split
   ·exact q5F t.s (by unfold Tk.ok at ht;omega) q
   ·trivial
 ·exact q5F (txt []) (by rw[e0];omega) _
theorem q9R (x:List Pt)(hx: ∀p∈x,p.ok)(q:List Tk):(shut x q).fits:=by
 cases q with
 |nil=>trivial
 |cons c q=>
  rw[shut]
  split
  ·exact hx
  ·trivial
theorem q7R {a b:List Tk}(h:a<:+b){Q:Tk->Prop}(hb: ∀t∈b,Q t): ∀t∈a,Q t:=fun t ht=>hb t (h.mem ht)
theorem q4r {k:Int}{x:List Pt}(h:(opP k).ok)(hx: ∀p∈x,p.ok): ∀p∈opP k::x,p.ok:=by
 intro p hp
 rcases List.mem_cons.1 hp with rfl|hp
 ·exact h
 ·exact hx p hp
theorem q8J {x y:List Pt}(hx: ∀p∈x,p.ok)(hy: ∀p∈y,p.ok): ∀p∈x++y,p.ok:=by
 intro p hp
 rcases List.mem_append.1 hp with hp|hp
 ·exact hx p hp
 ·exact hy p hp
theorem q6h (f:Nat): ∀(m d:Nat) (acc:List Pt) (ts:List Tk),(∀t∈ts,t.ok)->(∀p∈acc,p.ok)->(pRd f m d acc ts).fits:=by
 induction f with
 |zero=>intro m d acc ts _ _;rw[pRd];trivial
 |succ f ih=>
  intro m d acc ts hts hacc
  have ih': ∀(m d:Nat) (acc:List Pt) (ts':List Tk),ts'<:+ts->(∀p∈acc,p.ok)->(pRd f m d acc ts').fits:=fun m d acc ts' hs ha=>ih m d acc ts' (q7R hs hts) ha
  have suf:=fun (m d:Nat) (acc:List Pt) (ts':List Tk)=>q7H f m d acc ts'
  have nil: ∀p∈([]:List Pt),p.ok:=fun p hp=>by cases hp
  cases ts with
  |nil=>rw[pRd];trivial
  |cons t r=>
   have ht:=hts t (by simp)
   have hr:r<:+t::r:=List.suffix_cons t r
   have hrf:t::r<:+t::r:=List.suffix_refl _
   rw[pRd]
   by_cases h6:m=6
   ·rw[if_pos h6]
    split
    ·intro p hp
     simp only[List.mem_singleton]at hp
     subst hp
     unfold Tk.ok at ht
     unfold Pt.ok
     dsimp only
     rw[e0]
     omega
    ·split
     ·intro p hp
      simp only[List.mem_singleton]at hp
      subst hp
      unfold Tk.ok at ht
      unfold Pt.ok
      dsimp only
      rw[e0]
      omega
     ·split
      ·exact qav t ht r
      ·split
       ·split
        ·have h1:=ih' 0 (d+1) [] r hr nil
         cases hE:pRd f 0 (d+1) [] r with
         |bad q=>trivial
         |good x q=>rw[hE]at h1;exact q9R x h1 q
        ·trivial
       ·trivial
   ·rw[if_neg h6]
    split
    ·split
     ·rename_i kk hk
      split
      ·have h1:=ih' 2 (d+1) [] r hr nil
       cases hE:pRd f 2 (d+1) [] r with
       |bad q=>trivial
       |good x q=>rw[hE]at h1;exact q4r (q65 hk) h1
      ·trivial
     ·exact ih' 3 d [] (t::r) hrf nil
    ·split
     ·have h1:=ih' 4 d [] (t::r) hrf nil
      have s1:=suf 4 d [] (t::r)
      cases hE:pRd f 4 d [] (t::r)with
      |bad q=>trivial
      |good x q=>
       rw[hE]at h1 s1
       cases q with
       |nil=>trivial
       |cons c q'=>
        dsimp only
        split
        ·exact h1
        ·rename_i kk hk
         have h2:=ih' 4 d [] q' ((List.suffix_cons c q').trans s1) nil
         cases hE2:pRd f 4 d [] q' with
         |bad s=>trivial
         |good y s=>rw[hE2]at h2;exact q4r (q65 hk) (q8J h1 h2)
     ·split
      ·have h1:=ih' (m+1) d [] (t::r) hrf nil
       have s1:=suf (m+1) d [] (t::r)
       cases hE:pRd f (m+1) d [] (t::r)with
       |bad q=>trivial
       |good x q=>rw[hE]at h1 s1;exact ih' (m+10) d x q s1 h1
      ·split
       ·exact hacc
       ·rename_i kk hk
        have h1:=ih' (m-10+1) d [] r hr nil
        have s1:=suf (m-10+1) d [] r
        cases hE:pRd f (m-10+1) d [] r with
        |bad q=>trivial
        |good y q=>rw[hE]at h1 s1;exact ih' m d _ q (s1.trans hr) (q4r (q65 hk) (q8J hacc h1))
theorem q8X (ts:List Tk)(n:Nat):Endd (ts++[endZ n]):=⟨ts,endZ n,rfl,rfl⟩
open Go.RowKit Go.Shelf
structure Stg where
 nm:ByteArray
 hw:Int
 mn:Bool
 cd:List Pt
structure Ptn where
 ss:List Stg
 wi:Int
def noP:Ptn:=⟨[],0⟩
def cdOk (x:List Pt)(ah:List ByteArray):Bool:=decide (ckK x=3) && (stgS x).all (hasN ah)
def hwOk (h:Int)(n:Nat):Bool:=decide (0<=h) && (decide (h<=3) && (decide (h=0)==decide (n=0)))
def stOk (s:Stg)(ah:List ByteArray):Bool:=isSg s.nm && (!hasN ah s.nm && (hwOk s.hw ah.length && cdOk s.cd ah))
def q00 (l:List Stg):List ByteArray:=l.map (·.nm)
def bad1:List Stg->List ByteArray->Nat->Option Nat
 |[],_,_=>none
 |s::r,ah,i=>if stOk s ah then bad1 r (ah++[s.nm]) (i+1) else some i
def wiOk (n:Int):Bool:=decide (1<=n) && decide (n<=256)
def pcR (p:Ptn):Int × Int:=if p.ss.length<1\/8<p.ss.length then (0,120) else match bad1 p.ss [] 0 with
 |some i=>((i:Int),120)
 |none=>if wiOk p.wi then (0,0) else ((p.ss.length:Int),120)
theorem q8N {l:List Stg}{k:Nat}(h:k<l.length):bad1 (l.drop k) (q00 (l.take k)) k=if stOk l[k] (q00 (l.take k)) then bad1 (l.drop (k+1)) (q00 (l.take (k+1))) (k+1) else some k:=by
 rw[List.drop_eq_getElem_cons h,bad1,List.take_succ_eq_append_getElem h]
 unfold q00
 rw[List.map_append]
 rfl
theorem qac (l:List Stg):bad1 (l.drop l.length) (q00 (l.take l.length)) l.length=none:=by rw[List.drop_length];rfl
theorem q0D (l:List Stg):(q00 l).length=l.length:=by unfold q00;rw[List.length_map]
theorem q41 {l:List Stg}{k:Nat}(h:k<l.length):q00 (l.take (k+1))=q00 (l.take k)++[l[k].nm]:=by
 unfold q00
 rw[List.take_succ_eq_append_getElem h,List.map_append]
 rfl
theorem qcU (s:ByteArray):ckK [⟨3,0,⟨#[]⟩,s,0⟩]=if q05 s=true\/isSg s=true then 1 else 0:=by
 have h1:fdX shp [⟨3,0,⟨#[]⟩,s,0⟩]=some ⟨lfK ⟨3,0,⟨#[]⟩,s,0⟩,1⟩:=rfl
 unfold ckK
 rw[if_neg (by simp),h1]
 dsimp only
 rw[if_neg (by omega)]
 unfold lfK
 rw[if_neg (by dsimp only;omega),if_neg (by dsimp only;omega)]
 dsimp only
 have e0:q05 (⟨#[]⟩:ByteArray)=true:=rfl
 by_cases h:q05 s=true\/isSg s=true
 ·rw[if_pos ⟨rfl,rfl,e0,h⟩,if_pos h]
  rfl
 ·rw[if_neg (fun hh=>h hh.2.2.2),if_neg h]
theorem qeJ {s:ByteArray}(h:isSg s=true):q05 s=false:=by
 have:=(q38 h).1
 unfold q05
 rw[beq_eq_false_iff_ne]
 omega
theorem qcV (s:ByteArray):isSg s=(!q05 s && decide ((if ckK [⟨3,0,⟨#[]⟩,s,0⟩]=0 then (110:Int) else 0)=0)):=by
 rw[qcU]
 cases h:isSg s with
 |true=>rw[qeJ h];simp
 |false=>
  cases h2:q05 s with
  |true=>rfl
  |false=>simp
def wdL:List Tk->List UInt8
 |[]=>[]
 |t::_=>wdT t
def wdM:List Tk->ByteArray
 |[]=>⟨#[]⟩
 |t::_=>wdS t
def hwOf (s:List UInt8):Option Int:=if s=[97,110,121] then some 3 else if s=[116,104,101,110] then some 2 else if s=[110,101,120,116] then some 1 else if s=[115,116,97,114,116] then some 0 else none
inductive SRd where
 |bad (a c:Int)
 |good (s:Stg) (r:List Tk)
def cdR (h:Int)(nm:ByteArray)(m:Bool)(l:List Tk):SRd:=match psR l with
 | .bad q=> .bad (hdPl q) 110
 | .good x q=>if ckK x=0 then .bad 0 110 else if wdL q=[59] then .good ⟨nm,h,m,x⟩ (q.drop 1) else .bad (hdPl q) 120
def clR (h:Int)(nm:ByteArray)(m:Bool)(l:List Tk):SRd:=if wdL l=[58] then cdR h nm m (l.drop 1) else .bad (hdPl l) 120
def mnR (h:Int)(nm:ByteArray)(l:List Tk):SRd:=if wdL l=[43] then clR h nm true (l.drop 1) else clR h nm false l
def nmR (h:Int)(l:List Tk):SRd:=if isSg (wdM l) then mnR h (wdM l) (l.drop 1) else .bad (hdPl l) 120
def stgR (l:List Tk):SRd:=match hwOf (wdL l)with
 |none=> .bad (hdPl l) 120
 |some h=>nmR h (l.drop 1)
def witW:List UInt8:=[119,105,116,104,105,110]
inductive PRd where
 |bad (a c:Int)
 |good (p:Ptn)
def nbR (acc:List Stg):List Tk->PRd
 |[]=> .bad 0 120
 |t::r=>if t.kd=2 then (if hdKd r=0 then .good ⟨acc,if 257<t.n then 257 else t.n⟩ else .bad (hdPl r) 120) else .bad (hdPl (t::r)) 120
def ptR:Nat->List Stg->List Tk->PRd
 |0,_,l=> .bad (hdPl l) 120
 |f+1,acc,l=>if wdL l=witW then nbR acc (l.drop 1) else if acc.length=8 then .bad (hdPl l) 120 else match stgR l with
  | .bad a c=> .bad a c
  | .good s r=>ptR f (acc++[s]) r
structure PO where
 p:Ptn
 at_:Int
 c:Int
def rdPG (n:Nat)(ts:List Tk):PO:=match ptR 9 [] (ts++[endZ n])with
 | .bad a c=>⟨noP,a,c⟩
 | .good p=>if (pcR p).2=0 then ⟨p,0,0⟩ else ⟨noP,0,120⟩
def rdP (s:ByteArray):PO:=match tsR s with
 | .bad p q=>⟨noP,(p:Int),q⟩
 | .good ts=>rdPG s.size ts
open Go.RowKit Go.Shelf
structure Nd where
 st:Int
 lp:Bool
 tk:Bool
def Nd.c (n:Nd):Array Value:=#[.int .i64 n.st, .bool n.lp, .bool n.tk]
def zN:Nd:=⟨0,false,false⟩
def ndE (a b:Nd):Bool:=decide (a.st=b.st) && (a.lp==b.lp && a.tk==b.tk)
def mnAt (l:List Stg)(i:Nat):Bool:=match l[i]? with
 |some s=>s.mn
 |none=>false
def hwAt (l:List Stg)(i:Nat):Int:=match l[i]? with
 |some s=>s.hw
 |none=>0
theorem qb7 {l:List Stg}{i:Nat}(h:i<l.length):mnAt l i=l[i].mn:=by unfold mnAt;rw[List.getElem?_eq_getElem h]
theorem q5P {l:List Stg}{i:Nat}(h:i<l.length):hwAt l i=l[i].hw:=by unfold hwAt;rw[List.getElem?_eq_getElem h]
def bgN (l:List Stg)(s:Nat):Nd:=⟨(s:Int),mnAt l (s-1),decide (s<l.length)⟩
def isS (l:List Stg)(s:Int):Bool:=decide (1<=s) && decide (s<=(l.length:Int))
def mayN (l:List Stg)(n:Nd):Bool:=isS l n.st && ((mnAt l (n.st.toNat-1)|| !n.lp) && (decide (n.st.toNat<l.length)|| !n.tk))
def stay (h:Int)(b:Bool):Bool:=decide (h=3)||(decide (h=2) && !b)
def psN (l:List Stg)(n:Nd)(lo ta:Bool):Nd:=⟨n.st,n.lp && stay (hwAt l (n.st.toNat-1)) lo,n.tk && stay (hwAt l n.st.toNat) ta⟩
def Nd.live (n:Nd):Bool:=n.lp||n.tk
structure Sps where
 lp:Nd
 tk:Nd
 wt:Nd
 cl:Bool
 ct:Bool
 cw:Bool
def Sps.c (s:Sps):Array Value:=#[.int .i64 s.lp.st, .bool s.lp.lp, .bool s.lp.tk, .int .i64 s.tk.st, .bool s.tk.lp, .bool s.tk.tk, .int .i64 s.wt.st, .bool s.wt.lp, .bool s.wt.tk, .bool s.cl, .bool s.ct, .bool s.cw]
def zS:Sps:=⟨zN,zN,zN,false,false,false⟩
def stpN (l:List Stg)(n:Nd)(lo ta:Bool):Sps:=
 ⟨if (n.lp && lo)=true then bgN l n.st.toNat else zN,if (n.tk && ta)=true then bgN l (n.st.toNat+1) else zN,if (psN l n lo ta).live=true then psN l n lo ta else zN,n.lp && lo,n.tk && ta,(psN l n lo ta).live⟩
theorem isS_iff {l:List Stg}{s:Int}:isS l s=true↔1<=s/\s<=(l.length:Int):=by unfold isS;simp
theorem q4Y {l:List Stg}{n:Nd}(h:mayN l n=true):isS l n.st=true/\(n.lp=true->mnAt l (n.st.toNat-1)=true)/\(n.tk=true->n.st.toNat<l.length):=by
 unfold mayN at h
 simp only[Bool.and_eq_true,Bool.or_eq_true,Bool.not_eq_true',decide_eq_true_eq]at h
 refine ⟨h.1,fun e=>?_,fun e=>?_⟩
 ·rcases h.2.1 with h'|h'
  ·exact h'
  ·rw[e]at h';cases h'
 ·rcases h.2.2 with h'|h'
  ·exact h'
  ·rw[e]at h';cases h'
end Go.Proofs.YtcmjnlpofebbmaaGreatDoor
namespace Go.Proofs.YtcmjnlpofebbmaaGreatDoor.Mt
def lasE (es:List Ev)(L:List Nat):List Ev:=L.map fun q=>es.getD q evZ
def Hp (p:Ptn)(es:List Ev)(t:Nat)(L:List Nat)(q:Nat):Bool:=match p.ss[t]? with
 |some s=>hdB s.cd ⟨es.getD q evZ,(q00 p.ss).take t,lasE es L⟩
 |none=>false
def pm (p:Ptn)(es:List Ev):Pm:=⟨p.ss.length,mnAt p.ss,hwAt p.ss,es.length,Hp p es⟩
def askP (p:Ptn)(t i:Nat):Bool:=match p.ss[t]?,(q00 p.ss)[i]? with
 |some s,some n=>hasN (stgS s.cd) n
 |_,_=>false
theorem qcE {x:List Pt}{e:Ev}{ns:List ByteArray}{la lb:List Ev}(hl:la.length=lb.length)(h:la.length=ns.length-> ∀s∈stgS x,la.getD (fstN s ns) evZ=lb.getD (fstN s ns) evZ):hdB x ⟨e,ns,la⟩=hdB x ⟨e,ns,lb⟩:=by
 unfold hdB
 have he:hdE x ⟨e,ns,la⟩=hdE x ⟨e,ns,lb⟩:=by unfold hdE;dsimp only;rw[hl]
 rw[he]
 by_cases h0:hdE x ⟨e,ns,lb⟩=0
 ·have h3:ckK x=3:=by
   unfold hdE at h0
   by_cases hc:ckK x=3
   ·exact hc
   ·rw[if_pos hc]at h0;cases h0
  have hln:la.length=ns.length:=by
   unfold hdE at h0
   rw[if_neg (by rw[h3];simp)]at h0
   dsimp only at h0
   by_cases hc:ns.length=lb.length
   ·omega
   ·rw[if_pos (Or.inl hc)]at h0;cases h0
  have:fdX (vlv ⟨e,ns,la⟩) x=fdX (vlv ⟨e,ns,lb⟩) x:=q90 x (fun p hp l=>by
   match l with
   |[]=>
    show lfV _ p=lfV _ p
    unfold lfV
    have:(⟨e,ns,la⟩:Mo).at p.st=(⟨e,ns,lb⟩:Mo).at p.st:=by
     unfold Mo.at
     cases hem:q05 p.st with
     |true=>rfl
     |false=>
      simp only[Bool.false_eq_true,if_false]
      refine h hln p.st ?_
      rw[qde h3]
      rcases (q5e x []).2 p hp with h1|h1
      ·rw[hem]at h1;cases h1
      ·exact h1
    rw[this]
   |[a]=>rfl
   |a::b::r=>rfl)
  rw[this]
 ·rw[if_pos h0,if_pos h0]
theorem asks_pm (p:Ptn)(es:List Ev):Asks (pm p es) (askP p):=by
 intro t l l' q hl ha
 show Hp p es t l q=Hp p es t l' q
 unfold Hp
 cases hs:p.ss[t]? with
 |none=>rfl
 |some s=>
  dsimp only
  refine qcE (by unfold lasE;rw[List.length_map,List.length_map,hl]) (fun hln n hn=>?_)
  have hll:l.length=((q00 p.ss).take t).length:=by unfold lasE at hln;rwa [List.length_map]at hln
  generalize hk:fstN n ((q00 p.ss).take t)=k
  have e:l[k]?=l'[k]?:=by
   by_cases hlt:k<((q00 p.ss).take t).length
   ·have hat:=q1v (s:=n) (l:=(q00 p.ss).take t) (by rw[hk];exact hlt)
    refine ha k ?_
    unfold askP
    rw[hs]
    have hn2:(q00 p.ss)[k]?=some n:=by
     have h1:((q00 p.ss).take t)[k]?=some n:=by
      rw[List.getElem?_eq_getElem hlt]
      have h2:=hat.1
      subst hk
      rw[h2]
     rw[List.getElem?_take]at h1
     split at h1
     ·exact h1
     ·cases h1
    rw[hn2]
    exact (q1w _ _).2 hn
   ·rw[List.getElem?_eq_none (by omega),List.getElem?_eq_none (by omega)]
  unfold lasE
  rw[List.getD_eq_getElem?_getD,List.getD_eq_getElem?_getD,List.getElem?_map,List.getElem?_map,e]
end Go.Proofs.YtcmjnlpofebbmaaGreatDoor.Mt
