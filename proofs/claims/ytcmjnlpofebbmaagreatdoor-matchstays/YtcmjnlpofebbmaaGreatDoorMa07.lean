/-
  Walks and plain facts, made small.
-/
import Derived.Test.YtcmjnlpofebbmaaGreatDoorMa06
import Derived.Deep.WholeRow
import Derived.Laws.EntriesVeiled
set_option maxRecDepth 100000
set_option maxHeartbeats 8000000
set_option linter.unusedSimpArgs false
namespace Go.Proofs.YtcmjnlpofebbmaaGreatDoor
open Go.RowKit
def Pt.v (p:Pt):Value:= .agg #[.int .i64 p.kd, .int .i64 p.n, .string p.s, .string p.st, .int .i64 p.fl]
def Pt.c (p:Pt):Array Value:=#[.int .i64 p.kd, .int .i64 p.n, .string p.s, .string p.st, .int .i64 p.fl]
def ptEq (a b:Pt):Bool:=a.kd==b.kd && (a.n==b.n && (a.s.data.toList==b.s.data.toList && (a.st.data.toList==b.st.data.toList && a.fl==b.fl)))
theorem q2M (a b:Pt):ptEq a b=true↔a=b:=by
 obtain ⟨k,n,s,t,f⟩:=a
 obtain ⟨k',n',s',t',f'⟩:=b
 unfold ptEq
 simp only[Bool.and_eq_true,beq_iff_eq,Pt.mk.injEq]
 constructor
 ·rintro ⟨h1,h2,h3,h4,h5⟩
  exact ⟨h1,h2,by rw[<-q0z s, <-q0z s',h3],by rw[<-q0z t, <-q0z t',h4],h5⟩
 ·rintro ⟨h1,h2,h3,h4,h5⟩
  exact ⟨h1,h2,by rw[h3],by rw[h4],h5⟩
theorem eqP (d:Nat)(a b:Pt)(w:World):(Op.equalIn (d+2) 166 a.v b.v).run Tryz.prog w= .ok (ptEq a b) w:=by
 obtain ⟨k,n,s,t,f⟩:=a
 obtain ⟨k',n',s',t',f'⟩:=b
 have hi:=fun (a b:Int) (w:World)=>run_equalIn_int (P:=Tryz.prog) w d 3 .i64 .i64 a b Tryz.underlying3
 have hi6:=fun (a b:Int) (w:World)=>run_equalIn_int (P:=Tryz.prog) w d 2 .i64 .i64 a b Tryz.underlying2
 have hs:=fun (a b:ByteArray) (w:World)=>run_equalIn_string (P:=Tryz.prog) w d 9 a b Tryz.underlying9
 unfold Op.equalIn Pt.v ptEq
 simp only[Sem.run_bind,run_underlying Tryz.underlying166,Result.andThen_ok]
 simp[part,Tryz.sizeOf3,Tryz.sizeOf2,Tryz.sizeOf9,go_sem,hi,hi6,hs,ByteArray.toList_eq]
 by_cases h0:k=k' <;> by_cases h1:n=n' <;> by_cases h2:s.data=s'.data <;> by_cases h3:t.data=t'.data <;> by_cases h4:f=f' <;> simp[h0,h1,h2,h3,h4]
theorem q2q (s:ByteArray):q05 s=true↔s=txt []:=⟨q0J,fun h=>by rw[h];rfl⟩
theorem q5C (s:ByteArray):s.toList.isEmpty=q05 s:=by
 rw[toList_data]
 unfold q05
 rw[Bool.eq_iff_iff,List.isEmpty_iff,beq_iff_eq]
 exact List.length_eq_zero_iff.symm
theorem eqP1 (p:Pt):ptEq p ⟨1,p.n,txt [],txt [],0⟩=true↔p.kd=1/\q05 p.s=true/\q05 p.st=true/\p.fl=0:=by
 obtain ⟨k,n,s,t,f⟩:=p
 rw[q2M,q2q,q2q]
 simp
theorem eqP2 (p:Pt):ptEq p ⟨2,0,p.s,txt [],0⟩=true↔p.kd=2/\p.n=0/\q05 p.st=true/\p.fl=0:=by
 obtain ⟨k,n,s,t,f⟩:=p
 rw[q2M,q2q]
 simp
theorem eqP3 (p:Pt):ptEq p ⟨3,0,txt [],p.st,p.fl⟩=true↔p.kd=3/\p.n=0/\q05 p.s=true:=by
 obtain ⟨k,n,s,t,f⟩:=p
 rw[q2M,q2q]
 simp
theorem eqPk (p:Pt):ptEq p (opP p.kd)=q1n p:=by
 obtain ⟨k,n,s,t,f⟩:=p
 rw[Bool.eq_iff_iff,q2M]
 unfold opP q1n
 simp[q2q]
theorem qcP (p:Pt):lfK p=if ptEq p ⟨1,p.n,txt [],txt [],0⟩=true/\0<=p.n then 1 else if ptEq p ⟨2,0,p.s,txt [],0⟩=true/\isTx p.s=true then 2 else if ptEq p ⟨3,0,txt [],p.st,p.fl⟩=true/\(q05 p.st=true\/isSg p.st=true) then fldK p.fl else 0:=by
 unfold lfK
 simp only[eqP1,eqP2,eqP3,and_assoc]
def Pt.fit (p:Pt):Prop:=p.st.size<=9223372036854775807
theorem q9E {w W:World}{a b c d e:Value}(h:CBox w.heap.size #[a,b,c,d,e] 166 (w.alloc (.cells #[a,b,c,d,e] 166)))(hk:Kp [] (w.alloc (.cells #[a,b,c,d,e] 166)) W)(hT:TbE w):
  (W.cell? ⟨w.heap.size,0,none⟩=some a/\W.cell? ⟨w.heap.size,1,none⟩=some b/\W.cell? ⟨w.heap.size,2,none⟩=some c/\W.cell? ⟨w.heap.size,3,none⟩=some d/\W.cell? ⟨w.heap.size,4,none⟩=some e)/\Hid (TbE W)/\Hid (Below w.heap.size w W):=by
 have h2:=h.kp hk (by simp)
 exact ⟨⟨h2.cell rfl,h2.cell rfl,h2.cell rfl,h2.cell rfl,h2.cell rfl⟩,hZq ((hT.alloc _).kp hk (by simp)),hZq (((Below.refl _ _).alloc (Nat.le_refl _) _).trans (hk.below (by simp) (by simp)))⟩
theorem q5Z (p:Pt)(w:World)(hT:TbE w)(hf:p.fit):Calls Tryz.prog 141 #[p.v] w fun e w'=>e= .returned (.int .i64 (lfK p))/\Below w.heap.size w w':=by
 have q1:=fun W=>eqP 9998 p ⟨1,p.n,txt [],txt [],0⟩ W
 have q2:=fun W=>eqP 9998 p ⟨2,0,p.s,txt [],0⟩ W
 have q3:=fun W=>eqP 9998 p ⟨3,0,txt [],p.st,p.fl⟩ W
 have TX:=hZq (fun W=>q8k p.s W)
 have SG:=hZq (fun W hW=>q6U p.st W hW hf)
 have FK:=hZq (fun W=>q5c p.fl W)
 have em:=q5C p.st
 rw[qcP]
 generalize ptEq p ⟨1,p.n,txt [],txt [],0⟩=b1 at *
 generalize ptEq p ⟨2,0,p.s,txt [],0⟩=b2 at *
 generalize ptEq p ⟨3,0,txt [],p.st,p.fl⟩=b3 at *
 generalize isTx p.s=bt at *
 generalize isSg p.st=bs at *
 generalize q05 p.st=be at *
 generalize fldK p.fl=K at *
 clear hf
 obtain ⟨kd,n,s,st,fl⟩:=p
 unfold Pt.v txt at *
 dsimp only at *
 have CX:CBox w.heap.size #[.int .i64 kd, .int .i64 n, .string s, .string st, .int .i64 fl] 166 (w.alloc (.cells #[.int .i64 kd, .int .i64 n, .string s, .string st, .int .i64 fl] 166)):=CBox.new w _ _
 have HT0:=hZq (hT.alloc (.cells #[.int .i64 kd, .int .i64 n, .string s, .string st, .int .i64 fl] 166))
 have HB0:Hid (Below w.heap.size w (w.alloc (.cells #[.int .i64 kd, .int .i64 n, .string s, .string st, .int .i64 fl] 166))):=hZq ((Below.refl _ _).alloc (Nat.le_refl _) _)
 have PC:=hZq (fun W (hk:Kp [] (w.alloc (.cells #[.int .i64 kd, .int .i64 n, .string s, .string st, .int .i64 fl] 166)) W)=>q9E CX hk hT)
 clear hT CX
 go_enter Tryz.func141,Tryz.ntmps141
 by_cases hn:0<=n
 ·cases b1
  ·have h0: ¬ (false=true/\0<=n):=by simp
   cases b2
   ·have h1: ¬ (false=true/\bt=true):=by simp
    cases b3
    ·rw[if_neg h0,if_neg h1,if_neg (by simp)]
     go_wp2_with (first
      |(go_at_call 174;refine (uQ TX _).mono ?_;rintro e w1 ⟨rfl,hk⟩;obtain ⟨⟨d0,d1,d2,d3,d4⟩,HT1,HB1⟩:=uQ PC w1 hk;clear hk PC)
      |(go_at_call 175;first|(refine (uQ SG _ (uQ HT1)).mono ?_;rintro e w2 ⟨rfl,hw2⟩;subst hw2;clear HT1)|(refine (uQ SG _ (uQ HT0)).mono ?_;rintro e w2 ⟨rfl,hw2⟩;subst hw2;clear HT0))
      |(go_at_call 176;refine (uQ FK _).mono ?_;rintro e w3 ⟨rfl,hw3⟩;subst hw3))
     go_ret
     first|exact ⟨rfl,uQ HB1⟩|exact ⟨rfl,uQ HB0⟩
    ·cases be
     ·cases bs
      ·rw[if_neg h0,if_neg h1,if_neg (by simp)]
       go_wp2_with (first
        |(go_at_call 174;refine (uQ TX _).mono ?_;rintro e w1 ⟨rfl,hk⟩;obtain ⟨⟨d0,d1,d2,d3,d4⟩,HT1,HB1⟩:=uQ PC w1 hk;clear hk PC)
        |(go_at_call 175;first|(refine (uQ SG _ (uQ HT1)).mono ?_;rintro e w2 ⟨rfl,hw2⟩;subst hw2;clear HT1)|(refine (uQ SG _ (uQ HT0)).mono ?_;rintro e w2 ⟨rfl,hw2⟩;subst hw2;clear HT0))
        |(go_at_call 176;refine (uQ FK _).mono ?_;rintro e w3 ⟨rfl,hw3⟩;subst hw3))
       go_ret
       first|exact ⟨rfl,uQ HB1⟩|exact ⟨rfl,uQ HB0⟩
      ·rw[if_neg h0,if_neg h1,if_pos (by simp)]
       go_wp2_with (first
        |(go_at_call 174;refine (uQ TX _).mono ?_;rintro e w1 ⟨rfl,hk⟩;obtain ⟨⟨d0,d1,d2,d3,d4⟩,HT1,HB1⟩:=uQ PC w1 hk;clear hk PC)
        |(go_at_call 175;first|(refine (uQ SG _ (uQ HT1)).mono ?_;rintro e w2 ⟨rfl,hw2⟩;subst hw2;clear HT1)|(refine (uQ SG _ (uQ HT0)).mono ?_;rintro e w2 ⟨rfl,hw2⟩;subst hw2;clear HT0))
        |(go_at_call 176;refine (uQ FK _).mono ?_;rintro e w3 ⟨rfl,hw3⟩;subst hw3))
       go_ret
       first|exact ⟨rfl,uQ HB1⟩|exact ⟨rfl,uQ HB0⟩
     ·rw[if_neg h0,if_neg h1,if_pos (by simp)]
      go_wp2_with (first
       |(go_at_call 174;refine (uQ TX _).mono ?_;rintro e w1 ⟨rfl,hk⟩;obtain ⟨⟨d0,d1,d2,d3,d4⟩,HT1,HB1⟩:=uQ PC w1 hk;clear hk PC)
       |(go_at_call 175;first|(refine (uQ SG _ (uQ HT1)).mono ?_;rintro e w2 ⟨rfl,hw2⟩;subst hw2;clear HT1)|(refine (uQ SG _ (uQ HT0)).mono ?_;rintro e w2 ⟨rfl,hw2⟩;subst hw2;clear HT0))
       |(go_at_call 176;refine (uQ FK _).mono ?_;rintro e w3 ⟨rfl,hw3⟩;subst hw3))
      go_ret
      first|exact ⟨rfl,uQ HB1⟩|exact ⟨rfl,uQ HB0⟩
   ·cases bt
    ·have h1: ¬ (true=true/\false=true):=by simp
     cases b3
     ·rw[if_neg h0,if_neg h1,if_neg (by simp)]
      go_wp2_with (first
       |(go_at_call 174;refine (uQ TX _).mono ?_;rintro e w1 ⟨rfl,hk⟩;obtain ⟨⟨d0,d1,d2,d3,d4⟩,HT1,HB1⟩:=uQ PC w1 hk;clear hk PC)
       |(go_at_call 175;first|(refine (uQ SG _ (uQ HT1)).mono ?_;rintro e w2 ⟨rfl,hw2⟩;subst hw2;clear HT1)|(refine (uQ SG _ (uQ HT0)).mono ?_;rintro e w2 ⟨rfl,hw2⟩;subst hw2;clear HT0))
       |(go_at_call 176;refine (uQ FK _).mono ?_;rintro e w3 ⟨rfl,hw3⟩;subst hw3))
      go_ret
      first|exact ⟨rfl,uQ HB1⟩|exact ⟨rfl,uQ HB0⟩
     ·cases be
      ·cases bs
       ·rw[if_neg h0,if_neg h1,if_neg (by simp)]
        go_wp2_with (first
         |(go_at_call 174;refine (uQ TX _).mono ?_;rintro e w1 ⟨rfl,hk⟩;obtain ⟨⟨d0,d1,d2,d3,d4⟩,HT1,HB1⟩:=uQ PC w1 hk;clear hk PC)
         |(go_at_call 175;first|(refine (uQ SG _ (uQ HT1)).mono ?_;rintro e w2 ⟨rfl,hw2⟩;subst hw2;clear HT1)|(refine (uQ SG _ (uQ HT0)).mono ?_;rintro e w2 ⟨rfl,hw2⟩;subst hw2;clear HT0))
         |(go_at_call 176;refine (uQ FK _).mono ?_;rintro e w3 ⟨rfl,hw3⟩;subst hw3))
        go_ret
        first|exact ⟨rfl,uQ HB1⟩|exact ⟨rfl,uQ HB0⟩
       ·rw[if_neg h0,if_neg h1,if_pos (by simp)]
        go_wp2_with (first
         |(go_at_call 174;refine (uQ TX _).mono ?_;rintro e w1 ⟨rfl,hk⟩;obtain ⟨⟨d0,d1,d2,d3,d4⟩,HT1,HB1⟩:=uQ PC w1 hk;clear hk PC)
         |(go_at_call 175;first|(refine (uQ SG _ (uQ HT1)).mono ?_;rintro e w2 ⟨rfl,hw2⟩;subst hw2;clear HT1)|(refine (uQ SG _ (uQ HT0)).mono ?_;rintro e w2 ⟨rfl,hw2⟩;subst hw2;clear HT0))
         |(go_at_call 176;refine (uQ FK _).mono ?_;rintro e w3 ⟨rfl,hw3⟩;subst hw3))
        go_ret
        first|exact ⟨rfl,uQ HB1⟩|exact ⟨rfl,uQ HB0⟩
      ·rw[if_neg h0,if_neg h1,if_pos (by simp)]
       go_wp2_with (first
        |(go_at_call 174;refine (uQ TX _).mono ?_;rintro e w1 ⟨rfl,hk⟩;obtain ⟨⟨d0,d1,d2,d3,d4⟩,HT1,HB1⟩:=uQ PC w1 hk;clear hk PC)
        |(go_at_call 175;first|(refine (uQ SG _ (uQ HT1)).mono ?_;rintro e w2 ⟨rfl,hw2⟩;subst hw2;clear HT1)|(refine (uQ SG _ (uQ HT0)).mono ?_;rintro e w2 ⟨rfl,hw2⟩;subst hw2;clear HT0))
        |(go_at_call 176;refine (uQ FK _).mono ?_;rintro e w3 ⟨rfl,hw3⟩;subst hw3))
       go_ret
       first|exact ⟨rfl,uQ HB1⟩|exact ⟨rfl,uQ HB0⟩
    ·rw[if_neg h0,if_pos (by simp)]
     go_wp2_with (first
      |(go_at_call 174;refine (uQ TX _).mono ?_;rintro e w1 ⟨rfl,hk⟩;obtain ⟨⟨d0,d1,d2,d3,d4⟩,HT1,HB1⟩:=uQ PC w1 hk;clear hk PC)
      |(go_at_call 175;first|(refine (uQ SG _ (uQ HT1)).mono ?_;rintro e w2 ⟨rfl,hw2⟩;subst hw2;clear HT1)|(refine (uQ SG _ (uQ HT0)).mono ?_;rintro e w2 ⟨rfl,hw2⟩;subst hw2;clear HT0))
      |(go_at_call 176;refine (uQ FK _).mono ?_;rintro e w3 ⟨rfl,hw3⟩;subst hw3))
     go_ret
     first|exact ⟨rfl,uQ HB1⟩|exact ⟨rfl,uQ HB0⟩
  ·rw[if_pos ⟨rfl,hn⟩]
   go_wp2_with (first
    |(go_at_call 174;refine (uQ TX _).mono ?_;rintro e w1 ⟨rfl,hk⟩;obtain ⟨⟨d0,d1,d2,d3,d4⟩,HT1,HB1⟩:=uQ PC w1 hk;clear hk PC)
    |(go_at_call 175;first|(refine (uQ SG _ (uQ HT1)).mono ?_;rintro e w2 ⟨rfl,hw2⟩;subst hw2;clear HT1)|(refine (uQ SG _ (uQ HT0)).mono ?_;rintro e w2 ⟨rfl,hw2⟩;subst hw2;clear HT0))
    |(go_at_call 176;refine (uQ FK _).mono ?_;rintro e w3 ⟨rfl,hw3⟩;subst hw3))
   go_ret
   first|exact ⟨rfl,uQ HB1⟩|exact ⟨rfl,uQ HB0⟩
 ·cases b1
  ·have h0: ¬ (false=true/\0<=n):=by simp
   cases b2
   ·have h1: ¬ (false=true/\bt=true):=by simp
    cases b3
    ·rw[if_neg h0,if_neg h1,if_neg (by simp)]
     go_wp2_with (first
      |(go_at_call 174;refine (uQ TX _).mono ?_;rintro e w1 ⟨rfl,hk⟩;obtain ⟨⟨d0,d1,d2,d3,d4⟩,HT1,HB1⟩:=uQ PC w1 hk;clear hk PC)
      |(go_at_call 175;first|(refine (uQ SG _ (uQ HT1)).mono ?_;rintro e w2 ⟨rfl,hw2⟩;subst hw2;clear HT1)|(refine (uQ SG _ (uQ HT0)).mono ?_;rintro e w2 ⟨rfl,hw2⟩;subst hw2;clear HT0))
      |(go_at_call 176;refine (uQ FK _).mono ?_;rintro e w3 ⟨rfl,hw3⟩;subst hw3))
     go_ret
     first|exact ⟨rfl,uQ HB1⟩|exact ⟨rfl,uQ HB0⟩
    ·cases be
     ·cases bs
      ·rw[if_neg h0,if_neg h1,if_neg (by simp)]
       go_wp2_with (first
        |(go_at_call 174;refine (uQ TX _).mono ?_;rintro e w1 ⟨rfl,hk⟩;obtain ⟨⟨d0,d1,d2,d3,d4⟩,HT1,HB1⟩:=uQ PC w1 hk;clear hk PC)
        |(go_at_call 175;first|(refine (uQ SG _ (uQ HT1)).mono ?_;rintro e w2 ⟨rfl,hw2⟩;subst hw2;clear HT1)|(refine (uQ SG _ (uQ HT0)).mono ?_;rintro e w2 ⟨rfl,hw2⟩;subst hw2;clear HT0))
        |(go_at_call 176;refine (uQ FK _).mono ?_;rintro e w3 ⟨rfl,hw3⟩;subst hw3))
       go_ret
       first|exact ⟨rfl,uQ HB1⟩|exact ⟨rfl,uQ HB0⟩
      ·rw[if_neg h0,if_neg h1,if_pos (by simp)]
       go_wp2_with (first
        |(go_at_call 174;refine (uQ TX _).mono ?_;rintro e w1 ⟨rfl,hk⟩;obtain ⟨⟨d0,d1,d2,d3,d4⟩,HT1,HB1⟩:=uQ PC w1 hk;clear hk PC)
        |(go_at_call 175;first|(refine (uQ SG _ (uQ HT1)).mono ?_;rintro e w2 ⟨rfl,hw2⟩;subst hw2;clear HT1)|(refine (uQ SG _ (uQ HT0)).mono ?_;rintro e w2 ⟨rfl,hw2⟩;subst hw2;clear HT0))
        |(go_at_call 176;refine (uQ FK _).mono ?_;rintro e w3 ⟨rfl,hw3⟩;subst hw3))
       go_ret
       first|exact ⟨rfl,uQ HB1⟩|exact ⟨rfl,uQ HB0⟩
     ·rw[if_neg h0,if_neg h1,if_pos (by simp)]
      go_wp2_with (first
       |(go_at_call 174;refine (uQ TX _).mono ?_;rintro e w1 ⟨rfl,hk⟩;obtain ⟨⟨d0,d1,d2,d3,d4⟩,HT1,HB1⟩:=uQ PC w1 hk;clear hk PC)
       |(go_at_call 175;first|(refine (uQ SG _ (uQ HT1)).mono ?_;rintro e w2 ⟨rfl,hw2⟩;subst hw2;clear HT1)|(refine (uQ SG _ (uQ HT0)).mono ?_;rintro e w2 ⟨rfl,hw2⟩;subst hw2;clear HT0))
       |(go_at_call 176;refine (uQ FK _).mono ?_;rintro e w3 ⟨rfl,hw3⟩;subst hw3))
      go_ret
      first|exact ⟨rfl,uQ HB1⟩|exact ⟨rfl,uQ HB0⟩
   ·cases bt
    ·have h1: ¬ (true=true/\false=true):=by simp
     cases b3
     ·rw[if_neg h0,if_neg h1,if_neg (by simp)]
      go_wp2_with (first
       |(go_at_call 174;refine (uQ TX _).mono ?_;rintro e w1 ⟨rfl,hk⟩;obtain ⟨⟨d0,d1,d2,d3,d4⟩,HT1,HB1⟩:=uQ PC w1 hk;clear hk PC)
       |(go_at_call 175;first|(refine (uQ SG _ (uQ HT1)).mono ?_;rintro e w2 ⟨rfl,hw2⟩;subst hw2;clear HT1)|(refine (uQ SG _ (uQ HT0)).mono ?_;rintro e w2 ⟨rfl,hw2⟩;subst hw2;clear HT0))
       |(go_at_call 176;refine (uQ FK _).mono ?_;rintro e w3 ⟨rfl,hw3⟩;subst hw3))
      go_ret
      first|exact ⟨rfl,uQ HB1⟩|exact ⟨rfl,uQ HB0⟩
     ·cases be
      ·cases bs
       ·rw[if_neg h0,if_neg h1,if_neg (by simp)]
        go_wp2_with (first
         |(go_at_call 174;refine (uQ TX _).mono ?_;rintro e w1 ⟨rfl,hk⟩;obtain ⟨⟨d0,d1,d2,d3,d4⟩,HT1,HB1⟩:=uQ PC w1 hk;clear hk PC)
         |(go_at_call 175;first|(refine (uQ SG _ (uQ HT1)).mono ?_;rintro e w2 ⟨rfl,hw2⟩;subst hw2;clear HT1)|(refine (uQ SG _ (uQ HT0)).mono ?_;rintro e w2 ⟨rfl,hw2⟩;subst hw2;clear HT0))
         |(go_at_call 176;refine (uQ FK _).mono ?_;rintro e w3 ⟨rfl,hw3⟩;subst hw3))
        go_ret
        first|exact ⟨rfl,uQ HB1⟩|exact ⟨rfl,uQ HB0⟩
       ·rw[if_neg h0,if_neg h1,if_pos (by simp)]
        go_wp2_with (first
         |(go_at_call 174;refine (uQ TX _).mono ?_;rintro e w1 ⟨rfl,hk⟩;obtain ⟨⟨d0,d1,d2,d3,d4⟩,HT1,HB1⟩:=uQ PC w1 hk;clear hk PC)
         |(go_at_call 175;first|(refine (uQ SG _ (uQ HT1)).mono ?_;rintro e w2 ⟨rfl,hw2⟩;subst hw2;clear HT1)|(refine (uQ SG _ (uQ HT0)).mono ?_;rintro e w2 ⟨rfl,hw2⟩;subst hw2;clear HT0))
         |(go_at_call 176;refine (uQ FK _).mono ?_;rintro e w3 ⟨rfl,hw3⟩;subst hw3))
        go_ret
        first|exact ⟨rfl,uQ HB1⟩|exact ⟨rfl,uQ HB0⟩
      ·rw[if_neg h0,if_neg h1,if_pos (by simp)]
       go_wp2_with (first
        |(go_at_call 174;refine (uQ TX _).mono ?_;rintro e w1 ⟨rfl,hk⟩;obtain ⟨⟨d0,d1,d2,d3,d4⟩,HT1,HB1⟩:=uQ PC w1 hk;clear hk PC)
        |(go_at_call 175;first|(refine (uQ SG _ (uQ HT1)).mono ?_;rintro e w2 ⟨rfl,hw2⟩;subst hw2;clear HT1)|(refine (uQ SG _ (uQ HT0)).mono ?_;rintro e w2 ⟨rfl,hw2⟩;subst hw2;clear HT0))
        |(go_at_call 176;refine (uQ FK _).mono ?_;rintro e w3 ⟨rfl,hw3⟩;subst hw3))
       go_ret
       first|exact ⟨rfl,uQ HB1⟩|exact ⟨rfl,uQ HB0⟩
    ·rw[if_neg h0,if_pos (by simp)]
     go_wp2_with (first
      |(go_at_call 174;refine (uQ TX _).mono ?_;rintro e w1 ⟨rfl,hk⟩;obtain ⟨⟨d0,d1,d2,d3,d4⟩,HT1,HB1⟩:=uQ PC w1 hk;clear hk PC)
      |(go_at_call 175;first|(refine (uQ SG _ (uQ HT1)).mono ?_;rintro e w2 ⟨rfl,hw2⟩;subst hw2;clear HT1)|(refine (uQ SG _ (uQ HT0)).mono ?_;rintro e w2 ⟨rfl,hw2⟩;subst hw2;clear HT0))
      |(go_at_call 176;refine (uQ FK _).mono ?_;rintro e w3 ⟨rfl,hw3⟩;subst hw3))
     go_ret
     first|exact ⟨rfl,uQ HB1⟩|exact ⟨rfl,uQ HB0⟩
  ·have h0: ¬ (true=true/\0<=n):=fun h=>hn h.2
   cases b2
   ·have h1: ¬ (false=true/\bt=true):=by simp
    cases b3
    ·rw[if_neg h0,if_neg h1,if_neg (by simp)]
     go_wp2_with (first
      |(go_at_call 174;refine (uQ TX _).mono ?_;rintro e w1 ⟨rfl,hk⟩;obtain ⟨⟨d0,d1,d2,d3,d4⟩,HT1,HB1⟩:=uQ PC w1 hk;clear hk PC)
      |(go_at_call 175;first|(refine (uQ SG _ (uQ HT1)).mono ?_;rintro e w2 ⟨rfl,hw2⟩;subst hw2;clear HT1)|(refine (uQ SG _ (uQ HT0)).mono ?_;rintro e w2 ⟨rfl,hw2⟩;subst hw2;clear HT0))
      |(go_at_call 176;refine (uQ FK _).mono ?_;rintro e w3 ⟨rfl,hw3⟩;subst hw3))
     go_ret
     first|exact ⟨rfl,uQ HB1⟩|exact ⟨rfl,uQ HB0⟩
    ·cases be
     ·cases bs
      ·rw[if_neg h0,if_neg h1,if_neg (by simp)]
       go_wp2_with (first
        |(go_at_call 174;refine (uQ TX _).mono ?_;rintro e w1 ⟨rfl,hk⟩;obtain ⟨⟨d0,d1,d2,d3,d4⟩,HT1,HB1⟩:=uQ PC w1 hk;clear hk PC)
        |(go_at_call 175;first|(refine (uQ SG _ (uQ HT1)).mono ?_;rintro e w2 ⟨rfl,hw2⟩;subst hw2;clear HT1)|(refine (uQ SG _ (uQ HT0)).mono ?_;rintro e w2 ⟨rfl,hw2⟩;subst hw2;clear HT0))
        |(go_at_call 176;refine (uQ FK _).mono ?_;rintro e w3 ⟨rfl,hw3⟩;subst hw3))
       go_ret
       first|exact ⟨rfl,uQ HB1⟩|exact ⟨rfl,uQ HB0⟩
      ·rw[if_neg h0,if_neg h1,if_pos (by simp)]
       go_wp2_with (first
        |(go_at_call 174;refine (uQ TX _).mono ?_;rintro e w1 ⟨rfl,hk⟩;obtain ⟨⟨d0,d1,d2,d3,d4⟩,HT1,HB1⟩:=uQ PC w1 hk;clear hk PC)
        |(go_at_call 175;first|(refine (uQ SG _ (uQ HT1)).mono ?_;rintro e w2 ⟨rfl,hw2⟩;subst hw2;clear HT1)|(refine (uQ SG _ (uQ HT0)).mono ?_;rintro e w2 ⟨rfl,hw2⟩;subst hw2;clear HT0))
        |(go_at_call 176;refine (uQ FK _).mono ?_;rintro e w3 ⟨rfl,hw3⟩;subst hw3))
       go_ret
       first|exact ⟨rfl,uQ HB1⟩|exact ⟨rfl,uQ HB0⟩
     ·rw[if_neg h0,if_neg h1,if_pos (by simp)]
      go_wp2_with (first
       |(go_at_call 174;refine (uQ TX _).mono ?_;rintro e w1 ⟨rfl,hk⟩;obtain ⟨⟨d0,d1,d2,d3,d4⟩,HT1,HB1⟩:=uQ PC w1 hk;clear hk PC)
       |(go_at_call 175;first|(refine (uQ SG _ (uQ HT1)).mono ?_;rintro e w2 ⟨rfl,hw2⟩;subst hw2;clear HT1)|(refine (uQ SG _ (uQ HT0)).mono ?_;rintro e w2 ⟨rfl,hw2⟩;subst hw2;clear HT0))
       |(go_at_call 176;refine (uQ FK _).mono ?_;rintro e w3 ⟨rfl,hw3⟩;subst hw3))
      go_ret
      first|exact ⟨rfl,uQ HB1⟩|exact ⟨rfl,uQ HB0⟩
   ·cases bt
    ·have h1: ¬ (true=true/\false=true):=by simp
     cases b3
     ·rw[if_neg h0,if_neg h1,if_neg (by simp)]
      go_wp2_with (first
       |(go_at_call 174;refine (uQ TX _).mono ?_;rintro e w1 ⟨rfl,hk⟩;obtain ⟨⟨d0,d1,d2,d3,d4⟩,HT1,HB1⟩:=uQ PC w1 hk;clear hk PC)
       |(go_at_call 175;first|(refine (uQ SG _ (uQ HT1)).mono ?_;rintro e w2 ⟨rfl,hw2⟩;subst hw2;clear HT1)|(refine (uQ SG _ (uQ HT0)).mono ?_;rintro e w2 ⟨rfl,hw2⟩;subst hw2;clear HT0))
       |(go_at_call 176;refine (uQ FK _).mono ?_;rintro e w3 ⟨rfl,hw3⟩;subst hw3))
      go_ret
      first|exact ⟨rfl,uQ HB1⟩|exact ⟨rfl,uQ HB0⟩
     ·cases be
      ·cases bs
       ·rw[if_neg h0,if_neg h1,if_neg (by simp)]
        go_wp2_with (first
         |(go_at_call 174;refine (uQ TX _).mono ?_;rintro e w1 ⟨rfl,hk⟩;obtain ⟨⟨d0,d1,d2,d3,d4⟩,HT1,HB1⟩:=uQ PC w1 hk;clear hk PC)
         |(go_at_call 175;first|(refine (uQ SG _ (uQ HT1)).mono ?_;rintro e w2 ⟨rfl,hw2⟩;subst hw2;clear HT1)|(refine (uQ SG _ (uQ HT0)).mono ?_;rintro e w2 ⟨rfl,hw2⟩;subst hw2;clear HT0))
         |(go_at_call 176;refine (uQ FK _).mono ?_;rintro e w3 ⟨rfl,hw3⟩;subst hw3))
        go_ret
        first|exact ⟨rfl,uQ HB1⟩|exact ⟨rfl,uQ HB0⟩
       ·rw[if_neg h0,if_neg h1,if_pos (by simp)]
        go_wp2_with (first
         |(go_at_call 174;refine (uQ TX _).mono ?_;rintro e w1 ⟨rfl,hk⟩;obtain ⟨⟨d0,d1,d2,d3,d4⟩,HT1,HB1⟩:=uQ PC w1 hk;clear hk PC)
         |(go_at_call 175;first|(refine (uQ SG _ (uQ HT1)).mono ?_;rintro e w2 ⟨rfl,hw2⟩;subst hw2;clear HT1)|(refine (uQ SG _ (uQ HT0)).mono ?_;rintro e w2 ⟨rfl,hw2⟩;subst hw2;clear HT0))
         |(go_at_call 176;refine (uQ FK _).mono ?_;rintro e w3 ⟨rfl,hw3⟩;subst hw3))
        go_ret
        first|exact ⟨rfl,uQ HB1⟩|exact ⟨rfl,uQ HB0⟩
      ·rw[if_neg h0,if_neg h1,if_pos (by simp)]
       go_wp2_with (first
        |(go_at_call 174;refine (uQ TX _).mono ?_;rintro e w1 ⟨rfl,hk⟩;obtain ⟨⟨d0,d1,d2,d3,d4⟩,HT1,HB1⟩:=uQ PC w1 hk;clear hk PC)
        |(go_at_call 175;first|(refine (uQ SG _ (uQ HT1)).mono ?_;rintro e w2 ⟨rfl,hw2⟩;subst hw2;clear HT1)|(refine (uQ SG _ (uQ HT0)).mono ?_;rintro e w2 ⟨rfl,hw2⟩;subst hw2;clear HT0))
        |(go_at_call 176;refine (uQ FK _).mono ?_;rintro e w3 ⟨rfl,hw3⟩;subst hw3))
       go_ret
       first|exact ⟨rfl,uQ HB1⟩|exact ⟨rfl,uQ HB0⟩
    ·rw[if_neg h0,if_pos (by simp)]
     go_wp2_with (first
      |(go_at_call 174;refine (uQ TX _).mono ?_;rintro e w1 ⟨rfl,hk⟩;obtain ⟨⟨d0,d1,d2,d3,d4⟩,HT1,HB1⟩:=uQ PC w1 hk;clear hk PC)
      |(go_at_call 175;first|(refine (uQ SG _ (uQ HT1)).mono ?_;rintro e w2 ⟨rfl,hw2⟩;subst hw2;clear HT1)|(refine (uQ SG _ (uQ HT0)).mono ?_;rintro e w2 ⟨rfl,hw2⟩;subst hw2;clear HT0))
      |(go_at_call 176;refine (uQ FK _).mono ?_;rintro e w3 ⟨rfl,hw3⟩;subst hw3))
     go_ret
     first|exact ⟨rfl,uQ HB1⟩|exact ⟨rfl,uQ HB0⟩
open Go.RowKit
def opsV:Array Value:=#[.string ⟨#[]⟩, .int .i64 0, .int .u64 0, .int .i64 0, .nilFunc, .string ⟨#[]⟩, .int .i64 0, .int .u64 0, .int .i64 0, .nilFunc, .string ⟨#[]⟩, .int .i64 0, .int .u64 0, .int .i64 0, .nilFunc, .string ⟨#[]⟩, .int .i64 0, .int .u64 0, .int .i64 0, .nilFunc, .string ⟨#[43]⟩, .int .i64 2, .int .u64 2, .int .i64 1, .func (.func 163) #[] #[], .string ⟨#[45]⟩, .int .i64 2, .int .u64 2, .int .i64 1, .func (.func 164) #[] #[], .string ⟨#[42]⟩, .int .i64 2, .int .u64 2, .int .i64 1, .func (.func 165) #[] #[], .string ⟨#[60]⟩, .int .i64 2, .int .u64 2, .int .i64 3, .func (.func 166) #[] #[], .string ⟨#[60,61]⟩, .int .i64 2, .int .u64 2, .int .i64 3, .func (.func 167) #[] #[], .string ⟨#[61,61]⟩, .int .i64 2, .int .u64 6, .int .i64 3, .func (.func 168) #[] #[], .string ⟨#[33,61]⟩, .int .i64 2, .int .u64 6, .int .i64 3, .func (.func 169) #[] #[], .string ⟨#[97,110,100]⟩, .int .i64 2, .int .u64 8, .int .i64 3, .func (.func 170) #[] #[], .string ⟨#[111,114]⟩, .int .i64 2, .int .u64 8, .int .i64 3, .func (.func 171) #[] #[], .string ⟨#[110,111,116]⟩, .int .i64 1, .int .u64 8, .int .i64 3, .func (.func 172) #[] #[]]
theorem q0w:opsV.size=70:=rfl
theorem q3F:opsV.all (·.oneCell')=true:=by kernel_rfl
theorem q3C:(Tryz.prog.info? 235).map (·.size)=some 70:=by kernel_rfl
theorem q1y (w:World):Calls Tryz.prog 137 #[] w fun e w'=>e= .returned (.agg opsV)/\Kp [] w w':=by
 go_enter Tryz.func137,Tryz.ntmps137
 go_wp2
 generalize hX:Array.setIfInBounds _ 69 _=X
 obtain rfl:X=opsV:=hX.symm.trans (by kernel_rfl)
 clear hX
 generalize hY:List.set _ 69 _=Y
 obtain rfl:Y=opsV.toList:=hY.symm.trans (by kernel_rfl)
 clear hY
 rw[run_storeCells_new w _ _ opsV q3C (by kernel_rfl) q3F]
 simp only[Result.andThen_ok]
 rw[Oper.upon_skip]
 go_wp2
 exact bodyPost_ret (results_cell_row Tryz.results137 _ _ w.heap.size 235 opsV (0,0) _ rfl (heap_alloc_new w _) Tryz.underlying235 rfl q3C) rfl ⟨rfl,Kp.alloc _ _⟩
def ofO (k:Int):Int:=if k<4 then 0 else if k<=8 then 2 else if k<=10 then 6 else if k<=13 then 8 else 0
def isO (k:Int):Int:=if k<4 then 0 else if k<=6 then 1 else if k<=13 then 3 else 0
def fnO (k:Int):Value:=if k=4 then .func (.func 163) #[] #[] else if k=5 then .func (.func 164) #[] #[] else if k=6 then .func (.func 165) #[] #[] else if k=7 then .func (.func 166) #[] #[] else if k=8 then .func (.func 167) #[] #[] else if k=9 then .func (.func 168) #[] #[] else if k=10 then .func (.func 169) #[] #[] else if k=11 then .func (.func 170) #[] #[] else if k=12 then .func (.func 171) #[] #[] else if k=13 then .func (.func 172) #[] #[] else .nilFunc
def rowC (k:Int):Array Value:=#[.string (txt (sgO k)), .int .i64 (sds k:Nat), .int .u64 (ofO k), .int .i64 (isO k),fnO k]
theorem q6d: ∀k:Fin 14,opsV[k.val * 5]?=some (.string (txt (sgO (k.val:Int))))/\opsV[k.val * 5+1]?=some (.int .i64 (sds (k.val:Int):Nat))/\opsV[k.val * 5+2]?=some (.int .u64 (ofO (k.val:Int)))/\opsV[k.val * 5+3]?=some (.int .i64 (isO (k.val:Int)))/\opsV[k.val * 5+4]?=some (fnO (k.val:Int))
 |⟨0,_⟩=>⟨rfl,rfl,rfl,rfl,rfl⟩
 |⟨1,_⟩=>⟨rfl,rfl,rfl,rfl,rfl⟩
 |⟨2,_⟩=>⟨rfl,rfl,rfl,rfl,rfl⟩
 |⟨3,_⟩=>⟨rfl,rfl,rfl,rfl,rfl⟩
 |⟨4,_⟩=>⟨rfl,rfl,rfl,rfl,rfl⟩
 |⟨5,_⟩=>⟨rfl,rfl,rfl,rfl,rfl⟩
 |⟨6,_⟩=>⟨rfl,rfl,rfl,rfl,rfl⟩
 |⟨7,_⟩=>⟨rfl,rfl,rfl,rfl,rfl⟩
 |⟨8,_⟩=>⟨rfl,rfl,rfl,rfl,rfl⟩
 |⟨9,_⟩=>⟨rfl,rfl,rfl,rfl,rfl⟩
 |⟨10,_⟩=>⟨rfl,rfl,rfl,rfl,rfl⟩
 |⟨11,_⟩=>⟨rfl,rfl,rfl,rfl,rfl⟩
 |⟨12,_⟩=>⟨rfl,rfl,rfl,rfl,rfl⟩
 |⟨13,_⟩=>⟨rfl,rfl,rfl,rfl,rfl⟩
theorem q54 {k:Int}(h:k<0\/14<=k):rowC k=#[.string ⟨#[]⟩, .int .i64 0, .int .u64 0, .int .i64 0, .nilFunc]:=by
 have e1:sgO k=[]:=by unfold sgO;repeat rw[if_neg (by omega)]
 have e2:sds k=0:=by unfold sds;rw[if_neg (by omega),if_neg (by omega)]
 have e3:ofO k=0:=by unfold ofO;split;rfl;rw[if_neg (by omega),if_neg (by omega),if_neg (by omega)]
 have e4:isO k=0:=by unfold isO;split;rfl;rw[if_neg (by omega),if_neg (by omega)]
 have e5:fnO k= .nilFunc:=by unfold fnO;repeat rw[if_neg (by omega)]
 unfold rowC
 rw[e1,e2,e3,e4,e5]
 rfl
theorem q1S (k:Int):(fnO k).oneCell'=true:=by
 unfold fnO
 repeat' split
 all_goals rfl
theorem qcJ:(Tryz.prog.info? 233).map (·.size)=some 5:=by kernel_rfl
theorem q4D {w:World}{S:ByteArray}{N O I:Int}{F:Value}{tmps:Array Value}(ht:tmps.getD 4 undef= .pointer (some ⟨w.heap.size,0,none⟩)):(results Tryz.f140 tmps).run Tryz.prog (w.alloc (.cells #[.string S, .int .i64 N, .int .u64 O, .int .i64 I,F] 233))= .ok (.agg #[.string S, .int .i64 N, .int .u64 O, .int .i64 I,F]) (w.alloc (.cells #[.string S, .int .i64 N, .int .u64 O, .int .i64 I,F] 233)):=
 results_cell_row Tryz.results140 _ _ w.heap.size 233 _ (0,0) _ ht (heap_alloc_new w _) Tryz.underlying233 rfl qcJ
theorem q7J (g:Nat)(k:Int)(w:World)(hg:CBox g opsV 235 w):Calls Tryz.prog 140 #[.pointer (some ⟨g,0,none⟩), .int .i64 k] w fun e w'=>e= .returned (.agg (rowC k))/\Kp [] w w':=by
 by_cases h0:k<0
 ·rw[q54 (Or.inl h0)]
  clear hg
  go_enter Tryz.func140,Tryz.ntmps140
  go_wp2
  exact bodyPost_ret (v:= .agg #[.string ⟨#[]⟩, .int .i64 0, .int .u64 0, .int .i64 0, .nilFunc]) (q4D (w:=w) rfl) rfl ⟨rfl,Kp.alloc _ _⟩
 ·by_cases h1:14<=k
  ·rw[q54 (Or.inr h1)]
   clear hg
   go_enter Tryz.func140,Tryz.ntmps140
   go_wp2
   exact bodyPost_ret (v:= .agg #[.string ⟨#[]⟩, .int .i64 0, .int .u64 0, .int .i64 0, .nilFunc]) (q4D (w:=w) rfl) rfl ⟨rfl,Kp.alloc _ _⟩
  ·obtain ⟨n,rfl⟩: ∃n:Nat,k=(n:Int):=⟨k.toNat,by omega⟩
   obtain ⟨c0,c1,c2,c3,c4⟩:=q6d ⟨n,by omega⟩
   have hg2:=hg.kp (Kp.alloc w (.cells #[.string ⟨#[]⟩, .int .i64 0, .int .u64 0, .int .i64 0, .nilFunc] 233)) (by simp)
   have d0:=hg2.cell c0
   have d1:=hg2.cell c1
   have d2:=hg2.cell c2
   have d3:=hg2.cell c3
   have d4:=hg2.cell c4
   have hone:=q1S (n:Int)
   unfold rowC
   generalize fnO (n:Int)=F at *
   generalize txt (sgO (n:Int))=S at *
   generalize sds (n:Int)=N at *
   generalize ofO (n:Int)=O at *
   generalize isO (n:Int)=I at *
   have st: ∀W a m,(store a F m).run Tryz.prog W=stored Tryz.prog W a F m:=fun W a m=>run_store Tryz.prog W a F m hone
   clear hg hg2 c0 c1 c2 c3 c4 hone
   dsimp only at *
   go_enter Tryz.func140,Tryz.ntmps140
   go_wp2
   exact bodyPost_ret (v:= .agg #[.string S, .int .i64 (N:Int), .int .u64 O, .int .i64 I,F]) (q4D (w:=w) rfl) rfl ⟨rfl,Kp.alloc _ _⟩
open Go.RowKit
def fitB (k a b:Int):Bool:=decide (opK k a b≠0)
theorem qcY (k a b:Int):opK k a b=if fitB k a b then isO k else 0:=by
 unfold fitB
 by_cases h:opK k a b=0
 ·simp[h]
 ·simp only[ne_eq,h,not_false_eq_true,decide_true,if_true]
  unfold opK at h ⊢
  unfold isO
  repeat' split at h
  all_goals first|(exact absurd rfl h)|skip
  all_goals (repeat' split)
  all_goals first|rfl|omega
theorem q1r {k a b:Int}(h:a≠b)(hk:k≠13):fitB k a b=false:=by
 unfold fitB opK
 repeat' split
 all_goals first|rfl|(exfalso;omega)
theorem q0v:bits .and .u64 0 1=0/\bits .and .u64 1 1=1/\bits .and .u64 2 1=0/\bits .and .u64 3 1=1/\bits .and .u64 4 1=0/\bits .and .u64 6 1=0/\bits .and .u64 8 1=0:=by decide
theorem qdz (S:ByteArray)(F:Value)(a b:Int)(w:World)(ha:0<=a)(ha2:a<=3):Calls Tryz.prog 142 #[.agg #[.string S, .int .i64 2, .int .u64 2, .int .i64 1,F], .int .i64 a, .int .i64 b] w fun e w'=>e= .returned (.bool (fitB 4 a b))/\Kp [] w w':=by
 obtain ⟨t0,t1,t2,t3,t4,t6,t8⟩:=q0v
 by_cases hab:a=b
 ·subst hab
  rcases (show a=0\/a=1\/a=2\/a=3 by omega)with rfl|rfl|rfl|rfl
  all_goals (
   go_enter Tryz.func142,Tryz.ntmps142
   go_wp2
   go_ret
   exact ⟨rfl,Kp.alloc _ _⟩)
 ·rw[q1r hab (by decide)]
  have q1:(a==b)=false:=beq_eq_false_iff_ne.2 hab
  rcases (show a=0\/a=1\/a=2\/a=3 by omega)with rfl|rfl|rfl|rfl
  all_goals (
   go_enter Tryz.func142,Tryz.ntmps142
   go_wp2
   go_ret
   exact ⟨rfl,Kp.alloc _ _⟩)
theorem qdA (S:ByteArray)(F:Value)(a b:Int)(w:World)(ha:0<=a)(ha2:a<=3):Calls Tryz.prog 142 #[.agg #[.string S, .int .i64 2, .int .u64 2, .int .i64 1,F], .int .i64 a, .int .i64 b] w fun e w'=>e= .returned (.bool (fitB 5 a b))/\Kp [] w w':=by
 obtain ⟨t0,t1,t2,t3,t4,t6,t8⟩:=q0v
 by_cases hab:a=b
 ·subst hab
  rcases (show a=0\/a=1\/a=2\/a=3 by omega)with rfl|rfl|rfl|rfl
  all_goals (
   go_enter Tryz.func142,Tryz.ntmps142
   go_wp2
   go_ret
   exact ⟨rfl,Kp.alloc _ _⟩)
 ·rw[q1r hab (by decide)]
  have q1:(a==b)=false:=beq_eq_false_iff_ne.2 hab
  rcases (show a=0\/a=1\/a=2\/a=3 by omega)with rfl|rfl|rfl|rfl
  all_goals (
   go_enter Tryz.func142,Tryz.ntmps142
   go_wp2
   go_ret
   exact ⟨rfl,Kp.alloc _ _⟩)
theorem qdB (S:ByteArray)(F:Value)(a b:Int)(w:World)(ha:0<=a)(ha2:a<=3):Calls Tryz.prog 142 #[.agg #[.string S, .int .i64 2, .int .u64 2, .int .i64 1,F], .int .i64 a, .int .i64 b] w fun e w'=>e= .returned (.bool (fitB 6 a b))/\Kp [] w w':=by
 obtain ⟨t0,t1,t2,t3,t4,t6,t8⟩:=q0v
 by_cases hab:a=b
 ·subst hab
  rcases (show a=0\/a=1\/a=2\/a=3 by omega)with rfl|rfl|rfl|rfl
  all_goals (
   go_enter Tryz.func142,Tryz.ntmps142
   go_wp2
   go_ret
   exact ⟨rfl,Kp.alloc _ _⟩)
 ·rw[q1r hab (by decide)]
  have q1:(a==b)=false:=beq_eq_false_iff_ne.2 hab
  rcases (show a=0\/a=1\/a=2\/a=3 by omega)with rfl|rfl|rfl|rfl
  all_goals (
   go_enter Tryz.func142,Tryz.ntmps142
   go_wp2
   go_ret
   exact ⟨rfl,Kp.alloc _ _⟩)
theorem qdC (S:ByteArray)(F:Value)(a b:Int)(w:World)(ha:0<=a)(ha2:a<=3):Calls Tryz.prog 142 #[.agg #[.string S, .int .i64 2, .int .u64 2, .int .i64 3,F], .int .i64 a, .int .i64 b] w fun e w'=>e= .returned (.bool (fitB 7 a b))/\Kp [] w w':=by
 obtain ⟨t0,t1,t2,t3,t4,t6,t8⟩:=q0v
 by_cases hab:a=b
 ·subst hab
  rcases (show a=0\/a=1\/a=2\/a=3 by omega)with rfl|rfl|rfl|rfl
  all_goals (
   go_enter Tryz.func142,Tryz.ntmps142
   go_wp2
   go_ret
   exact ⟨rfl,Kp.alloc _ _⟩)
 ·rw[q1r hab (by decide)]
  have q1:(a==b)=false:=beq_eq_false_iff_ne.2 hab
  rcases (show a=0\/a=1\/a=2\/a=3 by omega)with rfl|rfl|rfl|rfl
  all_goals (
   go_enter Tryz.func142,Tryz.ntmps142
   go_wp2
   go_ret
   exact ⟨rfl,Kp.alloc _ _⟩)
theorem qdD (S:ByteArray)(F:Value)(a b:Int)(w:World)(ha:0<=a)(ha2:a<=3):Calls Tryz.prog 142 #[.agg #[.string S, .int .i64 2, .int .u64 2, .int .i64 3,F], .int .i64 a, .int .i64 b] w fun e w'=>e= .returned (.bool (fitB 8 a b))/\Kp [] w w':=by
 obtain ⟨t0,t1,t2,t3,t4,t6,t8⟩:=q0v
 by_cases hab:a=b
 ·subst hab
  rcases (show a=0\/a=1\/a=2\/a=3 by omega)with rfl|rfl|rfl|rfl
  all_goals (
   go_enter Tryz.func142,Tryz.ntmps142
   go_wp2
   go_ret
   exact ⟨rfl,Kp.alloc _ _⟩)
 ·rw[q1r hab (by decide)]
  have q1:(a==b)=false:=beq_eq_false_iff_ne.2 hab
  rcases (show a=0\/a=1\/a=2\/a=3 by omega)with rfl|rfl|rfl|rfl
  all_goals (
   go_enter Tryz.func142,Tryz.ntmps142
   go_wp2
   go_ret
   exact ⟨rfl,Kp.alloc _ _⟩)
theorem qdE (S:ByteArray)(F:Value)(a b:Int)(w:World)(ha:0<=a)(ha2:a<=3):Calls Tryz.prog 142 #[.agg #[.string S, .int .i64 2, .int .u64 6, .int .i64 3,F], .int .i64 a, .int .i64 b] w fun e w'=>e= .returned (.bool (fitB 9 a b))/\Kp [] w w':=by
 obtain ⟨t0,t1,t2,t3,t4,t6,t8⟩:=q0v
 by_cases hab:a=b
 ·subst hab
  rcases (show a=0\/a=1\/a=2\/a=3 by omega)with rfl|rfl|rfl|rfl
  all_goals (
   go_enter Tryz.func142,Tryz.ntmps142
   go_wp2
   go_ret
   exact ⟨rfl,Kp.alloc _ _⟩)
 ·rw[q1r hab (by decide)]
  have q1:(a==b)=false:=beq_eq_false_iff_ne.2 hab
  rcases (show a=0\/a=1\/a=2\/a=3 by omega)with rfl|rfl|rfl|rfl
  all_goals (
   go_enter Tryz.func142,Tryz.ntmps142
   go_wp2
   go_ret
   exact ⟨rfl,Kp.alloc _ _⟩)
theorem qcj (S:ByteArray)(F:Value)(a b:Int)(w:World)(ha:0<=a)(ha2:a<=3):Calls Tryz.prog 142 #[.agg #[.string S, .int .i64 2, .int .u64 6, .int .i64 3,F], .int .i64 a, .int .i64 b] w fun e w'=>e= .returned (.bool (fitB 10 a b))/\Kp [] w w':=by
 obtain ⟨t0,t1,t2,t3,t4,t6,t8⟩:=q0v
 by_cases hab:a=b
 ·subst hab
  rcases (show a=0\/a=1\/a=2\/a=3 by omega)with rfl|rfl|rfl|rfl
  all_goals (
   go_enter Tryz.func142,Tryz.ntmps142
   go_wp2
   go_ret
   exact ⟨rfl,Kp.alloc _ _⟩)
 ·rw[q1r hab (by decide)]
  have q1:(a==b)=false:=beq_eq_false_iff_ne.2 hab
  rcases (show a=0\/a=1\/a=2\/a=3 by omega)with rfl|rfl|rfl|rfl
  all_goals (
   go_enter Tryz.func142,Tryz.ntmps142
   go_wp2
   go_ret
   exact ⟨rfl,Kp.alloc _ _⟩)
theorem qck (S:ByteArray)(F:Value)(a b:Int)(w:World)(ha:0<=a)(ha2:a<=3):Calls Tryz.prog 142 #[.agg #[.string S, .int .i64 2, .int .u64 8, .int .i64 3,F], .int .i64 a, .int .i64 b] w fun e w'=>e= .returned (.bool (fitB 11 a b))/\Kp [] w w':=by
 obtain ⟨t0,t1,t2,t3,t4,t6,t8⟩:=q0v
 by_cases hab:a=b
 ·subst hab
  rcases (show a=0\/a=1\/a=2\/a=3 by omega)with rfl|rfl|rfl|rfl
  all_goals (
   go_enter Tryz.func142,Tryz.ntmps142
   go_wp2
   go_ret
   exact ⟨rfl,Kp.alloc _ _⟩)
 ·rw[q1r hab (by decide)]
  have q1:(a==b)=false:=beq_eq_false_iff_ne.2 hab
  rcases (show a=0\/a=1\/a=2\/a=3 by omega)with rfl|rfl|rfl|rfl
  all_goals (
   go_enter Tryz.func142,Tryz.ntmps142
   go_wp2
   go_ret
   exact ⟨rfl,Kp.alloc _ _⟩)
theorem qcl (S:ByteArray)(F:Value)(a b:Int)(w:World)(ha:0<=a)(ha2:a<=3):Calls Tryz.prog 142 #[.agg #[.string S, .int .i64 2, .int .u64 8, .int .i64 3,F], .int .i64 a, .int .i64 b] w fun e w'=>e= .returned (.bool (fitB 12 a b))/\Kp [] w w':=by
 obtain ⟨t0,t1,t2,t3,t4,t6,t8⟩:=q0v
 by_cases hab:a=b
 ·subst hab
  rcases (show a=0\/a=1\/a=2\/a=3 by omega)with rfl|rfl|rfl|rfl
  all_goals (
   go_enter Tryz.func142,Tryz.ntmps142
   go_wp2
   go_ret
   exact ⟨rfl,Kp.alloc _ _⟩)
 ·rw[q1r hab (by decide)]
  have q1:(a==b)=false:=beq_eq_false_iff_ne.2 hab
  rcases (show a=0\/a=1\/a=2\/a=3 by omega)with rfl|rfl|rfl|rfl
  all_goals (
   go_enter Tryz.func142,Tryz.ntmps142
   go_wp2
   go_ret
   exact ⟨rfl,Kp.alloc _ _⟩)
theorem qcm (S:ByteArray)(F:Value)(a b:Int)(w:World)(ha:0<=a)(ha2:a<=3)(hb:b=0):Calls Tryz.prog 142 #[.agg #[.string S, .int .i64 1, .int .u64 8, .int .i64 3,F], .int .i64 a, .int .i64 b] w fun e w'=>e= .returned (.bool (fitB 13 a b))/\Kp [] w w':=by
 obtain ⟨t0,t1,t2,t3,t4,t6,t8⟩:=q0v
 subst hb
 rcases (show a=0\/a=1\/a=2\/a=3 by omega)with rfl|rfl|rfl|rfl
 all_goals (
  go_enter Tryz.func142,Tryz.ntmps142
  go_wp2
  go_ret
  exact ⟨rfl,Kp.alloc _ _⟩)
theorem qaA (S:ByteArray)(F:Value)(k a b:Int)(w:World)(hk:4<=k)(hk2:k<=13)(ha:0<=a)(ha2:a<=3)(hb:k=13->b=0):Calls Tryz.prog 142 #[.agg #[.string S, .int .i64 (sds k:Nat), .int .u64 (ofO k), .int .i64 (isO k),F], .int .i64 a, .int .i64 b] w fun e w'=>e= .returned (.bool (fitB k a b))/\Kp [] w w':=by
 rcases (show k=4\/k=5\/k=6\/k=7\/k=8\/k=9\/k=10\/k=11\/k=12\/k=13 by omega)with rfl|rfl|rfl|rfl|rfl|rfl|rfl|rfl|rfl|rfl
 ·exact qdz S F a b w ha ha2
 ·exact qdA S F a b w ha ha2
 ·exact qdB S F a b w ha ha2
 ·exact qdC S F a b w ha ha2
 ·exact qdD S F a b w ha ha2
 ·exact qdE S F a b w ha ha2
 ·exact qcj S F a b w ha ha2
 ·exact qck S F a b w ha ha2
 ·exact qcl S F a b w ha ha2
 ·exact qcm S F a b w ha ha2 (hb rfl)
end Go.Proofs.YtcmjnlpofebbmaaGreatDoor
