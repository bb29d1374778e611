/-
  Walks.
-/
import Derived.Test.YthmgkiehjhgpgaaGreatDoorMw10
import Derived.SizedLaws
import Derived.ChangeArms
set_option maxRecDepth 100000
set_option maxHeartbeats 8000000
set_option linter.unusedSimpArgs false
namespace Go.Proofs.YthmgkiehjhgpgaaGreatDoor
open Go.RowKit Go.Shelf
def wkS (h:ByteArray):ByteArray:=((⟨#[115,116,97,114,116,32,97,58,32,116,121,112,101,32,61,61,32,39,120,39,59,32]⟩:ByteArray)++h)++⟨#[32,98,43,58,32,116,121,112,101,32,61,61,32,39,121,39,59,32,119,105,116,104,105,110,32,57]⟩
def wkP (h:Int):Ptn:=⟨[⟨⟨#[97]⟩,0,false,[⟨9,0,⟨#[]⟩,⟨#[]⟩,0⟩,⟨3,0,⟨#[]⟩,⟨#[]⟩,4⟩,⟨2,0,⟨#[120]⟩,⟨#[]⟩,0⟩]⟩,⟨⟨#[98]⟩,h,true,[⟨9,0,⟨#[]⟩,⟨#[]⟩,0⟩,⟨3,0,⟨#[]⟩,⟨#[]⟩,4⟩,⟨2,0,⟨#[121]⟩,⟨#[]⟩,0⟩]⟩],9⟩
def wkE:List Ev:=tyL ⟨#[120,121,122,121]⟩
structure WkF (how:ByteArray)(m:Nat)(h:Int)(r:List (List (List Nat))):Prop where
 rd:rdP (wkS how)=⟨wkP h,0,0⟩
 ck:mckE (wkP h) wkE=0
 fd:Mt.fnd (Mt.pm (wkP h) wkE) 9=[[0],[1]]::r
 st:Srt ([[0],[1]]::r)
 ln:r.length+1=m
 sz:(wkS how).size<=1000
 hl:how.size<=9
 hw: -9223372036854775808<=h/\h<=9223372036854775807
theorem qc0:WkF ⟨#[116,104,101,110]⟩ 2 2 [[[0],[1,3]]]:=⟨by kernel_rfl,by kernel_rfl,by kernel_rfl,(show List.Pairwise (fun a b=>cT a b<0) _ from of_decide_eq_true (by kernel_rfl)),rfl,of_decide_eq_true (by kernel_rfl),by decide,by decide⟩
theorem qdu:WkF ⟨#[97,110,121]⟩ 3 3 [[[0],[1,3]],[[0],[3]]]:=⟨by kernel_rfl,by kernel_rfl,by kernel_rfl,(show List.Pairwise (fun a b=>cT a b<0) _ from of_decide_eq_true (by kernel_rfl)),rfl,of_decide_eq_true (by kernel_rfl),by decide,by decide⟩
theorem qc:WkF ⟨#[110,101,120,116]⟩ 1 1 []:=⟨by kernel_rfl,by kernel_rfl,by kernel_rfl,(show List.Pairwise (fun a b=>cT a b<0) _ from of_decide_eq_true (by kernel_rfl)),rfl,of_decide_eq_true (by kernel_rfl),by decide,by decide⟩
theorem qf1:arE ⟨#[107]⟩ wkE=true:=by kernel_rfl
theorem WkF.fi {how:ByteArray}{m:Nat}{h:Int}{r:List (List (List Nat))}(f:WkF how m h r)(hm:m<=9):fiE (wkP h) ⟨#[107]⟩ wkE=0/\fiL (wkP h) ⟨#[107]⟩ wkE=[[0],[1]]::r:=by
 have hwi:(wkP h).wi.toNat=9:=rfl
 have e1:fdS (Mt.pm (wkP h) wkE) 9=[[0],[1]]::r:=q4O (q3r _ _) f.st (by rw[<-f.fd];exact q1x _ _)
 have hl:=f.ln
 have e2:fiE (wkP h) ⟨#[107]⟩ wkE=0:=by
  unfold fiE
  rw[if_pos f.ck,if_pos qf1,hwi,e1,if_neg (by rw[List.length_cons];omega)]
 refine ⟨e2,?_⟩
 unfold fiL
 rw[if_pos e2,hwi,e1]
theorem qf2 (h:Int)(hw: -9223372036854775808<=h/\h<=9223372036854775807):(∀g∈(wkP h).ss,g.ok)/\ ∀g∈(wkP h).ss, ∀q∈g.cd,q.fit:=by
 constructor
 ·intro g hg
  unfold wkP at hg
  simp only[List.mem_cons,List.not_mem_nil,or_false]at hg
  rcases hg with rfl|rfl
  ·refine ⟨by decide,by decide,fun p hp=>?_⟩
   simp only[List.mem_cons,List.not_mem_nil,or_false]at hp
   rcases hp with rfl|rfl|rfl <;> (unfold Pt.ok;decide)
  ·refine ⟨by show (⟨#[98]⟩:ByteArray).size<=_;decide,hw,fun p hp=>?_⟩
   simp only[List.mem_cons,List.not_mem_nil,or_false]at hp
   rcases hp with rfl|rfl|rfl <;> (unfold Pt.ok;decide)
 ·intro g hg q hq
  unfold wkP at hg
  simp only[List.mem_cons,List.not_mem_nil,or_false]at hg
  rcases hg with rfl|rfl
  all_goals
   simp only[List.mem_cons,List.not_mem_nil,or_false]at hq
   rcases hq with rfl|rfl|rfl <;> (unfold Pt.fit;decide)
theorem qf3: ∀e∈wkE,evSz e:=by
 intro e he
 unfold wkE tyL at he
 simp only[List.mem_map]at he
 obtain ⟨c,_,rfl⟩:=he
 unfold tyE evSz
 decide+revert
theorem qak (W:World):StagesAt (((W.alloc (.cells #[.int .i64 0] 3)).alloc (.cells #[.int .i64 1] 3)).alloc (.cells #[.slice (some ⟨W.heap.size,0,none⟩) 1 1, .slice (some ⟨W.heap.size+1,0,none⟩) 1 1] 39)) (some ⟨W.heap.size+1+1,0,none⟩) [[0],[1]]:=fun _=>by
 have k0:=(Kp.alloc (W.alloc (.cells #[.int .i64 0] 3)) (.cells #[.int .i64 1] 3)).trans (Kp.alloc _ (.cells #[.slice (some ⟨W.heap.size,0,none⟩) 1 1, .slice (some ⟨W.heap.size+1,0,none⟩) 1 1] 39)) (by simp)
 have c0:=((CBox.new W #[.int .i64 0] 3).kp k0 (by simp)).cell (i:=0) (v:= .int .i64 0) rfl
 have c1:=((CBox.new (W.alloc (.cells #[.int .i64 0] 3)) #[.int .i64 1] 3).kp (Kp.alloc _ (.cells #[.slice (some ⟨W.heap.size,0,none⟩) 1 1, .slice (some ⟨W.heap.size+1,0,none⟩) 1 1] 39)) (by simp)).cell (i:=0) (v:= .int .i64 1) rfl
 have c2:=CBox.new ((W.alloc (.cells #[.int .i64 0] 3)).alloc (.cells #[.int .i64 1] 3)) #[.slice (some ⟨W.heap.size,0,none⟩) 1 1, .slice (some ⟨W.heap.size+1,0,none⟩) 1 1] 39
 simp only[World.size_alloc]at c1 c2
 refine ⟨W.heap.size+1+1,0,rfl,by simp,fun i hi=>?_⟩
 have h2:i=0\/i=1:=by simp at hi;omega
 rcases h2 with rfl|rfl
 ·refine ⟨_,1,c2.cell rfl,fun _=>⟨W.heap.size,0,rfl,by simp;omega,fun k hk=>?_⟩⟩
  have:k=0:=by simp at hk;omega
  subst this
  exact c0
 ·refine ⟨_,1,c2.cell rfl,fun _=>⟨W.heap.size+1,0,rfl,by simp,fun k hk=>?_⟩⟩
  have:k=0:=by simp at hk;omega
  subst this
  exact c1
theorem q8t (w:World)(hT:TbE w):Calls Tryz.prog 4 #[] w fun e w'=>e= .returned (.bool true)/\Kp [] w w':=by
 obtain ⟨W0,hW0⟩: ∃W0,W0=w.alloc (.cells #[.string ⟨#[116,104,101,110]⟩, .int .i64 2, .string ⟨#[97,110,121]⟩, .int .i64 3, .string ⟨#[110,101,120,116]⟩, .int .i64 1] 42):=⟨_,rfl⟩
 have k0:Kp [] w W0:=by rw[hW0];exact Kp.alloc _ _
 have HROW:Hid (∀j,j<3-> ∃how m h r,WkF how m h r/\m<=9/\ ∀W,Kp [] W0 W->W.cell? ⟨w.heap.size,j * 2,none⟩=some (.string how)/\W.cell? ⟨w.heap.size,j * 2+1,none⟩=some (.int .i64 (m:Int))):=hZq (fun j hj=>by
  have hb:=CBox.new w #[.string ⟨#[116,104,101,110]⟩, .int .i64 2, .string ⟨#[97,110,121]⟩, .int .i64 3, .string ⟨#[110,101,120,116]⟩, .int .i64 1] 42
  rw[<-hW0]at hb
  have h3:j=0\/j=1\/j=2:=by omega
  rcases h3 with rfl|rfl|rfl
  ·exact ⟨_,_,_,_,qc0,by omega,fun W hk=>⟨(hb.kp hk (by simp)).cell rfl,(hb.kp hk (by simp)).cell rfl⟩⟩
  ·exact ⟨_,_,_,_,qdu,by omega,fun W hk=>⟨(hb.kp hk (by simp)).cell rfl,(hb.kp hk (by simp)).cell rfl⟩⟩
  ·exact ⟨_,_,_,_,qc,by omega,fun W hk=>⟨(hb.kp hk (by simp)).cell rfl,(hb.kp hk (by simp)).cell rfl⟩⟩)
 have HK0:=hZq k0
 have HT:=hZq hT
 have EF:=fun W=>eqF 9998 0 0 0 0 W
 have HTL:Hid ((tyL ⟨#[120,121,122,121]⟩).length=4):=hZq (by kernel_rfl)
 clear hT k0
 go_enter Tryz.func4,Tryz.ntmps4
 go_upto_region 2 with fail
 rw[<-hW0]
 clear hW0
 go_wp2_with fail
 go_loopw [12] (fun iv wr=> ∃j:Nat,j<=3/\iv= .int .i64 (j:Int)/\Hid (Kp [] W0 wr)) (fun iv _=>3-(intOf iv).toNat)
 case atStart=>exact ⟨0,by omega,rfl,hZq (Kp.refl _ _)⟩
 case round=>
  obtain ⟨j,hj,rfl,HK⟩:=hrel
  by_cases hlt:j<3
  ·have hli:(j:Int)<3:=by omega
   obtain ⟨how,m,h,r,hF,hm9,hcl⟩:=uQ HROW j hlt
   obtain ⟨c0,c1⟩:=hcl wr (uQ HK)
   have b1:=CBox.new wr #[.string how, .int .i64 (m:Int)] 42
   have k1:=Kp.alloc wr (.cells #[.string how, .int .i64 (m:Int)] 42)
   obtain ⟨W1,hW1⟩: ∃W1,W1=wr.alloc (.cells #[.string how, .int .i64 (m:Int)] 42):=⟨_,rfl⟩
   rw[<-hW1]at b1 k1
   have kw1:=((uQ HK0).trans (uQ HK) (by simp)).trans k1 (by simp)
   have RD0:=q9S (wkS how) W1 ((uQ HT).kp kw1 (by simp)) (by have:=hF.sz;omega)
   rw[hF.rd]at RD0
   have RD:Hid (Calls Tryz.prog 8 #[.string (wkS how)] W1 fun e w'=> ∃ad cp rs,e= .returned (.tuple #[.agg #[.slice ad 2 cp, .int .i64 9], .agg #[.int .i64 0, .int .i64 0]])/\(StsAt w' ad (rs:List SR)/\stgs rs=(wkP h).ss/\rs.length=2/\2<=cp)/\Kp [] W1 w'):=hZq (RD0.mono fun e w' ⟨⟨ad,cp,rs,h1,h2,h3⟩,h4⟩=>by
    obtain ⟨a',c',e',hat,hcap⟩:=h2.at
    injection e' with ea eb ec
    have hl:rs.length=2:=by rw[<-q02,h3];rfl
    rw[hl]at h1
    subst ea ec
    exact ⟨ad,cp,rs,h1,⟨hat,h3,hl,by omega⟩,Kp.ofBelow h4⟩)
   unfold wkS at RD
   have d0:=b1.cell (i:=0) (v:= .string how) rfl
   have HB1:=hZq b1
   have HKW1:=hZq k1
   have HF:=hZq hF
   have hh9:=hF.hl
   clear RD0 hcl hF b1 k1 kw1 HROW
   go_upto_region 4 with fail
   rw[<-hW1]
   clear hW1 c0 c1
   go_wp2_with fail
   refine (uQ RD).mono ?_
   rintro e w2 ⟨ad,cp,rs,rfl,hrs,hk2⟩
   have kv:Kp [] w2 ((w2.alloc (.cells #[.slice ad 2 cp, .int .i64 9] 24)).alloc (.cells #[.int .i64 0, .int .i64 0] 45)):=(Kp.alloc _ _).trans (Kp.alloc _ _) (by simp)
   have hP1:=q2i w2 #[.slice ad 2 cp, .int .i64 9] 24 (.cells #[.int .i64 0, .int .i64 0] 45)
   have hF1:=q3v w2 #[.int .i64 0, .int .i64 0] 45 (.cells #[.slice ad 2 cp, .int .i64 9] 24)
   obtain ⟨W3,hW3⟩: ∃W3,W3=((w2.alloc (.cells #[.slice ad 2 cp, .int .i64 9] 24)).alloc (.cells #[.int .i64 0, .int .i64 0] 45)):=⟨_,rfl⟩
   rw[<-hW3]at kv hP1 hF1
   obtain ⟨V,hV⟩: ∃V,V=W3.drew:=⟨_,rfl⟩
   have kV:Kp [] W3 V:=by rw[hV];exact Kp.drew _
   have k2V:Kp [] w2 V:=kv.trans kV (by simp)
   have k0V:Kp [] w V:=((((uQ HK0).trans (uQ HK) (by simp)).trans (uQ HKW1) (by simp)).trans hk2 (by simp)).trans k2V (by simp)
   have kWr:Kp [] W0 V:=(((uQ HK).trans (uQ HKW1) (by simp)).trans hk2 (by simp)).trans k2V (by simp)
   have HC2:Hid (∀W,Kp [] V W->(W.cell? ⟨w2.heap.size+1,0,none⟩=some (.int .i64 0)/\W.cell? ⟨w2.heap.size+1,1,none⟩=some (.int .i64 0))/\W.cell? ⟨wr.heap.size,1,none⟩=some (.int .i64 (m:Int))/\Hid (Kp [] W0 W)):=hZq (fun W hk=>⟨⟨(hF1.kp (kV.trans hk (by simp)) (by simp)).cell rfl,(hF1.kp (kV.trans hk (by simp)) (by simp)).cell rfl⟩,((uQ HB1).kp ((hk2.trans k2V (by simp)).trans hk (by simp)) (by simp)).cell rfl,hZq (kWr.trans hk (by simp))⟩)
   have HSV:Hid (∀W,Kp [] V W->(W.cell? ⟨w2.heap.size,0,none⟩=some (.slice ad 2 cp)/\W.cell? ⟨w2.heap.size,1,none⟩=some (.int .i64 9))/\Hid (∀ta tc,EvsAt W ta (tyL ⟨#[120,121,122,121]⟩)->Calls Tryz.prog 6 #[.agg #[.slice ad 2 cp, .int .i64 9], .string ⟨#[107]⟩, .slice ta (tyL ⟨#[120,121,122,121]⟩).length tc] W fun e w'=> ∃fg fc zg,e= .returned (.tuple #[.slice (some ⟨fg,0,none⟩) m fc, .int .i64 0])/\Kp [] W w'/\(∀W',Kp [] w' W'->StagesAt W' (some ⟨zg,0,none⟩) [[0],[1]])/\w'.cell? ⟨fg,0,none⟩=some (.string ⟨#[107]⟩)/\w'.cell? ⟨fg,1,none⟩=some (.slice (some ⟨zg,0,none⟩) 2 2))):=hZq (fun W hk=>⟨⟨(hP1.kp (kV.trans hk (by simp)) (by simp)).cell rfl,(hP1.kp (kV.trans hk (by simp)) (by simp)).cell rfl⟩,hZq (fun ta tc hev=>by
    obtain ⟨r1,r2,r3,r4⟩:=hrs
    have hwo:=qf2 h (uQ HF).hw
    have hmm: ∀x∈rs,x.s∈(wkP h).ss:=fun x hx=>by rw[<-r2];unfold stgs;exact List.mem_map_of_mem hx
    have hfd:=q3F ad cp rs 9 ta tc wkE ⟨#[107]⟩ W (r1.kp (k2V.trans hk (by simp))) hev ((uQ HT).kp (k0V.trans hk (by simp)) (by simp)) (fun x hx=>hwo.1 _ (hmm x hx)) (fun x hx=>hwo.2 _ (hmm x hx)) (by omega) (by omega) (by decide) qf3 (by decide)
    have he:(⟨stgs rs,9⟩:Ptn)=wkP h:=by rw[r2];rfl
    obtain ⟨f1,f2⟩:=(uQ HF).fi hm9
    rw[he,f1,f2,r3]at hfd
    refine hfd.mono ?_
    rintro e w' ⟨v,zs,rfl,hP⟩
    have hts:=hP.ts
    match zs,hts with
    |[],hts=>cases hts
    |z::zr,hts=>
     rw[List.map_cons,List.cons.injEq]at hts
     have hlen:(z::zr).length=m:=by
      rw[List.length_cons, <-(uQ HF).ln, <-hts.2,List.length_map]
     have hrow:=hP.row
     rw[hlen]at hrow
     obtain ⟨a,c,rfl,hg⟩:=q10 hrow
     obtain ⟨g,rfl⟩:=hg (by rw[<-hlen];simp)
     have hrow':=hP.row
     rw[<-hlen]at hrow'
     have c0:=q0o (enc:=mtE ⟨#[107]⟩) (sz:=2) (q16 _) hrow' 0 0 (by simp) (by omega)
     have c1:=q0o (enc:=mtE ⟨#[107]⟩) (sz:=2) (q16 _) hrow' 0 1 (by simp) (by omega)
     refine ⟨g,c,z.g,rfl,hP.kp,fun W' hk'=>?_,c0,?_⟩
     ·have:=((hP.cp z (by simp)).kp hk' (by simp)).stages
      rw[hts.1]at this
      exact this
     ·have e2:w'.cell? ⟨g,1,none⟩=some z.v:=c1
      rw[e2]
      unfold Cp.v
      rw[hts.1]
      rfl)⟩)
   have TY:=hZq (qaj ⟨#[120,121,122,121]⟩ (by decide) V)
   have hS0:=(uQ HSV V (Kp.refl _ _)).1
   have hm1:1<=m:=by have:=(uQ HF).ln;omega
   clear RD hrs hk2 kv hP1 hF1 kV k2V k0V kWr HB1 HKW1 HF d0 HK
   go_upto_region 5 with fail
   rw[<-hW3]
   clear hW3
   go_cut [5,6] (fun lv ev wc=> ∃fg fc zg,lv= .slice (some ⟨fg,0,none⟩) m fc/\ev= .int .i64 0/\Hid (Kp [] V wc/\(∀W',Kp [] wc W'->StagesAt W' (some ⟨zg,0,none⟩) [[0],[1]])/\wc.cell? ⟨fg,0,none⟩=some (.string ⟨#[107]⟩)/\wc.cell? ⟨fg,1,none⟩=some (.slice (some ⟨zg,0,none⟩) 2 2)))
   case first=>
    refine wp_region_held_drew (S:=fun W=>W.cell? ⟨w2.heap.size,0,none⟩=some (.slice ad 2 cp)/\W.cell? ⟨w2.heap.size,1,none⟩=some (.int .i64 9)) (by kernel_rfl) (by rw[<-hV];exact hS0) (fun hHeld=>?_)
    rw[<-hV]at hHeld ⊢
    clear hV
    show wpAnyH _ _ _ _ _ 8 (Array.replicate 8 false) _ _
    refine wpAnyH_take (i:=0) (oi:=⟨some 25,Op.load 24 (.tmp 3),24,"theorems.go:29",#[],none⟩) (v:=?_) rfl (by kernel_rfl) (by kernel_rfl) (by kernel_rfl) (fun _ _ _ h=>h) (Or.inl ⟨by rfl,?_⟩) (by assumption) ?_
    rotate_left
    ·intro w0 s9
     (try dsimp only at s9)
     go_simp
     (try with_reducible rfl)
    try simp only[Act.put,zz1,zz2,zz3]
    refine wpAnyH_ready (rs:=[1]) (by kernel_rfl) (by simp) ?_
    refine AllReadyH.cons (o:=⟨some 26,Op.call { callee:= .value (.func 9),args:=#[.const (Value.string { data:=#[120,121,122,121] })],argTypes:=#[9] },25,"theorems.go:29",#[],none⟩) rfl (fun K hK=>?_) AllReadyH.nil
    go_simp
    refine (uQ TY).mono ?_
    rintro e w5 ⟨tv,rfl,hto,hk5⟩
    obtain ⟨ta,tc,rfl,hte⟩:=hto.at
    have HK5:=hZq hk5
    obtain ⟨hS5,HF5⟩:=uQ HSV w5 hk5
    have FD:=hZq (uQ HF5 ta tc hte)
    clear TY HF5 hto hte hk5
    refine hK.out _ _ ?_ (fun hHeld=>?_)
    ·exact hS5
    clear hK K
    try simp only[Act.put,zz1,zz2,zz3]
    refine wpAnyH_ready (rs:=[2]) (by kernel_rfl) (by simp) ?_
    refine AllReadyH.cons (o:=⟨some 27,Op.call { callee:= .value (.func 6),args:=#[.tmp 25, .const (Value.string { data:=#[107] }), .tmp 26],argTypes:=#[24,9,25] },34,"theorems.go:29",#[⟨0, .data⟩,⟨1, .data⟩,⟨1, .chain⟩],none⟩) rfl (fun K hK=>?_) AllReadyH.nil
    go_simp
    refine (uQ FD).mono ?_
    rintro e w6 ⟨fg,fc,zg,rfl,hk6,hstz,l0,l1⟩
    have HK6:=hZq ((uQ HK5).trans hk6 (by simp))
    obtain ⟨hS6,_⟩:=uQ HSV w6 (uQ HK6)
    have HSTZ:=hZq hstz
    clear FD hk6 HK5 hS5 hstz
    refine hK.out _ _ ?_ (fun hHeld=>?_)
    ·exact hS6
    clear hK K
    try simp only[Act.put,zz1,zz2,zz3]
    refine wpAnyH_take (i:=3) (oi:=⟨some 24,Op.move (.tmp 27),34,"theorems.go:29",#[⟨2, .data⟩],none⟩) (v:=?_) rfl (by kernel_rfl) (by kernel_rfl) (by kernel_rfl) (fun _ _ _ h=>h) (Or.inl ⟨by rfl,?_⟩) (by assumption) ?_
    rotate_left
    ·intro w0 s9
     (try dsimp only at s9)
     go_simp
     (try with_reducible rfl)
    try simp only[Act.put,zz1,zz2,zz3]
    refine wpAnyH_take (i:=4) (oi:=⟨some 28,Op.extract (.tmp 24) 0,32,"theorems.go:29",#[⟨3, .data⟩],none⟩) (v:=?_) rfl (by kernel_rfl) (by kernel_rfl) (by kernel_rfl) (fun _ _ _ h=>h) (Or.inl ⟨by rfl,?_⟩) (by assumption) ?_
    rotate_left
    ·intro w0 s9
     (try dsimp only at s9)
     go_simp
     (try with_reducible rfl)
    try simp only[Act.put,zz1,zz2,zz3]
    refine wpAnyH_take (i:=5) (oi:=⟨some 29,Op.extract (.tmp 24) 1,33,"theorems.go:29",#[⟨3, .data⟩,⟨6, .gcOnly Departure.lateStores⟩],none⟩) (v:=?_) rfl (by kernel_rfl) (by kernel_rfl) (by kernel_rfl) (fun _ _ _ h=>h) (Or.inl ⟨by rfl,?_⟩) (by assumption) ?_
    rotate_left
    ·intro w0 s9
     (try dsimp only at s9)
     go_simp
     (try with_reducible rfl)
    try simp only[Act.put,zz1,zz2,zz3]
    refine wpAnyH_take (i:=6) (oi:=⟨some 5,Op.assign (.tmp 28),32,"theorems.go:29",#[⟨4, .data⟩,⟨2, .chain⟩,⟨0, .phase⟩,⟨1, .phase⟩,⟨2, .phase⟩,⟨3, .phase⟩,⟨4, .phase⟩,⟨5, .textOnly Departure.lateStores⟩],none⟩) (v:=?_) rfl (by kernel_rfl) (by kernel_rfl) (by kernel_rfl) (fun _ _ _ h=>h) (Or.inl ⟨by rfl,?_⟩) (by assumption) ?_
    rotate_left
    ·intro w0 s9
     (try dsimp only at s9)
     go_simp
     (try with_reducible rfl)
    try simp only[Act.put,zz1,zz2,zz3]
    refine wpAnyH_take (i:=7) (oi:=⟨some 6,Op.assign (.tmp 29),33,"theorems.go:29",#[⟨5, .data⟩,⟨6, .chain⟩,⟨0, .phase⟩,⟨1, .phase⟩,⟨2, .phase⟩,⟨3, .phase⟩,⟨4, .phase⟩,⟨5, .phase⟩,⟨6, .phase⟩],none⟩) (v:=?_) rfl (by kernel_rfl) (by kernel_rfl) (by kernel_rfl) (fun _ _ _ h=>h) (Or.inl ⟨by rfl,?_⟩) (by assumption) ?_
    rotate_left
    ·intro w0 s9
     (try dsimp only at s9)
     go_simp
     (try with_reducible rfl)
    try simp only[Act.put,zz1,zz2,zz3]
    refine wpAnyH_done (by kernel_rfl) ?_ _
    have HKF:=hZq (And.intro (uQ HK6) (And.intro (uQ HSTZ) (And.intro l0 l1)))
    clear HSV HC2 HK6 HSTZ hS6 hHeld l0 l1
    go_wp2
    go_meet
    exact ⟨fg,fc,zg,rfl,rfl,HKF⟩
   case rest=>
   obtain ⟨fg,fc,zg,rfl,rfl,HK6⟩:=hcut
   obtain ⟨kc,hstz,l0,l1⟩:=uQ HK6
   obtain ⟨⟨y0,y1⟩,y2,HKC⟩:=uQ HC2 wc kc
   have ka:Kp [] wc (((wc.alloc (.cells #[.int .i64 0] 3)).alloc (.cells #[.int .i64 1] 3)).alloc (.cells #[.slice (some ⟨wc.heap.size,0,none⟩) 1 1, .slice (some ⟨wc.heap.size+1,0,none⟩) 1 1] 39)):=((Kp.alloc _ _).trans (Kp.alloc _ _) (by simp)).trans (Kp.alloc _ _) (by simp)
   have SM:=hZq (q33 ⟨#[107]⟩ (some ⟨zg,0,none⟩) 2 [[0],[1]] ⟨#[107]⟩ (some ⟨wc.heap.size+1+1,0,none⟩) 2 [[0],[1]] _ ⟨by decide,by decide,by decide⟩ ⟨by decide,by decide,by decide⟩ (hstz _ ka) (qak wc))
   have HD:decide (((⟨#[107]⟩:ByteArray)=⟨#[107]⟩)/\(([[0],[1]]:List (List Int))=[[0],[1]]))=true:=decide_eq_true ⟨rfl,rfl⟩
   rw[HD]at SM
   have hmi:(0:Int)<(m:Int):=by omega
   have HKA:=hZq ((uQ HKC).trans ka (by simp))
   clear HSV HC2 HK6 kc hstz HKC ka HD TY hS0 HK0 HT HTL
   go_wp2_with fail
   refine (uQ SM).mono ?_
   rintro e w9 ⟨rfl,hb9⟩
   have HK9:=hZq ((uQ HKA).trans (Kp.ofBelow hb9) (by simp))
   clear SM hb9 HKA l0 l1 y0 y1 y2
   go_wp2
   go_roundw
   case rel=>exact ⟨j+1,by omega,by go_num,HK9⟩
   case measure=>simp[intOf];omega
  ·obtain rfl:j=3:=by omega
   have HKF:=hZq ((uQ HK0).trans (uQ HK) (by simp))
   clear HK HROW
   go_wp2
   go_ret
   exact ⟨rfl,uQ HKF⟩
structure SyE (w:World)(g cap:Nat)(es:List Ev)(wr:World):Prop where
 row:OwnsX w.heap.size wr (.slice (some ⟨g,0,none⟩) es.length cap) es
 kp:Kp [] w wr
theorem SyE.up {w wr w':World}{g cap:Nat}{es:List Ev}(h:SyE w g cap es wr)(hk:Kp [] wr w'):SyE w g cap es w':=⟨q03 h.row hk (by simp),h.kp.trans hk (by simp)⟩
theorem SyE.at {w wr:World}{g cap:Nat}{es:List Ev}(h:SyE w g cap es wr):EvsAt wr (some ⟨g,0,none⟩) es:=by
 obtain ⟨ad,cp,e,h1⟩:=h.row.at
 injection e with e1 _ _
 rw[<-e1]at h1
 exact h1
theorem qcj {w:World}{x:Cp}(h:CpAt w x)(h0:x.T≠[])(hn: ∀l∈x.T,l≠[]){key:ByteArray}(hok:MtOk key (Mt.toZ x.T)): ∃tn sb so q c,x.T.length=tn+1/\tn+1<=9223372036854775807/\q+1<=9223372036854775807/\w.cell? ⟨x.g,tn,none⟩=some (.slice (some ⟨sb,so,none⟩) (q+1) c)/\w.cell? ⟨sb,so+q,none⟩=some (.int .i64 (Mt.endT x.T:Int)):=by
 have hp:=List.length_pos_iff.2 h0
 obtain ⟨tn,htn⟩: ∃tn,x.T.length=tn+1:=⟨x.T.length-1,by omega⟩
 obtain ⟨b,off,e,_,hc⟩:=h.stages (List.length_pos_iff.1 (by rw[q0z];exact hp))
 cases e
 have hi:tn<(Mt.toZ x.T).length:=by rw[q0z];omega
 obtain ⟨a,c,h1,h2⟩:=hc tn hi
 have hti:tn<x.T.length:=by omega
 have eL:(Mt.toZ x.T)[tn]=x.T[tn].map Int.ofNat:=by
  have:(Mt.toZ x.T)[tn]?=some (x.T[tn].map Int.ofNat):=by
   unfold Mt.toZ
   rw[List.getElem?_map,List.getElem?_eq_getElem hti]
   rfl
  exact Option.some.inj ((List.getElem?_eq_getElem hi).symm.trans this)
 have hL:=hn x.T[tn] (List.getElem_mem _)
 have hend:Mt.endT x.T=Mt.lst x.T[tn]:=by
  unfold Mt.endT
  have e1:x.T.getLastD []=x.T[tn]:=by
   rw[List.getLastD_eq_getLast?,List.getLast?_eq_getElem?,htn,Nat.add_sub_cancel,List.getElem?_eq_getElem hti]
   rfl
  rw[e1]
 have hpl:=hok.2.2 _ (List.getElem_mem hi)
 have htl:=hok.2.1
 rw[q0z]at htl
 rw[eL]at h1 h2 hpl
 rw[hend]
 rw[List.length_map]at hpl
 generalize x.T[tn]=P at *
 have hLp:=List.length_pos_iff.2 hL
 obtain ⟨q,hq⟩: ∃q,P.length=q+1:=⟨P.length-1,by omega⟩
 obtain ⟨sb,so,e2,_,h3⟩:=h2 (by simpa using hL)
 have h4:=h3 q (by rw[List.length_map];omega)
 have hlst:Mt.lst P=P[q]'(by omega):=by
  unfold Mt.lst
  have e3:P.length-1=q:=by omega
  rw[List.getLastD_eq_getLast?,List.getLast?_eq_getElem?,e3,List.getElem?_eq_getElem (by omega)]
  rfl
 refine ⟨tn,sb,so,q,c,htn,by omega,by omega,?_,?_⟩
 ·rw[Nat.zero_add]at h1
  rw[h1,List.length_map,hq,e2]
 ·rw[h4,hlst]
  simp
theorem qd4 {W:World}{B n:Nat}{v:Value}{zs:List Cp}{key:ByteArray}(ho:W.ownsRow B 38 2 v n (zs.flatMap (mtE key)))(hl:n<=5000)(hB:B<=W.heap.size){x:Cp}{g:Nat}(hg:CBox g #[.string key,x.v] 38 W):
  ∃g' cap w',(Builtin.append_ #[32,32] 32 #[v, .slice (some ⟨g,0,none⟩) 1 1]).run Tryz.prog W= .ok (.slice (some ⟨g',0,none⟩) (n+1) cap) w'/\w'.ownsRow B 38 2 (.slice (some ⟨g',0,none⟩) (n+1) cap) (n+1) ((zs++[x]).flatMap (mtE key))/\Kp v.ownBlock.toList W w'/\ ∀b∈v.ownBlock,B<=b:=by
 obtain ⟨i0,hi,hz0,hz1,hz2⟩:=info_parts q7D
 obtain ⟨g',cap,w6,hrun,r1,r2,r3,_⟩:=run_append_lies (P:=Tryz.prog) (w:=W) 32 32 B 38 i0 _ 2 40 Tryz.underlying32 hi hz0 hz1 hz2 rfl (by decide) v n (zs.flatMap (mtE key)) ho ⟨g,0,none⟩ 1 1 (mtE key x) rfl (fun j u hj=>by
  rw[Go.WideShapes.add_plain,Nat.zero_add]
  refine hg.cell ?_
  unfold mtE at hj
  simpa using hj) (fun u hu=>by
   unfold mtE Cp.v at hu
   simp only[List.mem_cons,List.not_mem_nil,or_false]at hu
   rcases hu with rfl|rfl <;> rfl) (by omega) (by unfold maxLen;omega) (by omega) hB _ rfl
 refine ⟨g',cap,w6,hrun,?_,Kp.of r2,fun b hb=>(ho.lt b (by simpa using hb)).1⟩
 rw[List.flatMap_append]
 simpa [mtE] using r1
structure SyW (w6:World)(key:ByteArray)(f:Cp->Bool)(zs:List Cp)(j n:Nat)(wv:Value)(wr:World):Prop where
 row:wr.ownsRow w6.heap.size 38 2 wv n (((zs.take j).filter f).flatMap (mtE key))
 ln:n=((zs.take j).filter f).length
 kp:Kp [] w6 wr
theorem q4V {f:Cp->Bool}{zs:List Cp}{j:Nat}(hj:j<zs.length):(zs.take (j+1)).filter f=(zs.take j).filter f++(if f zs[j]=true then [zs[j]] else []):=by
 rw[List.take_succ_eq_append_getElem hj,List.filter_append]
 congr 1
 rw[List.filter_cons]
 split <;> simp
theorem SyW.skip {w6 wr w':World}{key:ByteArray}{f:Cp->Bool}{zs:List Cp}{j n:Nat}{wv:Value}(h:SyW w6 key f zs j n wv wr)(hj:j<zs.length)(hf:f zs[j]=false)(hk:Kp [] wr w'):SyW w6 key f zs (j+1) n wv w':=by
 have e:=q4V (f:=f) hj
 rw[hf]at e
 simp at e
 exact ⟨by rw[e];exact q03 h.row hk (by simp),by rw[e];exact h.ln,h.kp.trans hk (by simp)⟩
theorem SyW.take {w6 wr W:World}{key:ByteArray}{f:Cp->Bool}{zs:List Cp}{j n:Nat}{wv:Value}(h:SyW w6 key f zs j n wv wr)(hj:j<zs.length)(hf:f zs[j]=true)(hk:Kp [] wr W)(hl:zs.length<=4096){g:Nat}(hg:CBox g #[.string key,zs[j].v] 38 W):
  ∃g' cap w',(Builtin.append_ #[32,32] 32 #[wv, .slice (some ⟨g,0,none⟩) 1 1]).run Tryz.prog W= .ok (.slice (some ⟨g',0,none⟩) (n+1) cap) w'/\SyW w6 key f zs (j+1) (n+1) (.slice (some ⟨g',0,none⟩) (n+1) cap) w':=by
 have hn:n<=4096:=by
  rw[h.ln]
  have h1:=List.length_filter_le f (zs.take j)
  rw[List.length_take]at h1
  omega
 have kW:=h.kp.trans hk (by simp)
 obtain ⟨g',cap,w',hr,h1,h2,h3⟩:=qd4 (q03 h.row hk (by simp)) (by omega) kW.size hg
 have e:=q4V (f:=f) hj
 rw[hf,if_pos rfl]at e
 refine ⟨g',cap,w',hr,by rw[e];exact h1,by rw[e,List.length_append, <-h.ln];rfl,kW.trans h2 (fun b hb=>Or.inr (h3 b (by simpa using hb)))⟩
theorem OwnsP.zero (w:World):OwnsP w.heap.size (w.alloc (.cells #[] 167)) (.slice (some ⟨w.heap.size,0,none⟩) 0 0) []:=
 ⟨rfl,Or.inr ⟨w.heap.size,0,#[],rfl,Nat.le_refl _,CBox.new w _ _,Nat.le_refl _,by unfold maxLen;omega,rfl,rfl⟩⟩
theorem qa0 {w:World}{ad:Option Addr}{c:Nat}{x:List Pt}(h:PtsAt w ad x)(ha:ad=none->c=0)(hl:x.length * 56<=140737488351232)(ty:TypeId):
  ∃g cap w',(Builtin.append_ #[50,50] ty #[.slice (some ⟨w.heap.size,0,none⟩) 0 0, .slice ad x.length c]).run Tryz.prog (w.alloc (.cells #[] 167))= .ok (.slice (some ⟨g,0,none⟩) x.length cap) w'/\OwnsP w.heap.size w' (.slice (some ⟨g,0,none⟩) x.length cap) x/\Kp [] w w':=by
 obtain ⟨i0,hi,hz0,hz1,hz2⟩:=info_parts qcU
 have ho:=OwnsP.zero w
 have k0:=Kp.alloc w (.cells #[] 167)
 have hz:(w.alloc (.cells #[] 167)).heap.size=w.heap.size+1:=by simp
 cases ad with
 |none=>
  obtain rfl:=ha rfl
  obtain rfl:x=[]:=by
   rcases x with _|⟨p,r⟩
   ·rfl
   ·obtain ⟨b,off,e,_⟩:=h (by simp)
    cases e
  exact ⟨w.heap.size,0,_,by simpa using run_append_owned_none (P:=Tryz.prog) (w:=w.alloc (.cells #[] 167)) w.heap.size _ ty 167 i0 5 Tryz.underlying50 hi _ _ _ ho,ho,k0⟩
 |some a=>
  by_cases h0:x=[]
  ·subst h0
   have:=run_append_room_cells (P:=Tryz.prog) (w:=w.alloc (.cells #[] 167)) 50 ty 167 i0 Tryz.underlying50 hi w.heap.size 0 0 0 a 0 c [] (by simp) (fun j u hj=>by simp at hj) (fun u hu=>by cases hu) (by omega) (fun j hj=>absurd hj (by simp)) (fun j hj=>absurd hj (by simp))
   exact ⟨w.heap.size,0,_,by simpa [World.setCells] using this,ho,k0⟩
  ·obtain ⟨b,off,e,_⟩:=id (h h0)
   cases e
   have h':=h.kp k0
   have ho0:(w.alloc (.cells #[] 167)).ownsRow 0 167 5 (.slice (some ⟨w.heap.size,0,none⟩) 0 0) 0 []:=ho.mono (Nat.zero_le _)
   obtain ⟨g,cap,w',hr,r1,r2,r3⟩:=q2p (P:=Tryz.prog) (w:=w.alloc (.cells #[] 167)) 50 ty 167 i0 (.agg #[.int .i64 0, .int .i64 0, .string ⟨#[]⟩, .string ⟨#[]⟩, .int .i64 0]) 5 56 Tryz.underlying50 hi hz0 hz1 hz2 rfl (by decide) ho0 (some ⟨b,off,none⟩) x.length c (x.flatMap ptE) (q0O ptE 5 q0x x) (fun h=>by cases h) (fun a h=>by cases h;rfl) (fun a h=>by cases h;exact q9T h') (q1Y x) (by unfold maxLen;omega) (by omega)
   rw[Nat.zero_add]at hr r1
   have hg:w.heap.size<=g:=by rcases r3 with e|e <;> omega
   refine ⟨g,cap,w',hr,OwnsP.base (n:=x.length) ?_ hg,k0.trans (Kp.of r2) (fun y hy=>Or.inr (by simp at hy;omega))⟩
   simpa [OwnsP] using r1
theorem q8K {ops:Array Oper}{o:Oper}{a:Act}{w v:World}{K:Act->World->Prop}{Q:Exit->Act->World->Prop}{E:Prop}
  (hg:o.guard=none) (s x:Operand) (hop:o.op=Op.call { callee:=Callee.builtin Builtin.append,args:=#[s,x],argTypes:=#[50,50] })
  {ad:Option Addr} {c m:Nat} {xs:List Pt} (hv:v=w.alloc (.cells #[] 167)) (hs:a.eval s= .slice (some ⟨w.heap.size,0,none⟩) 0 0) (hx:a.eval x= .slice ad m c) (hm:m=xs.length) (h:PtsAt w ad xs) (ha:ad=none->c=0) (hl:xs.length * 56<=140737488351232)
  (hK: ∀g cap w',OwnsP w.heap.size w' (.slice (some ⟨g,0,none⟩) m cap) xs->Kp [] w w'->K (a.put o.dst (.slice (some ⟨g,0,none⟩) m cap)) w'):
  if Region.wanted o (yielded ops a.tmps)=true then Oper.wp Tryz.prog o a v K Q else E:=by
 subst hm hv
 have hw:Region.wanted o (yielded ops a.tmps)=true:=by simp[Region.wanted,hg]
 rw[if_pos hw]
 obtain ⟨g,cap,w',hrun,r1,r2⟩:=qa0 h ha hl o.type
 unfold Oper.wp
 simp[execOp,hop,resolve,invoke,builtin,hs,hx,hrun,Result.andThen]
 exact hK g cap w' r1 r2
theorem qac {w:World}{b off:Nat}{l:List SR}(h:StsAt w (some ⟨b,off,none⟩) l): ∀j u,(l.flatMap srE)[j]?=some u->w.cell? ((⟨b,off,none⟩:Addr).add j)=some u:=by
 intro j u hj
 have hl:=q0O srE 4 q1D l
 have hjl:j<l.length * 4:=by
  rw[<-hl]
  exact (List.getElem?_eq_some_iff.1 hj).1
 have h7:=q1W srE 4 q1D l (j / 4) (j % 4) (by omega) (by omega)
 rw[show j / 4 * 4+j % 4=j by omega,hj]at h7
 obtain ⟨b',off',e,_,c0,c1,c2,c3,_⟩:=h.at (j / 4) (by omega)
 cases e
 have ea:(⟨b,off,none⟩:Addr).add j=⟨b,off+j / 4 * 4+j % 4,none⟩:=by rw[Go.WideShapes.add_plain];congr 1;omega
 rw[ea]
 rcases (show j % 4=0\/j % 4=1\/j % 4=2\/j % 4=3 by omega)with e|e|e|e
 all_goals
  rw[e]at h7 ⊢
  cases h7
  assumption
theorem qa {w:World}{ad:Option Addr}{c:Nat}{x:List SR}(h:StsAt w ad x)(ha:ad=none->c=0)(hl:x.length * 56<=140737488351232)(ty:TypeId):
  ∃g cap w',(Builtin.append_ #[22,22] ty #[.slice (some ⟨w.heap.size,0,none⟩) 0 0, .slice ad x.length c]).run Tryz.prog (w.alloc (.cells #[] 52))= .ok (.slice (some ⟨g,0,none⟩) x.length cap) w'/\w'.ownsRow 0 52 4 (.slice (some ⟨g,0,none⟩) x.length cap) x.length (x.flatMap srE)/\w.heap.size<=g/\Kp [] w w':=by
 obtain ⟨i0,hi,hz0,hz1,hz2⟩:=info_parts q7B
 have ho:(w.alloc (.cells #[] 52)).ownsRow 0 52 4 (.slice (some ⟨w.heap.size,0,none⟩) 0 0) 0 []:=⟨rfl,Or.inr ⟨w.heap.size,0,#[],rfl,Nat.zero_le _,CBox.new w _ _,Nat.le_refl _,by unfold maxLen;omega,rfl,rfl⟩⟩
 have k0:=Kp.alloc w (.cells #[] 52)
 have hz:(w.alloc (.cells #[] 52)).heap.size=w.heap.size+1:=by simp
 cases ad with
 |none=>
  obtain rfl:=ha rfl
  obtain rfl:x=[]:=by
   rcases x with _|⟨p,r⟩
   ·rfl
   ·obtain ⟨b,off,e,_⟩:=h (by simp)
    cases e
  exact ⟨w.heap.size,0,_,by simpa using run_append_owned_none (P:=Tryz.prog) (w:=w.alloc (.cells #[] 52)) 0 _ ty 52 i0 4 Tryz.underlying22 hi _ _ _ ho,by simpa using ho,Nat.le_refl _,k0⟩
 |some a=>
  by_cases h0:x=[]
  ·subst h0
   have:=run_append_room_cells (P:=Tryz.prog) (w:=w.alloc (.cells #[] 52)) 22 ty 52 i0 Tryz.underlying22 hi w.heap.size 0 0 0 a 0 c [] (by simp) (fun j u hj=>by simp at hj) (fun u hu=>by cases hu) (by omega) (fun j hj=>absurd hj (by simp)) (fun j hj=>absurd hj (by simp))
   exact ⟨w.heap.size,0,_,by simpa [World.setCells] using this,by simpa using ho,Nat.le_refl _,k0⟩
  ·obtain ⟨b,off,e,_⟩:=id (h h0)
   cases e
   have h':=h.kp k0
   obtain ⟨g,cap,w',hr,r1,r2,r3⟩:=q2p (P:=Tryz.prog) (w:=w.alloc (.cells #[] 52)) 22 ty 52 i0 (.agg #[.string ⟨#[]⟩, .int .i64 0, .bool false, .slice none 0 0]) 4 56 Tryz.underlying22 hi hz0 hz1 hz2 rfl (by decide) ho (some ⟨b,off,none⟩) x.length c (x.flatMap srE) (q0O srE 4 q1D x) (fun h=>by cases h) (fun a h=>by cases h;rfl) (fun a h=>by cases h;exact qac h') (qdp x) (by unfold maxLen;omega) (by omega)
   rw[Nat.zero_add]at hr r1
   have hg:w.heap.size<=g:=by rcases r3 with e|e <;> omega
   exact ⟨g,cap,w',hr,by simpa using r1,hg,k0.trans (Kp.of r2) (fun y hy=>Or.inr (by simp at hy;omega))⟩
theorem PtsAt.kpF {F:List Nat}{w w':World}{ad:Option Addr}{l:List Pt}(h:PtsAt w ad l)(hk:Kp F w w')(hF:l≠[]-> ∀b off,ad=some ⟨b,off,none⟩->b∉F):PtsAt w' ad l:=fun hl=>by
 obtain ⟨b,off,e,hlt,hc⟩:=h hl
 have hb:=hF hl b off e
 refine ⟨b,off,e,Nat.lt_of_lt_of_le hlt hk.size,fun i hi=>?_⟩
 obtain ⟨c0,c1,c2,c3,c4⟩:=hc i hi
 exact ⟨hk.cell c0 hb,hk.cell c1 hb,hk.cell c2 hb,hk.cell c3 hb,hk.cell c4 hb⟩
structure CpG (w:World)(sa:Option Addr)(n sc:Nat)(wi:Int)(l:List SR)(g cap:Nat)(rs:List SR)(wr:World):Prop where
 kp:Kp [] w wr
 b0:CBox w.heap.size #[.slice sa n sc, .int .i64 wi] 24 wr
 b1:CBox (w.heap.size+1) #[.slice none 0 0, .int .i64 0] 24 wr
 b2:CBox (w.heap.size+2) #[.slice (some ⟨g,0,none⟩) n cap, .int .i64 wi] 24 wr
 ge:w.heap.size+3<=g
 len:rs.length=n
 cp:n<=cap
 sg:stgs rs=stgs l
 row: ∃cs,CBox g cs 52 wr/\ ∀i (h:i<rs.length) (j:Nat) (u:Value),(srE rs[i])[j]?=some u->cs[i * 4+j]?=some u
 cds: ∀r∈rs,PtsAt wr r.ad r.s.cd/\(r.s.cd≠[]-> ∀b off,r.ad=some ⟨b,off,none⟩->b≠g/\b≠w.heap.size+1/\(b<w.heap.size-> ∃r0∈l,r0.s.cd≠[]/\r0.ad=some ⟨b,off,none⟩))
theorem CpG.next {w wr w':World}{sa:Option Addr}{n sc g cap:Nat}{wi:Int}{l rs:List SR}(h:CpG w sa n sc wi l g cap rs wr)(hk:Kp [] wr w'):CpG w sa n sc wi l g cap rs w':=
 ⟨h.kp.trans hk (by simp),h.b0.kp hk (by simp),h.b1.kp hk (by simp),h.b2.kp hk (by simp),h.ge,h.len,h.cp,h.sg,let ⟨cs,a,b⟩:=h.row;⟨cs,a.kp hk (by simp),b⟩,fun r hr=>⟨(h.cds r hr).1.kp hk,(h.cds r hr).2⟩⟩
theorem CpG.put {w wr:World}{sa:Option Addr}{n sc g cap:Nat}{wi:Int}{l rs:List SR}(h:CpG w sa n sc wi l g cap rs wr){B:Nat}(hB:g<B){k:Nat}(hk:k<l.length){g5 cap5:Nat}(ho:OwnsP B wr (.slice (some ⟨g5,0,none⟩) l[k].s.cd.length cap5) l[k].s.cd):
  ∃rs',CpG w sa n sc wi l g cap rs' (wr.setCell ⟨g,k * 4+3,none⟩ (.slice (some ⟨g5,0,none⟩) l[k].s.cd.length cap5)):=by
 have hkr:k<rs.length:=by have:=congrArg List.length h.sg;rw[q02,q02]at this;omega
 have hs:rs[k].s=l[k].s:=by
  have h1:=q0K hkr
  have h2:=q0K hk
  rw[<-h1, <-h2]
  simp only[h.sg]
 have ks:=Kp.set wr g (k * 4+3) (.slice (some ⟨g5,0,none⟩) l[k].s.cd.length cap5)
 have hge:=h.ge
 obtain ⟨ad5,c5,e5,hat5,_⟩:=ho.at
 injection e5 with e6 _ _
 subst e6
 have hg5:=(World.ownsRow.lt ho g5 rfl).1
 obtain ⟨cs,hb,hc⟩:=h.row
 refine ⟨rs.set k ⟨l[k].s,some ⟨g5,0,none⟩,cap5⟩,h.kp.trans ks (fun x hx=>Or.inr (by simp at hx;omega)),h.b0.kp ks (by simp;omega),h.b1.kp ks (by simp;omega),h.b2.kp ks (by simp;omega),hge,by rw[List.length_set];exact h.len,h.cp,?_,⟨_,hb.set (k * 4+3) _,fun i hi j u hu=>?_⟩,fun r hr=>?_⟩
 ·rw[<-h.sg]
  unfold stgs
  rw[List.map_set]
  dsimp only
  rw[<-hs]
  apply List.ext_getElem?
  intro i
  rw[List.getElem?_set]
  split
  ·rename_i e
   subst e
   simp[hkr]
  ·rfl
 ·rw[List.length_set]at hi
  have hj:j<4:=by
   have:=(List.getElem?_eq_some_iff.1 hu).1
   rw[q1D]at this
   exact this
  rw[List.getElem_set]at hu
  split at hu
  ·rename_i e
   subst e
   have hcs:k * 4+3<cs.size:=(Array.getElem?_eq_some_iff.1 (hc k hkr 3 _ rfl)).1
   match j,hj,hu with
   |3,_,hu=>
    cases hu
    simp[hcs]
   |0,_,hu=>
    rw[Array.getElem?_setIfInBounds,if_neg (by omega)]
    exact hc k hkr 0 u (by unfold srE;rw[hs];exact hu)
   |1,_,hu=>
    rw[Array.getElem?_setIfInBounds,if_neg (by omega)]
    exact hc k hkr 1 u (by unfold srE;rw[hs];exact hu)
   |2,_,hu=>
    rw[Array.getElem?_setIfInBounds,if_neg (by omega)]
    exact hc k hkr 2 u (by unfold srE;rw[hs];exact hu)
  ·rename_i e
   rw[Array.getElem?_setIfInBounds,if_neg (by omega)]
   exact hc i hi j u hu
 ·rcases List.mem_or_eq_of_mem_set hr with hr|rfl
  ·have:=h.cds r hr
   exact ⟨this.1.kpF ks (fun hne b off e=>by simpa using (this.2 hne b off e).1),this.2⟩
  ·exact ⟨hat5.kpF ks (fun _ b off e=>by cases e;simp;omega),fun _ b off e=>by cases e;exact ⟨by omega,by omega,fun hlt=>by omega⟩⟩
structure RsO (g:Nat)(rs:List SR)(wr:World):Prop where
 row: ∃cs,CBox g cs 52 wr/\ ∀i (h:i<rs.length) (j:Nat) (u:Value),(srE rs[i])[j]?=some u->cs[i * 4+j]?=some u
 cds: ∀r∈rs,PtsAt wr r.ad r.s.cd/\(r.s.cd≠[]-> ∀b off,r.ad=some ⟨b,off,none⟩->b≠g)
theorem q44 (sa:Option Addr)(sc:Nat)(l:List SR)(wi:Int)(w:World)(h:StsAt w sa l)(ha:sa=none->sc=0)(hl:l.length * 56<=140737488351232)(hc: ∀r∈l,(r.ad=none->r.c=0)/\r.s.cd.length * 56<=140737488351232):
  Calls Tryz.prog 5 #[.agg #[.slice sa l.length sc, .int .i64 wi]] w fun e w'=> ∃g cap rs,e= .returned (.agg #[.slice (some ⟨g,0,none⟩) l.length cap, .int .i64 wi])/\StsAt w' (some ⟨g,0,none⟩) (rs:List SR)/\stgs rs=stgs l/\l.length<=cap/\Kp [] w w'/\w.heap.size<=g/\(∀r∈rs,r.s.cd≠[]-> ∀b off,r.ad=some ⟨b,off,none⟩->b<w.heap.size-> ∃r0∈l,r0.s.cd≠[]/\r0.ad=some ⟨b,off,none⟩)/\RsO g rs w':=by
 have k3:Kp [] w (((w.alloc (.cells #[.slice sa l.length sc, .int .i64 wi] 24)).alloc (.cells #[.slice none 0 0, .int .i64 0] 24)).alloc (.cells #[.slice sa l.length sc, .int .i64 wi] 24)):=((Kp.alloc _ _).trans (Kp.alloc _ _) (by simp)).trans (Kp.alloc _ _) (by simp)
 obtain ⟨g,cap,w1,hrun,hrow,hg,k1⟩:=qa (c:=sc) (h.kp k3) ha hl 22
 have z3:(((w.alloc (.cells #[.slice sa l.length sc, .int .i64 wi] 24)).alloc (.cells #[.slice none 0 0, .int .i64 0] 24)).alloc (.cells #[.slice sa l.length sc, .int .i64 wi] 24)).heap.size=w.heap.size+3:=by simp
 rw[z3]at hg hrun
 have x0:=((q2i w #[.slice sa l.length sc, .int .i64 wi] 24 (.cells #[.slice none 0 0, .int .i64 0] 24)).kp (Kp.alloc _ (.cells #[.slice sa l.length sc, .int .i64 wi] 24)) (by simp)).kp k1 (by simp)
 have x1:=((q3v w #[.slice none 0 0, .int .i64 0] 24 (.cells #[.slice sa l.length sc, .int .i64 wi] 24)).kp (Kp.alloc _ (.cells #[.slice sa l.length sc, .int .i64 wi] 24)) (by simp)).kp k1 (by simp)
 have x2:=CBox.new ((w.alloc (.cells #[.slice sa l.length sc, .int .i64 wi] 24)).alloc (.cells #[.slice none 0 0, .int .i64 0] 24)) #[.slice sa l.length sc, .int .i64 wi] 24
 rw[show ((w.alloc (.cells #[.slice sa l.length sc, .int .i64 wi] 24)).alloc (.cells #[.slice none 0 0, .int .i64 0] 24)).heap.size=w.heap.size+2 by simp]at x2
 have x2':=x2.kp k1 (by simp)
 have k4:=Kp.set w1 (w.heap.size+2) 0 (.slice (some ⟨g,0,none⟩) l.length cap)
 have hS:CpG w sa l.length sc wi l g cap l (w1.setCell ⟨w.heap.size+2,0,none⟩ (.slice (some ⟨g,0,none⟩) l.length cap)):=by
  obtain ⟨_,⟨e,_⟩|⟨g',cp,cur,e,_,hb,hcap,_,_,hcur⟩⟩:=id hrow
  ·cases e
  ·injection e with e1 e2 e3
   cases e1
   subst e3
   refine ⟨(k3.trans k1 (by simp)).trans k4 (fun x hx=>Or.inr (by simp at hx;omega)),x0.kp k4 (by simp),x1.kp k4 (by simp),x2'.set 0 _,hg,rfl,hcap,rfl,⟨cur,CBox.kp (show CBox g cur 52 w1 from hb) k4 (by simp;omega),fun i hi j u hu=>?_⟩,fun r hr=>?_⟩
   ·have hj:j<4:=by
     have:=(List.getElem?_eq_some_iff.1 hu).1
     rw[q1D]at this
     exact this
    have:=q0o q1D hrow i j hi hj
    rw[hu]at this
    simpa [World.cell?,show w1.heap[g]?=_ from hb] using this
   ·obtain ⟨i,hi,rfl⟩:=List.mem_iff_getElem.1 hr
    obtain ⟨_,_,_,_,_,_,_,_,hp⟩:=h.at i hi
    have hp1:=(hp.kp k3).kp k1
    refine ⟨hp1.kpF k4 (fun hne b off e=>?_),fun hne b off e=>?_⟩
    ·obtain ⟨b',off',e',hlt,_⟩:=hp hne
     rw[e]at e'
     cases e'
     simp
     omega
    ·obtain ⟨b',off',e',hlt,_⟩:=hp hne
     rw[e]at e'
     cases e'
     exact ⟨by omega,by omega,fun _=>⟨_,List.getElem_mem hi,hne,e⟩⟩
 have HS0:=hZq hS
 have HRUN:=hZq hrun
 have d0:=x0.cell (i:=0) rfl
 have hz1:w.heap.size+3<=w1.heap.size:=by have:=k1.size;omega
 have f2:=x2'.froz 0
 have e2:=x2'.cell (i:=0) (v:= .slice sa l.length sc) rfl
 have HST:=hZq h
 have HC:=hZq hc
 have y0:=(q2i w #[.slice sa l.length sc, .int .i64 wi] 24 (.cells #[.slice none 0 0, .int .i64 0] 24)).cell (i:=0) (v:= .slice sa l.length sc) rfl
 have y1:=(q2i w #[.slice sa l.length sc, .int .i64 wi] 24 (.cells #[.slice none 0 0, .int .i64 0] 24)).cell (i:=1) (v:= .int .i64 wi) rfl
 clear hS hrun h hc x0 x1 x2 x2' k4 k1 k3 hrow z3
 obtain ⟨n,hn⟩: ∃n,l.length=n:=⟨_,rfl⟩
 have HN:=hZq hn
 rw[hn]at HS0 HRUN hl d0 e2 y0 y1 ⊢
 clear hn
 go_enter Tryz.func5,Tryz.ntmps5
 go_wp2_with (at_builtin;refine q0c rfl _ _ _ rfl rfl rfl (uQ HRUN) ?_)
 go_loopw [4] (fun i wr=> ∃(k:Nat) (rs:List SR),k<=n/\i= .int .i64 (k:Int)/\Hid (CpG w sa n sc wi l g cap rs wr)) (fun i _=>n-(intOf i).toNat)
 case atStart=>exact ⟨0,l,Nat.zero_le _,rfl,HS0⟩
 case round=>
  obtain ⟨k,rs,hk,rfl,HS⟩:=hrel
  clear HS0 d0 f2 e2 y0 y1
  have c2:wr.cell? ⟨w.heap.size+2,0,none⟩=some (.slice (some ⟨g,0,none⟩) n cap):=(uQ HS).b2.cell rfl
  by_cases hlt:k<n
  ·have hli:(k:Int)<(n:Int):=by omega
   have hkx:k<l.length:=by rw[uQ HN];exact hlt
   go_upto_region 6 with fail
   obtain ⟨b,off,rfl,hbl, -, -, -,q3,hpts⟩:=(uQ HST).at k hkx
   have hcr:=uQ HC _ (List.getElem_mem hkx)
   have q3':=(uQ HS).kp.cell q3 (by simp)
   have a0:wr.drew.cell? ⟨w.heap.size+2,0,none⟩=some (.slice (some ⟨g,0,none⟩) n cap)/\wr.drew.cell? ⟨w.heap.size,0,none⟩=some (.slice (some ⟨b,off,none⟩) n sc)/\wr.drew.cell? ⟨b,off+k * 4+3,none⟩=some (.slice l[k].ad l[k].s.cd.length l[k].c):=⟨c2,(uQ HS).b0.cell rfl,q3'⟩
   have RW:=hZq (fun W (hk:Kp [] wr.drew W)=>(show W.cell? ⟨w.heap.size+2,0,none⟩=some (.slice (some ⟨g,0,none⟩) n cap)/\W.cell? ⟨w.heap.size,0,none⟩=some (.slice (some ⟨b,off,none⟩) n sc)/\W.cell? ⟨b,off+k * 4+3,none⟩=some (.slice l[k].ad l[k].s.cd.length l[k].c) from ⟨hk.cell a0.1 (by simp),hk.cell a0.2.1 (by simp),hk.cell a0.2.2 (by simp)⟩))
   have kE:Kp [] wr.drew (wr.drew.alloc (.cells #[] 167)):=Kp.alloc _ _
   have a1:=uQ RW _ kE
   have hpE:=(hpts.kp (uQ HS).kp).kp (Kp.drew wr)
   have HPUT:Hid (∀g5 cap5 w5,OwnsP wr.drew.heap.size w5 (.slice (some ⟨g5,0,none⟩) l[k].s.cd.length cap5) l[k].s.cd->Kp [] wr.drew w5->(∃rs',CpG w (some ⟨b,off,none⟩) n sc wi l g cap rs' (w5.setCell ⟨g,k * 4+3,none⟩ (.slice (some ⟨g5,0,none⟩) l[k].s.cd.length cap5)))/\w5.cell? ⟨g,k * 4+3,none⟩≠none/\w5.frozen? ⟨g,k * 4+3,none⟩=false):=hZq (fun g5 cap5 w5 ho hk5=>by
    have S5:=((uQ HS).next (Kp.drew wr)).next hk5
    obtain ⟨cs,hb,hcs⟩:=(uQ HS).row
    have hgl:g<wr.drew.heap.size:=(Array.getElem?_eq_some_iff.1 hb).1
    refine ⟨S5.put hgl hkx ho,?_,?_⟩
    ·obtain ⟨cs,hb,hcs⟩:=S5.row
     have hkr:k<rs.length:=by rw[S5.len];exact hlt
     rw[hb.cell (hcs k hkr 3 _ rfl)]
     simp
    ·obtain ⟨cs,hb,hcs⟩:=S5.row
     exact hb.froz _)
   clear HST HC hpts q3 q3' hbl
   generalize l[k].s.cd=p at *
   generalize l[k].ad=ad at *
   generalize l[k].c=cc at *
   refine q0i (fun W=>W.cell? ⟨w.heap.size+2,0,none⟩=some (.slice (some ⟨g,0,none⟩) n cap)/\W.cell? ⟨w.heap.size,0,none⟩=some (.slice (some ⟨b,off,none⟩) n sc)/\W.cell? ⟨b,off+k * 4+3,none⟩=some (.slice ad p.length cc)) 13 (by kernel_rfl) ?_
   show q09 _ _ _ _ _ _ 14 (Array.replicate 14 false) _ _
   refine zzL (i:=0) (v:=?_) rfl (Or.inl ⟨by rfl,?_⟩) a0 ?_
   rotate_left
   ·intro w0 s9;(try dsimp only at s9);go_simp;(try with_reducible rfl)
   try simp only[Act.put,zz1,zz2,zz3]
   refine zzL (i:=1) (v:=?_) rfl (Or.inl ⟨by rfl,?_⟩) a0 ?_
   rotate_left
   ·intro w0 s9;(try dsimp only at s9);go_simp;(try with_reducible rfl)
   try simp only[Act.put,zz1,zz2,zz3]
   refine zzL (i:=2) (v:=?_) rfl (Or.inl ⟨by rfl,?_⟩) a0 ?_
   rotate_left
   ·intro w0 s9;(try dsimp only at s9);go_simp;(try with_reducible rfl)
   try simp only[Act.put,zz1,zz2,zz3]
   refine zzL (i:=4) (v:=?_) rfl (Or.inl ⟨by rfl,?_⟩) a0 ?_
   rotate_left
   ·intro w0 s9;(try dsimp only at s9);go_simp;(try with_reducible rfl)
   try simp only[Act.put,zz1,zz2,zz3]
   refine zzL (i:=5) (v:=?_) rfl (Or.inl ⟨by rfl,?_⟩) a0 ?_
   rotate_left
   ·intro w0 s9;(try dsimp only at s9);go_simp;(try with_reducible rfl)
   try simp only[Act.put,zz1,zz2,zz3]
   refine zzL (i:=6) (v:=?_) rfl (Or.inl ⟨by rfl,?_⟩) a0 ?_
   rotate_left
   ·intro w0 s9;(try dsimp only at s9);go_simp;(try with_reducible rfl)
   try simp only[Act.put,zz1,zz2,zz3]
   refine zzL (i:=7) (v:=?_) rfl (Or.inl ⟨by rfl,?_⟩) a0 ?_
   rotate_left
   ·intro w0 s9;(try dsimp only at s9);go_simp;(try with_reducible rfl)
   try simp only[Act.put,zz1,zz2,zz3]
   refine zzL (i:=8) (v:=?_) rfl (Or.inl ⟨by rfl,?_⟩) a0 ?_
   rotate_left
   ·intro w0 s9;(try dsimp only at s9);go_simp;(try with_reducible rfl)
   try simp only[Act.put,zz1,zz2,zz3]
   refine zzL (i:=9) (v:=?_) rfl (Or.inl ⟨by rfl,?_⟩) a0 ?_
   rotate_left
   ·intro w0 s9;(try dsimp only at s9);go_simp;(try with_reducible rfl)
   try simp only[Act.put,zz1,zz2,zz3]
   refine q01 (i:=3) rfl (by kernel_rfl) (fun K hK=>?_)
   go_simp
   refine hK _ _ (Or.inr a1) ?_
   refine q01 (i:=10) rfl (by kernel_rfl) (fun K hK=>?_)
   refine q8K rfl (.tmp 21) (.tmp 27) rfl (w:=wr.drew) rfl rfl rfl rfl hpE hcr.1 hcr.2 ?_
   intro g5 cap5 w5 own5 k5
   have a5:=uQ RW w5 k5
   obtain ⟨⟨rs',S6⟩,hne,hfz⟩:=uQ HPUT g5 cap5 w5 own5 k5
   obtain ⟨u5,hu5⟩:=Option.ne_none_iff_exists'.1 hne
   have HS6:=hZq S6
   clear own5 k5 S6 hne HPUT RW
   refine hK _ _ (Or.inr a5) ?_
   try simp only[Act.put,zz1,zz2,zz3]
   refine q01 (i:=11) rfl (by kernel_rfl) (fun K hK=>?_)
   go_simp
   refine hK _ _ (Or.inr a5) ?_
   refine q01 (i:=12) rfl (by kernel_rfl) (fun K hK=>?_)
   go_simp
   refine hK _ _ (Or.inr a5) ?_
   refine q01 (i:=13) rfl (by kernel_rfl) (fun K hK=>?_)
   go_simp
   refine hK _ _ (Or.inl rfl) ?_
   refine q0b (by kernel_rfl) ?_ _
   clear a0 a1 c2 kE hpE a5
   go_wp2
   go_roundw
   case rel=>exact ⟨k+1,rs',by omega,by go_num,HS6⟩
   case measure=>simp[intOf];omega
  ·have hlt': ¬ ((k:Int)<(n:Int)):=by omega
   obtain rfl:k=n:=by omega
   have x1:wr.cell? ⟨w.heap.size+2,1,none⟩=some (.int .i64 wi):=(uQ HS).b2.cell rfl
   have fR:wr.cell? ⟨w.heap.size+1,0,none⟩=some (.slice none 0 0)/\wr.cell? ⟨w.heap.size+1,1,none⟩=some (.int .i64 0):=⟨(uQ HS).b1.cell rfl,(uQ HS).b1.cell rfl⟩
   have rR:wr.frozen? ⟨w.heap.size+1,0,none⟩=false/\wr.frozen? ⟨w.heap.size+1,1,none⟩=false:=⟨(uQ HS).b1.froz 0,(uQ HS).b1.froz 1⟩
   have k2:=(Kp.set wr (w.heap.size+1) 0 (.slice (some ⟨g,0,none⟩) k cap)).trans (Kp.set _ (w.heap.size+1) 1 (.int .i64 wi)) (fun x hx=>Or.inl hx)
   have hst:StsAt ((wr.setCell ⟨w.heap.size+1,0,none⟩ (.slice (some ⟨g,0,none⟩) k cap)).setCell ⟨w.heap.size+1,1,none⟩ (.int .i64 wi)) (some ⟨g,0,none⟩) rs:=fun _=>by
    obtain ⟨cs,hb,hc⟩:=(uQ HS).row
    have hge:=(uQ HS).ge
    have hb':=hb.kp k2 (by simp;omega)
    refine ⟨g,0,rfl,(Array.getElem?_eq_some_iff.1 hb').1,fun i hi=>?_⟩
    simp only[Nat.zero_add]
    have hcd:=(uQ HS).cds _ (List.getElem_mem hi)
    exact ⟨hb'.cell (hc i hi 0 _ rfl),hb'.cell (hc i hi 1 _ rfl),hb'.cell (hc i hi 2 _ rfl),hb'.cell (hc i hi 3 _ rfl),hcd.1.kpF k2 (fun hne b off e=>by simpa using (hcd.2 hne b off e).2.1)⟩
   have hro:RsO g rs ((wr.setCell ⟨w.heap.size+1,0,none⟩ (.slice (some ⟨g,0,none⟩) k cap)).setCell ⟨w.heap.size+1,1,none⟩ (.int .i64 wi)):=by
    obtain ⟨cs,hb,hc⟩:=(uQ HS).row
    have hge:=(uQ HS).ge
    refine ⟨⟨cs,hb.kp k2 (by simp;omega),hc⟩,fun r hr=>?_⟩
    have hcd:=(uQ HS).cds r hr
    exact ⟨hcd.1.kpF k2 (fun hne b off e=>by simpa using (hcd.2 hne b off e).2.1),fun hne b off e=>(hcd.2 hne b off e).1⟩
   have HF:=hZq (And.intro hst (And.intro (uQ HS).sg (And.intro (uQ HS).cp (And.intro ((uQ HS).kp.trans k2 (fun x hx=>Or.inr (by simp at hx;omega))) (And.intro (show w.heap.size<=g by have:=(uQ HS).ge;omega) (And.intro (fun r hr hne b off e hlt=>((uQ HS).cds r hr).2 hne b off e |>.2.2 hlt) hro))))))
   clear hst hro k2 HS HST HC
   go_wp2
   exact bodyPost_ret (v:= .agg #[.slice (some ⟨g,0,none⟩) k cap, .int .i64 wi]) (by simp[results,Tryz.results5,go_sem,fR]) rfl ⟨g,cap,rfl,rs,uQ HF⟩
theorem q43 (sa:Option Addr)(sc:Nat)(l:List SR)(wi:Int)(w:World)(h:StsAt w sa l)(ha:sa=none->sc=0)(hl:l.length * 56<=140737488351232)(hc: ∀r∈l,(r.ad=none->r.c=0)/\r.s.cd.length * 56<=140737488351232):
  Calls Tryz.prog 5 #[.agg #[.slice sa l.length sc, .int .i64 wi]] w fun e w'=> ∃g cap rs,e= .returned (.agg #[.slice (some ⟨g,0,none⟩) l.length cap, .int .i64 wi])/\StsAt w' (some ⟨g,0,none⟩) (rs:List SR)/\stgs rs=stgs l/\l.length<=cap/\Kp [] w w'/\w.heap.size<=g/\(∀r∈rs,r.s.cd≠[]-> ∀b off,r.ad=some ⟨b,off,none⟩->b<w.heap.size-> ∃r0∈l,r0.s.cd≠[]/\r0.ad=some ⟨b,off,none⟩):=(q44 sa sc l wi w h ha hl hc).mono fun _ _ ⟨g,cap,rs,h1,h2,h3,h4,h5,h6,h7,_⟩=>⟨g,cap,rs,h1,h2,h3,h4,h5,h6,h7⟩
section
open Go.RowKit Go.Deep
theorem qat:Tryz.prog.bytesOf 167=56:=by kernel_rfl
theorem q1F {H:Type}{P:Program}{e:TypeId}{ds:List (DataW H)}{d:DataW H}{n:Nat}(hd:d∈ds)(hn:n∈d.weights P e):n∈DataW.weightsAll P e ds:=by
 induction ds with
 |nil=>cases hd
 |cons x r ih=>
  simp only[DataW.weightsAll,List.mem_append]
  rcases List.mem_cons.1 hd with rfl|h
  ·exact Or.inl hn
  ·exact Or.inr (ih h)
theorem q9J {H:Type}{enc:TypeId × Value->H}{W:World}{spare:Nat->Bool}{held:Bool}{fuel:Nat}{v:Value}{x:DataW H × List MemPlace}
  (h:DataW.trod enc Tryz.prog W 0 spare held fuel 50 [v]=some x) (hw: ∀n∈x.1.weights Tryz.prog 50,n<=reachBytes):
  ∃(ad:Option Addr) (cap:Nat) (l:List Pt),v= .slice ad l.length cap/\l.length * 56<=140737488351232/\l.length<=cap/\PtsAt W ad l/\(∀y∈l,y.ok)/\(ad=none->cap=0)/\ ∀y∈l,y.s.size<=140737488351232/\y.st.size<=140737488351232:=by
 obtain ⟨ad,cap,l,hv,h1,h2,h3⟩:=q6f h
 obtain ⟨f0,f1,f2,f3,f4,hu,t0,t1,t2,t3,t4,o0,o1,o2,o3,o4⟩:=q2g
 rcases open_slice Tryz.underlying50 h with ⟨hcs,_⟩|⟨a,len,cap',m,n,D,Pl,hcs,hb,hl,hm,hmm,rfl,hx⟩
 ·simp only[List.cons.injEq,and_true]at hcs
  rw[hv]at hcs
  simp only[Value.slice.injEq]at hcs
  have hl0:l=[]:=List.eq_nil_of_length_eq_zero hcs.2.1
  subst hl0
  exact ⟨ad,cap,[],hv,by simp,by simp,h2,h3,fun _=>hcs.2.2,by simp⟩
 ·simp only[List.cons.injEq,and_true]at hcs
  rw[hv]at hcs
  simp only[Value.slice.injEq]at hcs
  obtain ⟨rfl,hll,rfl⟩:=hcs
  have hlm:len<=m:=by rw[hmm];split <;> omega
  have hw0:(len+(m-len)) * 56<=reachBytes:=by
   have:=hw ((len+(m-len)) * 56) (by simp[DataW.weights,Tryz.underlying50,qat])
   exact this
  have hreach:reachBytes=140737488351232:=by decide
  refine ⟨some a,cap,l,hv,by omega,by omega,h2,h3,(by intro e;cases e),fun y hy=>?_⟩
  obtain ⟨i,hi,rfl⟩:=List.mem_iff_getElem.1 hy
  obtain ⟨b,off,ea,_,hc⟩:=h2 (fun e=>by rw[e]at hi;simp at hi)
  obtain rfl:=Option.some.inj ea
  obtain ⟨cs',k1,k2⟩:=hx i (by omega)
  rw[q2B]at k1
  obtain ⟨_,hlen,hcell⟩:=World.cells?_some k1
  obtain ⟨xs,k,hk,hxy,_,hxl,hf⟩:=DataW.trod_struct hu k2
  match xs,hxl,cs',hlen with
  |[y0,y1,y2,y3,y4],_,[v0,v1,v2,v3,v4],_=>
   have g2:=hf 2 f2 rfl
   have g3:=hf 3 f3 rfl
   simp[o2,o3,t2,t3,q0I]at g2 g3
   have e2:=hcell 2 (by omega)
   have e3:=hcell 3 (by omega)
   rw[Go.Deep.add_add]at e2 e3
   obtain ⟨s,q2,q3,_⟩:=DataW.trod_string Tryz.underlying9 g2
   obtain ⟨s',q2',q3',_⟩:=DataW.trod_string Tryz.underlying9 g3
   simp only[List.cons.injEq,and_true]at q2 q2'
   subst q2 q2'
   have c2:=(hc i hi).2.2.1
   have c3:=(hc i hi).2.2.2.1
   rw[Go.WideShapes.add_plain]at e2 e3
   have e2':W.cell? ⟨b,off+i * 5+2,none⟩=some (.string s):=by rw[Nat.add_assoc];simpa using e2
   have e3':W.cell? ⟨b,off+i * 5+3,none⟩=some (.string s'):=by rw[Nat.add_assoc];simpa using e3
   rw[c2]at e2'
   rw[c3]at e3'
   simp only[Option.some.injEq,Value.string.injEq]at e2' e3'
   rw[e2',e3']
   have hD:D i= .agg [y0.1,y1.1,y2.1,y3.1,y4.1]:=by have:=congrArg Prod.fst hxy;simpa using this
   have hwt:s.size∈(D i).weights Tryz.prog 167:=by
    rw[hD]
    simp only[DataW.weights,hu]
    refine DataW.weights_mem_each (j:=2) (t:=9) (d:=y2.1) (by simp[t2]) rfl _ ?_
    rw[q3]
    simp[DataW.weights]
   have hwt':s'.size∈(D i).weights Tryz.prog 167:=by
    rw[hD]
    simp only[DataW.weights,hu]
    refine DataW.weights_mem_each (j:=3) (t:=9) (d:=y3.1) (by simp[t3]) rfl _ ?_
    rw[q3']
    simp[DataW.weights]
   have r1:=hw s.size (by
    simp only[DataW.weights,Tryz.underlying50,List.mem_cons,List.mem_append]
    exact Or.inr (Or.inl (q1F (List.mem_map.2 ⟨i,List.mem_range.2 (by omega),rfl⟩) hwt)))
   have r2:=hw s'.size (by
    simp only[DataW.weights,Tryz.underlying50,List.mem_cons,List.mem_append]
    exact Or.inr (Or.inl (q1F (List.mem_map.2 ⟨i,List.mem_range.2 (by omega),rfl⟩) hwt')))
   exact ⟨by omega,by omega⟩
end
section
open Go.RowKit Go.Deep
theorem q6P:Tryz.prog.cellsOf 52=4:=by kernel_rfl
theorem q5f:Tryz.prog.cellsOf 24=2:=by kernel_rfl
theorem q6Q:Tryz.prog.cellsOf 4=1:=by kernel_rfl
theorem q5A:Tryz.prog.cellsOf 50=1:=by kernel_rfl
theorem q2Z:Tryz.prog.cellsOf 22=1:=by kernel_rfl
theorem q6O:Tryz.prog.bytesOf 52=56:=by kernel_rfl
theorem q5Q: ∃f0 f1 f2 f3:Field,Tryz.prog.underlying 52=some (.struct #[f0,f1,f2,f3])/\f0.type=9/\f1.type=3/\f2.type=4/\f3.type=50/\f0.offset=0/\f1.offset=1/\f2.offset=2/\f3.offset=3:=
 ⟨_,_,_,_,Tryz.underlying52,rfl,rfl,rfl,rfl,rfl,rfl,rfl,rfl⟩
theorem q2x: ∃f0 f1:Field,Tryz.prog.underlying 24=some (.struct #[f0,f1])/\f0.type=22/\f1.type=3/\f0.offset=0/\f1.offset=1:=
 ⟨_,_,Tryz.underlying24,rfl,rfl,rfl,rfl⟩
def SR.hv (r:SR):Prop:=r.s.cd.length * 56<=140737488351232/\r.s.cd.length<=r.c/\(r.ad=none->r.c=0)/\ ∀y∈r.s.cd,y.s.size<=140737488351232/\y.st.size<=140737488351232
section
variable {H:Type} {enc:TypeId × Value->H} {W:World} {spare:Nat->Bool} {held:Bool} {fuel:Nat} {v:Value} {x:DataW H × List MemPlace}
theorem q9K (h:DataW.trod enc Tryz.prog W 0 spare held fuel 50 [v]=some x):
  ∃(ad:Option Addr) (cap:Nat) (l:List Pt),v= .slice ad l.length cap/\l.length<=9223372036854775807/\PtsAt W ad l/\(∀y∈l,y.ok)/\((∀n∈x.1.weights Tryz.prog 50,n<=reachBytes)->l.length * 56<=140737488351232/\l.length<=cap/\(ad=none->cap=0)/\ ∀y∈l,y.s.size<=140737488351232/\y.st.size<=140737488351232):=by
 by_cases hw: ∀n∈x.1.weights Tryz.prog 50,n<=reachBytes
 ·obtain ⟨ad,cap,l,h1,h2,h3,h4,h5,h6,h7⟩:=q9J h hw
  exact ⟨ad,cap,l,h1,by omega,h4,h5,fun _=>⟨h2,h3,h6,h7⟩⟩
 ·obtain ⟨ad,cap,l,h1,h2,h3,h4⟩:=q6f h
  exact ⟨ad,cap,l,h1,h2,h3,h4,fun h=>absurd h hw⟩
theorem q8x {cs:Array Value}(hsz:cs.size=4)(h:DataW.trod enc Tryz.prog W 0 spare held fuel 52 cs.toList=some x):
  ∃r:SR,cs=#[.string r.s.nm, .int .i64 r.s.hw, .bool r.s.mn, .slice r.ad r.s.cd.length r.c]/\r.s.ok/\PtsAt W r.ad r.s.cd/\((∀m∈x.1.weights Tryz.prog 52,m<=reachBytes)->r.hv):=by
 obtain ⟨f0,f1,f2,f3,hu,t0,t1,t2,t3,o0,o1,o2,o3⟩:=q5Q
 obtain ⟨xs,n,_,hxe,_,hxl,hf⟩:=DataW.trod_struct hu h
 obtain ⟨l⟩:=cs
 match xs,hxl,l,hsz with
 |[y0,y1,y2,y3],_,[v0,v1,v2,v3],_=>
  have g0:=hf 0 f0 rfl
  have g1:=hf 1 f1 rfl
  have g2:=hf 2 f2 rfl
  have g3:=hf 3 f3 rfl
  simp[o0,o1,o2,o3,t0,t1,t2,t3,q0I,q0X,q6Q,q5A]at g0 g1 g2 g3
  obtain ⟨k0,q0,_,w0⟩:=DataW.trod_string Tryz.underlying9 g0
  obtain ⟨k1,q1,_,w1⟩:=DataW.trod_int Tryz.underlying3 g1
  obtain ⟨k2,q2,_⟩:=DataW.trod_bool Tryz.underlying4 g2
  obtain ⟨ad,cp,cd,rfl,h2,h3,h4,h5⟩:=q9K g3
  simp only[List.cons.injEq,and_true]at q0 q1 q2
  subst q0 q1 q2
  have u1:=bounds_i64 w1
  unfold maxLen at w0
  refine ⟨⟨⟨k0,k1,k2,cd⟩,ad,cp⟩,rfl,⟨by show k0.size<=_;omega,⟨u1.1,by show k1<=_;omega⟩,h4⟩,h3,fun hw=>h5 (fun m hm=>hw m ?_)⟩
  rw[hxe]
  simp only[DataW.weights,hu]
  exact DataW.weights_mem_each (j:=3) (t:=50) (d:=y3.1) (by simp[t3]) rfl m hm
theorem q72 (h:DataW.trod enc Tryz.prog W 0 spare held fuel 22 [v]=some x):
  ∃(ad:Option Addr) (cap:Nat) (l:List SR),v= .slice ad l.length cap/\l.length<=9223372036854775807/\StsAt W ad l/\(∀r∈l,r.s.ok)/\((∀m∈x.1.weights Tryz.prog 22,m<=reachBytes)->l.length * 56<=140737488351232/\(ad=none->cap=0)/\ ∀r∈l,r.hv):=by
 rcases open_slice Tryz.underlying22 h with ⟨hcs,_⟩|⟨a,len,cap,m,n,D,Pl,hcs,hb,hl,hm,hmm,hxe,hx⟩
 ·simp only[List.cons.injEq,and_true]at hcs
  subst hcs
  exact ⟨none,0,[],rfl,by simp,fun hne=>absurd rfl hne,by simp,fun _=>⟨by simp,fun _=>rfl,by simp⟩⟩
 ·simp only[List.cons.injEq,and_true]at hcs
  subst hcs
  have hlm:len<=m:=by rw[hmm];split <;> omega
  have each: ∀i,i<len-> ∃y:SR,(W.cell? (a.add (i * 4))=some (.string y.s.nm)/\W.cell? (a.add (i * 4+1))=some (.int .i64 y.s.hw)/\W.cell? (a.add (i * 4+2))=some (.bool y.s.mn)/\W.cell? (a.add (i * 4+3))=some (.slice y.ad y.s.cd.length y.c))/\y.s.ok/\PtsAt W y.ad y.s.cd/\((∀m∈(D i).weights Tryz.prog 52,m<=reachBytes)->y.hv):=by
   intro i hi
   obtain ⟨cs',h1,h2⟩:=hx i (by omega)
   rw[q6P]at h1
   obtain ⟨_,hlen,hcell⟩:=World.cells?_some h1
   obtain ⟨y,hy,hok⟩:=q8x (cs:=cs'.toArray) (by simpa using hlen) (by simpa using h2)
   refine ⟨y,?_,hok⟩
   have hy':cs'=[.string y.s.nm, .int .i64 y.s.hw, .bool y.s.mn, .slice y.ad y.s.cd.length y.c]:=by simpa using congrArg Array.toList hy
   subst hy'
   have e0:=hcell 0 (by omega)
   have e1:=hcell 1 (by omega)
   have e2:=hcell 2 (by omega)
   have e3:=hcell 3 (by omega)
   rw[Go.Deep.add_add]at e0 e1 e2 e3
   exact ⟨by simpa using e0,by simpa using e1,by simpa using e2,by simpa using e3⟩
  have hinh:Inhabited SR:=⟨⟨⟨⟨#[]⟩,0,false,[]⟩,none,0⟩⟩
  obtain ⟨q,hq⟩:=choose_lt each
  refine ⟨some a,cap,(List.range len).map q,by simp,by simp;unfold maxLen at hm;omega,fun hne=>?_,fun y hy=>?_,fun hw=>⟨?_,(by intro e;cases e),fun y hy=>?_⟩⟩
  ·have h0:0<len:=by
    rcases Nat.eq_zero_or_pos len with e|e
    ·subst e;simp at hne
    ·exact e
   obtain ⟨b,off,spot⟩:=a
   have hc0:=(hq 0 h0).1.1
   have hspot:spot=none:=by simpa [Addr.add] using World.cell?_spot hc0
   subst hspot
   refine ⟨b,off,rfl,?_,fun i hi=>?_⟩
   ·rcases Nat.lt_or_ge b W.heap.size with hlt|hge
    ·exact hlt
    ·exfalso
     rw[Go.WideShapes.add_plain]at hc0
     simp[World.cell?,Array.getElem?_eq_none hge]at hc0
   ·have hi':i<len:=by simpa using hi
    obtain ⟨⟨c0,c1,c2,c3⟩,_,c4,_⟩:=hq i hi'
    rw[Go.WideShapes.add_plain]at c0 c1 c2 c3
    simp only[List.getElem_map,List.getElem_range]
    exact ⟨c0,by rw[Nat.add_assoc];exact c1,by rw[Nat.add_assoc];exact c2,by rw[Nat.add_assoc];exact c3,c4⟩
  ·obtain ⟨i,hi,rfl⟩:=List.mem_map.1 hy
   exact (hq i (List.mem_range.1 hi)).2.1
  ·have hw0:(len+(m-len)) * 56<=reachBytes:=hw _ (by rw[hxe];simp[DataW.weights,Tryz.underlying22,q6O])
   have hreach:reachBytes=140737488351232:=by decide
   simp only[List.length_map,List.length_range]
   omega
  ·obtain ⟨i,hi,rfl⟩:=List.mem_map.1 hy
   refine (hq i (List.mem_range.1 hi)).2.2.2 (fun m hm=>hw m ?_)
   rw[hxe]
   simp only[DataW.weights,Tryz.underlying22]
   exact List.mem_cons_of_mem _ (List.mem_append.2 (Or.inl (q1F (List.mem_map.2 ⟨i,hi,rfl⟩) hm)))
theorem q6e {cs:Array Value}(hsz:cs.size=Tryz.prog.cellsOf 24)(h:DataW.trod enc Tryz.prog W 0 spare held fuel 24 cs.toList=some x):
  ∃(sa:Option Addr) (sc:Nat) (l:List SR) (wi:Int),cs=#[.slice sa l.length sc, .int .i64 wi]/\l.length<=9223372036854775807/\StsAt W sa l/\(∀r∈l,r.s.ok)/\(-9223372036854775808<=wi/\wi<=9223372036854775807)/\((∀m∈x.1.weights Tryz.prog 24,m<=reachBytes)->l.length * 56<=140737488351232/\(sa=none->sc=0)/\ ∀r∈l,r.hv):=by
 obtain ⟨f0,f1,hu,t0,t1,o0,o1⟩:=q2x
 rw[q5f]at hsz
 obtain ⟨xs,n,_,hxe,_,hxl,hf⟩:=DataW.trod_struct hu h
 obtain ⟨l⟩:=cs
 match xs,hxl,l,hsz with
 |[y0,y1],_,[v0,v1],_=>
  have g0:=hf 0 f0 rfl
  have g1:=hf 1 f1 rfl
  simp[o0,o1,t0,t1,q0X,q2Z]at g0 g1
  obtain ⟨k1,q1,_,w1⟩:=DataW.trod_int Tryz.underlying3 g1
  obtain ⟨sa,sc,l,rfl,h2,h3,h4,h5⟩:=q72 g0
  simp only[List.cons.injEq,and_true]at q1
  subst q1
  have u1:=bounds_i64 w1
  refine ⟨sa,sc,l,k1,rfl,h2,h3,h4,⟨u1.1,by omega⟩,fun hw=>h5 (fun m hm=>hw m ?_)⟩
  rw[hxe]
  simp only[DataW.weights,hu]
  exact DataW.weights_mem_each (j:=0) (t:=22) (d:=y0.1) (by simp[t0]) rfl m hm
end
end
theorem qeV {l rs:List SR}(e:stgs rs=stgs l)(h: ∀r∈l,r.s.ok): ∀r∈rs,r.s.ok:=fun r hr=>by
 have hm:r.s∈stgs rs:=by unfold stgs;exact List.mem_map_of_mem hr
 rw[e]at hm
 unfold stgs at hm
 obtain ⟨r',hr',e'⟩:=List.mem_map.1 hm
 rw[<-e']
 exact h r' hr'
theorem qem {l rs:List SR}(e:stgs rs=stgs l):rs.length=l.length:=by have:=congrArg List.length e;rwa [q02,q02]at this
theorem q9O (x:Int): ∃J:Nat,J<9/\(IntKind.u64.wrap x).tmod 9=(J:Int):=by
 rw[IntKind.wrap_u64,Int.tmod_eq_emod_of_nonneg (by omega)]
 exact ⟨((x % 18446744073709551616) % 9).toNat,by omega,by omega⟩
theorem q65 (sa:Option Addr)(sc:Nat)(l:List SR)(wi:Int)(ea:Option Addr)(ec:Nat)(es:List Ev)(more:Int)(w:World)(hl:l.length<=9223372036854775807)(h:StsAt w sa l)(hok: ∀r∈l,r.s.ok)(hsc:l.length<=sc)(hwt:l.length * 56<=140737488351232/\(sa=none->sc=0)/\ ∀r∈l,r.hv)(hle:es.length<=9223372036854775807)(hE:EvsAt w ea es)(hoke: ∀y∈es,y.ok)(hca:ea=none->ec=0)(hT:TbE w):
  Calls Tryz.prog 3 #[.agg #[.slice sa l.length sc, .int .i64 wi], .slice ea es.length ec, .int .i64 more] w fun e w'=>e= .returned (.bool true)/\Kp [] w w':=by
 obtain ⟨hw1,hw2,hw3⟩:=hwt
 obtain ⟨W1,hW1⟩: ∃W1,W1=w.alloc (.cells #[.slice sa l.length sc, .int .i64 wi] 24):=⟨_,rfl⟩
 have k1:Kp [] w W1:=by rw[hW1];exact Kp.alloc _ _
 have b1:CBox w.heap.size #[.slice sa l.length sc, .int .i64 wi] 24 W1:=by rw[hW1];exact CBox.new _ _ _
 have WK:=hZq (q8t W1 (hT.kp k1 (by simp)))
 have hfit: ∀r∈l, ∀q∈r.s.cd,q.fit:=fun r hr q hq=>((hok r hr).2.2 q hq).2.2.2.1
 have FD:=hZq (fun (fa:Option Addr) (fc:Nat) (fs:List Ev) (W:World) (hk:Kp [] w W) (hf:EvsAt W fa fs) (hfl:fs.length<=9) (hfs: ∀e∈fs,evSz e)=>q3F sa sc l wi fa fc fs ⟨#[107]⟩ W (h.kp hk) hf (hT.kp hk (by simp)) hok hfit hsc hl (by omega) hfs (by decide))
 have FW:Hid (∀(g cap:Nat) (rs:List SR) (wj:Int) (fa:Option Addr) (fc:Nat) (fs:List Ev) (W:World),stgs rs=stgs l->l.length<=cap->Kp [] w W->StsAt W (some ⟨g,0,none⟩) rs->EvsAt W fa fs->fs.length<=9->(∀e∈fs,evSz e)->Calls Tryz.prog 6 #[.agg #[.slice (some ⟨g,0,none⟩) l.length cap, .int .i64 wj], .string ⟨#[107]⟩, .slice fa fs.length fc] W fun e w'=> ∃v zs,e= .returned (.tuple #[v, .int .i64 (fiE ⟨stgs l,wj⟩ ⟨#[107]⟩ fs)])/\FdP W ⟨#[107]⟩ (fiL ⟨stgs l,wj⟩ ⟨#[107]⟩ fs) v zs w'):=hZq (fun g cap rs wj fa fc fs W he hc hk hs hf hfl hfs=>by
  have hlr:=qem he
  have hok':=qeV he hok
  have:=q3F (some ⟨g,0,none⟩) cap rs wj fa fc fs ⟨#[107]⟩ W hs hf (hT.kp hk (by simp)) hok' (fun r hr q hq=>((hok' r hr).2.2 q hq).2.2.2.1) (by omega) (by omega) (by omega) hfs (by decide)
  rwa [he,hlr]at this)
 have CP:=hZq (fun W (hk:Kp [] w W)=>q43 sa sc l wi W (h.kp hk) hw2 hw1 (fun r hr=>⟨(hw3 r hr).2.2.1,(hw3 r hr).1⟩))
 have HCP:=hZq (fun W (hk:Kp [] w W) (h9:es.length<=9)=>q6w (hE.kp hk (by simp)) hca (by omega) 25)
 have HSZ:Hid (∀e∈es.map (q1c ⟨#[107]⟩),evSz e):=hZq (fun e he=>by
  rw[List.mem_map]at he
  obtain ⟨y,hy,rfl⟩:=he
  have:=hoke y hy
  exact ⟨by show (⟨#[107]⟩:ByteArray).size<=_;decide,this.2.1,this.2.2.1⟩)
 have HB1:=hZq (And.intro b1 k1)
 obtain ⟨S,hS⟩: ∃S:List Stg,S=stgs l:=⟨_,rfl⟩
 rw[<-hS]at FD FW CP
 clear h hok hE hoke hca hT hfit b1 k1 hS hsc hw1 hw2 hw3
 obtain ⟨ln,hln⟩: ∃ln,ln=l.length:=⟨_,rfl⟩
 rw[<-hln]at hW1 HB1 FD FW CP hl ⊢
 obtain ⟨n,hn⟩: ∃n,n=es.length:=⟨_,rfl⟩
 have HN:=hZq hn
 rw[<-hn]at HCP hle ⊢
 clear hln hn
 go_enter Tryz.func3,Tryz.ntmps3
 go_upto_region 1 with fail
 rw[<-hW1]
 clear hW1
 go_wp2_with fail
 refine (uQ WK).mono ?_
 rintro e w2 ⟨rfl,hk2⟩
 have HK2:=hZq ((uQ HB1).2.trans hk2 (by simp))
 have HB2:=hZq ((uQ HB1).1.kp hk2 (by simp))
 clear WK hk2 HB1
 by_cases h9:9<n
 ·have h9i:(9:Int)<(n:Int):=by omega
  clear FD FW CP HCP
  go_wp2
  go_ret
  exact ⟨rfl,uQ HK2⟩
 ·have h9i: ¬ (9:Int)<(n:Int):=by omega
  obtain ⟨g,cap,w3,hrun,ho,hk3⟩:=uQ HCP w2 (uQ HK2) (by omega)
  have HRUN:=hZq hrun
  have HS3:Hid (SyE w2 g cap (evJ ⟨#[107]⟩ es 0) w3):=hZq ⟨by rw[q1V, <-uQ HN,qaH];exact ho,hk3⟩
  clear HCP hrun ho hk3
  go_wp2_with (at_builtin;refine q0c rfl _ _ _ rfl rfl rfl (uQ HRUN) ?_)
  clear HRUN
  go_loopw [28] (fun iv wr=> ∃j:Nat,j<=n/\iv= .int .i64 (j:Int)/\Hid (SyE w2 g cap (evJ ⟨#[107]⟩ es j) wr)) (fun iv _=>n-(intOf iv).toNat)
  case atStart=>exact ⟨0,Nat.zero_le _,rfl,HS3⟩
  case round=>
   obtain ⟨j,hj,rfl,HS⟩:=hrel
   by_cases hlt:j<n
   ·have hli:(j:Int)<(n:Int):=by omega
    have hje:j<es.length:=by rw[<-uQ HN];exact hlt
    have hrow:=(uQ HS).row
    have hgw:w2.heap.size<=g:=(World.ownsRow.lt hrow g rfl).1
    have hjl:j<(evJ ⟨#[107]⟩ es j).length:=by rw[q1V];exact hje
    have hc:=q0o q1j hrow j 0 hjl (by omega)
    rw[Nat.add_zero]at hc
    have hcs:wr.cell? ⟨g,j * 7,none⟩=some (.string ((evJ ⟨#[107]⟩ es j)[j]).k):=hc
    have hfz:wr.frozen? ⟨g,j * 7,none⟩=false:=by
     obtain ⟨_,⟨e,_⟩|⟨g',c',cur,e,_,hb,_⟩⟩:=hrow
     ·cases e
     ·cases e
      exact (show CBox g cur 29 wr from hb).froz _
    have HN1:Hid (SyE w2 g cap (evJ ⟨#[107]⟩ es (j+1)) (wr.setCell ⟨g,j * 7,none⟩ (.string ⟨#[107]⟩))):=hZq ⟨by
     rw[q1V]at hrow ⊢
     exact OwnsX.key hrow rfl hje,(uQ HS).kp.trans (Kp.set _ _ _ _) (fun x hx=>Or.inr (by rw[List.mem_singleton]at hx;omega))⟩
    generalize ((evJ ⟨#[107]⟩ es j)[j]).k=kk at *
    clear hrow hc HS HS3 FD FW CP HSZ
    go_wp2
    go_roundw
    case rel=>exact ⟨j+1,by omega,by go_num,HN1⟩
    case measure=>simp[intOf];omega
   ·obtain rfl:j=n:=by omega
    have HS4:Hid (SyE w2 g cap (es.map (q1c ⟨#[107]⟩)) wr):=hZq (by have:=uQ HS;rw[uQ HN,qcm]at this;exact this)
    have hpc:=((uQ HB2).kp (uQ HS4).kp (by simp))
    have p0:=hpc.cell (i:=0) (v:= .slice sa ln sc) rfl
    have p1:=hpc.cell (i:=1) (v:= .int .i64 wi) rfl
    have HPB:=hZq hpc
    have kwr:=(uQ HK2).trans (uQ HS4).kp (by simp)
    have CPW:=hZq (uQ CP wr kwr)
    have HKWR:=hZq kwr
    clear HS HS3 CP HB2 hpc kwr
    go_wp2_with fail
    refine (uQ CPW).mono ?_
    rintro e w4 ⟨gp,cpp,rs,rfl,hsr,hse,hcap,hk4,hg4, -⟩
    have HRS:=hZq (And.intro hsr (And.intro hse hcap))
    have HK4:=hZq hk4
    have ka:=Kp.alloc w4 (.cells #[.slice (some ⟨gp,0,none⟩) ln cpp, .int .i64 wi] 24)
    have hbw:=CBox.new w4 #[.slice (some ⟨gp,0,none⟩) ln cpp, .int .i64 wi] 24
    have q0:=hbw.cell (i:=0) (v:= .slice (some ⟨gp,0,none⟩) ln cpp) rfl
    have q1:=hbw.cell (i:=1) (v:= .int .i64 wi) rfl
    have HBW:=hZq hbw
    have HKA:=hZq ka
    have HGW:Hid (w4.heap.size=w4.heap.size):=hZq rfl
    have q1s:(w4.alloc (.cells #[.slice (some ⟨gp,0,none⟩) ln cpp, .int .i64 wi] 24)).frozen? ⟨w4.heap.size,1,none⟩=false:=hbw.froz _
    clear CPW hsr hse hcap hg4 hk4 p0 p1 hbw ka
    go_upto_region 12 with fail
    generalize w4.alloc (.cells #[.slice (some ⟨gp,0,none⟩) ln cpp, .int .i64 wi] 24)=V at *
    generalize hgw:w4.heap.size=gw at HBW q0 q1 q1s ⊢
    clear HGW
    have HGW:=hZq hgw
    clear hgw
    go_cut [45] (fun v wc=>wc=V/\v= .bool (decide (1<=wi) && decide (wi<=256)))
    case first=>
     by_cases h1:1<=wi
     ·by_cases h2:wi<=256
      ·go_wp2
       go_meet
       exact ⟨rfl,by simp[h1,h2]⟩
      ·go_wp2
       go_meet
       exact ⟨rfl,by simp[h1,h2]⟩
     ·go_wp2
      go_meet
      exact ⟨rfl,by rw[decide_eq_false (show ¬ 1<=wi by omega)];rfl⟩
    case rest=>
    obtain ⟨hwc,rfl⟩:=hcut
    obtain rfl:=hwc.symm
    go_upto_if 45 with fail
    go_cut [] (fun wc=> ∃wj,WiW wi wj/\Hid (CBox gw #[.slice (some ⟨gp,0,none⟩) ln cpp, .int .i64 wj] 24 wc/\Kp [] w4 wc))
    case first=>
     by_cases h1:1<=wi/\wi<=256
     ·obtain ⟨J,hJ,hJe⟩:=q9O more
      have hb:(decide (1<=wi) && decide (wi<=256))=true:=by simp[h1]
      go_wp2
      go_meet
      exact ⟨min 256 (wi+(J:Int)),Or.inr ⟨h1.1,by omega,by omega⟩,hZq ⟨(uQ HBW).set 1 _,(uQ HKA).trans (Kp.set _ _ _ _) (fun x hx=>Or.inr (by rw[List.mem_singleton]at hx;have:=uQ HGW;omega))⟩⟩
     ·have hb:(decide (1<=wi) && decide (wi<=256))=false:=by
       rw[Bool.and_eq_false_iff,decide_eq_false_iff_not,decide_eq_false_iff_not]
       omega
      go_wp2
      go_meet
      exact ⟨wi,Or.inl rfl,hZq ⟨uQ HBW,uQ HKA⟩⟩
    case rest=>
    obtain ⟨wj,hwj,HW⟩:=hcut
    have kwc:Kp [] wr wc:=(uQ HK4).trans (uQ HW).2 (by simp)
    have hlen:(es.map (q1c ⟨#[107]⟩)).length=j:=by rw[List.length_map];exact (uQ HN).symm
    have hpc:=((uQ HPB).kp kwc (by simp))
    have p0:=hpc.cell (i:=0) (v:= .slice sa ln sc) rfl
    have p1:=hpc.cell (i:=1) (v:= .int .i64 wi) rfl
    have HPC:=hZq hpc
    have kw:=(uQ HKWR).trans kwc (by simp)
    have F1:=hZq (uQ FD (some ⟨g,0,none⟩) cap (es.map (q1c ⟨#[107]⟩)) wc kw ((uQ HS4).up kwc).at (by rw[hlen];omega) (uQ HSZ))
    rw[hlen]at F1
    have F2':=hZq (fun W (hk:Kp [] wc W)=>uQ FW gp cpp rs wj (some ⟨g,0,none⟩) cap (es.map (q1c ⟨#[107]⟩)) W (uQ HRS).2.1 (uQ HRS).2.2 (kw.trans hk (by simp)) ((uQ HRS).1.kp ((uQ HW).2.trans hk (by simp))) (((uQ HS4).up kwc).up hk).at (by rw[hlen];omega) (uQ HSZ))
    rw[hlen]at F2'
    have HBX:=hZq (fun W (hk:Kp [] wc W)=>(uQ HW).1.kp hk (by simp))
    obtain ⟨fs,hfs⟩: ∃fs,fs=es.map (q1c ⟨#[107]⟩):=⟨_,rfl⟩
    rw[<-hfs]at F1 F2' hlen
    have HKW:=hZq kw
    have HWI:Hid (fiE ⟨S,wi⟩ ⟨#[107]⟩ fs=0->fiE ⟨S,wj⟩ ⟨#[107]⟩ fs=0->fiL ⟨S,wi⟩ ⟨#[107]⟩ fs=(fiL ⟨S,wj⟩ ⟨#[107]⟩ fs).filter fun T=>decide ((Mt.endT T:Int)-(Mt.fstT T:Int)<wi)):=hZq (fun h1 h2=>q99 hwj h1 h2)
    have HWC:Hid (fiE ⟨S,wi⟩ ⟨#[107]⟩ fs≠0\/fiE ⟨S,wj⟩ ⟨#[107]⟩ fs≠0->fiE ⟨S,wi⟩ ⟨#[107]⟩ fs=fiE ⟨S,wj⟩ ⟨#[107]⟩ fs\/fiE ⟨S,wj⟩ ⟨#[107]⟩ fs=140):=hZq (fun h=>qaM hwj h)
    have HFU:=hZq (fun (q:Ptn) (T:List (List Nat)) (h:T∈fiL q ⟨#[107]⟩ fs)=>qcu h)
    have HLO:Hid (∀T∈fiL ⟨S,wj⟩ ⟨#[107]⟩ fs,Mt.endT T<10/\Mt.fstT T<10):=hZq (fun T h=>by have:=qdK h;omega)
    have HLE:=hZq (fun (q:Ptn)=>qdJ (p:=q) (k:=⟨#[107]⟩) (es:=fs))
    generalize fiE ⟨S,wi⟩ ⟨#[107]⟩ fs=E at *
    generalize fiE ⟨S,wj⟩ ⟨#[107]⟩ fs=E2 at *
    clear hwj HW HBW HKA HGW HRS HK4 HPB HKWR HS4 FD FW HSZ hpc kw kwc hfs hlen q0 q1 q1s HN
    go_wp2_with fail
    refine (uQ F1).mono ?_
    rintro e w5 ⟨v1,zs1,rfl,hP1⟩
    obtain ⟨va,vc,rfl,hvg⟩:=q10 hP1.row
    have hbx:=uQ HBX w5 hP1.kp
    have q0:=hbx.cell (i:=0) (v:= .slice (some ⟨gp,0,none⟩) ln cpp) rfl
    have q1:=hbx.cell (i:=1) (v:= .int .i64 wj) rfl
    have F2:=hZq (uQ F2' w5 hP1.kp)
    have HP1:=hZq hP1
    clear F1 F2' HBX hP1 hvg p0 p1 hbx
    obtain ⟨z1,hz1⟩: ∃z1,z1=zs1.length:=⟨_,rfl⟩
    have HZ1:=hZq hz1
    rw[<-hz1]
    clear hz1
    go_wp2_with fail
    refine (uQ F2).mono ?_
    rintro e w6 ⟨v2,zs2,rfl,hP2⟩
    obtain ⟨vb,vd,rfl,hvh⟩:=q10 hP2.row
    have HVG:=hZq hvh
    have k16:Kp [] w5 w6:=hP2.kp
    have HK16:=hZq k16
    have HKC:=hZq (((uQ HKW).trans (uQ HP1).kp (by simp)).trans k16 (by simp))
    have HPW:=hZq (((uQ HPC).kp (uQ HP1).kp (by simp)).kp k16 (by simp))
    have HP2:=hZq hP2
    obtain ⟨z2,hz2⟩: ∃z2,z2=zs2.length:=⟨_,rfl⟩
    have HZ2:=hZq hz2
    rw[<-hz2]
    clear F2 hP2 hvh k16 HKW HPC q0 q1 hz2
    by_cases h0:E=0
    ·subst h0
     by_cases h2:E2=0
     ·subst h2
      have HM1:Hid (MsR ⟨#[107]⟩ w6 (.slice va z1 vc) zs1):=hZq (by
       rw[uQ HZ1]
       exact MsR.up ⟨q3P (uQ HP1).row,(uQ HP1).cp⟩ (uQ HK16))
      have HM2:Hid (MsR ⟨#[107]⟩ w6 (.slice vb z2 vd) zs2):=hZq (by
       rw[uQ HZ2]
       exact ⟨q3P (uQ HP2).row,(uQ HP2).cp⟩)
      have HEQ:Hid ((zs2.filter fun x=>decide ((Mt.endT x.T:Int)-(Mt.fstT x.T:Int)<wi)).map (·.T)=zs1.map (·.T)):=hZq (by
       rw[(uQ HP1).ts,uQ HWI rfl rfl, <-(uQ HP2).ts,List.filter_map]
       rfl)
      have HF2:Hid (∀x∈zs2,x.T≠[]/\(∀l∈x.T,l≠[])/\MtOk ⟨#[107]⟩ (Mt.toZ x.T)/\Mt.endT x.T<10/\Mt.fstT x.T<10):=hZq (fun x hx=>by
       have hm:x.T∈fiL ⟨S,wj⟩ ⟨#[107]⟩ fs:=by rw[<-(uQ HP2).ts];exact List.mem_map_of_mem hx
       have:=uQ HFU _ x.T hm
       exact ⟨this.1,this.2.1,this.2.2.1,uQ HLO x.T hm⟩)
      have HF1:Hid (∀x∈zs1,MtOk ⟨#[107]⟩ (Mt.toZ x.T)):=hZq (fun x hx=>(uQ HFU _ x.T (by rw[<-(uQ HP1).ts];exact List.mem_map_of_mem hx)).2.2.1)
      have HL1:Hid (zs1.length<=4096):=hZq (by have:=uQ HLE ⟨S,wi⟩;rw[<-(uQ HP1).ts,List.length_map]at this;exact this)
      have HL2:Hid (zs2.length<=4096):=hZq (by have:=uQ HLE ⟨S,wj⟩;rw[<-(uQ HP2).ts,List.length_map]at this;exact this)
      have hz2i:z2<=4096:=by rw[uQ HZ2];exact uQ HL2
      clear HWC HWI HFU HLO HLE HP1 HP2 HK16 HZ1
      go_wp2_with fail
      go_loopw [82,14] (fun iv ov wr=> ∃j k:Nat,j<=z2/\iv= .int .i64 (j:Int)/\(∃a cc,ov= .slice a k cc)/\Hid (SyW w6 ⟨#[107]⟩ (fun x=>decide ((Mt.endT x.T:Int)-(Mt.fstT x.T:Int)<wi)) zs2 j k ov wr)) (fun iv _ _=>z2-(intOf iv).toNat)
      case atStart=>exact ⟨0,0,Nat.zero_le _,rfl,⟨none,0,rfl⟩,hZq ⟨World.ownsRow_nil _ _ _ _,rfl,Kp.refl _ _⟩⟩
      case round=>
       obtain ⟨j2,k,hj2,rfl,⟨oa,oc,rfl⟩,HW⟩:=hrel
       by_cases hlt2:j2<z2
       ·have hli2:(j2:Int)<(z2:Int):=by omega
        have hjz:j2<zs2.length:=by rw[<-uQ HZ2];exact hlt2
        obtain ⟨vg,rfl⟩:=uQ HVG (by omega)
        have hms:=(uQ HM2).up (uQ HW).kp
        obtain ⟨c0,c1⟩:=hms.cell (uQ HZ2) j2 hjz
        have hmem:=List.getElem_mem hjz
        obtain ⟨f1,f2,f3,f4,f5⟩:=uQ HF2 _ hmem
        obtain ⟨tn,sb,so,q,lc,htn,htb,hqb,d0,d1⟩:=qcj (hms.cp _ hmem) f1 f2 f3
        obtain ⟨fb,fo,q',lc',hqb',d2,d3⟩:=qaA (hms.cp _ hmem) f1 f2 f3
        have em:(((tn+1:Nat)):Int)-1=(tn:Int):=by omega
        have eq:(((q+1:Nat)):Int)-1=(q:Int):=by omega
        have hxv:zs2[j2].v= .slice (some ⟨zs2[j2].g,0,none⟩) (tn+1) (tn+1):=by unfold Cp.v;rw[htn]
        obtain ⟨W2,hW2⟩: ∃W2,W2=wr.alloc (.cells #[.string ⟨#[107]⟩, .slice (some ⟨zs2[j2].g,0,none⟩) (tn+1) (tn+1)] 38):=⟨_,rfl⟩
        have k2:Kp [] wr W2:=by rw[hW2];exact Kp.alloc _ _
        have bx:CBox wr.heap.size #[.string ⟨#[107]⟩, .slice (some ⟨zs2[j2].g,0,none⟩) (tn+1) (tn+1)] 38 W2:=by rw[hW2];exact CBox.new _ _ _
        have x0:=bx.cell (i:=0) (v:= .string ⟨#[107]⟩) rfl
        have x1:=bx.cell (i:=1) (v:= .slice (some ⟨zs2[j2].g,0,none⟩) (tn+1) (tn+1)) rfl
        have y0:=k2.cell d0 (by simp)
        obtain ⟨V2,hV2⟩: ∃V2,V2=W2.drew:=⟨_,rfl⟩
        have kd:Kp [] W2 V2:=by rw[hV2];exact Kp.drew _
        have hS2:V2.cell? ⟨sb,so+q,none⟩=some (.int .i64 (Mt.endT zs2[j2].T:Int))/\V2.cell? ⟨wr.heap.size,1,none⟩=some (.slice (some ⟨zs2[j2].g,0,none⟩) (tn+1) (tn+1))/\V2.cell? ⟨zs2[j2].g,0,none⟩=some (.slice (some ⟨fb,fo,none⟩) (q'+1) lc')/\V2.cell? ⟨fb,fo,none⟩=some (.int .i64 (Mt.fstT zs2[j2].T:Int))/\V2.cell? ⟨w.heap.size,1,none⟩=some (.int .i64 wi):=⟨kd.cell (k2.cell d1 (by simp)) (by simp),kd.cell x1 (by simp),kd.cell (k2.cell d2 (by simp)) (by simp),kd.cell (k2.cell d3 (by simp)) (by simp),(((((uQ HPW).kp (uQ HW).kp (by simp)).kp k2 (by simp))).kp kd (by simp)).cell (i:=1) (v:= .int .i64 wi) rfl⟩
        have XB:=hZq (And.intro (kd.cell x0 (by simp)) (kd.cell x1 (by simp)))
        have HTA:=hZq (fun (hf:decide ((Mt.endT zs2[j2].T:Int)-(Mt.fstT zs2[j2].T:Int)<wi)=true)=>(uQ HW).take (W:=V2.alloc (.cells #[.string ⟨#[107]⟩, .slice (some ⟨zs2[j2].g,0,none⟩) (tn+1) (tn+1)] 38)) hjz hf ((k2.trans kd (by simp)).trans (Kp.alloc _ _) (by simp)) (uQ HL2) (g:=V2.heap.size) (by rw[hxv];exact CBox.new _ _ _))
        have HSK:=hZq (fun (hf:decide ((Mt.endT zs2[j2].T:Int)-(Mt.fstT zs2[j2].T:Int)<wi)=false)=>(uQ HW).skip hjz hf (k2.trans kd (by simp)))
        rw[hxv]at c1
        clear hms hmem f1 f2 f3 d0 d1 d2 d3 bx k2 kd hxv htn HW HM1 HM2 HEQ HF1 HF2 HL1 HL2 HPW
        generalize zs2[j2].g=xg at *
        generalize Mt.endT zs2[j2].T=en at *
        generalize Mt.fstT zs2[j2].T=fn at *
        have hwr:wrap64 ((en:Int)-(fn:Int))=(en:Int)-(fn:Int):=by unfold wrap64;omega
        go_upto_region 22 with fail
        rw[<-hW2]
        clear hW2 c0 c1
        go_upto_region 23 with fail
        go_cut [109] (fun v wc=>wc=V2/\v= .bool (decide ((en:Int)-(fn:Int)<wi)))
        case first=>
         refine wp_region_held_drew (S:=fun W=>W.cell? ⟨sb,so+q,none⟩=some (.int .i64 (en:Int))/\W.cell? ⟨wr.heap.size,1,none⟩=some (.slice (some ⟨xg,0,none⟩) (tn+1) (tn+1))/\W.cell? ⟨xg,0,none⟩=some (.slice (some ⟨fb,fo,none⟩) (q'+1) lc')/\W.cell? ⟨fb,fo,none⟩=some (.int .i64 (fn:Int))/\W.cell? ⟨w.heap.size,1,none⟩=some (.int .i64 wi)) (by kernel_rfl) (by rw[<-hV2];exact hS2) (fun hHeld=>?_)
         rw[<-hV2]at hHeld ⊢
         clear hV2 HTA HSK x0 x1 y0
         have hwq:IntKind.i64.wrap (q:Int)=(q:Int):=by rw[IntKind.wrap_i64];omega
         have hwr2:IntKind.i64.wrap ((en:Int)-(fn:Int))=(en:Int)-(fn:Int):=by rw[IntKind.wrap_i64];omega
         show wpAnyH _ _ _ _ _ 16 (Array.replicate 16 false) _ _
         refine wpAnyH_take (i:=0) (oi:=⟨some 94,Op.move (.tmp 17),39,"theorems.go:122",#[],none⟩) (v:=?_) rfl (by kernel_rfl) (by kernel_rfl) (by kernel_rfl) (fun _ _ _ h=>h) (Or.inl ⟨by rfl,?_⟩) (by assumption) ?_
         rotate_left
         ·intro w0 s9;(try dsimp only at s9);go_simp;(try with_reducible rfl)
         try simp only[Act.put,zz1,zz2,zz3]
         refine wpAnyH_take (i:=1) (oi:=⟨some 95,Op.move (.tmp 17),39,"theorems.go:122",#[],none⟩) (v:=?_) rfl (by kernel_rfl) (by kernel_rfl) (by kernel_rfl) (fun _ _ _ h=>h) (Or.inl ⟨by rfl,?_⟩) (by assumption) ?_
         rotate_left
         ·intro w0 s9;(try dsimp only at s9);go_simp;(try with_reducible rfl)
         try simp only[Act.put,zz1,zz2,zz3]
         refine wpAnyH_take (i:=2) (oi:=⟨some 96,Op.call { callee:= .builtin Builtin.len,args:=#[.tmp 95],argTypes:=#[39] },3,"theorems.go:122",#[⟨1, .data⟩],none⟩) (v:=?_) rfl (by kernel_rfl) (by kernel_rfl) (by kernel_rfl) (fun _ _ _ h=>h) (Or.inl ⟨by rfl,?_⟩) (by assumption) ?_
         rotate_left
         ·intro w0 s9;(try dsimp only at s9);go_simp;(try with_reducible rfl)
         try simp only[Act.put,zz1,zz2,zz3]
         refine wpAnyH_take (i:=3) (oi:=⟨some 97,Op.binOp BinOp.sub 3 (.tmp 96) (.const (Value.int IntKind.i64 1)) 3,3,"theorems.go:122",#[⟨2, .data⟩],none⟩) (v:=?_) rfl (by kernel_rfl) (by kernel_rfl) (by kernel_rfl) (fun _ _ _ h=>h) (Or.inl ⟨by rfl,?_⟩) (by assumption) ?_
         rotate_left
         ·intro w0 s9
          (try dsimp only at s9)
          go_simp
          (try rw[hwq])
          (try with_reducible rfl)
         try simp only[Act.put,zz1,zz2,zz3]
         refine wpAnyH_take (i:=4) (oi:=⟨some 98,Op.indexAddr 39 (.tmp 94) (.tmp 97),0,"theorems.go:122",#[⟨0, .data⟩,⟨3, .data⟩],none⟩) (v:=?_) rfl (by kernel_rfl) (by kernel_rfl) (by kernel_rfl) (fun _ _ _ h=>h) (Or.inl ⟨by rfl,?_⟩) (by assumption) ?_
         rotate_left
         ·intro w0 s9
          (try dsimp only at s9)
          go_simp
          (try rw[if_pos (show (q:Int)<(q:Int)+1 by omega)])
          (try with_reducible rfl)
         try simp only[Act.put,zz1,zz2,zz3]
         refine wpAnyH_take (i:=5) (oi:=⟨some 99,Op.load 3 (.tmp 98),3,"theorems.go:122",#[⟨4, .data⟩],none⟩) (v:=?_) rfl (by kernel_rfl) (by kernel_rfl) (by kernel_rfl) (fun _ _ _ h=>h) (Or.inl ⟨by rfl,?_⟩) (by assumption) ?_
         rotate_left
         ·intro w0 s9;(try dsimp only at s9);go_simp;(try with_reducible rfl)
         try simp only[Act.put,zz1,zz2,zz3]
         refine wpAnyH_take (i:=6) (oi:=⟨some 100,Op.fieldAddr 38 (.tmp 16) 1,0,"theorems.go:122",#[],none⟩) (v:=?_) rfl (by kernel_rfl) (by kernel_rfl) (by kernel_rfl) (fun _ _ _ h=>h) (Or.inl ⟨by rfl,?_⟩) (by assumption) ?_
         rotate_left
         ·intro w0 s9;(try dsimp only at s9);go_simp;(try with_reducible rfl)
         try simp only[Act.put,zz1,zz2,zz3]
         refine wpAnyH_take (i:=7) (oi:=⟨some 101,Op.load 36 (.tmp 100),36,"theorems.go:122",#[⟨6, .data⟩],none⟩) (v:=?_) rfl (by kernel_rfl) (by kernel_rfl) (by kernel_rfl) (fun _ _ _ h=>h) (Or.inl ⟨by rfl,?_⟩) (by assumption) ?_
         rotate_left
         ·intro w0 s9;(try dsimp only at s9);go_simp;(try with_reducible rfl)
         try simp only[Act.put,zz1,zz2,zz3]
         refine wpAnyH_take (i:=8) (oi:=⟨some 102,Op.indexAddr 36 (.tmp 101) (.const (Value.int IntKind.i64 0)),0,"theorems.go:122",#[⟨7, .data⟩],none⟩) (v:=?_) rfl (by kernel_rfl) (by kernel_rfl) (by kernel_rfl) (fun _ _ _ h=>h) (Or.inl ⟨by rfl,?_⟩) (by assumption) ?_
         rotate_left
         ·intro w0 s9;(try dsimp only at s9);go_simp;(try with_reducible rfl)
         try simp only[Act.put,zz1,zz2,zz3]
         refine wpAnyH_take (i:=9) (oi:=⟨some 103,Op.load 39 (.tmp 102),39,"theorems.go:122",#[⟨8, .data⟩],none⟩) (v:=?_) rfl (by kernel_rfl) (by kernel_rfl) (by kernel_rfl) (fun _ _ _ h=>h) (Or.inl ⟨by rfl,?_⟩) (by assumption) ?_
         rotate_left
         ·intro w0 s9;(try dsimp only at s9);go_simp;(try with_reducible rfl)
         try simp only[Act.put,zz1,zz2,zz3]
         refine wpAnyH_take (i:=10) (oi:=⟨some 104,Op.indexAddr 39 (.tmp 103) (.const (Value.int IntKind.i64 0)),0,"theorems.go:122",#[⟨9, .data⟩],none⟩) (v:=?_) rfl (by kernel_rfl) (by kernel_rfl) (by kernel_rfl) (fun _ _ _ h=>h) (Or.inl ⟨by rfl,?_⟩) (by assumption) ?_
         rotate_left
         ·intro w0 s9;(try dsimp only at s9);go_simp;(try with_reducible rfl)
         try simp only[Act.put,zz1,zz2,zz3]
         refine wpAnyH_take (i:=11) (oi:=⟨some 105,Op.load 3 (.tmp 104),3,"theorems.go:122",#[⟨10, .data⟩],none⟩) (v:=?_) rfl (by kernel_rfl) (by kernel_rfl) (by kernel_rfl) (fun _ _ _ h=>h) (Or.inl ⟨by rfl,?_⟩) (by assumption) ?_
         rotate_left
         ·intro w0 s9;(try dsimp only at s9);go_simp;(try with_reducible rfl)
         try simp only[Act.put,zz1,zz2,zz3]
         refine wpAnyH_take (i:=12) (oi:=⟨some 106,Op.binOp BinOp.sub 3 (.tmp 99) (.tmp 105) 3,3,"theorems.go:122",#[⟨5, .data⟩,⟨11, .data⟩],none⟩) (v:=?_) rfl (by kernel_rfl) (by kernel_rfl) (by kernel_rfl) (fun _ _ _ h=>h) (Or.inl ⟨by rfl,?_⟩) (by assumption) ?_
         rotate_left
         ·intro w0 s9
          (try dsimp only at s9)
          go_simp
          (try rw[hwr2])
          (try with_reducible rfl)
         try simp only[Act.put,zz1,zz2,zz3]
         refine wpAnyH_take (i:=13) (oi:=⟨some 107,Op.fieldAddr 24 (.tmp 3) 1,0,"theorems.go:122",#[],none⟩) (v:=?_) rfl (by kernel_rfl) (by kernel_rfl) (by kernel_rfl) (fun _ _ _ h=>h) (Or.inl ⟨by rfl,?_⟩) (by assumption) ?_
         rotate_left
         ·intro w0 s9;(try dsimp only at s9);go_simp;(try with_reducible rfl)
         try simp only[Act.put,zz1,zz2,zz3]
         refine wpAnyH_take (i:=14) (oi:=⟨some 108,Op.load 3 (.tmp 107),3,"theorems.go:122",#[⟨13, .data⟩],none⟩) (v:=?_) rfl (by kernel_rfl) (by kernel_rfl) (by kernel_rfl) (fun _ _ _ h=>h) (Or.inl ⟨by rfl,?_⟩) (by assumption) ?_
         rotate_left
         ·intro w0 s9;(try dsimp only at s9);go_simp;(try with_reducible rfl)
         try simp only[Act.put,zz1,zz2,zz3]
         refine wpAnyH_take (i:=15) (oi:=⟨some 109,Op.binOp BinOp.lss 3 (.tmp 106) (.tmp 108) 3,4,"theorems.go:122",#[⟨12, .data⟩,⟨14, .data⟩],none⟩) (v:=?_) rfl (by kernel_rfl) (by kernel_rfl) (by kernel_rfl) (fun _ _ _ h=>h) (Or.inl ⟨by rfl,?_⟩) (by assumption) ?_
         rotate_left
         ·intro w0 s9;(try dsimp only at s9);go_simp;(try with_reducible rfl)
         try simp only[Act.put,zz1,zz2,zz3]
         refine wpAnyH_done (by kernel_rfl) ?_ _
         clear hHeld hS2
         go_wp2
         go_meet
         exact ⟨rfl,rfl⟩
        case rest=>
        obtain ⟨hwc2,rfl⟩:=hcut
        obtain rfl:=hwc2.symm
        obtain ⟨u0,u1⟩:=uQ XB
        clear hS2 hV2 x0 x1 y0 XB
        by_cases hd:(en:Int)-(fn:Int)<wi
        ·obtain ⟨g',cp',w',hrun,hn'⟩:=uQ HTA (decide_eq_true hd)
         have HRUN:=hZq hrun
         have HN':=hZq hn'
         clear HTA HSK hrun hn'
         go_wp2_with (at_builtin;refine q0c rfl _ _ _ rfl rfl rfl (uQ HRUN) ?_)
         clear HRUN
         go_roundw
         case rel=>exact ⟨j2+1,k+1,by omega,by go_num,⟨_,_,rfl⟩,HN'⟩
         case measure=>simp[intOf];omega
        ·have HN':=hZq (uQ HSK (decide_eq_false hd))
         clear HTA HSK
         go_wp2
         go_roundw
         case rel=>exact ⟨j2+1,k,by omega,by go_num,⟨_,_,rfl⟩,HN'⟩
         case measure=>simp[intOf];omega
       ·obtain rfl:j2=z2:=by omega
        have hW:=uQ HW
        have hfl:zs2.take j2=zs2:=List.take_of_length_le (by rw[uQ HZ2];exact Nat.le_refl _)
        have hrow:=hW.row
        have hkl:=hW.ln
        rw[hfl]at hrow hkl
        have HMW:MsR ⟨#[107]⟩ wr (.slice oa k oc) (zs2.filter fun x=>decide ((Mt.endT x.T:Int)-(Mt.fstT x.T:Int)<wi)):=⟨by rw[<-hkl];exact q3P hrow,fun x hx=>((uQ HM2).up hW.kp).cp x ((List.mem_filter.1 hx).1)⟩
        have SM:=hZq (q8E ⟨#[107]⟩ _ _ _ zs1 wr HMW ((uQ HM1).up hW.kp) (fun x hx=>(uQ HF2 x ((List.mem_filter.1 hx).1)).2.2.1) (uQ HF1) (by have h1:=List.length_filter_le (fun x:Cp=>decide ((Mt.endT x.T:Int)-(Mt.fstT x.T:Int)<wi)) zs2;have:=uQ HL2;omega) (by have:=uQ HL1;omega))
        rw[decide_eq_true (uQ HEQ)]at SM
        have HKE:=hZq ((uQ HKC).trans hW.kp (by simp))
        clear hW hfl hrow hkl HMW HW HM1 HM2 HEQ HF1 HF2 HL1 HL2 HKC HPW
        go_wp2_with fail
        refine (uQ SM).mono ?_
        rintro e w9 ⟨rfl,hk9⟩
        have HKF:=hZq ((uQ HKE).trans hk9 (by simp))
        clear SM hk9 HKE
        go_wp2
        go_ret
        exact ⟨rfl,uQ HKF⟩
     ·have h140:E2=140:=by
       rcases uQ HWC (Or.inr h2)with h|h
       ·exact absurd h.symm h2
       ·exact h
      subst h140
      clear HWC HWI HFU HLO HLE HP1 HP2 HVG HZ1 HZ2 HPW HK16
      go_wp2
      go_ret
      exact ⟨rfl,uQ HKC⟩
    ·have h3:=uQ HWC (Or.inl h0)
     clear HWC HWI HFU HLO HLE HP1 HP2 HVG HZ1 HZ2 HPW HK16
     by_cases h4:E=E2
     ·subst h4
      go_wp2
      go_ret
      exact ⟨rfl,uQ HKC⟩
     ·have h140:E2=140:=h3.resolve_left h4
      subst h140
      go_wp2
      go_ret
      exact ⟨rfl,uQ HKC⟩
section
open Go.RowKit Go.Deep
theorem q2n:Tryz.prog.cellsOf 29=7:=by kernel_rfl
theorem q8Z:Tryz.prog.cellsOf 2=1:=by kernel_rfl
theorem q5z:Tryz.prog.cellsOf 27=4:=by kernel_rfl
theorem q85:Tryz.prog.cellsOf 9=1:=by kernel_rfl
theorem q5P: ∃f0 f1 f2 f3:Field,Tryz.prog.underlying 29=some (.struct #[f0,f1,f2,f3])/\f0.type=9/\f1.type=9/\f2.type=27/\f3.type=9/\f0.offset=0/\f1.offset=1/\f2.offset=2/\f3.offset=6:=
 ⟨_,_,_,_,Tryz.underlying29,rfl,rfl,rfl,rfl,rfl,rfl,rfl,rfl⟩
theorem qeM {α:Type}: ∀(l:List α),l.length=7-> ∃a b c d e f g,l=[a,b,c,d,e,f,g]
 |[a,b,c,d,e,f,g],_=>⟨a,b,c,d,e,f,g,rfl⟩
theorem qc9 {α:Type}: ∀(l:List α),l.length=4-> ∃a b c d,l=[a,b,c,d]
 |[a,b,c,d],_=>⟨a,b,c,d,rfl⟩
section
variable {H:Type} {enc:TypeId × Value->H} {W:World} {spare:Nat->Bool} {held:Bool} {fuel:Nat} {x:DataW H × List MemPlace}
theorem q8w {cs:Array Value}(hsz:cs.size=Tryz.prog.cellsOf 29)(h:DataW.trod enc Tryz.prog W 0 spare held fuel 29 cs.toList=some x):
  ∃e:Ev,cs=e.c/\e.ok:=by
 obtain ⟨f0,f1,f2,f3,hu,t0,t1,t2,t3,o0,o1,o2,o3⟩:=q5P
 rw[q2n]at hsz
 obtain ⟨xs,n,_,_,_,hxl,hf⟩:=DataW.trod_struct hu h
 obtain ⟨l⟩:=cs
 obtain ⟨v0,v1,v2,v3,v4,v5,v6,rfl⟩:=qeM l hsz
 obtain ⟨y0,y1,y2,y3,rfl⟩:=qc9 xs hxl
 have g0:=hf 0 f0 rfl
 have g1:=hf 1 f1 rfl
 have g2:=hf 2 f2 rfl
 have g3:=hf 3 f3 rfl
 simp[o0,o1,o2,o3,t0,t1,t2,t3,q85,q5z]at g0 g1 g2 g3
 obtain ⟨k,q0,_,hk⟩:=DataW.trod_string Tryz.underlying9 g0
 obtain ⟨t,q1,_,ht⟩:=DataW.trod_string Tryz.underlying9 g1
 obtain ⟨s,q3,_,hs⟩:=DataW.trod_string Tryz.underlying9 g3
 simp only[List.cons.injEq,and_true]at q0 q1 q3
 subst q0 q1 q3
 obtain ⟨zs,m,_,_,_,hzl,hz⟩:=DataW.trod_array Tryz.underlying27 g2
 obtain ⟨z0,z1,z2,z3,rfl⟩:=qc9 zs hzl
 have a0:=hz 0 (by omega)
 have a1:=hz 1 (by omega)
 have a2:=hz 2 (by omega)
 have a3:=hz 3 (by omega)
 simp[q8Z]at a0 a1 a2 a3
 obtain ⟨n0,p0,_,w0⟩:=DataW.trod_int Tryz.underlying2 a0
 obtain ⟨n1,p1,_,w1⟩:=DataW.trod_int Tryz.underlying2 a1
 obtain ⟨n2,p2,_,w2⟩:=DataW.trod_int Tryz.underlying2 a2
 obtain ⟨n3,p3,_,w3⟩:=DataW.trod_int Tryz.underlying2 a3
 simp only[List.cons.injEq,and_true]at p0 p1 p2 p3
 subst p0 p1 p2 p3
 have u0:=bounds_i64 w0
 have u1:=bounds_i64 w1
 have u2:=bounds_i64 w2
 have u3:=bounds_i64 w3
 unfold maxLen at hk ht hs
 exact ⟨⟨k,t,n0,n1,n2,n3,s⟩,rfl,by show k.size<=_;omega,by show t.size<=_;omega,by show s.size<=_;omega,⟨u0.1,by show n0<_;omega⟩,⟨u1.1,by show n1<_;omega⟩,⟨u2.1,by show n2<_;omega⟩,⟨u3.1,by show n3<_;omega⟩⟩
end
end
section
open Go.RowKit Go.Deep
theorem q71 {H:Type}{enc:TypeId × Value->H}{W:World}{spare:Nat->Bool}{held:Bool}{fuel:Nat}{v:Value}{x:DataW H × List MemPlace}
  (h:DataW.trod enc Tryz.prog W 0 spare held fuel 25 [v]=some x):
  ∃(ad:Option Addr) (cap:Nat) (l:List Ev),v= .slice ad l.length cap/\l.length<=9223372036854775807/\EvsAt W ad l/\ ∀y∈l,y.ok:=by
 rcases open_slice Tryz.underlying25 h with ⟨hcs,_⟩|⟨a,len,cap,m,n,D,Pl,hcs,hb,hl,hm,hmm,_,hx⟩
 ·simp only[List.cons.injEq,and_true]at hcs
  subst hcs
  exact ⟨none,0,[],rfl,by simp,fun hne=>absurd rfl hne,by simp⟩
 ·simp only[List.cons.injEq,and_true]at hcs
  subst hcs
  have hlm:len<=m:=by rw[hmm];split <;> omega
  have each: ∀i,i<len-> ∃y:Ev,(∀(j:Nat) (u:Value),y.c[j]?=some u->W.cell? (a.add (i * 7+j))=some u)/\y.ok:=by
   intro i hi
   obtain ⟨cs',h1,h2⟩:=hx i (by omega)
   rw[q2n]at h1
   obtain ⟨_,hlen,hcell⟩:=World.cells?_some h1
   obtain ⟨y,hy,hok⟩:=q8w (cs:=cs'.toArray) (by rw[q2n];simpa using hlen) (by simpa using h2)
   refine ⟨y,fun j u hu=>?_,hok⟩
   rw[<-hy]at hu
   have hj:j<cs'.length:=by
    have:=(Array.getElem?_eq_some_iff.1 hu).1
    simpa using this
   have e0:=hcell j (by omega)
   rw[Go.Deep.add_add]at e0
   rw[e0]
   simpa using hu
  have hinh:Inhabited Ev:=⟨⟨⟨#[]⟩,⟨#[]⟩,0,0,0,0,⟨#[]⟩⟩⟩
  obtain ⟨q,hq⟩:=choose_lt each
  refine ⟨some a,cap,(List.range len).map q,by simp,by simp;unfold maxLen at hm;omega,fun hne=>?_,fun y hy=>?_⟩
  ·have h0:0<len:=by
    rcases Nat.eq_zero_or_pos len with e|e
    ·subst e;simp at hne
    ·exact e
   obtain ⟨b,off,spot⟩:=a
   have hc0:=(hq 0 h0).1 0 _ rfl
   have hspot:spot=none:=by simpa [Addr.add] using World.cell?_spot hc0
   subst hspot
   refine ⟨b,off,rfl,?_,fun i e hi j u hu=>?_⟩
   ·rcases Nat.lt_or_ge b W.heap.size with hlt|hge
    ·exact hlt
    ·exfalso
     rw[Go.WideShapes.add_plain]at hc0
     simp[World.cell?,Array.getElem?_eq_none hge]at hc0
   ·have hi':i<len:=by
     have:=(List.getElem?_eq_some_iff.1 hi).1
     simpa using this
    have he:e=q i:=by
     rw[List.getElem?_map,List.getElem?_range hi']at hi
     simpa using hi.symm
    subst he
    have:=(hq i hi').1 j u hu
    rw[Go.WideShapes.add_plain]at this
    rw[Nat.add_assoc]
    exact this
  ·obtain ⟨i,hi,rfl⟩:=List.mem_map.1 hy
   exact (hq i (List.mem_range.1 hi)).2
end
section
open Go.RowKit Go.Deep
section
variable {H:Type} {enc:TypeId × Value->H} {W:World} {spare:Nat->Bool} {held:Bool} {fuel:Nat} {x:DataW H × List MemPlace}
theorem q6d {ad:Option Addr}{n cap:Nat}(h:DataW.trod enc Tryz.prog W 0 spare held fuel 25 [.slice ad n cap]=some x):n<=cap/\(ad=none->cap=0):=by
 rcases open_slice Tryz.underlying25 h with ⟨hcs,_⟩|⟨a,len,cap,m,k,D,Pl,hcs,hb,hl,hm,hmm,_,hx⟩
 ·simp only[List.cons.injEq,and_true]at hcs
  cases hcs
  exact ⟨Nat.le_refl _,fun _=>rfl⟩
 ·simp only[List.cons.injEq,and_true]at hcs
  cases hcs
  exact ⟨hl,fun e=>by cases e⟩
theorem q6g {ad:Option Addr}{n cap:Nat}(h:DataW.trod enc Tryz.prog W 0 spare held fuel 22 [.slice ad n cap]=some x):n<=cap:=by
 rcases open_slice Tryz.underlying22 h with ⟨hcs,_⟩|⟨a,len,cap,m,k,D,Pl,hcs,hb,hl,hm,hmm,_,hx⟩
 ·simp only[List.cons.injEq,and_true]at hcs
  cases hcs
  exact Nat.le_refl _
 ·simp only[List.cons.injEq,and_true]at hcs
  cases hcs
  exact hl
theorem q3J {sa:Option Addr}{n sc:Nat}{wi:Int}(h:DataW.trod enc Tryz.prog W 0 spare held fuel 24 [.slice sa n sc, .int .i64 wi]=some x):n<=sc:=by
 obtain ⟨f0,f1,hu,t0,t1,o0,o1⟩:=q2x
 obtain ⟨xs,k,_,hxe,_,hxl,hf⟩:=DataW.trod_struct hu h
 match xs,hxl with
 |[y0,y1],_=>
  have g0:=hf 0 f0 rfl
  simp[o0,t0,q2Z]at g0
  exact q6g g0
end
end
end Go.Proofs.YthmgkiehjhgpgaaGreatDoor
