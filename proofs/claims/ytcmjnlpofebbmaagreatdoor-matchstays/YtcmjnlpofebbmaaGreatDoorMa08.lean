/-
  Walks and plain facts, made small.
-/
import Derived.Test.YtcmjnlpofebbmaaGreatDoorMa07
import Derived.Laws.Rows
import Derived.OrdersHeld
import Derived.RangeFuncNested
import Derived.RangeFuncBound
import Derived.RangeFuncCalls
import Derived.RangeFuncLeaves
import Derived.RangeFuncBox
import Derived.Shelf.Abstract
import Derived.Shelf.RegionOpen
import Derived.OwnWalkIn
import Derived.TacticsInMore
import Derived.LoopNIn
import Derived.LoopIn
import Derived.ProofKit
import Derived.OpenShut
import Derived.Deep.Slices
import Derived.Laws.MakeOwn
set_option maxRecDepth 100000
set_option maxHeartbeats 8000000
set_option linter.unusedSimpArgs false
namespace Go.Proofs.YtcmjnlpofebbmaaGreatDoor
open Go.RowKit
def Sh.ok (a:Sh):Prop:=(0<=a.kd/\a.kd<=3)/\0<=a.dp/\a.dp<=1000000
def q5o {α:Type}(n:Nat)(a b:α):List α:=if n=0 then [] else if n=1 then [a] else [a,b]
theorem qdq {p:Pt}{a b:Sh}(h:sds p.kd≠0)(hb:sds p.kd=1->b=⟨0,0⟩):shp p (q5o (sds p.kd) a b)=⟨if q1n p then opK p.kd a.kd b.kd else 0,1+max a.dp b.dp⟩:=by
 have h2:=q20 p.kd
 unfold q5o
 rcases (show sds p.kd=1\/sds p.kd=2 by omega)with e|e
 ·rw[e,hb e,if_neg (by omega),if_pos rfl]
  rfl
 ·rw[e,if_neg (by omega),if_neg (by omega)]
  rfl
theorem q1J:(Tryz.prog.info? 197).map (·.size)=some 2:=by kernel_rfl
theorem CBox.cells2 {g:Nat}{a b:Value}{t:TypeId}{w:World}(h:CBox g #[a,b] t w):w.cell? ⟨g,0,none⟩=some a/\w.cell? ⟨g,1,none⟩=some b:=⟨h.cell rfl,h.cell rfl⟩
theorem qeb {w w1:World}{A B C:Obj}{a b:Value}{t:TypeId}(hb:Below ((((w.alloc A).alloc B).alloc C).alloc (.cells #[a,b] t)).heap.size ((((w.alloc A).alloc B).alloc C).alloc (.cells #[a,b] t)) w1):CBox (w.heap.size+3) #[a,b] t w1:=by
 have h:=CBox.new (((w.alloc A).alloc B).alloc C) #[a,b] t
 rw[show (((w.alloc A).alloc B).alloc C).heap.size=w.heap.size+3 by simp]at h
 unfold CBox
 rw[hb.block _ (by simp)]
 exact h
theorem qbl {w w1:World}{A B C D:Obj}(hb:Below ((((w.alloc A).alloc B).alloc C).alloc D).heap.size ((((w.alloc A).alloc B).alloc C).alloc D) w1):Below w.heap.size w w1:=
 (((((Below.refl _ _).alloc (Nat.le_refl _) _).alloc (by simp) _).alloc (by simp;omega) _).alloc (by simp;omega) _).trans (hb.mono (by simp;omega))
theorem q6w (p:Pt)(a b:Sh)(w:World)(hT:TbE w)(hf:p.fit)(h0:sds p.kd=0):Calls Tryz.prog 117 #[p.v, .agg (rowC p.kd), .agg #[.int .i64 a.kd, .int .i64 a.dp, .int .i64 b.kd, .int .i64 b.dp]] w fun e w'=>e= .returned (.agg #[.int .i64 (lfK p), .int .i64 1])/\Below w.heap.size w w':=by
 have LK:=hZq (fun W hW=>q5Z p W hW hf)
 unfold rowC
 rw[h0]
 have hone:=q1S p.kd
 generalize fnO p.kd=F at *
 generalize txt (sgO p.kd)=S at *
 generalize ofO p.kd=O at *
 generalize isO p.kd=I at *
 generalize lfK p=K at *
 clear hf h0
 unfold Pt.v at *
 have HT:=hZq hT
 clear hT
 go_enter Tryz.func117,Tryz.ntmps117
 go_wp2_with fail
 refine (uQ LK _ ((((uQ HT).alloc _).alloc _).alloc _ |>.alloc _)).mono ?_
 rintro e w1 ⟨rfl,hb⟩
 have hbx:=qeb hb
 obtain ⟨c0,c1⟩:=hbx.cells2
 have z0:=hbx.froz 0
 have z1:=hbx.froz 1
 have HE:Hid (CBox (w.heap.size+3) #[.int .i64 K, .int .i64 1] 197 ((w1.setCell ⟨w.heap.size+3,0,none⟩ (.int .i64 K)).setCell ⟨w.heap.size+3,1,none⟩ (.int .i64 1))/\Below w.heap.size w ((w1.setCell ⟨w.heap.size+3,0,none⟩ (.int .i64 K)).setCell ⟨w.heap.size+3,1,none⟩ (.int .i64 1))):=hZq ⟨(hbx.set 0 _).set 1 _,((qbl hb).setCell (p:=⟨w.heap.size+3,0,none⟩) (by show w.heap.size<=w.heap.size+3;omega) _).setCell (p:=⟨w.heap.size+3,1,none⟩) (by show w.heap.size<=w.heap.size+3;omega) _⟩
 clear hb hbx
 go_wp2
 obtain ⟨hx,hy⟩:=uQ HE
 exact bodyPost_ret (results_cell_row Tryz.results117 _ _ (w.heap.size+3) 197 _ (0,0) _ rfl hx Tryz.underlying197 rfl q1J) rfl ⟨rfl,hy⟩
theorem qbX (w:World)(A B C D X:Obj):(((((w.alloc A).alloc B).alloc C).alloc X).alloc D).heap[w.heap.size+1+1+1]?=some X:=by
 rw[Below.heap_alloc _ _ _ (by simp)]
 have:=heap_alloc_new (((w.alloc A).alloc B).alloc C) X
 rwa [show (((w.alloc A).alloc B).alloc C).heap.size=w.heap.size+1+1+1 by simp]at this
theorem q9Q (w:World)(A B C D X:Obj):Below w.heap.size w (((((w.alloc A).alloc B).alloc C).alloc X).alloc D):=
 (((((Below.refl _ _).alloc (Nat.le_refl _) _).alloc (by simp) _).alloc (by simp;omega) _).alloc (by simp;omega) _).alloc (by simp;omega) _
theorem qda {w W:World}{A C:Obj}{o0 o1 o2 o3 o4 r0 r1 s0 s1:Value}{t t' t'':TypeId}(hk:Kp [] (((((w.alloc A).alloc (.cells #[o0,o1,o2,o3,o4] t)).alloc C).alloc (.cells #[r0,r1] t')).alloc (.cells #[s0,s1] t'')) W):
  W.cell? ⟨w.heap.size+1,3,none⟩=some o3/\W.cell? ⟨w.heap.size+1+1+1,0,none⟩=some r0/\W.cell? ⟨w.heap.size+1+1+1,1,none⟩=some r1/\W.cell? ⟨w.heap.size+1+1+1+1,0,none⟩=some s0/\W.cell? ⟨w.heap.size+1+1+1+1,1,none⟩=some s1/\(∀i,W.frozen? ⟨w.heap.size+1+1+1,i,none⟩=false)/\(∀i,W.frozen? ⟨w.heap.size+1+1+1+1,i,none⟩=false)/\w.heap.size+1+1+1+1<W.heap.size/\Hid (CBox (w.heap.size+1+1+1) #[r0,r1] t' W/\CBox (w.heap.size+1+1+1+1) #[s0,s1] t'' W/\Below w.heap.size w W):=by
 have hb:=hk.below (Nat.le_refl _) (by simp)
 have h1:CBox (w.heap.size+1) #[o0,o1,o2,o3,o4] t W:=by
  unfold CBox
  rw[hb.block _ (by simp),Below.heap_alloc _ _ _ (by simp),Below.heap_alloc _ _ _ (by simp),Below.heap_alloc _ _ _ (by simp)]
  have:=heap_alloc_new (w.alloc A) (.cells #[o0,o1,o2,o3,o4] t)
  rwa [show (w.alloc A).heap.size=w.heap.size+1 by simp]at this
 have h2:CBox (w.heap.size+1+1+1) #[r0,r1] t' W:=by
  unfold CBox
  rw[hb.block _ (by simp)]
  exact qbX w A _ C _ _
 have h3:CBox (w.heap.size+1+1+1+1) #[s0,s1] t'' W:=by
  unfold CBox
  rw[hb.block _ (by simp)]
  have:=heap_alloc_new ((((w.alloc A).alloc (.cells #[o0,o1,o2,o3,o4] t)).alloc C).alloc (.cells #[r0,r1] t')) (.cells #[s0,s1] t'')
  rwa [show ((((w.alloc A).alloc (.cells #[o0,o1,o2,o3,o4] t)).alloc C).alloc (.cells #[r0,r1] t')).heap.size=w.heap.size+1+1+1+1 by simp]at this
 refine ⟨h1.cell rfl,h2.cell rfl,h2.cell rfl,h3.cell rfl,h3.cell rfl,h2.froz,h3.froz,?_,hZq ⟨h2,h3,(q9Q w _ _ _ _ _).trans (hb.mono (by simp;omega))⟩⟩
 have:=hk.size
 simp at this
 omega
theorem q4H {w W:World}{r0 r1 s0 s1:Value}{t t':TypeId}(h:CBox (w.heap.size+1+1+1) #[r0,r1] t W/\CBox (w.heap.size+1+1+1+1) #[s0,s1] t' W/\Below w.heap.size w W)(x y:Int):
  CBox (w.heap.size+1+1+1) #[.int .i64 x, .int .i64 y] t ((W.setCell ⟨w.heap.size+1+1+1,0,none⟩ (.int .i64 x)).setCell ⟨w.heap.size+1+1+1,1,none⟩ (.int .i64 y))/\Below w.heap.size w ((W.setCell ⟨w.heap.size+1+1+1,0,none⟩ (.int .i64 x)).setCell ⟨w.heap.size+1+1+1,1,none⟩ (.int .i64 y)):=
 ⟨(h.1.set 0 _).set 1 _,(h.2.2.setCell (p:=⟨w.heap.size+1+1+1,0,none⟩) (by show w.heap.size<=w.heap.size+1+1+1;omega) _).setCell (p:=⟨w.heap.size+1+1+1,1,none⟩) (by show w.heap.size<=w.heap.size+1+1+1;omega) _⟩
theorem q7L {w W:World}{r0 r1 s0 s1:Value}{t t':TypeId}(h:CBox (w.heap.size+1+1+1) #[r0,r1] t W/\CBox (w.heap.size+1+1+1+1) #[s0,s1] t' W/\Below w.heap.size w W)(z x y:Int):
  CBox (w.heap.size+1+1+1) #[.int .i64 x, .int .i64 y] t (((W.setCell ⟨w.heap.size+1+1+1+1,0,none⟩ (.int .i64 z)).setCell ⟨w.heap.size+1+1+1,0,none⟩ (.int .i64 x)).setCell ⟨w.heap.size+1+1+1,1,none⟩ (.int .i64 y))/\Below w.heap.size w (((W.setCell ⟨w.heap.size+1+1+1+1,0,none⟩ (.int .i64 z)).setCell ⟨w.heap.size+1+1+1,0,none⟩ (.int .i64 x)).setCell ⟨w.heap.size+1+1+1,1,none⟩ (.int .i64 y)):=
 q4H (W:=W.setCell ⟨w.heap.size+1+1+1+1,0,none⟩ (.int .i64 z)) ⟨h.1.kp (Kp.set _ _ _ _) (by simp),h.2.1.set 0 _,h.2.2.setCell (p:=⟨w.heap.size+1+1+1+1,0,none⟩) (by show w.heap.size<=w.heap.size+1+1+1+1;omega) _⟩ x y
theorem q8z (p:Pt)(a b:Sh)(w:World)(h4:4<=p.kd)(h13:p.kd<=13)(ha:a.ok)(hb:b.ok)(hz:p.kd=13->b=⟨0,0⟩):Calls Tryz.prog 117 #[p.v, .agg (rowC p.kd), .agg #[.int .i64 a.kd, .int .i64 a.dp, .int .i64 b.kd, .int .i64 b.dp]] w fun e w'=>e= .returned (.agg #[.int .i64 (if q1n p then opK p.kd a.kd b.kd else 0), .int .i64 (1+max a.dp b.dp)])/\Below w.heap.size w w':=by
 have FT:=hZq (fun W=>qaA (txt (sgO p.kd)) (fnO p.kd) p.kd a.kd b.kd W h4 h13 ha.1.1 ha.1.2 (fun e=>by rw[hz e]))
 have q:=fun W=>eqP 9998 p (opP p.kd) W
 rw[eqPk]at q
 rw[qcY]
 have hone:=q1S p.kd
 have hs0:((sds p.kd:Nat):Int)≠0:=by
  unfold sds
  split
  ·omega
  ·rw[if_pos (by omega)];omega
 unfold rowC
 generalize fnO p.kd=F at *
 generalize txt (sgO p.kd)=S at *
 generalize ofO p.kd=O at *
 generalize isO p.kd=I at *
 generalize sds p.kd=N at *
 generalize fitB p.kd a.kd b.kd=fb at *
 generalize q1n p=bp at *
 obtain ⟨ak,ad⟩:=a
 obtain ⟨bk,bd⟩:=b
 obtain ⟨_,ha1,ha2⟩:=ha
 obtain ⟨_,hb1,hb2⟩:=hb
 clear hz h4 h13
 obtain ⟨kd,n,s,st,fl⟩:=p
 unfold Pt.v opP txt at *
 dsimp only at *
 have g0:((N:Int)==0)=false:=beq_eq_false_iff_ne.2 hs0
 clear hs0
 cases bp with
 |false=>
  go_enter Tryz.func117,Tryz.ntmps117
  go_wp2
  all_goals exact bodyPost_ret (results_cell_row Tryz.results117 _ _ (w.heap.size+1+1+1) 197 _ (0,0) _ rfl (qbX w _ _ _ _ _) Tryz.underlying197 rfl q1J) rfl ⟨rfl,q9Q w _ _ _ _ _⟩
 |true=>
  have HL:=hZq (fun W1 (hk:Kp [] (((((w.alloc (.cells #[.int .i64 kd, .int .i64 n, .string s, .string st, .int .i64 fl] 166)).alloc (.cells #[.string S, .int .i64 (N:Int), .int .u64 O, .int .i64 I,F] 233)).alloc (.cells #[.int .i64 ak, .int .i64 ad, .int .i64 bk, .int .i64 bd] 244)).alloc (.cells #[.int .i64 0, .int .i64 0] 197)).alloc (.cells #[.int .i64 0, .int .i64 (1+max ad bd)] 197)) W1)=>qda hk)
  go_enter Tryz.func117,Tryz.ntmps117
  go_wp2_with (go_at_call 142;refine (uQ FT _).mono ?_;rintro e w1 ⟨rfl,hk⟩;obtain ⟨i3,b0,b1,e0,e1,f0,f1,g0',HB⟩:=uQ HL w1 hk;clear hk HL FT)
  all_goals first
   |exact bodyPost_ret (results_cell_row Tryz.results117 _ _ (w.heap.size+1+1+1) 197 _ (0,0) _ rfl (q7L (uQ HB) I I (1+max ad bd)).1 Tryz.underlying197 rfl q1J) rfl ⟨rfl,(q7L (uQ HB) I I (1+max ad bd)).2⟩
   |exact bodyPost_ret (results_cell_row Tryz.results117 _ _ (w.heap.size+1+1+1) 197 _ (0,0) _ rfl (q4H (uQ HB) 0 (1+max ad bd)).1 Tryz.underlying197 rfl q1J) rfl ⟨rfl,(q4H (uQ HB) 0 (1+max ad bd)).2⟩
theorem q2k (p:Pt)(a b:Sh)(w:World)(hT:TbE w)(hf:p.fit)(ha:a.ok)(hb:b.ok)(hz:sds p.kd=1->b=⟨0,0⟩):Calls Tryz.prog 117 #[p.v, .agg (rowC p.kd), .agg #[.int .i64 a.kd, .int .i64 a.dp, .int .i64 b.kd, .int .i64 b.dp]] w fun e w'=>e= .returned (.agg #[.int .i64 (shp p (q5o (sds p.kd) a b)).kd, .int .i64 (shp p (q5o (sds p.kd) a b)).dp])/\Below w.heap.size w w':=by
 by_cases h0:sds p.kd=0
 ·rw[h0]
  exact q6w p a b w hT hf h0
 ·rw[qdq h0 hz]
  have hk:4<=p.kd/\p.kd<=13:=by
   have:=q20 p.kd
   rcases (show sds p.kd=1\/sds p.kd=2 by omega)with e|e
   ·have:=q4E e;omega
   ·have:=q4F e;omega
  exact q8z p a b w hk.1 hk.2 ha hb (fun e=>hz (by rw[e];rfl))
open Go.RowKit
section
variable {P:Program} {ops:Array Oper} {Q:Exit->Act->World->Prop} {md:Region.Mode} {S:World->Prop} {late:Nat}
def q0a (P:Program)(md:Region.Mode)(ops:Array Oper)(Q:Exit->Act->World->Prop)(S:World->Prop)(late:Nat):Nat->Array Bool->Act->World->Prop
 |0,listed,a,w=>Region.ready md ops listed=[]/\Q .normal a w
 |fuel+1,listed,a,w=>
  (Region.ready md ops listed=[]->Q .normal a w)/\
  ∀i∈Region.ready md ops listed,wpOp P ops Q i (fun a' w'=>(i=late\/S w')/\q0a P md ops Q S late fuel (listed.setIfInBounds i true) a' w') a w
theorem q1H: ∀(fuel:Nat) (listed:Array Bool) (a:Act) (w:World),q0a P md ops Q S late fuel listed a w->wpAny P md ops Q fuel listed a w
 |0,_,_,_,h=>h
 |fuel+1,_,_,_,h=>⟨h.1,fun i hi=>wpOp_mono (fun a' w' h'=>q1H fuel _ a' w' h'.2) (h.2 i hi)⟩
def q1N (md:Region.Mode)(ops:Array Oper)(late i:Nat):Bool:=match ops[late]? with
 |some o=>o.after.any fun e=>Region.binds md e && e.on==i
 |none=>false
theorem q4l {i:Nat}{o:Oper}(ho:ops[late]?=some o)(h:q1N md ops late i=true): ∃e∈o.after,Region.binds md e=true/\e.on=i:=by
 unfold q1N at h
 rw[ho]at h
 simp only[Array.any_eq_true]at h
 obtain ⟨j,hj,hb⟩:=h
 rw[Bool.and_eq_true,beq_iff_eq]at hb
 exact ⟨_,Array.getElem_mem hj,hb.1,hb.2⟩
theorem q6F {i:Nat}{oi:Oper}{v:Value}(hi:ops[i]?=some oi)(hw:q1N md ops late i=true)(hsel: ∀(j:Nat) (o:Oper) cs b,ops[j]?=some o->o.op≠ .select cs b)
  (hQ: ∀c a w,Q (.panic c) (a.put oi.dst v) w->Q (.panic c) a w):
  ∀(fuel:Nat) (listed:Array Bool) (a:Act) (w:World),
   (∀j oj,ops[j]?=some oj->j≠i->listed.getD j true=false->(∀e∈oj.after,Region.binds md e=true->e.on≠i)->oi.apart ops oj=true)->
   i∈Region.ready md ops listed->YieldsIf P ops S oi v a->S w->
   q0a P md ops Q S late fuel (listed.setIfInBounds i true) (a.put oi.dst v) w->q0a P md ops Q S late (fuel+1) listed a w:=by
 intro fuel
 induction fuel with
 |zero=>
  intro listed a w _ hr hy hS H
  refine ⟨fun h=>(by rw[h]at hr;cases hr),fun j hj=>?_⟩
  by_cases hji:j=i
  ·subst hji;exact hy.wpOp hi hS ⟨Or.inr hS,H⟩
  ·have:=ready_mono hj hji
   rw[H.1]at this
   cases this
 |succ fuel ih=>
  intro listed a w hfree hr hy hS H
  refine ⟨fun h=>(by rw[h]at hr;cases hr),fun j hj=>?_⟩
  by_cases hji:j=i
  ·subst hji;exact hy.wpOp hi hS ⟨Or.inr hS,H⟩
  ·have h1:=H.2 j (ready_mono hj hji)
   obtain ⟨hjun,oj,hoj,hall⟩:=mem_ready.1 hj
   have hnot: ∀e∈oj.after,Region.binds md e=true->e.on≠i:=fun e he hb heq=>by
    have h1:=hall e he hb
    have h0:=(mem_ready.1 hr).1
    rw[heq]at h1
    rcases Nat.lt_or_ge i listed.size with h'|h'
    ·simp[h']at h0 h1;rw[h0]at h1;cases h1
    ·simp[Array.getElem?_eq_none h']at h1
   have hjl:j≠late:=by
    rintro rfl
    obtain ⟨e,he,hb,hon⟩:=q4l hoj hw
    exact hnot e he hb hon
   have h1':wpOp P ops Q j (fun a' w'=>S w'/\q0a P md ops Q S late fuel ((listed.setIfInBounds i true).setIfInBounds j true) a' w') (a.put oi.dst v) w:=wpOp_mono (fun a' w' h=>⟨h.1.resolve_left hjl,h.2⟩) h1
   have h2:=wpOp_putIf hoj (hfree j oj hoj hji hjun hnot) (fun cs b=>hsel i oi cs b hi) (fun cs b=>hsel j oj cs b hoj) hQ hy h1'
   have hfree': ∀k ok,ops[k]?=some ok->k≠i->(listed.setIfInBounds j true).getD k true=false->
     (∀e∈ok.after,Region.binds md e=true->e.on≠i)->oi.apart ops ok=true:=fun k ok hk hki hun hno=>by
    refine hfree k ok hk hki ?_ hno
    by_cases hjk:j=k
    ·subst hjk;exact hjun
    ·rw[getD_set_ne true hjk]at hun;exact hun
   refine wpOp_mono (fun a' w' h3=>⟨Or.inr h3.2.1,ih (listed.setIfInBounds j true) a' w' hfree' (ready_mono hr (Ne.symm hji)) h3.1 h3.2.1 ?_⟩) h2
   rw[Array.setIfInBounds_comm _ _ hji]
   exact h3.2.2
theorem q78 {i:Nat}{oi:Oper}{v:Value}{fuel:Nat}{listed:Array Bool}{a:Act}{w:World}(hi:ops[i]?=some oi)
  (hw:q1N md ops late i=true) (hs:Region.noSelect ops=true) (hf:Region.free md ops listed i=true) (hr:(Region.ready md ops listed).contains i=true)
  (hQ: ∀c a w,Q (.panic c) (a.put oi.dst v) w->Q (.panic c) a w) (hy:YieldsIf P ops S oi v a) (hS:S w)
  (h:q0a P md ops Q S late fuel (listed.setIfInBounds i true) (a.put oi.dst v) w):q0a P md ops Q S late (fuel+1) listed a w:=
 q6F hi hw (Region.noSelect_spec hs) hQ fuel listed a w (Region.free_spec hi hf) (by simpa using hr) hy hS h
theorem zzL {i:Nat}{oi:Oper}{v:Value}{fuel:Nat}{listed:Array Bool}{a:Act}{w:World}(hi:ops[i]?=some oi)(hQ:∀ c a w,Q (.panic c) (a.put oi.dst v) w->Q (.panic c) a w)(hy:YieldsIf P ops S oi v a)(hS:S w)(h:q0a P md ops Q S late fuel (listed.setIfInBounds i true) (a.put oi.dst v) w)(hw:q1N md ops late i=true:=by kernel_rfl)(hs:Region.noSelect ops=true:=by kernel_rfl)(hf:Region.free md ops listed i=true:=by kernel_rfl)(hr:(Region.ready md ops listed).contains i=true:=by kernel_rfl):q0a P md ops Q S late (fuel+1) listed a w:=q78 hi hw hs hf hr hQ hy hS h
theorem zzH {i:Nat}{oi:Oper}{v:Value}{fuel:Nat}{listed:Array Bool}{a:Act}{w:World}(hi:ops[i]?=some oi)(hQ:∀ c a w,Q (.panic c) (a.put oi.dst v) w->Q (.panic c) a w)(hy:YieldsIf P ops S oi v a)(hS:S w)(h:wpAnyH P md ops Q S fuel (listed.setIfInBounds i true) (a.put oi.dst v) w)(hs:Region.noSelect ops=true:=by kernel_rfl)(hf:Region.free md ops listed i=true:=by kernel_rfl)(hr:(Region.ready md ops listed).contains i=true:=by kernel_rfl):wpAnyH P md ops Q S (fuel+1) listed a w:=wpAnyH_take hi hs hf hr hQ hy hS h
theorem q01 {i:Nat}{o:Oper}{fuel:Nat}{listed:Array Bool}{a:Act}{w:World}(ho:ops[i]?=some o)(hr:Region.ready md ops listed=[i])
  (h: ∀K:Act->World->Prop,(∀a' w',(i=late\/S w')->q0a P md ops Q S late fuel (listed.setIfInBounds i true) a' w'->K a' w')->if Region.wanted o (yielded ops a.tmps)=true then Oper.wp P o a w K Q else K (a.put o.dst undef) w):q0a P md ops Q S late (fuel+1) listed a w:=by
 refine ⟨fun h0=>(by rw[hr]at h0;cases h0),fun j hj=>?_⟩
 rw[hr,List.mem_singleton]at hj
 subst hj
 have:=h (fun a' w'=>(j=late\/S w')/\q0a P md ops Q S late fuel (listed.setIfInBounds j true) a' w') (fun a' w' h1 h2=>⟨h1,h2⟩)
 unfold wpOp
 rw[ho]
 dsimp only
 split
 ·rename_i hc
  rw[if_pos hc]at this
  exact Or.inl this
 ·rename_i hc
  rw[if_neg hc]at this
  exact this
theorem q0c {listed:Array Bool}{a:Act}{w:World}(hr:Region.ready md ops listed=[])(h:Q .normal a w): ∀fuel,q0a P md ops Q S late fuel listed a w
 |0=>⟨hr,h⟩
 |_+1=>⟨fun _=>h,by rw[hr];simp⟩
theorem q0m (S:World->Prop)(late:Nat){id:Nat}{a:Act}{w:World}(hm:P.follows .mixedOrders=true)
  (h:q0a P .any ops Q S late ops.size (Array.replicate ops.size false) a w.drew):(Code.region id ops true).wp P Q a w:=wp_region_any hm (q1H _ _ _ _ h)
end
open Go.RowKit Go.Shelf
attribute [local go_sem] Oper.semAt_some
section
variable {P:Program} {ops:Array Oper} {Q:Exit->Act->World->Prop} {md:Region.Mode} {l n:Nat}
theorem q9N {row:String}{args:Array Value}{w:World}{R:Value->World->Prop}(h:Rows P row args w R):RowsIn (Fence.wide.inRound l) n P row args w R:=fun c cs _=>
 let ⟨v,w',r,s⟩:=h c cs
 ⟨v,w',r,stepsIn_wide.2 s⟩
theorem q9C {o:Oper}{a:Act}{w:World}{K:Act->World->Prop}(hd: ∀c,o.op≠ .defer c)(h:o.wp P a w K Q):o.wpIn (Fence.wide.inRound l) n P a w K Q:=by
 refine ⟨fun _ _=>trivial,?_⟩
 show o.uponIn _ _ _ _ _ _ ((o.semAt (some l) a.eval).run P w)
 rw[Oper.semAt_some l a.eval o hd]
 unfold Oper.wp at h
 generalize (execOp a.eval o).run P w=r at *
 cases r with
 |ok x w'=>
  cases x <;> first|exact h|exact h.elim|exact ⟨(fun e=>by cases e),CallsIn.inRound l (callsIn_wide.2 h)⟩|exact ⟨(fun e=>by cases e),q9N h⟩
 |halt x w'=>cases x <;> first|exact h|exact h.elim
theorem qcX {i:Nat}{K:Act->World->Prop}{a:Act}{w:World}(hd: ∀(j:Nat) (o:Oper) c,ops[j]?=some o->o.op≠ .defer c)(hl: ¬ LetsOut Q)(h:wpOp P ops Q i K a w):wpOpIn (Fence.wide.inRound l) n P ops Q i K a w:=by
 unfold wpOp at h
 unfold wpOpIn
 cases ho:ops[i]? with
 |none=>rw[ho]at h;exact h
 |some o=>
  rw[ho]at h
  dsimp only at h ⊢
  split
  ·rename_i hw
   rw[if_pos hw]at h
   rcases h with h|h
   ·exact q9C (hd i o · ho) h
   ·exact absurd h.2 hl
  ·rename_i hw
   rw[if_neg hw]at h
   exact ⟨fun _ _=>trivial,h⟩
theorem q5p (hd: ∀(j:Nat) (o:Oper) c,ops[j]?=some o->o.op≠ .defer c)(hl: ¬ LetsOut Q): ∀(fuel:Nat) (listed:Array Bool) (a:Act) (w:World),wpAny P md ops Q fuel listed a w->wpAnyIn (Fence.wide.inRound l) n P md ops Q fuel listed a w
 |0,_,_,_,h=>h
 |fuel+1,_,_,_,h=>⟨h.1,fun i hi=>wpOpIn_mono (fun a' w' h'=>q5p hd hl fuel _ a' w' h') (qcX hd hl (h.2 i hi))⟩
def q4z (ops:Array Oper):Bool:=ops.all fun o=>match o.op with| .defer _=>false|_=>true
theorem q63 (h:q4z ops=true): ∀(j:Nat) (o:Oper) c,ops[j]?=some o->o.op≠ .defer c:=fun j o c ho e=>by
 unfold q4z at h
 rw[Array.all_eq_true]at h
 obtain ⟨hj,rfl⟩:=Array.getElem?_eq_some_iff.1 ho
 have:=h j hj
 rw[e]at this
 cases this
theorem q0l (S:World->Prop)(late:Nat){id:Nat}{a:Act}{w:World}(hm:P.follows .mixedOrders=true)(hd:q4z ops=true)(hl: ¬ LetsOut Q)
  (h:q0a P .any ops Q S late ops.size (Array.replicate ops.size false) a w.drew):(Code.region id ops true).wpIn (Fence.wide.inRound l) n P Q a w:=
 wpIn_region_any hm (q5p (q63 hd) hl _ _ _ _ (q1H _ _ _ _ h))
end
end Go.Proofs.YtcmjnlpofebbmaaGreatDoor
namespace Go.Proofs.YtcmjnlpofebbmaaGreatDoor
open Go.RowKit Go.Deep
def Pt.ok (a:Pt):Prop:=(-9223372036854775808<=a.kd/\a.kd<=9223372036854775807)/\(-9223372036854775808<=a.n/\a.n<=9223372036854775807)/\a.s.size<=9223372036854775807/\a.st.size<=9223372036854775807/\(-9223372036854775808<=a.fl/\a.fl<=9223372036854775807)
def PtsAt (w:World)(ad:Option Addr)(l:List Pt):Prop:=
 l≠[]-> ∃b off,ad=some ⟨b,off,none⟩/\b<w.heap.size/\ ∀i (h:i<l.length),w.cell? ⟨b,off+i * 5,none⟩=some (.int .i64 l[i].kd)/\w.cell? ⟨b,off+i * 5+1,none⟩=some (.int .i64 l[i].n)/\w.cell? ⟨b,off+i * 5+2,none⟩=some (.string l[i].s)/\w.cell? ⟨b,off+i * 5+3,none⟩=some (.string l[i].st)/\w.cell? ⟨b,off+i * 5+4,none⟩=some (.int .i64 l[i].fl)
theorem PtsAt.kp {w w':World}{ad:Option Addr}{l:List Pt}(h:PtsAt w ad l)(hk:Kp [] w w'):PtsAt w' ad l:=fun hl=>by
 obtain ⟨b,off,e,hlt,hc⟩:=h hl
 refine ⟨b,off,e,Nat.lt_of_lt_of_le hlt hk.size,fun i hi=>?_⟩
 obtain ⟨c0,c1,c2,c3,c4⟩:=hc i hi
 exact ⟨hk.cell c0 (by simp),hk.cell c1 (by simp),hk.cell c2 (by simp),hk.cell c3 (by simp),hk.cell c4 (by simp)⟩
theorem PtsAt.at {w:World}{ad:Option Addr}{l:List Pt}(h:PtsAt w ad l)(i:Nat)(hi:i<l.length): ∃b off,ad=some ⟨b,off,none⟩/\b<w.heap.size/\w.cell? ⟨b,off+i * 5,none⟩=some (.int .i64 l[i].kd)/\w.cell? ⟨b,off+i * 5+1,none⟩=some (.int .i64 l[i].n)/\w.cell? ⟨b,off+i * 5+2,none⟩=some (.string l[i].s)/\w.cell? ⟨b,off+i * 5+3,none⟩=some (.string l[i].st)/\w.cell? ⟨b,off+i * 5+4,none⟩=some (.int .i64 l[i].fl):=by
 obtain ⟨b,off,e,hlt,hc⟩:=h (by intro e;subst e;simp at hi)
 exact ⟨b,off,e,hlt,hc i hi⟩
theorem q2v:Tryz.prog.cellsOf 166=5:=by kernel_rfl
theorem q0W:Tryz.prog.cellsOf 3=1:=by kernel_rfl
theorem q2K:Tryz.prog.cellsOf 2=1:=by kernel_rfl
theorem q0G:Tryz.prog.cellsOf 9=1:=by kernel_rfl
theorem q2b: ∃f0 f1 f2 f3 f4:Field,Tryz.prog.underlying 166=some (.struct #[f0,f1,f2,f3,f4])/\f0.type=3/\f1.type=2/\f2.type=9/\f3.type=9/\f4.type=3/\f0.offset=0/\f1.offset=1/\f2.offset=2/\f3.offset=3/\f4.offset=4:=
 ⟨_,_,_,_,_,Tryz.underlying166,rfl,rfl,rfl,rfl,rfl,rfl,rfl,rfl,rfl,rfl⟩
theorem q2X {α:Type}: ∀(l:List α),l.length=5-> ∃x0 x1 x2 x3 x4,l=[x0,x1,x2,x3,x4]
 |[x0,x1,x2,x3,x4],_=>⟨x0,x1,x2,x3,x4,rfl⟩
theorem q6a {H:Type}{enc:TypeId × Value->H}{W:World}{spare:Nat->Bool}{held:Bool}{fuel:Nat}{v:Value}{x:DataW H × List MemPlace}
  (h:DataW.trod enc Tryz.prog W 0 spare held fuel 84 [v]=some x):
  ∃(ad:Option Addr) (cap:Nat) (l:List Pt),v= .slice ad l.length cap/\l.length<=9223372036854775807/\PtsAt W ad l/\ ∀y∈l,y.ok:=by
 obtain ⟨f0,f1,f2,f3,f4,hu,t0,t1,t2,t3,t4,o0,o1,o2,o3,o4⟩:=q2b
 rcases open_slice Tryz.underlying84 h with ⟨hcs,_⟩|⟨a,len,cap,m,n,D,Pl,hcs,hb,hl,hm,hmm,_,hx⟩
 ·simp only[List.cons.injEq,and_true]at hcs
  subst hcs
  exact ⟨none,0,[],rfl,by simp,fun hne=>absurd rfl hne,by simp⟩
 ·simp only[List.cons.injEq,and_true]at hcs
  subst hcs
  have hlm:len<=m:=by rw[hmm];split <;> omega
  have each: ∀i,i<len-> ∃y:Pt,W.cell? (a.add (i * 5))=some (.int .i64 y.kd)/\W.cell? (a.add (i * 5+1))=some (.int .i64 y.n)/\W.cell? (a.add (i * 5+2))=some (.string y.s)/\W.cell? (a.add (i * 5+3))=some (.string y.st)/\W.cell? (a.add (i * 5+4))=some (.int .i64 y.fl)/\y.ok:=by
   intro i hi
   obtain ⟨cs',h1,h2⟩:=hx i (by omega)
   rw[q2v]at h1
   obtain ⟨_,hlen,hcell⟩:=World.cells?_some h1
   obtain ⟨xs,k,hk,hxy,_,hxl,hf⟩:=DataW.trod_struct hu h2
   obtain ⟨y0,y1,y2,y3,y4,rfl⟩:=q2X xs hxl
   obtain ⟨v0,v1,v2,v3,v4,rfl⟩:=q2X cs' hlen
   have g0:=hf 0 f0 rfl
   have g1:=hf 1 f1 rfl
   have g2:=hf 2 f2 rfl
   have g3:=hf 3 f3 rfl
   have g4:=hf 4 f4 rfl
   simp[o0,o1,o2,o3,o4,t0,t1,t2,t3,t4,q0W,q2K,q0G]at g0 g1 g2 g3 g4
   have e0:=hcell 0 (by omega)
   have e1:=hcell 1 (by omega)
   have e2:=hcell 2 (by omega)
   have e3:=hcell 3 (by omega)
   have e4:=hcell 4 (by omega)
   rw[Go.Deep.add_add]at e0 e1 e2 e3 e4
   obtain ⟨k0,q0,_,wf0⟩:=DataW.trod_int Tryz.underlying3 g0
   obtain ⟨k1,q1,_,wf1⟩:=DataW.trod_int Tryz.underlying2 g1
   obtain ⟨k2,q2,_,wf2⟩:=DataW.trod_string Tryz.underlying9 g2
   obtain ⟨k3,q3,_,wf3⟩:=DataW.trod_string Tryz.underlying9 g3
   obtain ⟨k4,q4,_,wf4⟩:=DataW.trod_int Tryz.underlying3 g4
   simp only[List.cons.injEq,and_true]at q0 q1 q2 q3 q4
   subst q0 q1 q2 q3 q4
   have b0:=bounds_i64 wf0
   have b1:=bounds_i64 wf1
   unfold maxLen at wf2
   unfold maxLen at wf3
   have b4:=bounds_i64 wf4
   exact ⟨⟨k0,k1,k2,k3,k4⟩,by simpa using e0,by simpa using e1,by simpa using e2,by simpa using e3,by simpa using e4,⟨b0.1,by show k0<=_;omega⟩,⟨b1.1,by show k1<=_;omega⟩,by show k2.size<=_;omega,by show k3.size<=_;omega,⟨b4.1,by show k4<=_;omega⟩⟩
  have hinh:Inhabited Pt:=⟨⟨0,0,⟨#[]⟩,⟨#[]⟩,0⟩⟩
  obtain ⟨q,hq⟩:=choose_lt each
  refine ⟨some a,cap,(List.range len).map q,by simp,by simp;unfold maxLen at hm;omega,fun hne=>?_,fun y hy=>?_⟩
  ·have h0:0<len:=by
    rcases Nat.eq_zero_or_pos len with e|e
    ·subst e;simp at hne
    ·exact e
   obtain ⟨b,off,spot⟩:=a
   have hc0:=(hq 0 h0).1
   have hspot:spot=none:=by simpa [Addr.add] using World.cell?_spot hc0
   subst hspot
   refine ⟨b,off,rfl,?_,fun i hi=>?_⟩
   ·rcases Nat.lt_or_ge b W.heap.size with hlt|hge
    ·exact hlt
    ·exfalso
     rw[Go.WideShapes.add_plain]at hc0
     simp[World.cell?,Array.getElem?_eq_none hge]at hc0
   ·have hi':i<len:=by simpa using hi
    obtain ⟨c0,c1,c2,c3,c4,_⟩:=hq i hi'
    rw[Go.WideShapes.add_plain]at c0 c1 c2 c3 c4
    simp only[List.getElem_map,List.getElem_range]
    exact ⟨c0,by rw[Nat.add_assoc];exact c1,by rw[Nat.add_assoc];exact c2,by rw[Nat.add_assoc];exact c3,by rw[Nat.add_assoc];exact c4⟩
  ·obtain ⟨i,hi,rfl⟩:=List.mem_map.1 hy
   exact (hq i (List.mem_range.1 hi)).2.2.2.2.2
open Go.RowKit Go.Shelf
attribute [local go_sem] Oper.semAt_some
def bkL (xs:List Pt):Nat->List (Fin xs.length)
 |0=>[]
 |k+1=>bkL xs k++(if h:k<xs.length then [⟨xs.length-1-k,by omega⟩] else [])
theorem qbZ (xs:List Pt)(k:Nat)(h:k<=xs.length):(bkL xs k).length=k:=by
 induction k with
 |zero=>rfl
 |succ k ih=>rw[bkL,List.length_append,ih (by omega),dif_pos (by omega)];rfl
theorem q3z (xs:List Pt)(k:Nat)(h:k<xs.length):bkL xs (k+1)=bkL xs k++[⟨xs.length-1-k,by omega⟩]:=by rw[bkL,dif_pos h]
theorem q3j (xs:List Pt)(k:Nat)(h:k<=xs.length):((bkL xs k).map fun i=>xs[i]).reverse=xs.drop (xs.length-k):=by
 induction k with
 |zero=>rw[Nat.sub_zero,List.drop_length];rfl
 |succ k ih=>
  rw[q3z xs k (by omega),List.map_append,List.reverse_append,ih (by omega)]
  have e:xs.length-(k+1)=xs.length-1-k:=by omega
  rw[e,List.drop_eq_getElem_cons (i:=xs.length-1-k) (by omega),show xs.length-1-k+1=xs.length-k by omega]
  rfl
def PtsLow (n₀:Nat)(W:World)(ad:Option Addr)(xs:List Pt):Prop:= ∀j (h:j<xs.length), ∃b off,ad=some ⟨b,off,none⟩/\b<n₀/\W.cell? ⟨b,off+j * 5,none⟩=some (.int .i64 xs[j].kd)/\W.cell? ⟨b,off+j * 5+1,none⟩=some (.int .i64 xs[j].n)/\W.cell? ⟨b,off+j * 5+2,none⟩=some (.string xs[j].s)/\W.cell? ⟨b,off+j * 5+3,none⟩=some (.string xs[j].st)/\W.cell? ⟨b,off+j * 5+4,none⟩=some (.int .i64 xs[j].fl)
theorem PtsLow.below {n₀:Nat}{A B:World}{ad:Option Addr}{xs:List Pt}(h:PtsLow n₀ A ad xs)(hb:Below n₀ A B):PtsLow n₀ B ad xs:=fun j hj=>by
 obtain ⟨b,off,e,hlt,c0,c1,c2,c3,c4⟩:=h j hj
 exact ⟨b,off,e,hlt,(hb.cell (p:=⟨b,_,none⟩) hlt).trans c0,(hb.cell (p:=⟨b,_,none⟩) hlt).trans c1,(hb.cell (p:=⟨b,_,none⟩) hlt).trans c2,(hb.cell (p:=⟨b,_,none⟩) hlt).trans c3,(hb.cell (p:=⟨b,_,none⟩) hlt).trans c4⟩
theorem PtsLow.of {w:World}{ad:Option Addr}{xs:List Pt}(h:PtsAt w ad xs):PtsLow w.heap.size w ad xs:=fun j hj=>by
 obtain ⟨b,off,e,hlt,c⟩:=h.at j hj
 exact ⟨b,off,e,hlt,c⟩
def KpB (n₀ Bs:Nat)(A B:World):Prop:=Below n₀ A B/\B.heap[Bs]?=A.heap[Bs]?
theorem KpB.trans {n₀ Bs:Nat}{A B C:World}(h:KpB n₀ Bs A B)(k:KpB n₀ Bs B C):KpB n₀ Bs A C:=⟨h.1.trans k.1,k.2.trans h.2⟩
theorem KpB.put {n₀ Bs:Nat}{w:World}(hn:n₀<=w.heap.size)(hB:Bs<w.heap.size)(W:World)(l:Nat)(o o':Obj)(hl:w.heap.size<=l)(h:W.heap[l]?=some o)(h1:o.isCells=false)(h2:o.isWalk=false):KpB n₀ Bs W (W.putObj l o'):=
 ⟨belowK_b hn W l o o' hl h h1 h2,World.putObj_heap_other (by omega)⟩
theorem qab (n:Nat)(l Bs n₀ cap:Nat)(ad:Option Addr)(xs:List Pt)(hsz:xs.length<=1000000)(J Jx:List (Fin xs.length)->World->Prop)
  (hY: ∀pre x W,J pre W->pre.length<xs.length->YieldAt Fence.wide (n-1) Tryz.prog l #[.int .i64 (x.val:Int),(xs[x]).v] W fun e W'=>
   (e= .returned (.bool true)/\J (pre++[x]) W'/\KpB n₀ Bs W W')\/(e= .returned (.bool false)/\Jx (pre++[x]) W'))
  (W:World) (hBs:W.cell? ⟨Bs,0,none⟩=some (.slice ad xs.length cap)) (hc:PtsLow n₀ W ad xs) (h0:J [] W):
  CallsIn Fence.wide n Tryz.prog 173 #[.func (.yield l) #[] #[], .pointer (some ⟨Bs,0,none⟩)] W fun e W'=>(∃v,e= .returned v)/\
   ((∃ys,ys=bkL xs xs.length/\J ys W')\/(∃pre,(∃k,k<=xs.length/\pre=bkL xs k)/\Jx pre W')):=by
 refine callsIn_of_wp Tryz.func173 rfl trivial ?_ rfl
 simp only[Tryz.ntmps173,List.size_toArray,List.length_cons,List.length_nil,Nat.reduceAdd,Nat.reduceSub,Array.replicate_succ,Array.replicate_zero,List.push_toArray,List.append_toArray,List.nil_append,List.cons_append]
 gi_wp2
 gi_loopw [3] (fun i wr=> ∃k:Nat,k<=xs.length/\i= .int .i64 ((xs.length:Int)-1-k)/\J (bkL xs k) wr/\Hid (KpB n₀ Bs W wr)) (fun i _=>(intOf i+1).toNat)
 case atStart=>exact ⟨0,Nat.zero_le _,by go_num,h0,hZq ⟨Below.refl _ _,rfl⟩⟩
 case round=>
  obtain ⟨k,hk,rfl,hJs,HB⟩:=hrel
  have hBs':wr.cell? ⟨Bs,0,none⟩=some (.slice ad xs.length cap):=(World.cell?_of_block (uQ HB).2).trans hBs
  by_cases hlt:k<xs.length
  ·obtain ⟨b,off,rfl,hbn,c0,c1,c2,c3,c4⟩:=(hc.below (uQ HB).1) (xs.length-1-k) (by omega)
   obtain ⟨m,hm⟩: ∃m:Nat,xs.length-1-k=m:=⟨_,rfl⟩
   have d0:wr.cell? ⟨b,off+m * 5,none⟩=some (.int .i64 (xs[m]'(by omega)).kd):=by subst hm;exact c0
   have d1:wr.cell? ⟨b,off+m * 5+1,none⟩=some (.int .i64 (xs[m]'(by omega)).n):=by subst hm;exact c1
   have d2:wr.cell? ⟨b,off+m * 5+2,none⟩=some (.string (xs[m]'(by omega)).s):=by subst hm;exact c2
   have d3:wr.cell? ⟨b,off+m * 5+3,none⟩=some (.string (xs[m]'(by omega)).st):=by subst hm;exact c3
   have d4:wr.cell? ⟨b,off+m * 5+4,none⟩=some (.int .i64 (xs[m]'(by omega)).fl):=by subst hm;exact c4
   obtain ⟨fn,tmps,assign,body,hy,hR⟩:=hY _ ⟨xs.length-1-k,by omega⟩ wr hJs (by rw[qbZ xs k hk];exact hlt)
   have HR:=hZq hR
   have hm2:m<xs.length:=by omega
   have e1:(xs.length:Int)-1-(k:Int)=(m:Int):=by omega
   have hy2:Sem.run Tryz.prog (Instr.yield l #[.int .i64 (m:Int), .agg #[.int .i64 (xs[m]'hm2).kd, .int .i64 (xs[m]'hm2).n, .string (xs[m]'hm2).s, .string (xs[m]'hm2).st, .int .i64 (xs[m]'hm2).fl]]) wr= .ok (.round l fn tmps assign body) wr:=by
    subst hm
    exact hy
   have HJ:=hZq hJs
   rw[e1]
   generalize xs[m]'hm2=q at *
   obtain ⟨qk,qn,qs,qt,qf⟩:=q
   dsimp only at *
   clear hy hR hBs hc h0 c0 c1 c2 c3 c4 hJs
   gi_wp2
   refine ⟨(fun h=>by cases h),?_⟩
   refine (uQ HR).mono ?_
   rintro e W3 (⟨rfl,hJ3,hk3⟩|⟨rfl,hJx3⟩)
   all_goals clear HR
   ·gi_wp2
    go_roundw
    case rel=>exact ⟨k+1,by omega,by go_num,by rw[q3z xs k hlt];exact hJ3,hZq ((uQ HB).trans hk3)⟩
    case measure=>simp[intOf]
   ·gi_wp2
    refine bodyPost_ret (results_none rfl _ _ _) rfl ?_
    exact ⟨⟨_,rfl⟩, .inr ⟨_,⟨k+1,by omega,(q3z xs k hlt).symm⟩,hJx3⟩⟩
  ·obtain rfl:k=xs.length:=by omega
   have e1:(xs.length:Int)-1-(xs.length:Int)= -1:=by omega
   rw[e1]
   gi_wp2
   go_end0
   exact ⟨⟨_,rfl⟩, .inl ⟨_,rfl,hJs⟩⟩
theorem q7d (n:Nat)(ad:Option Addr)(len cap:Nat)(w:World):CallsIn Fence.wide n Tryz.prog 139 #[.slice ad len cap] w fun e w'=>e= .returned (.func (.func 173) #[] #[.pointer (some ⟨w.heap.size,0,none⟩)])/\w'=w.alloc (.cells #[.slice ad len cap] 84):=by
 refine callsIn_of_wp Tryz.func139 rfl trivial ?_ rfl
 simp only[Tryz.ntmps139,List.size_toArray,List.length_cons,List.length_nil,Nat.reduceAdd,Nat.reduceSub,Array.replicate_succ,Array.replicate_zero,List.push_toArray,List.append_toArray,List.nil_append,List.cons_append]
 gi_wp2
 go_ret
 exact ⟨rfl,rfl⟩
theorem q3U (n:Nat)(Bs n₀ cap:Nat)(ad:Option Addr)(xs:List Pt)(hsz:xs.length<=1000000)(w:World)(hn₀:n₀<=w.heap.size)(hBs:w.cell? ⟨Bs,0,none⟩=some (.slice ad xs.length cap))(hc:PtsLow n₀ w ad xs):
  SeqStopsK Fence.wide n Tryz.prog 173 #[.pointer (some ⟨Bs,0,none⟩)] (fun x:Fin xs.length=>#[.int .i64 (x.val:Int),(xs[x]).v]) (KpB n₀ Bs) (fun ys=>ys=bkL xs xs.length) (fun pre=> ∃k,k<=xs.length/\pre=bkL xs k) xs.length w:=fun l J Jx W hW _ _ hY h0=>
 qab n l Bs n₀ cap ad xs hsz J Jx hY W ((hW.cell (p:=⟨Bs,0,none⟩) (World.block_lt_of_cell? _ _ hBs)).trans hBs) (hc.below (hW.mono hn₀)) h0
end Go.Proofs.YtcmjnlpofebbmaaGreatDoor
namespace Go.Proofs.YtcmjnlpofebbmaaGreatDoor
open Go.RowKit
theorem q3o {α:Type}(enc:α->List Value)(sz:Nat)(he: ∀a,(enc a).length=sz): ∀(l:List α) (j i:Nat) (h:j<l.length),i<sz->(l.flatMap enc)[j * sz+i]?=(enc l[j])[i]?
 |a::r,0,i,_,hi=>by
  rw[List.flatMap_cons,Nat.zero_mul,Nat.zero_add,List.getElem?_append_left (by rw[he];exact hi)]
  rfl
 |a::r,j+1,i,h,hi=>by
  rw[List.flatMap_cons,List.getElem?_append_right (by rw[he,Nat.add_mul];omega),he,show (j+1) * sz+i-sz=j * sz+i by rw[Nat.add_mul];omega,q3o enc sz he r j i (by simpa using h) hi]
  rfl
theorem q1W {α:Type}(enc:α->List Value)(sz:Nat)(he: ∀a,(enc a).length=sz)(l:List α):(l.flatMap enc).length=l.length * sz:=by
 induction l with
 |nil=>simp
 |cons a r ih=>rw[List.flatMap_cons,List.length_append,ih,he,List.length_cons,Nat.add_mul];omega
theorem q28 {α:Type}(enc:α->List Value)(sz:Nat)(he: ∀a,(enc a).length=sz)(l:List α)(m:Nat):(l.flatMap enc).take (m * sz)=(l.take m).flatMap enc:=by
 induction l generalizing m with
 |nil=>simp
 |cons a r ih=>
  cases m with
  |zero=>simp
  |succ m=>
   rw[List.flatMap_cons,List.take_succ_cons,List.flatMap_cons, <-ih m,List.take_append,he,List.take_of_length_le (by rw[he,Nat.add_mul];omega),show (m+1) * sz-sz=m * sz by rw[Nat.add_mul];omega]
theorem q6g {w:World}{B e sz g n cap:Nat}{xs:List Value}(h:w.ownsRow B e sz (.slice (some ⟨g,0,none⟩) n cap) n xs)(m:Nat)(hm:m<=n):w.ownsRow B e sz (.slice (some ⟨g,0,none⟩) m cap) m (xs.take (m * sz)):=by
 obtain ⟨h1,⟨h2,_⟩|⟨g',cap',cur,h2,h3,h4,h5,h6,h7,h8⟩⟩:=h
 ·cases h2
 ·cases h2
  have hmn:m * sz<=n * sz:=Nat.mul_le_mul_right _ hm
  refine ⟨by rw[List.length_take,h1];omega,Or.inr ⟨g,cap,cur,rfl,h3,h4,by omega,h6,h7,?_⟩⟩
  rw[<-h8,List.take_take,Nat.min_eq_left hmn]
theorem q0t {α:Type}{enc:α->List Value}{sz:Nat}(he: ∀a,(enc a).length=sz){w:World}{B e g cap:Nat}{l:List α}(h:w.ownsRow B e sz (.slice (some ⟨g,0,none⟩) l.length cap) l.length (l.flatMap enc))(j i:Nat)(hj:j<l.length)(hi:i<sz):w.cell? ⟨g,j * sz+i,none⟩=(enc l[j])[i]?:=by
 have hlt:j * sz+i<l.length * sz:=by
  have:(j+1) * sz<=l.length * sz:=Nat.mul_le_mul_right _ hj
  rw[Nat.add_mul]at this
  omega
 rw[World.ownsRow.cellAt h (j * sz+i) hlt]
 exact q3o enc sz he l j i hj hi
theorem q0b {g:Nat}{cs:Array Value}{t:TypeId}{W W':World}{row:Option Nat}(h:CBox g cs t W)(hg:W.grownBy W' row)(hr: ∀r,row=some r-> ∃o:Obj,W.heap[r]?=some o/\o.isCells=false):CBox g cs t W':=by
 unfold CBox at *
 rw[hg.block g (Array.getElem?_eq_some_iff.1 h).1 (fun e=>by
  obtain ⟨o,ho,hc⟩:=hr g e.symm
  rw[h]at ho
  cases ho
  cases hc)]
 exact h
theorem q7K {W W':World}{row:Option Nat}{B e sz n:Nat}{v:Value}{xs:List Value}(h:W.ownsRow B e sz v n xs)(hg:W.grownBy W' row)(hr: ∀r,row=some r-> ∃o:Obj,W.heap[r]?=some o/\o.isCells=false):W'.ownsRow B e sz v n xs:=by
 obtain ⟨h1,h2|⟨g,cap,cur,h2,h3,h4,h5,h6,h7,h8⟩⟩:=h
 ·exact ⟨h1,Or.inl h2⟩
 ·exact ⟨h1,Or.inr ⟨g,cap,cur,h2,h3,q0b (show CBox g cur e W from h4) hg hr,h5,h6,h7,h8⟩⟩
theorem q02 {W W':World}{F:List Nat}{B e sz n:Nat}{v:Value}{xs:List Value}(h:W.ownsRow B e sz v n xs)(hk:Kp F W W')(hF: ∀g,v.ownBlock=some g->g∉F):W'.ownsRow B e sz v n xs:=by
 obtain ⟨h1,h2|⟨g,cap,cur,h2,h3,h4,h5,h6,h7,h8⟩⟩:=h
 ·exact ⟨h1,Or.inl h2⟩
 ·refine ⟨h1,Or.inr ⟨g,cap,cur,h2,h3,CBox.kp (show CBox g cur e W from h4) hk (hF g (by rw[h2];rfl)),h5,h6,h7,h8⟩⟩
theorem q0d {W:World}{B e sz n g:Nat}{v:Value}{xs:List Value}{cs:Array Value}{t:TypeId}(h:W.ownsRow B e sz v n xs)(hg:CBox g cs t W)(ht:t≠e):v.ownBlock≠some g:=fun he=>by
 obtain ⟨_,⟨rfl,_⟩|⟨g',cap,cur,rfl,_,h4,_⟩⟩:=h
 ·cases he
 ·simp[Value.ownBlock]at he
  subst he
  unfold CBox at hg
  rw[h4]at hg
  cases hg
  exact ht rfl
theorem KeepsOthers.ofKp {W W':World}(h:Kp [] W W'):KeepsOthers W W':=⟨h.size,fun k _ hk _=>(h.block k (Array.getElem?_eq_some_iff.1 hk).1 (by simp)).trans hk⟩
theorem q3s {α:Type}{ev:Pt->List α->α}{x:List Pt}{l:List α}(h:stk ev x=some l):l.length<=x.length:=by
 obtain ⟨ts,_,rfl,rfl⟩:=q2Q ev x l h
 rw[List.length_map]
 clear h
 induction ts with
 |nil=>simp
 |cons t r ih=>rw[List.flatMap_cons,List.length_append,List.length_cons];have:=t.flat_pos;have:=ih (by simp_all);omega
theorem q4d {α:Type}(ev:Pt->List α->α)(a b:List Pt)(h:stk ev b=none):stk ev (a++b)=none:=by
 induction a with
 |nil=>exact h
 |cons p r ih=>rw[List.cons_append,stk,ih]
end Go.Proofs.YtcmjnlpofebbmaaGreatDoor
