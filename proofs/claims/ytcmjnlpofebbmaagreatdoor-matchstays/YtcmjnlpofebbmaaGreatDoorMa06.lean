/-
  Walks and plain facts, made small.
-/
import Derived.Test.YtcmjnlpofebbmaaGreatDoorMa05
import Derived.Lib.SlicesS
import Derived.Laws.RangeAny
import Derived.Lib.MapLaws
import Derived.Deep.LoopGhost
import Derived.Lib.IndexAny
import Derived.WalkMore
import Derived.Deep.RegionHeld3
import Derived.Lib.OthersKept
set_option maxRecDepth 100000
set_option maxHeartbeats 8000000
set_option linter.unusedSimpArgs false
namespace Go.Proofs.YtcmjnlpofebbmaaGreatDoor
open Go.RowKit
def EBox (g:Nat)(e:Ev)(w:World):Prop:=w.heap[g]?=some (.cells e.c 29 (0,0))
theorem EBox.cells {g:Nat}{e:Ev}{w:World}(h:EBox g e w):w.cell? ⟨g,0,none⟩=some (.string e.k)/\w.cell? ⟨g,1,none⟩=some (.string e.t)/\w.cell? ⟨g,2,none⟩=some (.int .i64 e.n0)/\w.cell? ⟨g,3,none⟩=some (.int .i64 e.n1)/\w.cell? ⟨g,4,none⟩=some (.int .i64 e.n2)/\w.cell? ⟨g,5,none⟩=some (.int .i64 e.n3)/\w.cell? ⟨g,6,none⟩=some (.string e.x):=by
 unfold EBox Ev.c at h
 simp[World.cell?,h]
theorem EBox.lt {g:Nat}{e:Ev}{w:World}(h:EBox g e w):g<w.heap.size:=by
 unfold EBox at h
 rcases Nat.lt_or_ge g w.heap.size with h1|h1
 ·exact h1
 ·rw[Array.getElem?_eq_none h1]at h;cases h
theorem EBox.below {g B:Nat}{e:Ev}{w w':World}(h:EBox g e w)(hb:Below B w w')(hB:g<B):EBox g e w':=by unfold EBox;rw[hb.block g hB];exact h
open Go.RowKit
def EvsAt (w:World)(ad:Option Addr)(l:List Ev):Prop:=l≠[]-> ∃b off,ad=some ⟨b,off,none⟩/\b<w.heap.size/\ ∀(i:Nat) (e:Ev),l[i]?=some e-> ∀(j:Nat) (u:Value),e.c[j]?=some u->w.cell? ⟨b,off+i * 7+j,none⟩=some u
theorem EvsAt.kp {F:List Nat}{w w':World}{ad:Option Addr}{l:List Ev}(h:EvsAt w ad l)(hk:Kp F w w')(hF: ∀b off,ad=some ⟨b,off,none⟩->b∉F):EvsAt w' ad l:=fun hl=>by
 obtain ⟨b,off,e,hlt,hc⟩:=h hl
 exact ⟨b,off,e,Nat.lt_of_lt_of_le hlt hk.size,fun i x hx j u hu=>hk.cell (hc i x hx j u hu) (hF b off e)⟩
theorem EvsAt.seven {w:World}{ad:Option Addr}{l:List Ev}(h:EvsAt w ad l)(k:Nat)(hk:k<l.length): ∃b off,ad=some ⟨b,off,none⟩/\w.cell? ⟨b,off+k * 7,none⟩=some (.string l[k].k)/\w.cell? ⟨b,off+k * 7+1,none⟩=some (.string l[k].t)/\w.cell? ⟨b,off+k * 7+2,none⟩=some (.int .i64 l[k].n0)/\w.cell? ⟨b,off+k * 7+3,none⟩=some (.int .i64 l[k].n1)/\w.cell? ⟨b,off+k * 7+4,none⟩=some (.int .i64 l[k].n2)/\w.cell? ⟨b,off+k * 7+5,none⟩=some (.int .i64 l[k].n3)/\w.cell? ⟨b,off+k * 7+6,none⟩=some (.string l[k].x):=by
 obtain ⟨b,off,e,_,hc⟩:=h (by rintro rfl;simp at hk)
 have q:=hc k l[k] (List.getElem?_eq_getElem hk)
 exact ⟨b,off,e,q 0 _ rfl,q 1 _ rfl,q 2 _ rfl,q 3 _ rfl,q 4 _ rfl,q 5 _ rfl,q 6 _ rfl⟩
structure Vl where
 n:Int
 s:ByteArray
 t:Bool
def noB:ByteArray:=⟨#[]⟩
structure Mo where
 e:Ev
 ns:List ByteArray
 la:List Ev
def fstN (s:ByteArray):List ByteArray->Nat
 |[]=>0
 |n::r=>if n.data.toList=s.data.toList then 0 else fstN s r+1
def evZ:Ev:=⟨noB,noB,0,0,0,0,noB⟩
def Mo.at (M:Mo)(s:ByteArray):Ev:=if q05 s then M.e else M.la.getD (fstN s M.ns) evZ
def evN (e:Ev)(f:Int):Int:=if f=0 then e.n0 else if f=1 then e.n1 else if f=2 then e.n2 else e.n3
def fdV (e:Ev)(f:Int):Vl:=if f=4 then ⟨0,e.t,false⟩ else if f=5 then ⟨0,e.x,false⟩ else ⟨evN e f,noB,false⟩
def lfV (M:Mo)(p:Pt):Vl:=if p.kd=1 then ⟨p.n,noB,false⟩ else if p.kd=2 then ⟨0,p.s,false⟩ else fdV (M.at p.st) p.fl
def eqV (a b:Vl):Bool:=decide (a.n=b.n) && (decide (a.s.data.toList=b.s.data.toList) && decide (a.t=b.t))
def opV (k:Int)(a b:Vl):Vl:=
 if k=4 then ⟨IntKind.i64.wrap (a.n+b.n),noB,false⟩
 else if k=5 then ⟨IntKind.i64.wrap (a.n-b.n),noB,false⟩
 else if k=6 then ⟨IntKind.i64.wrap (a.n * b.n),noB,false⟩
 else if k=7 then ⟨0,noB,decide (a.n<b.n)⟩
 else if k=8 then ⟨0,noB,decide (a.n<=b.n)⟩
 else if k=9 then ⟨0,noB,eqV a b⟩
 else if k=10 then ⟨0,noB, !eqV a b⟩
 else if k=11 then ⟨0,noB,a.t && b.t⟩
 else if k=12 then ⟨0,noB,a.t||b.t⟩
 else ⟨0,noB, !a.t⟩
def vlv (M:Mo)(p:Pt):List Vl->Vl
 |[]=>lfV M p
 |[a]=>opV p.kd a ⟨0,noB,false⟩
 |a::b::_=>opV p.kd a b
def hasN (ns:List ByteArray)(s:ByteArray):Bool:=decide (fstN s ns<ns.length)
def hasS (ns:List ByteArray)(x:List Pt):Bool:=x.all fun p=>q05 p.st||hasN ns p.st
def hdE (x:List Pt)(M:Mo):Int:=if ckK x≠3 then 110 else if M.ns.length≠M.la.length\/hasS M.ns x=false then 5 else 0
def hdB (x:List Pt)(M:Mo):Bool:=if hdE x M≠0 then false else match fdX (vlv M) x with
 |some v=>v.t
 |none=>false
open Go.RowKit
def NmsAt (w:World)(ad:Option Addr)(l:List ByteArray):Prop:=l≠[]-> ∃b off,ad=some ⟨b,off,none⟩/\b<w.heap.size/\ ∀i (h:i<l.length),w.cell? ⟨b,off+i,none⟩=some (.string l[i])
theorem NmsAt.kp {F:List Nat}{w w':World}{ad:Option Addr}{l:List ByteArray}(h:NmsAt w ad l)(hk:Kp F w w')(hF: ∀b off,ad=some ⟨b,off,none⟩->b∉F):NmsAt w' ad l:=fun hl=>by
 obtain ⟨b,off,e,hlt,hc⟩:=h hl
 exact ⟨b,off,e,Nat.lt_of_lt_of_le hlt hk.size,fun i hi=>hk.cell (hc i hi) (hF b off e)⟩
theorem data_inj {a b:ByteArray}:a.data.toList=b.data.toList↔a=b:=⟨fun h=>by rw[<-q0z a, <-q0z b,h],fun h=>by rw[h]⟩
theorem qcD (s:ByteArray)(l:List ByteArray):fstN s l<=l.length:=by
 induction l with
 |nil=>exact Nat.le_refl _
 |cons n r ih=>rw[fstN];split;exact Nat.zero_le _;rw[List.length_cons];omega
theorem q1v {s:ByteArray}{l:List ByteArray}(h:fstN s l<l.length):l[fstN s l]=s/\ ∀j (hj:j<fstN s l),l[j]≠s:=by
 induction l with
 |nil=>exact absurd h (Nat.not_lt_zero _)
 |cons n r ih=>
  by_cases he:n.data.toList=s.data.toList
  ·have e:fstN s (n::r)=0:=by rw[fstN,if_pos he]
   refine ⟨?_,fun j hj=>absurd hj (by omega)⟩
   simp only[e,List.getElem_cons_zero]
   exact data_inj.1 he
  ·have e:fstN s (n::r)=fstN s r+1:=by rw[fstN,if_neg he]
   have h2:fstN s r<r.length:=by rw[e,List.length_cons]at h;omega
   obtain ⟨h3,h4⟩:=ih h2
   refine ⟨?_,fun j hj=>?_⟩
   ·simp only[e,List.getElem_cons_succ]
    exact h3
   ·cases j with
    |zero=>exact fun e=>he (by rw[<-e];rfl)
    |succ j=>exact h4 j (by omega)
theorem q2E (s:ByteArray)(l:List ByteArray):fstN s l<l.length↔s∈l:=by
 constructor
 ·intro h
  have:=(q1v h).1
  rw[<-this]
  exact List.getElem_mem _
 ·intro h
  induction l with
  |nil=>cases h
  |cons n r ih=>
   rw[fstN]
   split
   ·rw[List.length_cons];omega
   ·rename_i hne
    have:s∈r:=by
     rcases List.mem_cons.1 h with e|e
     ·exact absurd (by rw[e]) hne
     ·exact e
    have:=ih this
    rw[List.length_cons]
    omega
theorem q1w (l:List ByteArray)(s:ByteArray):hasN l s=true↔s∈l:=by
 unfold hasN
 rw[decide_eq_true_eq,q2E]
theorem qeo (l:List ByteArray)(s:ByteArray):Lib.containsS l s=hasN l s:=by rw[Bool.eq_iff_iff,Lib.containsS_iff,q1w]
theorem idxS {l:List ByteArray}{s:ByteArray}(h:fstN s l<l.length):Lib.idxOfS l s=((fstN s l:Nat):Int):=by
 obtain ⟨h1,h2⟩:=q1v h
 have:=Lib.idxFromS_hit s l (fstN s l) 0 h (by rw[List.getD_eq_getElem?_getD,List.getElem?_eq_getElem h];exact h1) (fun j hj=>by
  rw[List.getD_eq_getElem?_getD,List.getElem?_eq_getElem (by omega)]
  exact h2 j hj)
 unfold Lib.idxOfS
 rw[this,Nat.zero_add]
theorem q1p (ad:Option Addr)(c:Nat)(l:List ByteArray)(x:ByteArray)(w:World)(hl:l.length<=9223372036854775807)(h:NmsAt w ad l):
  Calls Tryz.prog 71 #[.slice ad l.length c, .string x] w fun e w'=>e= .returned (.bool (hasN l x))/\w'=w:=by
 by_cases h0:l=[]
 ·subst h0
  exact Tryz.slices_Contains_string_empty ad c x w
 ·obtain ⟨b,off,rfl,_,hc⟩:=h h0
  have:=Tryz.slices_Contains_string b off l.length c l x w (Nat.le_refl _) hl (fun j hj=>by
   rw[hc j hj,List.getD_eq_getElem?_getD,List.getElem?_eq_getElem hj]
   rfl)
  rw[List.take_length,qeo]at this
  exact this
theorem q9g (ad:Option Addr)(c:Nat)(l:List ByteArray)(x:ByteArray)(w:World)(hl:l.length<=9223372036854775807)(h:NmsAt w ad l)(hx:fstN x l<l.length):
  Calls Tryz.prog 96 #[.slice ad l.length c, .string x] w fun e w'=>e= .returned (.int .i64 ((fstN x l:Nat):Int))/\w'=w:=by
 have h0:l≠[]:=by rintro rfl;exact absurd hx (Nat.not_lt_zero _)
 obtain ⟨b,off,rfl,_,hc⟩:=h h0
 have:=Tryz.slices_Index_string b off l.length c l x w (Nat.le_refl _) hl (fun j hj=>by
  rw[hc j hj,List.getD_eq_getElem?_getD,List.getElem?_eq_getElem hj]
  rfl)
 rw[List.take_length,idxS hx]at this
 exact this
open Go.RowKit
theorem Ex.fine_leaves (t:Ex)(h:t.fine): ∀q∈t.flat,sds q.kd=0->lfK q≠0:=by
 induction t with
 |lf p=>
  intro q hq _
  simp only[Ex.flat,List.mem_singleton]at hq
  subst hq
  exact h
 |un p a ih=>
  intro q hq h0
  simp only[Ex.flat,List.mem_cons]at hq
  rcases hq with rfl|hq
  ·rw[h.1]at h0;exact absurd h0 (by decide)
  ·exact ih h.2.2 q hq h0
 |bi p a b iha ihb=>
  intro q hq h0
  simp only[Ex.flat,List.mem_cons,List.mem_append]at hq
  rcases hq with rfl|hq|hq
  ·have h4:=h.1;have h12:=h.2.1;unfold sds at h0;rw[if_pos ⟨h4,h12⟩]at h0;cases h0
  ·exact iha h.2.2.2.1 q hq h0
  ·exact ihb h.2.2.2.2 q hq h0
theorem q1o {x:List Pt}(h:ckK x≠0): ∃t:Ex,t.wf/\t.fine/\x=t.flat/\t.dn<=32/\x.length<=200/\t.kd=ckK x:=by
 obtain ⟨t,h1,h2,h3,h4,h5⟩:=qak h
 refine ⟨t,h1,t.fine_of h1 (by rw[h3];exact h),h2,?_,h5,h3⟩
 have:=t.dp_dn
 omega
open Go.RowKit
theorem qc6 (r:Nat)(h1:128<=r)(h2:r<2048):Utf8.encode (r:Int)=⟨#[UInt8.ofNat (192+r / 64),UInt8.ofNat (128+r % 64)]⟩:=by
 have hv:Utf8.valid (r:Int)=true:=by unfold Utf8.valid;simp;omega
 simp only[Utf8.encode,hv,if_true,Int.toNat_natCast]
 rw[if_neg (by omega),if_pos (by omega)]
theorem qaq (r:Nat)(h2:2048<=r):3<=(Utf8.encode (r:Int)).size/\(Utf8.encode (r:Int)).size<=4:=by
 have hb:2048<=(if Utf8.valid (r:Int)=true then ((r:Int)).toNat else Utf8.runeError):=by
  split
  ·omega
  ·unfold Utf8.runeError;omega
 simp only[Utf8.encode]
 generalize (if Utf8.valid (r:Int)=true then ((r:Int)).toNat else Utf8.runeError)=c at hb
 rw[if_neg (by omega),if_neg (by omega)]
 split
 ·exact ⟨Nat.le_refl 3,by show 3<=4;omega⟩
 ·exact ⟨by show 3<=4;omega,Nat.le_refl 4⟩
theorem q2Z (r:Int)(w:World):Calls Tryz.prog 217 #[.int .i32 r] w fun e w'=>Hid (∃b,e= .returned (.bool b))/\w'=w:=by
 go_enter Tryz.func217,Tryz.ntmps217
 go_wp2
 all_goals go_ret
 all_goals (refine ⟨?_,rfl⟩;first|exact Or.inl rfl|exact Or.inr rfl|exact hZq ⟨_,rfl⟩)
open Go.RowKit
theorem q5g (w:World):Calls Tryz.prog 207 #[.string ⟨#[39,10]⟩, .int .i32 65533] w fun e w'=>e= .returned (.int .i64 (-1))/\Kp [] w w':=by
 go_enter Tryz.func207,Tryz.ntmps207
 go_wp2
 go_loopg [5,6] 2 (fun g _ _ wx=> ∃i:Nat,i+g=2/\wx=w.iter ⟨#[39,10]⟩ i)
 case atStart=>exact ⟨0,by omega,rfl⟩
 case round=>
  obtain ⟨i,hig,rfl⟩:=hrel
  rcases (show i=0\/i=1\/i=2 by omega)with rfl|rfl|rfl
  ·obtain rfl:gk=2:=by omega
   have hnx:=fun ty=>run_next_ascii (P:=Tryz.prog) w ⟨#[39,10]⟩ 0 ty (by decide) (by decide)
   go_wp2
   go_roundg 1
   case measure=>omega
   case rel=>exact ⟨1,by omega,rfl⟩
  ·obtain rfl:gk=1:=by omega
   have hnx:=fun ty=>run_next_ascii (P:=Tryz.prog) w ⟨#[39,10]⟩ 1 ty (by decide) (by decide)
   go_wp2
   go_roundg 0
   case measure=>omega
   case rel=>exact ⟨2,by omega,rfl⟩
  ·obtain rfl:gk=0:=by omega
   have hnx:=fun ty=>run_next_end (P:=Tryz.prog) w ⟨#[39,10]⟩ 2 ty (by decide)
   go_wp2
   go_ret
   exact ⟨rfl,Kp.alloc _ _⟩
theorem q4u (r:Nat)(h1:2048<=r)(hE:r≠65533)(w:World):Calls Tryz.prog 207 #[.string ⟨#[39,10]⟩, .int .i32 (r:Int)] w fun e w'=>e= .returned (.int .i64 (-1))/\Kp [] w w':=by
 have g1:((r:Int)==65533)=false:=by simp;omega
 have g2: ¬ ((r:Int)=65533):=by omega
 have g3: ¬ ((r:Int)<128):=by omega
 obtain ⟨k1,k2⟩:=qaq r h1
 obtain ⟨B,hB⟩: ∃B,Utf8.encode (r:Int)=B:=⟨_,rfl⟩
 rw[hB]at k1 k2
 have gL: ¬ ((B.size:Int)-1<2):=by omega
 go_enter Tryz.func207,Tryz.ntmps207
 go_wp2_with fail
 refine (q2Z _ _).mono ?_
 rintro e w1 ⟨hb,rfl⟩
 obtain ⟨b,rfl⟩:=uQ hb
 clear hb
 cases b with
 |false=>
  go_wp2
  go_ret
  exact ⟨rfl,Kp.refl _ _⟩
 |true=>
  go_wp2
  go_step3
  go_wp2
  clear hB
  go_loopw [9] (fun i wr=>wr=w1/\i= .int .i64 ((B.size:Int)-1)) (fun _ _=>0)
  case atStart=>exact ⟨rfl,by go_num⟩
  case round=>
   obtain ⟨rfl,rfl⟩:=hrel
   go_wp2
   rw[Exit.noGoto_ret]
   go_ret
   exact ⟨rfl,Kp.refl _ _⟩
theorem qdI (s:ByteArray)(c:Int)(w:World)(h:s.data.toList=[]):Calls Tryz.prog 216 #[.string s, .int .u8 c] w fun e w'=>e= .returned (.int .i64 (-1))/\w'=w:=by
 have:=Tryz.strings_IndexByte s c w
 rw[h]at this
 exact this
theorem q5h (r:Nat)(h1:128<=r)(h3:r<2048)(w:World):Calls Tryz.prog 207 #[.string ⟨#[39,10]⟩, .int .i32 (r:Int)] w fun e w'=>e= .returned (.int .i64 (-1))/\Kp [] w w':=by
 have g1:((r:Int)==65533)=false:=by simp;omega
 have g2: ¬ ((r:Int)=65533):=by omega
 have g3: ¬ ((r:Int)<128):=by omega
 have he:=qc6 r h1 h3
 have hb:(UInt8.ofNat (128+r % 64)).toNat=128+r % 64:=by simp;omega
 generalize UInt8.ofNat (128+r % 64)=b2 at *
 generalize UInt8.ofNat (192+r / 64)=b1 at *
 have hb2:128<=b2.toNat:=by omega
 have gn:((10:Int) != (b2.toNat:Int))=true:=by simp;omega
 clear hb
 go_enter Tryz.func207,Tryz.ntmps207
 go_wp2_with fail
 refine (q2Z _ _).mono ?_
 rintro e w1 ⟨hb,rfl⟩
 obtain ⟨b,rfl⟩:=uQ hb
 clear hb
 cases b with
 |false=>
  go_wp2
  go_ret
  exact ⟨rfl,Kp.refl _ _⟩
 |true=>
  go_wp2
  go_step3
  go_wp2
  clear he
  go_loopw [9] (fun i wr=>wr=w1/\i= .int .i64 1) (fun _ _=>0)
  case atStart=>exact ⟨rfl,rfl⟩
  case round=>
   obtain ⟨rfl,rfl⟩:=hrel
   have IB:=fun (s:ByteArray) (c:Int) W (h:s.data.toList=[])=>qdI s c W h
   go_wp2
   go_step3
   go_wp2
   go_quiet (fail)
   have e1:(⟨#[39,10]⟩:ByteArray)[1].toNat=10:=rfl
   have e2:((⟨#[b1,b2]⟩:ByteArray)[1]'(by show 1<2;omega)).toNat=b2.toNat:=rfl
   have e3:(((10:Nat):Int) != (b2.toNat:Int))=true:=gn
   have hk:=Kp.drewQ wr nq
   simp only[e1,e2,e3]
   generalize wr.drewN nq=W2 at *
   have w2:IntKind.i64.wrap 2=2:=by decide
   go_wp2
   go_quiet (first|(go_at_call 216;exact Calls.quiet_of_same (IB _ _ _ (by decide))))
   go_wp2
   rw[Exit.noGoto_ret]
   go_wp2
   rw[Exit.noGoto_ret]
   go_ret
   exact ⟨rfl,hk.trans (Kp.drewQ _ _) (by simp)⟩
theorem q5R (r:Nat)(h1:128<=r)(w:World):Calls Tryz.prog 207 #[.string ⟨#[39,10]⟩, .int .i32 (r:Int)] w fun e w'=>e= .returned (.int .i64 (-1))/\Kp [] w w':=by
 by_cases hE:r=65533
 ·subst hE
  exact q5g w
 ·rcases Nat.lt_or_ge r 2048 with h|h
  ·exact q5h r h1 h w
  ·exact q4u r h hE w
open Go.RowKit
theorem qdu (s:ByteArray)(pos:Nat)(h:pos<s.size)(ha:128<=s[pos].toNat):128<=(Utf8.decode s pos).1/\(Utf8.decode s pos).1<=2147483647/\1<=(Utf8.decode s pos).2/\ ∀j,pos<=j->j<pos+(Utf8.decode s pos).2-> ∃b,s.data.toList[j]?=some b/\128<=b.toNat:=by
 obtain ⟨d1,d2⟩:=decode_high s pos h ha
 refine ⟨d1,decode_le s pos,d2,?_⟩
 have hl:s.data.toList.length=s.size:=rfl
 have at': ∀j,j<s.size->s.data.toList[j]?=some (s.data.toList.getD j 0):=fun j hj=>by
  rw[List.getD_eq_getElem?_getD,List.getElem?_eq_getElem (by omega)]
  rfl
 have e0:s.data.toList.getD pos 0=s[pos]:=by
  rw[List.getD_eq_getElem?_getD,List.getElem?_eq_getElem (by omega)]
  rfl
 have hN:=Lib.decode_N s pos
 rcases Lib.decodeN_shape (s.data.toList.length-pos) (s.data.toList.getD pos 0).toNat (s.data.toList.getD (pos+1) 0).toNat (s.data.toList.getD (pos+2) 0).toNat (s.data.toList.getD (pos+3) 0).toNat with ⟨c,e⟩|⟨c1,c2,c3,cv,e⟩|⟨c1,c2,c3,c4,cv,cs,e⟩|⟨c1,c2,c3,c4,c5,cv,cw,e⟩|e
 ·rw[e0]at c;omega
 ·rw[hN,e]
  intro j h1 h2
  rcases (show j=pos\/j=pos+1 by simp at h2;omega)with rfl|rfl
  ·exact ⟨_,at' _ h,by rw[e0];exact ha⟩
  ·exact ⟨_,at' _ (by omega),by omega⟩
 ·rw[hN,e]
  intro j h1 h2
  rcases (show j=pos\/j=pos+1\/j=pos+2 by simp at h2;omega)with rfl|rfl|rfl
  ·exact ⟨_,at' _ h,by rw[e0];exact ha⟩
  ·exact ⟨_,at' _ (by omega),by omega⟩
  ·exact ⟨_,at' _ (by omega),by omega⟩
 ·rw[hN,e]
  intro j h1 h2
  rcases (show j=pos\/j=pos+1\/j=pos+2\/j=pos+3 by simp at h2;omega)with rfl|rfl|rfl|rfl
  ·exact ⟨_,at' _ h,by rw[e0];exact ha⟩
  ·exact ⟨_,at' _ (by omega),by omega⟩
  ·exact ⟨_,at' _ (by omega),by omega⟩
  ·exact ⟨_,at' _ (by omega),by omega⟩
 ·rw[hN,e]
  intro j h1 h2
  obtain rfl:j=pos:=by simp at h2;omega
  exact ⟨_,at' _ h,by rw[e0];exact ha⟩
theorem qdc {p:UInt8->Bool}{l:List UInt8}{i:Nat}(k:Nat)(h:i<=spn p l)(hk: ∀j,i<=j->j<i+k-> ∃b,l[j]?=some b/\p b=true):i+k<=spn p l:=by
 induction k with
 |zero=>exact h
 |succ k ih=>
  have h1:=ih (fun j a b=>hk j a (by omega))
  obtain ⟨b,hb,hp⟩:=hk (i+k) (by omega) (by omega)
  obtain ⟨hlt,rfl⟩:=List.getElem?_eq_some_iff.1 hb
  exact q23 h1 hlt hp
theorem qev {b:UInt8}(h:128<=b.toNat):isIn b=true:=by unfold isIn;simp;omega
theorem q9f (b:UInt8):isIn b= !([39,10]:List UInt8).contains b:=by
 unfold isIn
 have e1:decide (b.toNat=39)=(b==39):=by
  rw[Bool.eq_iff_iff];simp[<-UInt8.toNat_inj]
 have e2:decide (b.toNat=10)=(b==10):=by
  rw[Bool.eq_iff_iff];simp[<-UInt8.toNat_inj]
 rw[e1,e2,List.contains_cons,List.contains_cons,List.contains_nil,Bool.or_false]
theorem qdJ (l:List UInt8):(0<=Lib.indexAny l [39,10])↔spn isIn l<l.length:=by
 induction l with
 |nil=>simp[Lib.indexAny,spn]
 |cons b r ih=>
  have hge:=Lib.indexAny_ge [39,10] r
  rw[Lib.indexAny,spn,q9f]
  cases hc:([39,10]:List UInt8).contains b with
  |true=>simp
  |false=>
   rw[if_neg Bool.false_ne_true,show (if (!false)=true then spn isIn r+1 else 0)=spn isIn r+1 from rfl]
   by_cases hm:Lib.indexAny r [39,10]= -1
   ·rw[if_pos (beq_iff_eq.2 hm)]
    rw[hm]at ih
    have: ¬ spn isIn r<r.length:=fun h=>by have:=ih.2 h;omega
    simp only[List.length_cons]
    constructor
    ·intro h;omega
    ·intro h;omega
   ·rw[if_neg (fun e=>hm (beq_iff_eq.1 e))]
    have:0<=Lib.indexAny r [39,10]:=by omega
    have h2:=ih.1 this
    simp only[List.length_cons]
    constructor
    ·intro _;omega
    ·intro _;omega
theorem q4t (s:ByteArray)(h8:s.size<=8)(w:World):Calls Tryz.prog 200 #[.string s, .string ⟨#[39,10]⟩] w fun e w'=>(∃i:Int,e= .returned (.int .i64 i)/\(0<=i↔spn isIn s.data.toList<s.size))/\Kp [] w w':=by
 have hus:=fun W=>Tryz.strings_shouldUseASCIISet (s.size:Int) W
 have h8z:decide ((8:Int)<(s.size:Int))=false:=decide_eq_false (by omega)
 rw[h8z]at hus
 have HUS:=hZq hus
 clear hus h8z
 go_enter Tryz.func200,Tryz.ntmps200
 go_wp2_with fail
 refine (uQ HUS _).mono ?_
 rintro e w1 ⟨rfl,rfl⟩
 go_wp2
 go_loopg [9,10] s.size (fun g _ _ wx=> ∃i:Nat,i+g=s.size/\wx.heap[w1.heap.size]?=some (.stringIter s i)/\Hid (Below w1.heap.size w1 wx)/\Hid (i<=spn isIn s.data.toList))
 case atStart=>exact ⟨0,by omega,World.iter_heap _ _ _,hZq ((Below.refl _ _).alloc (Nat.le_refl _) _),hZq (Nat.zero_le _)⟩
 case round=>
  obtain ⟨i,hig,hit,HB,HN⟩:=hrel
  cases gk with
  |zero=>
   obtain rfl:i=s.size:=by omega
   have hnx:=fun ty=>Lib.run_next_end_at (P:=Tryz.prog) wr w1.heap.size s s.size ty hit (by omega)
   clear hit
   go_wp2
   go_ret
   exact ⟨⟨_,rfl,by constructor <;> intro h <;> (have:=uQ HN;omega)⟩,Kp.ofBelow (uQ HB)⟩
  |succ g=>
   have hi:i<s.size:=by omega
   by_cases ha:s[i].toNat<128
   ·have hnx:=fun ty=>Lib.run_next_ascii_at (P:=Tryz.prog) wr w1.heap.size s i ty hit hi ha
    have hiA:=Lib.iterAt_heap wr w1.heap.size s i (i+1) hit
    have HB2:Hid (Below w1.heap.size w1 (wr.iterAt w1.heap.size s (i+1))):=hZq (Lib.below_iterAt (uQ HB) (Nat.le_refl _) s (i+1))
    have IR:=fun W=>Tryz.strings_IndexRune_ascii ⟨#[39,10]⟩ (s[i].toNat:Int) W (by omega) (by omega)
    rw[show ((s[i].toNat:Int)).toNat.toUInt8=s[i] by simp]at IR
    have hcon:=Lib.contains_iff_indexByte [39,10] s[i]
    have IR2:Hid (∀W,Calls Tryz.prog 207 #[.string ⟨#[39,10]⟩, .int .i32 (s[i].toNat:Int)] W fun e w'=>e= .returned (.int .i64 (Lib.indexByte [39,10] s[i]))/\w'=W):=hZq IR
    clear IR hit
    have hmo:isIn s[i]=true->i+1<=spn isIn s.data.toList:=fun hin=>q23 (uQ HN) (by simpa using hi) hin
    have hst:isIn s[i]=false->i=spn isIn s.data.toList:=fun hin=>q1z (uQ HN) (fun _=>hin)
    rw[q9f,hcon]at hmo hst
    generalize Lib.indexByte [39,10] s[i]=q at *
    clear hcon
    generalize wr.iterAt w1.heap.size s (i+1)=W2 at *
    by_cases hq:(0:Int)<=q
    ·have HS:Hid (i=spn isIn s.data.toList):=hZq (hst (by rw[decide_eq_true hq];rfl))
     clear hmo hst
     go_wp2_with fail
     refine (uQ IR2 _).mono ?_
     rintro e w3 ⟨rfl,rfl⟩
     go_wp2
     go_ret
     exact ⟨⟨_,rfl,by have:=uQ HS;constructor <;> intro h <;> omega⟩,Kp.ofBelow (uQ HB2)⟩
    ·have HN2:Hid (i+1<=spn isIn s.data.toList):=hZq (hmo (by rw[decide_eq_false hq];rfl))
     clear hmo hst
     go_wp2_with fail
     refine (uQ IR2 _).mono ?_
     rintro e w3 ⟨rfl,rfl⟩
     go_wp2
     go_roundg g
     case measure=>omega
     case rel=>exact ⟨i+1,by omega,hiA,HB2,HN2⟩
   ·obtain ⟨d1,d2,d3,d4⟩:=qdu s i hi (by omega)
    have hnx:=fun ty=>Lib.run_next_any_at (P:=Tryz.prog) wr w1.heap.size s i ty hit hi
    have HN2:Hid (i+(Utf8.decode s i).2<=spn isIn s.data.toList):=hZq (qdc _ (uQ HN) (fun j a b=>by
     obtain ⟨x,hx,hx2⟩:=d4 j a b
     exact ⟨x,hx,qev hx2⟩))
    have hle:spn isIn s.data.toList<=s.size:=q19 isIn s.data.toList
    have hk2:i+(Utf8.decode s i).2<=s.size:=Nat.le_trans (uQ HN2) hle
    have hiA:=Lib.iterAt_heap wr w1.heap.size s i (i+(Utf8.decode s i).2) hit
    have HB2:Hid (Below w1.heap.size w1 (wr.iterAt w1.heap.size s (i+(Utf8.decode s i).2))):=hZq (Lib.below_iterAt (uQ HB) (Nat.le_refl _) s _)
    generalize (Utf8.decode s i).2=k at *
    generalize (Utf8.decode s i).1=c at *
    have IR2:=hZq (fun W=>q5R c d1 W)
    clear d4 hit hle ha
    generalize wr.iterAt w1.heap.size s (i+k)=W2 at *
    go_wp2_with fail
    refine (uQ IR2 _).mono ?_
    rintro e w3 ⟨rfl,hk3⟩
    have hiB:w3.heap[w1.heap.size]?=some (.stringIter s (i+k)):=by rw[hk3.block _ (Array.getElem?_eq_some_iff.1 hiA).1 (by simp)];exact hiA
    have HB3:Hid (Below w1.heap.size w1 w3):=hZq ((uQ HB2).trans (hk3.below (uQ HB2).size (by simp)))
    clear hk3 hiA
    go_wp2
    go_roundg (s.size-(i+k))
    case measure=>omega
    case rel=>exact ⟨i+k,by omega,hiB,HB3,HN2⟩
theorem qe9: ∀w,(zeroValue 298).run Tryz.prog w= .ok (.agg (Array.replicate 256 (.bool false))) w:=fun w=>by
 have e:(Tryz.prog.info? 298).map (fun i=>(i.zero,i.size))=some (some (.agg (Array.replicate 256 (.bool false))),256):=by kernel_rfl
 cases h:Tryz.prog.info? 298 with
 |none=>rw[h]at e;cases e
 |some i=>
  rw[h]at e
  simp at e
  simp[zeroValue,typeInfo,h,e.1]
theorem q72: ∀(j:Nat) b,(⟨#[39,10]⟩:ByteArray).data.toList[j]?=some b->b.toNat<128:=fun j b h=>by
 have hm:=List.mem_of_getElem? h
 simp at hm
 rcases hm with rfl|rfl <;> decide
theorem q3X (s:ByteArray)(hs:s.size<=256)(w:World):Calls Tryz.prog 190 #[.string s, .string ⟨#[39,10]⟩] w fun e w'=>e= .returned (.bool (!decide (spn isIn s.data.toList=s.size)))/\Kp [] w w':=by
 have hle:spn isIn s.data.toList<=s.size:=q19 isIn s.data.toList
 have IA:Calls Tryz.prog 200 #[.string s, .string ⟨#[39,10]⟩] w fun e w'=>(∃i:Int,e= .returned (.int .i64 i)/\(0<=i↔spn isIn s.data.toList<s.size))/\Kp [] w w':=by
  rcases Nat.lt_or_ge 8 s.size with h8|h8
  ·refine (Tryz.strings_IndexAny_long qe9 s ⟨#[39,10]⟩ w (by decide) h8 (by omega) (by decide) q72).mono ?_
   rintro e w' ⟨rfl,rfl⟩
   exact ⟨⟨_,rfl,qdJ _⟩,(Kp.alloc _ _).trans (Kp.alloc _ _) (by simp)⟩
  ·exact q4t s h8 w
 have HI:=hZq IA
 clear IA
 go_enter Tryz.func190,Tryz.ntmps190
 go_wp2_with fail
 refine (uQ HI).mono ?_
 rintro e w1 ⟨⟨i,rfl,hi⟩,hk⟩
 have HK:=hZq hk
 have HB:Hid (decide (0<=i)= !decide (spn isIn s.data.toList=s.size)):=hZq (by
  by_cases h:0<=i
  ·have:=hi.1 h
   rw[decide_eq_true h,decide_eq_false (by omega)]
   rfl
  ·have: ¬ spn isIn s.data.toList<s.size:=fun h2=>h (hi.2 h2)
   rw[decide_eq_false h,decide_eq_true (by omega)]
   rfl)
 clear hk hi HI
 go_wp2
 go_ret
 exact ⟨q0Y (uQ HB),uQ HK⟩
theorem q8k (s:ByteArray)(w:World):Calls Tryz.prog 174 #[.string s] w fun e w'=>e= .returned (.bool (isTx s))/\Kp [] w w':=by
 unfold isTx
 by_cases h:s.size<=256
 ·rw[decide_eq_true h,Bool.true_and]
  have HC:=hZq (q3X s h w)
  generalize decide (spn isIn s.data.toList=s.size)=b at *
  go_enter Tryz.func174,Tryz.ntmps174
  go_wp2_with fail
  refine (uQ HC).mono ?_
  rintro e w1 ⟨rfl,hk⟩
  have HK:=hZq hk
  clear hk
  go_wp2
  go_ret
  exact ⟨q0Y (by simp),uQ HK⟩
 ·rw[decide_eq_false h,Bool.false_and]
  go_enter Tryz.func174,Tryz.ntmps174
  go_wp2
  go_ret
  exact ⟨rfl,Kp.refl _ _⟩
open Go.RowKit
theorem q2I (s:ByteArray)(w:World)(hT:TbE w):Calls Tryz.prog 193 #[.string s] w fun e w'=>e= .returned (.bool (q1I s.data.toList))/\w'=w:=by
 have tl:=toList_data s
 have HF:=hZq (q2j s w hT)
 clear hT
 unfold q1I
 generalize hl:s.data.toList=l at tl HF ⊢
 clear hl
 by_cases e1:l=[111,114]
 ·have g1:(s.toList=[111,114])=True:=by rw[tl,e1];simp
  have g2:(s.toList==[111,114])=true:=by rw[tl,e1];decide
  rw[decide_eq_true e1]
  clear tl e1 HF
  go_enter Tryz.func193,Tryz.ntmps193
  go_wp2
  go_ret
  exact ⟨rfl,rfl⟩
 have g1:(s.toList=[111,114])=False:=by rw[tl];simp[e1]
 have g2:(s.toList==[111,114])=false:=by rw[tl];simpa using e1
 rw[decide_eq_false e1]
 by_cases e2:l=[97,110,100]
 ·have g3:(s.toList=[97,110,100])=True:=by rw[tl,e2];simp
  have g4:(s.toList==[97,110,100])=true:=by rw[tl,e2];decide
  rw[decide_eq_true e2]
  clear tl e1 e2 HF
  go_enter Tryz.func193,Tryz.ntmps193
  go_wp2
  go_ret
  exact ⟨rfl,rfl⟩
 have g3:(s.toList=[97,110,100])=False:=by rw[tl];simp[e2]
 have g4:(s.toList==[97,110,100])=false:=by rw[tl];simpa using e2
 rw[decide_eq_false e2]
 by_cases e3:l=[110,111,116]
 ·have g5:(s.toList=[110,111,116])=True:=by rw[tl,e3];simp
  have g6:(s.toList==[110,111,116])=true:=by rw[tl,e3];decide
  rw[decide_eq_true e3]
  clear tl e1 e2 e3 HF
  go_enter Tryz.func193,Tryz.ntmps193
  go_wp2
  go_ret
  exact ⟨rfl,rfl⟩
 have g5:(s.toList=[110,111,116])=False:=by rw[tl];simp[e3]
 have g6:(s.toList==[110,111,116])=false:=by rw[tl];simpa using e3
 rw[decide_eq_false e3]
 generalize q0n l=F at *
 clear tl e1 e2 e3
 go_enter Tryz.func193,Tryz.ntmps193
 go_wp2_with fail
 refine (uQ HF).mono ?_
 rintro e w1 ⟨rfl,rfl⟩
 go_wp2
 go_ret
 exact ⟨q0Y (by simp),rfl⟩
theorem q3q {s:ByteArray}(h:s.size=0\/32<s.size\/(∃h:0<s.size,q0A s[0]=false)\/spn q0h s.data.toList≠s.size):isSg s=false:=by
 unfold isSg
 rcases h with h|h|⟨h0,h⟩|h
 ·rw[decide_eq_false (by omega)];rfl
 ·rw[decide_eq_false (p:=s.size<=32) (by omega)];simp
 ·have e:s.data.toList.head?=some s[0]:=by
   rw[List.head?_eq_getElem?,List.getElem?_eq_getElem (by simpa using h0)];rfl
  rw[e]
  simp[h]
 ·rw[decide_eq_false h];simp
theorem qaX {s:ByteArray}(h1:0<s.size)(h2:s.size<=32)(h3:q0A s[0]=true)(h4:spn q0h s.data.toList=s.size):isSg s=q1I s.data.toList:=by
 unfold isSg
 have e:s.data.toList.head?=some s[0]:=by
  rw[List.head?_eq_getElem?,List.getElem?_eq_getElem (by simpa using h1)];rfl
 rw[e,decide_eq_true h1,decide_eq_true h2,decide_eq_true h4]
 simp[h3]
theorem q6U (s:ByteArray)(w:World)(hT:TbE w)(hs:s.size<=9223372036854775807):Calls Tryz.prog 175 #[.string s] w fun e w'=>e= .returned (.bool (isSg s))/\w'=w:=by
 have HF:=hZq (q2I s w hT)
 clear hT
 by_cases h0:s.size=0
 ·rw[q3q (Or.inl h0)]
  have g:((s.size:Int)==0)=true:=by simp[h0]
  have g':((s.size:Int)=0)=True:=by simp[h0]
  clear h0 HF
  go_enter Tryz.func175,Tryz.ntmps175
  go_wp2
  go_ret
  exact ⟨rfl,rfl⟩
 have g0:((s.size:Int)==0)=false:=beq_eq_false_iff_ne.2 (by omega)
 by_cases h1:32<s.size
 ·rw[q3q (Or.inr (Or.inl h1))]
  go_enter Tryz.func175,Tryz.ntmps175
  go_wp2
  go_ret
  exact ⟨rfl,rfl⟩
 have hp:0<s.size:=by omega
 have LT:=hZq (fun (k:Nat) (hk:k<s.size)=>q5V s[k] w)
 have DG:=hZq (fun (k:Nat) (hk:k<s.size)=>q6T s[k] w)
 by_cases h2:q0A s[0]=true
 ·generalize hR:isSg s=R
  have HR:=hZq hR
  have HY:=hZq (qaX hp (by omega) h2)
  have L0:Hid (Calls Tryz.prog 191 #[.int .u8 (s[0].toNat:Int)] w fun e w'=>e= .returned (.bool true)/\w'=w):=hZq (by have:=uQ LT 0 hp;rw[h2]at this;exact this)
  clear hR h2
  go_enter Tryz.func175,Tryz.ntmps175
  go_wp2_with fail
  refine (uQ L0).mono ?_
  rintro e w1 ⟨rfl,rfl⟩
  go_wp2
  go_loopw [20] (fun i wr=>wr=w1/\ ∃k:Nat,k<=s.size/\Hid (k<=spn q0h s.data.toList)/\i= .int .i64 (k:Int)) (fun i _=>s.size-(intOf i).toNat)
  case atStart=>exact ⟨rfl,0,Nat.zero_le _,hZq (Nat.zero_le _),rfl⟩
  case round=>
   obtain ⟨rfl,k,hk,HN,rfl⟩:=hrel
   by_cases hlt:k<s.size
   ·have A1:=hZq (uQ LT k hlt)
    have A2:=hZq (uQ DG k hlt)
    have hmo:(q0A s[k]||q07 s[k])=true->k+1<=spn q0h s.data.toList:=fun h=>q23 (uQ HN) (by simpa using hlt) h
    have hst:(q0A s[k]||q07 s[k])=false->k=spn q0h s.data.toList:=fun h=>q1z (uQ HN) (fun _=>h)
    cases c1:q0A s[k]with
    |true=>
     have HN2:Hid (k+1<=spn q0h s.data.toList):=hZq (hmo (by rw[c1];rfl))
     rw[c1]at A1
     clear hmo hst c1 A2
     go_wp2_with fail
     refine (uQ A1).mono ?_
     rintro e w2 ⟨rfl,rfl⟩
     go_wp2
     go_roundw
     case rel=>exact ⟨trivial,k+1,by omega,HN2,by go_num⟩
     case measure=>simp[intOf];omega
    |false=>
     rw[c1]at A1
     cases c2:q07 s[k]with
     |true=>
      have HN2:Hid (k+1<=spn q0h s.data.toList):=hZq (hmo (by rw[c1,c2];rfl))
      rw[c2]at A2
      clear hmo hst c1 c2
      go_wp2_with fail
      refine (uQ A1).mono ?_
      rintro e w2 ⟨rfl,rfl⟩
      go_wp2_with fail
      refine (uQ A2).mono ?_
      rintro e w3 ⟨rfl,rfl⟩
      go_wp2
      go_roundw
      case rel=>exact ⟨trivial,k+1,by omega,HN2,by go_num⟩
      case measure=>simp[intOf];omega
     |false=>
      have HS:Hid (R=false):=hZq (by
       have:=hst (by rw[c1,c2];rfl)
       rw[<-uQ HR]
       exact q3q (Or.inr (Or.inr (Or.inr (by omega)))))
      rw[c2]at A2
      clear hmo hst c1 c2
      go_wp2_with fail
      refine (uQ A1).mono ?_
      rintro e w2 ⟨rfl,rfl⟩
      go_wp2_with fail
      refine (uQ A2).mono ?_
      rintro e w3 ⟨rfl,rfl⟩
      go_wp2
      go_ret
      exact ⟨q0Y (uQ HS).symm,rfl⟩
   ·obtain rfl:k=s.size:=by omega
    have HS:Hid (R=q1I s.data.toList):=hZq (by
     have h1:=uQ HN
     have h2:spn q0h s.data.toList<=s.size:=q19 q0h s.data.toList
     rw[<-uQ HR]
     exact uQ HY (by omega))
    go_wp2_with fail
    refine (uQ HF).mono ?_
    rintro e w2 ⟨rfl,rfl⟩
    go_wp2
    go_ret
    exact ⟨q0Y (uQ HS).symm,rfl⟩
 ·have h2':q0A s[0]=false:=by simpa using h2
  rw[q3q (Or.inr (Or.inr (Or.inl ⟨hp,h2'⟩)))]
  have L0:Hid (Calls Tryz.prog 191 #[.int .u8 (s[0].toNat:Int)] w fun e w'=>e= .returned (.bool false)/\w'=w):=hZq (by have:=uQ LT 0 hp;rw[h2']at this;exact this)
  clear h2 h2'
  go_enter Tryz.func175,Tryz.ntmps175
  go_wp2_with fail
  refine (uQ L0).mono ?_
  rintro e w1 ⟨rfl,rfl⟩
  go_wp2
  go_ret
  exact ⟨rfl,rfl⟩
end Go.Proofs.YtcmjnlpofebbmaaGreatDoor
