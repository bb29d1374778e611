/-
  Walks and plain facts, made small.
-/
import Derived.Test.YtcmjnlpofebbmaaGreatDoorMa01
set_option maxRecDepth 100000
set_option maxHeartbeats 8000000
set_option linter.unusedSimpArgs false
namespace Go.Proofs.YtcmjnlpofebbmaaGreatDoor
def wdT (t:Tk):List UInt8:=if t.kd=1\/t.kd=4 then t.s.data.toList else []
def sgO (k:Int):List UInt8:=if k=4 then [43] else if k=5 then [45] else if k=6 then [42] else if k=7 then [60] else if k=8 then [60,61] else if k=9 then [61,61] else if k=10 then [33,61] else if k=11 then [97,110,100] else if k=12 then [111,114] else if k=13 then [110,111,116] else []
def lvO (n:Nat):List Int:=if n=0 then [12] else if n=1 then [11] else if n=2 then [13] else if n=3 then [7,8,9,10] else if n=4 then [4,5] else if n=5 then [6] else []
def opA (n:Nat)(s:List UInt8):Option Int:=(lvO n).find? fun k=>decide (s=sgO k)
def opP (k:Int):Pt:=⟨k,0,txt [],txt [],0⟩
inductive PR where
 |bad (r:List Tk)
 |good (x:List Pt) (r:List Tk)
def fdE (st:ByteArray):List Tk->PR
 |[]=> .bad []
 |c::r=>if 0<=q0n (wdT c) then .good [⟨3,0,txt [],st,q0n (wdT c)⟩] r else .bad (c::r)
def fdR (t:Tk)(r:List Tk):PR:=if q1I (wdT t) then (match r with
  |[]=> .bad []
  |c::q=>if wdT c=[46] then fdE t.s q else .bad (c::q))
 else fdE (txt []) (t::r)
def shut (x:List Pt):List Tk->PR
 |[]=> .bad []
 |c::q=>if wdT c=[41] then .good x q else .bad (c::q)
def pRd:Nat->Nat->Nat->List Pt->List Tk->PR
 |0,_,_,_,ts=> .bad ts
 |_+1,_,_,_,[]=> .bad []
 |f+1,m,d,acc,t::r=>
  if m=6 then
   (if t.kd=2 then .good [⟨1,t.n,txt [],txt [],0⟩] r
    else if t.kd=3 then .good [⟨2,0,t.s,txt [],0⟩] r
    else if t.kd=1 then fdR t r
    else if wdT t=[40] then (if d+1<=200 then (match pRd f 0 (d+1) [] r with
      | .bad q=> .bad q
      | .good x q=>shut x q) else .bad r)
    else .bad (t::r))
  else if m=2 then
   (match opA 2 (wdT t)with
    |some k=>if d+1<=200 then (match pRd f 2 (d+1) [] r with
      | .bad q=> .bad q
      | .good x q=> .good (opP k::x) q) else .bad r
    |none=>pRd f 3 d [] (t::r))
  else if m=3 then
   (match pRd f 4 d [] (t::r)with
    | .bad q=> .bad q
    | .good x q=>match q with
     |[]=> .bad []
     |c::q'=>match opA 3 (wdT c)with
      |none=> .good x (c::q')
      |some k=>match pRd f 4 d [] q' with
       | .bad s=> .bad s
       | .good y s=> .good (opP k::(x++y)) s)
  else if m<6 then
   (match pRd f (m+1) d [] (t::r)with
    | .bad q=> .bad q
    | .good x q=>pRd f (m+10) d x q)
  else
   (match opA (m-10) (wdT t)with
    |none=> .good acc (t::r)
    |some k=>match pRd f (m-10+1) d [] r with
     | .bad q=> .bad q
     | .good y q=>pRd f m d (opP k::(acc++y)) q)
def mRd (m:Nat)(ts:List Tk):Nat:=if m<=6 then 8 * ts.length+7-m else 8 * ts.length+8
def Endd (ts:List Tk):Prop:= ∃a e,ts=a++[e]/\e.kd=0
theorem Endd.ne {ts:List Tk}(h:Endd ts):ts≠[]:=by obtain ⟨a,e,rfl,_⟩:=h;simp
theorem Endd.tail {t:Tk}{r:List Tk}(h:Endd (t::r))(ht:t.kd≠0):Endd r:=by
 obtain ⟨a,e,h1,h2⟩:=h
 cases a with
 |nil=>simp at h1;exact absurd (by rw[h1.1];exact h2) ht
 |cons b a=>simp at h1;exact ⟨a,e,h1.2,h2⟩
theorem q0Q {t:Tk}(h:wdT t≠[]):t.kd≠0:=fun e=>h (by unfold wdT;rw[if_neg (by omega)])
theorem qea {k:Int}{n:Nat}(h:k∈lvO n):sgO k≠[]:=by
 unfold lvO at h
 repeat' split at h
 all_goals simp at h
 all_goals (first|(rcases h with rfl|rfl|rfl|rfl <;> decide)|(rcases h with rfl|rfl <;> decide)|(subst h;decide))
theorem q66 {n:Nat}{s:List UInt8}{k:Int}(h:opA n s=some k):k∈lvO n/\s=sgO k:=by
 unfold opA at h
 have h1:=List.find?_some h
 exact ⟨List.mem_of_find?_eq_some h,by simpa using h1⟩
theorem q2u {n:Nat}{t:Tk}{k:Int}(h:opA n (wdT t)=some k):t.kd≠0:=by
 obtain ⟨h1,h2⟩:=q66 h
 exact q0Q (by rw[h2];exact qea h1)
theorem q94:q0n []= -1:=by decide
def PRok (b:Nat)(ts:List Tk):PR->Prop
 | .bad r=>Endd r/\r.length<=ts.length
 | .good x r=>Endd r/\x.length+r.length<=ts.length+b/\r.length<=ts.length
theorem q8Z (st:ByteArray)(ts:List Tk)(h:Endd ts):PRok 0 ts (fdE st ts)/\ ∀x r,fdE st ts= .good x r->r.length<ts.length:=by
 cases ts with
 |nil=>exact absurd rfl h.ne
 |cons c r=>
  rw[fdE]
  split
  ·rename_i hf
   have hc:c.kd≠0:=q0Q (fun e=>by rw[e,q94]at hf;omega)
   exact ⟨⟨h.tail hc,by simp;omega,by simp⟩,fun x q e=>by cases e;simp⟩
  ·exact ⟨⟨h,Nat.le_refl _⟩,fun x q e=>by cases e⟩
theorem qdw (t:Tk)(r:List Tk)(h:Endd (t::r))(ht:t.kd≠0):PRok 0 (t::r) (fdR t r)/\ ∀x q,fdR t r= .good x q->q.length<(t::r).length:=by
 unfold fdR
 split
 ·have hr:=h.tail ht
  cases r with
  |nil=>exact absurd rfl hr.ne
  |cons c q=>
   dsimp only
   split
   ·rename_i hc
    have hq:=hr.tail (q0Q (by rw[hc];simp))
    obtain ⟨h1,h2⟩:=q8Z t.s q hq
    refine ⟨?_,fun x s e=>by have:=h2 x s e;simp;omega⟩
    cases hE:fdE t.s q with
    |bad s=>rw[hE]at h1;exact ⟨h1.1,by have:=h1.2;simp;omega⟩
    |good x s=>rw[hE]at h1;exact ⟨h1.1,by have:=h1.2.1;simp;omega,by have:=h1.2.2;simp;omega⟩
   ·exact ⟨⟨hr,by simp⟩,fun x s e=>by cases e⟩
 ·exact q8Z (txt []) (t::r) h
theorem qdb (x:List Pt)(q:List Tk)(h:Endd q):PRok x.length q (shut x q)/\ ∀y s,shut x q= .good y s->s.length<q.length/\y=x:=by
 cases q with
 |nil=>exact absurd rfl h.ne
 |cons c q=>
  rw[shut]
  split
  ·rename_i hc
   exact ⟨⟨h.tail (q0Q (by rw[hc];simp)),by simp;omega,by simp⟩,fun y s e=>by cases e;simp⟩
  ·exact ⟨⟨h,Nat.le_refl _⟩,fun y s e=>by cases e⟩
theorem q2x (f:Nat): ∀(m d:Nat) (acc:List Pt) (ts:List Tk),Endd ts->PRok (if m<=6 then 0 else acc.length) ts (pRd f m d acc ts)/\(m<=6-> ∀x r,pRd f m d acc ts= .good x r->r.length<ts.length):=by
 induction f with
 |zero=>intro m d acc ts h;rw[pRd];exact ⟨⟨h,Nat.le_refl _⟩,fun _ x r e=>by cases e⟩
 |succ f ih=>
  intro m d acc ts h
  cases ts with
  |nil=>exact absurd rfl h.ne
  |cons t r=>
   rw[pRd]
   by_cases h6:m=6
   ·subst h6
    rw[if_pos rfl,if_pos (by omega)]
    by_cases hk2:t.kd=2
    ·rw[if_pos hk2]
     exact ⟨⟨h.tail (by omega),by simp;omega,by simp⟩,fun _ x q e=>by cases e;simp⟩
    rw[if_neg hk2]
    by_cases hk3:t.kd=3
    ·rw[if_pos hk3]
     exact ⟨⟨h.tail (by omega),by simp;omega,by simp⟩,fun _ x q e=>by cases e;simp⟩
    rw[if_neg hk3]
    by_cases hk1:t.kd=1
    ·rw[if_pos hk1]
     obtain ⟨h1,h2⟩:=qdw t r h (by omega)
     exact ⟨h1,fun _=>h2⟩
    rw[if_neg hk1]
    by_cases hp:wdT t=[40]
    ·rw[if_pos hp]
     have hr:=h.tail (q0Q (by rw[hp];simp))
     split
     ·obtain ⟨h1,h2⟩:=ih 0 (d+1) [] r hr
      cases hE:pRd f 0 (d+1) [] r with
      |bad q=>rw[hE]at h1;exact ⟨⟨h1.1,by have:=h1.2;simp;omega⟩,fun _ x s e=>by cases e⟩
      |good x q=>
       rw[hE]at h1
       rw[if_pos (by omega)]at h1
       obtain ⟨e1,e2,e3⟩:=h1
       obtain ⟨g1,g2⟩:=qdb x q e1
       dsimp only
       cases hS:shut x q with
       |bad s=>rw[hS]at g1;exact ⟨⟨g1.1,by have:=g1.2;simp;omega⟩,fun _ x s e=>by cases e⟩
       |good y s=>
        rw[hS]at g1
        obtain ⟨k1,k2⟩:=g2 y s hS
        subst k2
        exact ⟨⟨g1.1,by simp;omega,by simp;omega⟩,fun _ x s' e=>by cases e;simp;omega⟩
     ·exact ⟨⟨hr,by simp⟩,fun _ x s e=>by cases e⟩
    ·rw[if_neg hp]
     exact ⟨⟨h,Nat.le_refl _⟩,fun _ x s e=>by cases e⟩
   rw[if_neg h6]
   by_cases h2:m=2
   ·subst h2
    rw[if_pos rfl,if_pos (by omega)]
    cases ho:opA 2 (wdT t)with
    |some k=>
     dsimp only
     have hr:=h.tail (q2u ho)
     split
     ·obtain ⟨h1,h3⟩:=ih 2 (d+1) [] r hr
      rw[if_pos (by omega)]at h1
      cases hE:pRd f 2 (d+1) [] r with
      |bad q=>rw[hE]at h1;exact ⟨⟨h1.1,by have:=h1.2;simp;omega⟩,fun _ x s e=>by cases e⟩
      |good x q=>
       rw[hE]at h1
       obtain ⟨e1,e2,e3⟩:=h1
       exact ⟨⟨e1,by simp;omega,by simp;omega⟩,fun _ y s e=>by cases e;simp;omega⟩
     ·exact ⟨⟨hr,by simp⟩,fun _ x s e=>by cases e⟩
    |none=>
     dsimp only
     have:=ih 3 d [] (t::r) h
     rw[if_pos (by omega)]at this
     exact ⟨this.1,fun _=>this.2 (by omega)⟩
   rw[if_neg h2]
   by_cases h3:m=3
   ·subst h3
    rw[if_pos rfl,if_pos (by omega)]
    obtain ⟨h1,hl⟩:=ih 4 d [] (t::r) h
    rw[if_pos (by omega)]at h1
    cases hE:pRd f 4 d [] (t::r)with
    |bad q=>rw[hE]at h1;exact ⟨h1,fun _ x s e=>by cases e⟩
    |good x q=>
     have hl:=hl (by omega) x q hE
     rw[hE]at h1
     obtain ⟨e1,e2,e3⟩:=h1
     cases q with
     |nil=>exact absurd rfl e1.ne
     |cons c q=>
      dsimp only
      cases ho:opA 3 (wdT c)with
      |none=>exact ⟨⟨e1,by omega,by omega⟩,fun _ y s e=>by cases e;exact hl⟩
      |some k=>
       dsimp only
       have hq:=e1.tail (q2u ho)
       obtain ⟨g1,gl⟩:=ih 4 d [] q hq
       rw[if_pos (by omega)]at g1
       cases hG:pRd f 4 d [] q with
       |bad s=>rw[hG]at g1;exact ⟨⟨g1.1,by have:=g1.2;simp at *;omega⟩,fun _ x s e=>by cases e⟩
       |good y s=>
        rw[hG]at g1
        obtain ⟨k1,k2,k3⟩:=g1
        exact ⟨⟨k1,by simp at *;omega,by simp at *;omega⟩,fun _ z s' e=>by cases e;simp at *;omega⟩
   rw[if_neg h3]
   by_cases hlt:m<6
   ·rw[if_pos hlt,if_pos (by omega)]
    obtain ⟨h1,hl⟩:=ih (m+1) d [] (t::r) h
    rw[if_pos (by omega)]at h1
    cases hE:pRd f (m+1) d [] (t::r)with
    |bad q=>rw[hE]at h1;exact ⟨h1,fun _ x s e=>by cases e⟩
    |good x q=>
     have hl:=hl (by omega) x q hE
     rw[hE]at h1
     obtain ⟨e1,e2,e3⟩:=h1
     dsimp only
     obtain ⟨g1,_⟩:=ih (m+10) d x q e1
     rw[if_neg (by omega)]at g1
     cases hG:pRd f (m+10) d x q with
     |bad s=>rw[hG]at g1;exact ⟨⟨g1.1,by have:=g1.2;omega⟩,fun _ x s e=>by cases e⟩
     |good y s=>
      rw[hG]at g1
      obtain ⟨k1,k2,k3⟩:=g1
      exact ⟨⟨k1,by omega,by omega⟩,fun _ z s' e=>by cases e;omega⟩
   ·rw[if_neg hlt,if_neg (by omega)]
    refine ⟨?_,fun hm=>by omega⟩
    cases ho:opA (m-10) (wdT t)with
    |none=>exact ⟨h,by omega,by omega⟩
    |some k=>
     dsimp only
     have hr:=h.tail (q2u ho)
     obtain ⟨h1,_⟩:=ih (m-10+1) d [] r hr
     cases hE:pRd f (m-10+1) d [] r with
     |bad q=>rw[hE]at h1;exact ⟨h1.1,by have:=h1.2;simp;omega⟩
     |good y q=>
      rw[hE]at h1
      obtain ⟨e1,e2,e3⟩:=h1
      have e2':y.length+q.length<=r.length:=by split at e2 <;> simpa using e2
      dsimp only
      obtain ⟨g1,_⟩:=ih m d (opP k::(acc++y)) q e1
      rw[if_neg (by omega)]at g1
      cases hG:pRd f m d (opP k::(acc++y)) q with
      |bad s=>rw[hG]at g1;exact ⟨g1.1,by have:=g1.2;simp at *;omega⟩
      |good z s=>
       rw[hG]at g1
       obtain ⟨k1,k2,k3⟩:=g1
       exact ⟨k1,by simp at *;omega,by simp at *;omega⟩
theorem q0J {s:ByteArray}(h:q05 s=true):s=txt []:=by
 unfold q05 at h
 have:s.size=0:=by simpa using h
 rw[<-q0z s]
 congr 1
 exact List.eq_nil_of_length_eq_zero this
theorem qcn {f:Int}(h:fldK f≠0):0<=f/\f<=5:=by unfold fldK at h;split at h;omega;split at h;omega;exact absurd rfl h
theorem q9p {p:Pt}(h:lfK p≠0):(p.kd=1/\0<=p.n/\p=⟨1,p.n,txt [],txt [],0⟩)\/(p.kd=2/\isTx p.s=true/\p=⟨2,0,p.s,txt [],0⟩)\/(p.kd=3/\0<=p.fl/\p.fl<=5/\(p.st=txt []\/isSg p.st=true)/\p=⟨3,0,txt [],p.st,p.fl⟩):=by
 obtain ⟨kd,n,s,st,fl⟩:=p
 unfold lfK at h
 dsimp only at h ⊢
 split at h
 ·rename_i h1
  obtain ⟨rfl,e1,e2,rfl,h5⟩:=h1
  rw[q0J e1,q0J e2]
  exact Or.inl ⟨rfl,h5,rfl⟩
 ·split at h
  ·rename_i h1
   obtain ⟨rfl,rfl,e2,rfl,h5⟩:=h1
   rw[q0J e2]
   exact Or.inr (Or.inl ⟨rfl,h5,rfl⟩)
  ·split at h
   ·rename_i h1
    obtain ⟨rfl,rfl,e2,h5⟩:=h1
    rw[q0J e2]
    obtain ⟨f1,f2⟩:=qcn h
    exact Or.inr (Or.inr ⟨rfl,f1,f2,h5.imp q0J id,rfl⟩)
   ·exact absurd rfl h
theorem q7e {p:Pt}(h:q1n p=true):p=opP p.kd:=by
 obtain ⟨kd,n,s,st,fl⟩:=p
 unfold q1n at h
 simp only[Bool.and_eq_true,decide_eq_true_eq]at h
 obtain ⟨rfl,e1,e2,rfl⟩:=h
 rw[q0J e1,q0J e2]
 rfl
def Ex.fine:Ex->Prop
 | .lf p=>lfK p≠0
 | .un p a=>p.kd=13/\p=opP 13/\a.fine
 | .bi p a b=>4<=p.kd/\p.kd<=12/\p=opP p.kd/\a.fine/\b.fine
theorem q67 (k b:Int):opK k 0 b=0:=by unfold opK;repeat' split <;> omega
theorem q9z (k a:Int)(h:k≠13):opK k a 0=0:=by unfold opK;repeat' split <;> omega
theorem q4F {k:Int}(h:sds k=2):4<=k/\k<=12:=by unfold sds at h;split at h;assumption;split at h <;> omega
theorem q4E {k:Int}(h:sds k=1):k=13:=by unfold sds at h;split at h;omega;split at h;assumption;omega
theorem Ex.fine_of (t:Ex)(hw:t.wf)(h:t.kd≠0):t.fine:=by
 induction t with
 |lf p=>exact h
 |un p a ih=>
  have hk:=q4E hw.1
  have h1:(if q1n p then opK p.kd a.kd 0 else 0)≠0:=h
  split at h1
  ·rename_i hb
   refine ⟨hk,by rw[<-hk];exact q7e hb,ih hw.2 fun e=>?_⟩
   rw[e,q67]at h1
   exact h1 rfl
  ·exact absurd rfl h1
 |bi p a b iha ihb=>
  obtain ⟨k1,k2⟩:=q4F hw.1
  have h1:(if q1n p then opK p.kd a.kd b.kd else 0)≠0:=h
  split at h1
  ·rename_i hb
   refine ⟨k1,k2,q7e hb,iha hw.2.1 fun e=>?_,ihb hw.2.2 fun e=>?_⟩
   ·rw[e,q67]at h1
    exact h1 rfl
   ·rw[e,q9z _ _ (by omega)]at h1
    exact h1 rfl
  ·exact absurd rfl h1
theorem q0P {m:Nat}{ts:List Tk}(h:m<=6):mRd m ts=8 * ts.length+7-m:=by unfold mRd;rw[if_pos h]
def endZ (n:Nat):Tk:=⟨0,⟨#[]⟩,0,(n:Int)⟩
end Go.Proofs.YtcmjnlpofebbmaaGreatDoor
