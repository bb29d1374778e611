/-
  Walks and plain facts, made small.
-/
import Derived.Test.YtcmjnlpofebbmaaGreatDoorMa04
import Derived.Laws.AppendOwnNone
import Derived.WalkSmall
set_option maxRecDepth 100000
set_option maxHeartbeats 8000000
set_option linter.unusedSimpArgs false
namespace Go.Proofs.YtcmjnlpofebbmaaGreatDoor.Mt
structure OkL (P:Pm)(A:List (List Nat))(l:List Nat):Prop where
 ne:l≠[]
 one:1<l.length->P.many A.length=true
 met: ∀q∈l,P.H A.length (las A A.length) q=true
 gap: ∀(B:List Nat) (p q:Nat) (C:List Nat),l=B++p::q::C->p<q/\btw P A A.length p q=true
 fst:A≠[]-> ∀q C,l=q::C->endT A<q/\btw P A A.length (endT A) q=true
structure Rgt (P:Pm)(T:List (List Nat)):Prop where
 le:T.length<=P.N
 low: ∀l∈T, ∀q∈l,q<P.len
 ok: ∀A l B,T=A++l::B->OkL P A l
theorem q8B {T A B:List (List Nat)}{l x:List Nat}(h:T++[x]=A++l::B):(B=[]/\A=T/\l=x)\/ ∃C,B=C++[x]/\T=A++l::C:=by
 rcases List.eq_nil_or_concat B with rfl|⟨C,y,rfl⟩
 ·left
  have h2:T++[x]=A++[l]:=h
  obtain ⟨h3,h4⟩:=List.append_inj' h2 rfl
  cases h4
  exact ⟨rfl,h3.symm,rfl⟩
 ·right
  have h2:T++[x]=(A++l::C)++[y]:=by rw[h];simp
  obtain ⟨h3,h4⟩:=List.append_inj' h2 rfl
  cases h4
  exact ⟨C,by simp,h3⟩
theorem Rgt.snoc {P:Pm}{T:List (List Nat)}{x:List Nat}(h:Rgt P (T++[x])):Rgt P T/\OkL P T x/\T.length<P.N/\ ∀q∈x,q<P.len:=by
 have hl:=h.le
 rw[List.length_append]at hl
 refine ⟨⟨by omega,fun l hl=>h.low l (by simp[hl]),fun A l B e=>h.ok A l (B++[x]) (by rw[e];simp)⟩,h.ok T x [] rfl,by simp at hl;omega,fun q hq=>h.low x (by simp) q hq⟩
theorem Rgt.put {P:Pm}{T:List (List Nat)}{x:List Nat}(h:Rgt P T)(hx:OkL P T x)(hl:T.length<P.N)(hq: ∀q∈x,q<P.len):Rgt P (T++[x]):=by
 refine ⟨by rw[List.length_append];exact hl,fun l hl=>?_,fun A l B e=>?_⟩
 ·rw[List.mem_append,List.mem_singleton]at hl
  rcases hl with hl|rfl
  ·exact h.low l hl
  ·exact hq
 ·rcases q8B e with ⟨rfl,rfl,rfl⟩|⟨C,rfl,e2⟩
  ·exact hx
  ·exact h.ok A l C e2
theorem qbG {l B C:List Nat}{x p q:Nat}(h:l++[x]=B++p::q::C):(C=[]/\q=x/\l=B++[p])\/ ∃D,C=D++[x]/\l=B++p::q::D:=by
 rcases List.eq_nil_or_concat C with rfl|⟨D,y,rfl⟩
 ·left
  have h2:l++[x]=(B++[p])++[q]:=by rw[h];simp
  obtain ⟨h3,h4⟩:=List.append_inj' h2 rfl
  cases h4
  exact ⟨rfl,rfl,h3⟩
 ·right
  have h2:l++[x]=(B++p::q::D)++[y]:=by rw[h];simp
  obtain ⟨h3,h4⟩:=List.append_inj' h2 rfl
  cases h4
  exact ⟨D,by simp,h3⟩
theorem OkL.more {P:Pm}{A:List (List Nat)}{l:List Nat}(h:OkL P A l){q:Nat}(hm:P.many A.length=true)(hH:P.H A.length (las A A.length) q=true)(hlt:lst l<q)(hb:btw P A A.length (lst l) q=true):OkL P A (l++[q]):=by
 refine ⟨by simp,fun _=>hm,fun x hx=>?_,fun B p r C e=>?_,fun hA x C e=>?_⟩
 ·rw[List.mem_append,List.mem_singleton]at hx
  rcases hx with hx|rfl
  ·exact h.met x hx
  ·exact hH
 ·rcases qbG e with ⟨_,rfl,e2⟩|⟨D,_,e2⟩
  ·have:lst l=p:=by rw[e2,lst_snoc]
   rw[<-this]
   exact ⟨hlt,hb⟩
  ·exact h.gap B p r D e2
 ·cases l with
  |nil=>exact absurd rfl h.ne
  |cons y l=>
   cases e
   exact h.fst hA x l rfl
theorem OkL.less {P:Pm}{A:List (List Nat)}{l:List Nat}{q:Nat}(h:OkL P A (l++[q]))(hne:l≠[]):OkL P A l/\P.many A.length=true/\P.H A.length (las A A.length) q=true/\lst l<q/\btw P A A.length (lst l) q=true:=by
 refine ⟨⟨hne,fun hl=>h.one (by rw[List.length_append];omega),fun x hx=>h.met x (by simp[hx]),fun B p r C e=>h.gap B p r (C++[q]) (by rw[e];simp),fun hA x C e=>h.fst hA x (C++[q]) (by rw[e];simp)⟩,h.one ?_,h.met q (by simp),?_⟩
 ·have:=List.length_pos_iff.2 hne
  simp
  omega
 ·rcases List.eq_nil_or_concat l with e|⟨B,p,rfl⟩
  ·exact absurd e hne
  ·rw[List.concat_eq_append,lst_snoc]
   exact h.gap B p q [] (by simp)
theorem OkL.new {P:Pm}{A:List (List Nat)}{q:Nat}(hH:P.H A.length (las A A.length) q=true)(hf:A≠[]->endT A<q/\btw P A A.length (endT A) q=true):OkL P A [q]:=by
 refine ⟨by simp,fun h=>by simp at h,fun x hx=>by rw[List.mem_singleton]at hx;rw[hx];exact hH,fun B p r C e=>?_,fun hA x C e=>by cases e;exact hf hA⟩
 have:=congrArg List.length e
 simp at this
 omega
theorem q4w {A B:List (List Nat)}{i:Nat}(h:i<=A.length):las (A++B) i=las A i:=by unfold las;rw[List.take_append_of_le_length h]
theorem q7f {P:Pm}{A B:List (List Nat)}{t p q:Nat}(h:t<=A.length):btw P (A++B) t p q=btw P A t p q:=by unfold btw;rw[q4w h]
theorem Rgt.step {P:Pm}{en t q:Nat}{T:List (List Nat)}(h:Rgt P T)(h0:T≠[])(hen:en<=P.len)(ht:t∈rds P T)(hq:q∈cand P en T t):Rgt P (ext T t q):=by
 have hm:=mem_cand.1 hq
 unfold rds at ht
 rw[List.mem_append]at ht
 rcases ht with ht|ht
 ·split at ht
  ·rename_i hmany
   rw[List.mem_singleton]at ht
   rcases List.eq_nil_or_concat T with e|⟨A,l,rfl⟩
   ·exact absurd e h0
   rw[List.concat_eq_append]at *
   obtain ⟨h1,h2,h3,h4⟩:=h.snoc
   have hlen:t=A.length:=by rw[ht];simp
   subst hlen
   have he:ext (A++[l]) A.length q=A++[l++[q]]:=by
    unfold ext
    rw[if_neg (by simp)]
    simp
   rw[he]
   rw[q4w (Nat.le_refl _),q7f (Nat.le_refl _),endT_snoc]at hm
   have hmn:P.many A.length=true:=by simpa using hmany
   refine h1.put (h2.more hmn hm.2.2.1 hm.1 hm.2.2.2) h3 (fun x hx=>?_)
   rw[List.mem_append,List.mem_singleton]at hx
   rcases hx with hx|rfl
   ·exact h4 x hx
   ·omega
  ·cases ht
 ·split at ht
  ·rename_i hlt
   rw[List.mem_singleton]at ht
   subst ht
   have he:ext T T.length q=T++[[q]]:=by unfold ext;rw[if_pos rfl]
   rw[he]
   exact h.put (OkL.new hm.2.2.1 (fun _=>⟨hm.1,hm.2.2.2⟩)) hlt (fun x hx=>by rw[List.mem_singleton]at hx;omega)
  ·cases ht
theorem Rd.rgt {P:Pm}{en:Nat}(hen:en<=P.len){T X:List (List Nat)}(h:Rd P en T X):T≠[]->Rgt P T->Rgt P X:=by
 induction h with
 |refl T=>intro _ h;exact h
 |step ht hq _ ih=>intro h0 h;exact ih (ext_ne _ _ _) (h.step h0 hen ht hq)
theorem Rd.trans {P:Pm}{en:Nat}{A B C:List (List Nat)}(h:Rd P en A B)(h2:Rd P en B C):Rd P en A C:=by
 induction h with
 |refl T=>exact h2
 |step ht hq _ ih=>exact .step ht hq (ih h2)
theorem Rd.fin {P:Pm}{en:Nat}{T X:List (List Nat)}(h:Rd P en T X):endT T<=endT X:=by
 induction h with
 |refl T=>exact Nat.le_refl _
 |step _ hq _ ih=>
  rw[endT_ext]at ih
  have:=(mem_cand.1 hq).1
  omega
theorem Rd.bound {P:Pm}{en e:Nat}{T X:List (List Nat)}(h:Rd P en T X):endT X<e->Rd P e T X:=by
 induction h with
 |refl T=>intro _;exact .refl T
 | @step T X t q ht hq hr ih=>
  intro he
  have hf:=hr.fin
  rw[endT_ext]at hf
  have hm:=mem_cand.1 hq
  exact .step ht (mem_cand.2 ⟨hm.1,by omega,hm.2.2⟩) (ih he)
def fstT (T:List (List Nat)):Nat:=(T.headD []).headD 0
def cnt (T:List (List Nat)):Nat:=(T.map List.length).sum
theorem q5x (T:List (List Nat))(l:List Nat):cnt (T++[l])=cnt T+l.length:=by unfold cnt;simp
theorem q5N {A:List (List Nat)}(h:A≠[])(B:List (List Nat)):fstT (A++B)=fstT A:=by
 cases A with
 |nil=>exact absurd rfl h
 |cons a A=>rfl
theorem Rgt.reach {P:Pm}: ∀(n:Nat) (T:List (List Nat)),cnt T=n->T≠[]->Rgt P T->P.H 0 [] (fstT T)=true/\fstT T<P.len/\Rd P P.len [[fstT T]] T:=by
 intro n
 induction n using Nat.strongRecOn with
 |ind n ih=>
  intro T hn h0 h
  rcases List.eq_nil_or_concat T with e|⟨A,l,rfl⟩
  ·exact absurd e h0
  rw[List.concat_eq_append]at *
  obtain ⟨h1,h2,h3,h4⟩:=h.snoc
  rw[q5x]at hn
  rcases List.eq_nil_or_concat l with e|⟨m,q,rfl⟩
  ·exact absurd e h2.ne
  rw[List.concat_eq_append]at *
  rw[List.length_append,List.length_singleton]at hn
  by_cases hm:m=[]
  ·subst hm
   by_cases hA:A=[]
   ·subst hA
    exact ⟨h2.met q (by simp),h4 q (by simp), .refl _⟩
   ·obtain ⟨i1,i2,i3⟩:=ih (cnt A) (by simp at hn;omega) A rfl hA h1
    rw[q5N hA]
    refine ⟨i1,i2,i3.trans ?_⟩
    have he:ext A A.length q=A++[[]++[q]]:=by unfold ext;rw[if_pos rfl];rfl
    have hf:=h2.fst hA q [] rfl
    have hs:Rd P P.len A (ext A A.length q):= .step (t:=A.length) (q:=q) (by unfold rds;rw[if_pos h3];simp) (mem_cand.2 ⟨hf.1,h4 q (by simp),h2.met q (by simp),hf.2⟩) (.refl _)
    rw[he]at hs
    exact hs
  ·obtain ⟨o1,o2,o3,o4,o5⟩:=h2.less hm
   have hr:Rgt P (A++[m]):=h1.put o1 h3 (fun x hx=>h4 x (by simp[hx]))
   obtain ⟨i1,i2,i3⟩:=ih (cnt (A++[m])) (by rw[q5x];omega) (A++[m]) rfl (by simp) hr
   have hfst:fstT (A++[m++[q]])=fstT (A++[m]):=by
    cases A with
    |nil=>
     cases m with
     |nil=>exact absurd rfl hm
     |cons a m=>rfl
    |cons a A=>rfl
   rw[hfst]
   refine ⟨i1,i2,i3.trans ?_⟩
   have he:ext (A++[m]) A.length q=A++[m++[q]]:=by
    unfold ext
    rw[if_neg (by simp)]
    simp
   have hs:Rd P P.len (A++[m]) (ext (A++[m]) A.length q):=by
    refine .step (t:=A.length) (q:=q) ?_ (mem_cand.2 ?_) (.refl _)
    ·unfold rds
     rw[List.length_append,List.length_singleton,show A.length+1-1=A.length by omega,if_pos o2]
     simp
    ·rw[q4w (Nat.le_refl _),q7f (Nat.le_refl _),endT_snoc]
     exact ⟨o4,h4 q (by simp),o3,o5⟩
   rw[he]at hs
   exact hs
theorem Rd.fst {P:Pm}{en:Nat}{T X:List (List Nat)}(h:Rd P en T X):T≠[]->(∀l∈T,l≠[])->fstT X=fstT T/\ ∀l∈X,l≠[]:=by
 induction h with
 |refl T=>intro _ h;exact ⟨rfl,h⟩
 | @step T X t q ht hq _ ih=>
  intro h0 hn
  have hx:fstT (ext T t q)=fstT T/\ ∀l∈ext T t q,l≠[]:=by
   rcases List.eq_nil_or_concat T with e|⟨A,l,rfl⟩
   ·exact absurd e h0
   rw[List.concat_eq_append]at *
   have hl:l≠[]:=hn l (by simp)
   unfold Go.Proofs.YtcmjnlpofebbmaaGreatDoor.Mt.ext
   split
   ·refine ⟨q5N (by simp) _,fun x hx=>?_⟩
    rw[List.mem_append,List.mem_singleton]at hx
    rcases hx with hx|rfl
    ·exact hn x hx
    ·simp
   ·simp only[List.dropLast_concat,List.getLastD_concat]
    refine ⟨?_,fun x hx=>?_⟩
    ·cases A with
     |nil=>
      cases l with
      |nil=>exact absurd rfl hl
      |cons a l=>rfl
     |cons a A=>rfl
    ·rw[List.mem_append,List.mem_singleton]at hx
     rcases hx with hx|rfl
     ·exact hn x (by simp[hx])
     ·simp
  obtain ⟨i1,i2⟩:=ih (ext_ne _ _ _) hx.2
  exact ⟨i1.trans hx.1,i2⟩
def fnd (P:Pm)(wi:Nat):List (List (List Nat)):=(List.range P.len).reverse.flatMap fun x=>if P.H 0 [] x=true then dfs P (min (x+wi) P.len) (P.len+1) [[x]] else []
theorem fnd_iff {P:Pm}{wi:Nat}(hwi:1<=wi)(hN:1<=P.N)(X:List (List Nat)):X∈fnd P wi↔Rgt P X/\X.length=P.N/\endT X<fstT X+wi:=by
 unfold fnd
 rw[List.mem_flatMap]
 constructor
 ·rintro ⟨x,hx,h⟩
  rw[List.mem_reverse,List.mem_range]at hx
  split at h
  ·rename_i hH
   obtain ⟨h1,h2⟩:=q1x _ _ _ h
   have hone:Rgt P [[x]]:=by
    have:=(Rgt.mk (P:=P) (T:=[]) (Nat.zero_le _) (by simp) (fun A l B e=>by cases A <;> cases e)).put (OkL.new (A:=[]) (q:=x) hH (fun h=>absurd rfl h)) hN (by simpa using hx)
    simpa using this
   obtain ⟨f1,_⟩:=h2.fst (by simp) (by simp)
   have f2:fstT X=x:=f1
   refine ⟨h2.rgt (Nat.min_le_right _ _) (by simp) hone,h1,?_⟩
   rw[f2]
   --the last place lies within the end
   have hb: ∀{T Y:List (List Nat)},Rd P (min (x+wi) P.len) T Y->endT T<x+wi->endT Y<x+wi:=by
    intro T Y hr
    induction hr with
    |refl T=>intro h;exact h
    |step _ hq _ ih=>
     intro _
     refine ih ?_
     rw[endT_ext]
     have:=(mem_cand.1 hq).2.1
     omega
   exact hb h2 (by show x<x+wi;omega)
  ·cases h
 ·rintro ⟨h1,h2,h3⟩
  have h0:X≠[]:=fun e=>by rw[e]at h2;simp at h2;omega
  obtain ⟨r1,r2,r3⟩:=h1.reach _ X rfl h0
  refine ⟨fstT X,by rw[List.mem_reverse,List.mem_range];exact r2,?_⟩
  rw[if_pos r1]
  have hlen:endT X<P.len:=by
   rcases List.eq_nil_or_concat X with e|⟨A,l,rfl⟩
   ·exact absurd e h0
   rw[List.concat_eq_append]at *
   rw[endT_snoc]
   obtain ⟨_,o,_,h4⟩:=h1.snoc
   rcases List.eq_nil_or_concat l with e|⟨m,q,rfl⟩
   ·exact absurd e o.ne
   ·rw[List.concat_eq_append,lst_snoc]
    exact h4 q (by simp)
  exact q3m (r3.bound (by omega)) h2 _ (by show _<=fstT X+_;omega)
theorem fnd_nodup (P:Pm)(wi:Nat):(fnd P wi).Nodup:=by
 unfold fnd
 refine q2J (by unfold List.Nodup;rw[List.pairwise_reverse];exact List.nodup_range.imp fun h=>Ne.symm h) (fun x _=>?_) (fun x _ y _ hne X hx hy=>?_)
 ·split
  ·exact q8U _ _ (by simp)
  ·simp
 ·split at hx
  ·split at hy
   ·have a:=((q1x _ _ _ hx).2.fst (by simp) (by simp)).1
    have b:=((q1x _ _ _ hy).2.fst (by simp) (by simp)).1
    rw[a]at b
    exact hne b
   ·cases hy
  ·cases hx
end Go.Proofs.YtcmjnlpofebbmaaGreatDoor.Mt
namespace Go.Proofs.YtcmjnlpofebbmaaGreatDoor.Mt
def opn (P:Pm)(T:List (List Nat))(t r:Nat):Bool:=decide (P.how t=3)||(decide (P.how t=2) && !P.H t (las T t) r)
def rest (P:Pm)(en:Nat)(T:List (List Nat))(t q:Nat):List Nat:=(List.range' q (en-q)).filter fun q=>P.H t (las T t) q && btw P T t (endT T) q
theorem btw_first (P:Pm)(T:List (List Nat))(t p:Nat):btw P T t p (p+1)=true:=by
 unfold btw
 rw[show p+1-(p+1)=0 by omega]
 simp
theorem btw_next {P:Pm}{T:List (List Nat)}{t p q:Nat}(hp:p<q)(hb:btw P T t p q=true):btw P T t p (q+1)=opn P T t q:=by
 unfold btw at hb ⊢
 unfold opn
 by_cases h3:P.how t=3
 ·simp[h3]
 ·by_cases h2:P.how t=2
  ·rw[decide_eq_false h3,Bool.false_or,if_pos h2]at hb ⊢
   rw[Bool.false_or,decide_eq_true h2,Bool.true_and,show q+1-(p+1)=(q-(p+1))+1 by omega,List.range'_concat,List.all_append,hb]
   simp
   rw[show p+1+(q-(p+1))=q by omega]
  ·rw[decide_eq_false h3,Bool.false_or,if_neg h2,Bool.false_or,decide_eq_false h2,Bool.false_and]
   exact decide_eq_false (by omega)
theorem qad {P:Pm}{T:List (List Nat)}{t p q r:Nat}(hp:p<q)(hle:q<=r)(hb:btw P T t p r=true):btw P T t p q=true:=by
 unfold btw at hb ⊢
 rw[Bool.or_eq_true]at hb ⊢
 rcases hb with hb|hb
 ·exact Or.inl hb
 ·refine Or.inr ?_
  by_cases h2:P.how t=2
  ·rw[if_pos h2,List.all_eq_true]at hb ⊢
   intro x hx
   obtain ⟨k,hk,e⟩:=List.mem_range'.1 hx
   exact hb x (List.mem_range'.2 ⟨k,by omega,e⟩)
  ·rw[if_neg h2]at hb ⊢
   have:=of_decide_eq_true hb
   exact decide_eq_true (by omega)
theorem qbh {P:Pm}{en t q:Nat}{T:List (List Nat)}(h:en<=q):rest P en T t q=[]:=by
 unfold rest
 rw[show en-q=0 by omega]
 rfl
theorem mem_rest {P:Pm}{en t q r:Nat}{T:List (List Nat)}:r∈rest P en T t q↔q<=r/\r<en/\P.H t (las T t) r=true/\btw P T t (endT T) r=true:=by
 unfold rest
 rw[List.mem_filter,List.mem_range',Bool.and_eq_true]
 constructor
 ·rintro ⟨⟨i,hi,rfl⟩,h⟩
  exact ⟨by omega,by omega,h⟩
 ·rintro ⟨h1,h2,h⟩
  exact ⟨⟨r-q,by omega,by omega⟩,h⟩
theorem q9L {P:Pm}{en t q:Nat}{T:List (List Nat)}(hp:endT T<q)(hb:btw P T t (endT T) q=true)(hq:q<en):rest P en T t q=(if P.H t (las T t) q=true then [q] else [])++(if opn P T t q=true then rest P en T t (q+1) else []):=by
 have e1:rest P en T t q=(if P.H t (las T t) q=true then [q] else [])++rest P en T t (q+1):=by
  unfold rest
  rw[show en-q=(en-(q+1))+1 by omega,List.range'_succ,List.filter_cons]
  rw[hb,Bool.and_true]
  split <;> rfl
 rw[e1]
 congr 1
 by_cases ho:opn P T t q=true
 ·rw[if_pos ho]
 ·rw[if_neg ho]
  cases hc:rest P en T t (q+1)with
  |nil=>rfl
  |cons r l=>
   exfalso
   have hr:r∈rest P en T t (q+1):=by rw[hc];simp
   have hm:=mem_rest.1 hr
   have:=qad (q:=q+1) (by omega) hm.1 hm.2.2.2
   rw[btw_next hp hb]at this
   exact ho this
def wlk (P:Pm)(en f:Nat)(T:List (List Nat))(t q:Nat):List (List (List Nat)):=(rest P en T t q).flatMap fun q=>dfs P en f (ext T t q)
theorem qdj {P:Pm}{en f t q:Nat}{T:List (List Nat)}(h:en<=q):wlk P en f T t q=[]:=by unfold wlk;rw[qbh h];rfl
theorem qbO {P:Pm}{en f t q:Nat}{T:List (List Nat)}(hp:endT T<q)(hb:btw P T t (endT T) q=true)(hq:q<en):wlk P en f T t q=(if P.H t (las T t) q=true then dfs P en f (ext T t q) else [])++(if opn P T t q=true then wlk P en f T t (q+1) else []):=by
 unfold wlk
 rw[q9L hp hb hq,List.flatMap_append]
 congr 1
 ·split <;> simp
 ·split <;> simp
theorem qbN {P:Pm}{ask:Nat->Nat->Bool}(hA:Asks P ask){en f s q:Nat}{T:List (List Nat)}(hs:s+1=T.length)(hm:P.many s=true)(hp:endT T<q)(hb:btw P T s (endT T) q=true)(hq:q<en)(hH:P.H s (las T s) q=true)(hf:en<=q+(f+1))(hd:dfs P en (f+1) (ext T s q)=[]):wlk P en (f+1) T s (q+1)=[]:=by
 have hz: ∀r∈rest P en T s (q+1),dfs P en (f+1) (ext T s r)=[]:=fun r hr=>by
  have h:=mem_rest.1 hr
  exact q9s hA hs hm (mem_cand.2 ⟨hp,hq,hH,hb⟩) (mem_cand.2 ⟨by omega,h.2⟩) (by omega) hf hd _
 unfold wlk
 rw[q0R hz]
 induction rest P en T s (q+1)with
 |nil=>rfl
 |cons a l _=>simp
end Go.Proofs.YtcmjnlpofebbmaaGreatDoor.Mt
namespace Go.Proofs.YtcmjnlpofebbmaaGreatDoor.Mt
structure Asg (P:Pm)(T:List (List Nat)):Prop where
 ne:T≠[]
 le:T.length<=P.N
 one: ∀i l,T[i]?=some l->l≠[]/\(1<l.length->P.many i=true)
 inc:T.flatten.Pairwise (· < ·)
 low: ∀q∈T.flatten,q<P.len
theorem q4U {T:List (List Nat)}{i:Nat}{l:List Nat}(h:T[i]?=some l): ∃A B,T=A++l::B/\A.length=i:=by
 obtain ⟨hi,e⟩:=List.getElem?_eq_some_iff.1 h
 refine ⟨T.take i,T.drop (i+1),?_,by rw[List.length_take];omega⟩
 rw[<-e,List.getElem_cons_drop,List.take_append_drop]
theorem Rgt.asg {P:Pm}{T:List (List Nat)}(h:Rgt P T)(h0:T≠[]):Asg P T:=by
 refine ⟨h0,h.le,fun i l hl=>?_,?_,fun q hq=>?_⟩
 ·obtain ⟨A,B,e,rfl⟩:=q4U hl
  have o:=h.ok A l B e
  exact ⟨o.ne,o.one⟩
 ·--by its stages,from the first on
  have gen: ∀(n:Nat) (T:List (List Nat)),T.length=n->Rgt P T->T.flatten.Pairwise (· < ·)/\(T≠[]-> ∀q∈T.flatten,q<=endT T):=by
   intro n
   induction n with
   |zero=>intro T hn _;rw[List.eq_nil_of_length_eq_zero hn];exact ⟨by simp,fun h=>absurd rfl h⟩
   |succ n ih=>
    intro T hn hT
    rcases List.eq_nil_or_concat T with e|⟨A,l,rfl⟩
    ·rw[e]at hn;cases hn
    rw[List.concat_eq_append]at *
    obtain ⟨h1,o,_,_⟩:=hT.snoc
    obtain ⟨i1,i2⟩:=ih A (by simpa using hn) h1
    have hl: ∀(l':List Nat),(∀(C:List Nat) (p q:Nat) (D:List Nat),l'=C++p::q::D->p<q)->l'.Pairwise (· < ·)/\ ∀q∈l',q<=lst l':=by
     intro l'
     induction l' with
     |nil=>intro _;exact ⟨by simp,by simp⟩
     |cons a r ihr=>
      intro hg
      obtain ⟨j1,j2⟩:=ihr (fun C p q D e=>hg (a::C) p q D (by rw[e];rfl))
      cases r with
      |nil=>exact ⟨by simp,fun q hq=>by rw[List.mem_singleton]at hq;rw[hq];exact Nat.le_refl _⟩
      |cons b r=>
       have hab:=hg [] a b r rfl
       have hls:lst (a::b::r)=lst (b::r):=by unfold lst;simp
       refine ⟨List.pairwise_cons.2 ⟨fun x hx=>?_,j1⟩,fun q hq=>?_⟩
       ·rcases List.mem_cons.1 hx with rfl|hx
        ·exact hab
        ·have:=(List.pairwise_cons.1 j1).1 x hx
         omega
       ·rw[hls]
        rcases List.mem_cons.1 hq with rfl|hq
        ·have:=j2 b (by simp)
         omega
        ·exact j2 q hq
    obtain ⟨k1,k2⟩:=hl l (fun C p q D e=>(o.gap C p q D e).1)
    have hcross: ∀x∈A.flatten, ∀y∈l,x<y:=by
     intro x hx y hy
     by_cases hA:A=[]
     ·rw[hA]at hx;cases hx
     ·have hxa:=i2 hA x hx
      cases hll:l with
      |nil=>exact absurd hll o.ne
      |cons z r=>
       have hz:=(o.fst hA z r hll).1
       rw[hll]at hy k1
       rcases List.mem_cons.1 hy with rfl|hy
       ·omega
       ·have:=(List.pairwise_cons.1 k1).1 y hy
        omega
    refine ⟨?_,fun _ q hq=>?_⟩
    ·rw[List.flatten_append,List.pairwise_append]
     refine ⟨i1,by simpa using k1,fun x hx y hy=>hcross x hx y (by simpa using hy)⟩
    ·rw[endT_snoc]
     rw[List.flatten_append,List.mem_append]at hq
     rcases hq with hq|hq
     ·cases hll:l with
      |nil=>exact absurd hll o.ne
      |cons z r=>
       have h1':=hcross q hq z (by rw[hll];simp)
       have h2':=k2 z (by rw[hll];simp)
       rw[hll]at h2'
       omega
     ·exact k2 q (by simpa using hq)
  exact (gen _ T rfl h).1
 ·obtain ⟨l,hl,hq⟩:=List.mem_flatten.1 hq
  exact h.low l hl q hq
end Go.Proofs.YtcmjnlpofebbmaaGreatDoor.Mt
namespace Go.Proofs.YtcmjnlpofebbmaaGreatDoor.Mt
theorem Rgt.full {P:Pm}{T:List (List Nat)}(h:Rgt P T): ∀l∈T,l≠[]:=fun l hl=>by
 obtain ⟨i,hi,e⟩:=List.getElem_of_mem hl
 obtain ⟨A,B,e2,_⟩:=q4U (T:=T) (i:=i) (l:=l) (by rw[List.getElem?_eq_getElem hi,e])
 exact (h.ok A l B e2).ne
end Go.Proofs.YtcmjnlpofebbmaaGreatDoor.Mt
namespace Go.Proofs.YtcmjnlpofebbmaaGreatDoor.Mt
def toZ (T:List (List Nat)):List (List Int):=T.map fun l=>l.map Int.ofNat
theorem le_lst {m:List Nat}(h:m.Pairwise (· < ·)): ∀q∈m,q<=lst m:=by
 rcases List.eq_nil_or_concat m with e|⟨l,x,rfl⟩
 ·rw[e];simp
 ·rw[List.concat_eq_append]at *
  intro q hq
  rw[lst_snoc]
  rw[List.pairwise_append]at h
  rw[List.mem_append,List.mem_singleton]at hq
  rcases hq with hq|rfl
  ·exact Nat.le_of_lt (h.2.2 q hq x (by simp))
  ·exact Nat.le_refl _
theorem lst_mem {m:List Nat}(h:m≠[]):lst m∈m:=by
 rcases List.eq_nil_or_concat m with e|⟨l,x,rfl⟩
 ·exact absurd e h
 ·rw[List.concat_eq_append,lst_snoc];simp
end Go.Proofs.YtcmjnlpofebbmaaGreatDoor.Mt
namespace Go.Proofs.YtcmjnlpofebbmaaGreatDoor
open Go.RowKit
def IntsAt (w:World)(ad:Option Addr)(l:List Int):Prop:=
 l≠[]-> ∃b off,ad=some ⟨b,off,none⟩/\b<w.heap.size/\ ∀i (h:i<l.length),w.cell? ⟨b,off+i,none⟩=some (.int .i64 l[i])
theorem IntsAt.below {w w':World}{B:Nat}{ad:Option Addr}{l:List Int}(h:IntsAt w ad l)(hb:Below B w w')(hB:w.heap.size<=B):IntsAt w' ad l:=fun hl=>by
 obtain ⟨b,off,e,hlt,hc⟩:=h hl
 exact ⟨b,off,e,Nat.lt_of_lt_of_le hlt hb.size,fun i hi=>(hb.cell (p:=⟨b,off+i,none⟩) (Nat.lt_of_lt_of_le hlt hB)).trans (hc i hi)⟩
open Go.RowKit
theorem q74 {P:Program}{w:World}(t ty e:TypeId)(i:TypeInfo)(z:Value)(size bytes:Nat)(h1:P.underlying t=some (.slice e))(h2:P.info? e=some i)(h3:i.zero=some z)(h4:i.size=size)(h5:i.bytes=bytes)(h6:z.cells.size=size)(h7:0<size)
  {g2 n2 cap2:Nat} {xs:List Value} (ho:w.ownsRow 0 e size (.slice (some ⟨g2,0,none⟩) n2 cap2) n2 xs)
  (ad:Option Addr) (m c:Nat) (news:List Value) (hn:news.length=m * size) (hnone:ad=none->m=0/\c=0) (hsp: ∀a,ad=some a->a.spot=none) (hc: ∀a,ad=some a-> ∀j u,news[j]?=some u->w.cell? (a.add j)=some u) (h1c: ∀u∈news,u.oneCell'=true)
  (b1:n2+m<=maxLen) (b2:(n2+m) * bytes<=140737488355328):
  ∃g cap w',(Builtin.append_ #[t,t] ty #[.slice (some ⟨g2,0,none⟩) n2 cap2, .slice ad m c]).run P w= .ok (.slice (some ⟨g,0,none⟩) (n2+m) cap) w'/\w'.ownsRow 0 e size (.slice (some ⟨g,0,none⟩) (n2+m) cap) (n2+m) (xs++news)/\w.grownBy w' (some g2)/\(g=g2\/g=w.heap.size):=by
 have hcp:n2<=cap2:=by
  obtain ⟨_,⟨e,_⟩|⟨g,cp,cur,e,_,_,hn,_⟩⟩:=id ho
  ·cases e
  ·injection e with _ e2 e3;omega
 cases ad with
 |none=>
  obtain ⟨rfl,rfl⟩:=hnone rfl
  obtain rfl:news=[]:=List.eq_nil_of_length_eq_zero (by omega)
  exact ⟨g2,cap2,w,by simpa using run_append_owned_none (P:=P) (w:=w) 0 t ty e i size h1 h2 _ _ _ ho,by simpa using ho,World.grownBy.refl _ _,Or.inl rfl⟩
 |some a=>
  obtain ⟨b,off,spot⟩:=a
  obtain rfl:spot=none:=hsp _ rfl
  rcases Nat.eq_zero_or_pos m with h0|hpos
  ·subst h0
   obtain rfl:news=[]:=List.eq_nil_of_length_eq_zero (by omega)
   have:=run_append_room_cells (P:=P) (w:=w) t ty e i h1 h2 g2 0 n2 cap2 ⟨b,off,none⟩ 0 c [] (by simp) (fun j u hj=>by simp at hj) (fun u hu=>by cases hu) (by omega) (fun j hj=>absurd hj (by simp)) (fun j hj=>absurd hj (by simp))
   exact ⟨g2,cap2,w,by simpa [World.setCells] using this,by simpa using ho,World.grownBy.refl _ _,Or.inl rfl⟩
  ·obtain ⟨g3,cap3,w',hr,r1,r2,r3,_⟩:=run_append_lies (P:=P) (w:=w) t ty 0 e i z size bytes h1 h2 h3 h4 h5 h6 h7 _ _ _ ho ⟨b,off,none⟩ m c news hn (hc _ rfl) h1c hpos b1 b2 (Nat.zero_le _) _ rfl
   refine ⟨g3,cap3,w',hr,r1,r2,?_⟩
   rcases r3 with r3|r3
   ·exact Or.inl (by simpa [Value.ownBlock] using r3.symm)
   ·exact Or.inr r3
theorem q0e {P:Program}{ops:Array Oper}{rest:List Oper}{o:Oper}{a:Act}{w w':World}{Q:Exit->Act->World->Prop}{v u1 u2:Value}(hgd:o.guard=none)(s x:Operand)(t:TypeId)
  (ho:o.op= .call { callee:= .builtin .append,args:=#[s,x],argTypes:=#[t,t] }) (hs:a.eval s=u1) (hx:a.eval x=u2) (hr:(Builtin.append_ #[t,t] o.type #[u1,u2]).run P w= .ok v w')
  (h:wpList P ops Q rest (a.put o.dst v) w'):wpList P ops Q (o::rest) a w:=
 wpList_plain hgd fun _ hK=>by
  unfold Oper.wp
  simp[execOp,ho,resolve,invoke,builtin,hs,hx,hr,Result.andThen]
  exact hK _ _ h
open Go.RowKit
theorem q9j:(Tryz.prog.info? 3).map (fun i=>(i.zero,i.size,i.bytes))=some (some (.int .i64 0),1,8):=by kernel_rfl
theorem q2F:(Tryz.prog.info? 38).map (fun i=>(i.zero,i.size,i.bytes))=some (some (.slice none 0 0),1,24):=by kernel_rfl
def iC (p:List Int):List Value:=p.map (Value.int .i64)
def IRo (w:World)(v:Value)(p:List Int):Prop:=w.ownsRow 0 3 1 v p.length (iC p)
theorem IRo.nil (w:World):IRo w (.slice none 0 0) []:=⟨rfl,Or.inl ⟨rfl,rfl⟩⟩
theorem IRo.block {w:World}{v:Value}{p:List Int}(h:IRo w v p){b:Nat}(hb:v.ownBlock=some b): ∃cur,w.heap[b]?=some (.cells cur 3 (0,0)):=by
 obtain ⟨_,⟨rfl,_⟩|⟨g,cp,cur,rfl,_,hh,_⟩⟩:=h
 ·cases hb
 ·simp[Value.ownBlock]at hb
  subst hb
  exact ⟨cur,hh⟩
theorem IRo.lt {w:World}{v:Value}{p:List Int}(h:IRo w v p){b:Nat}(hb:v.ownBlock=some b):b<w.heap.size:=by
 obtain ⟨cur,hc⟩:=h.block hb
 exact (Array.getElem?_eq_some_iff.1 hc).1
theorem IRo.kp {F:List Nat}{w w':World}{v:Value}{p:List Int}(h:IRo w v p)(hk:Kp F w w')(hF: ∀b,v.ownBlock=some b->b∉F):IRo w' v p:=by
 obtain ⟨h0,⟨rfl,h1⟩|⟨g,cap,cur,rfl,hg,hh,h2,h3,h4,h5⟩⟩:=h
 ·exact ⟨h0,Or.inl ⟨rfl,h1⟩⟩
 ·exact ⟨h0,Or.inr ⟨g,cap,cur,rfl,hg,(hk.block g (Array.getElem?_eq_some_iff.1 hh).1 (hF g rfl)).trans hh,h2,h3,h4,h5⟩⟩
def NoI (w:World)(F:List Nat):Prop:= ∀f∈F, ∀cur fr,w.heap[f]?≠some (.cells cur 3 fr)
theorem IRo.kpT {F:List Nat}{w w':World}{v:Value}{p:List Int}(h:IRo w v p)(hk:Kp F w w')(hF:NoI w F):IRo w' v p:=
 h.kp hk fun b hb hm=>by
  obtain ⟨cur,hc⟩:=h.block hb
  exact hF b hm _ _ hc
theorem IRo.at {w:World}{v:Value}{p:List Int}(h:IRo w v p): ∃a c,v= .slice a p.length c/\IntsAt w a p:=by
 obtain ⟨h0,⟨rfl,h1⟩|⟨g,cap,cur,rfl,hg,hh,h2,h3,h4,h5⟩⟩:=h
 ·exact ⟨none,0,by rw[h1],fun hne=>absurd (List.eq_nil_of_length_eq_zero h1) hne⟩
 ·refine ⟨_,_,rfl,fun _=>⟨g,0,rfl,(Array.getElem?_eq_some_iff.1 hh).1,fun i hi=>?_⟩⟩
  have hx:(iC p)[i]?=some (.int .i64 p[i]):=by unfold iC;simp[hi]
  rw[<-h5,List.getElem?_take_of_lt (by omega)]at hx
  simp at hx
  rw[Nat.zero_add]
  simp[World.cell?,hh,hx]
def RowsI (w:World)(vs:List Value)(ps:List (List Int)):Prop:=vs.length=ps.length/\ ∀(i:Nat) (v:Value) (p:List Int),vs[i]?=some v->ps[i]?=some p->IRo w v p
theorem RowsI.nil (w:World):RowsI w [] []:=⟨rfl,fun i v p h=>by simp at h⟩
theorem RowsI.kpT {F:List Nat}{w w':World}{vs:List Value}{ps:List (List Int)}(h:RowsI w vs ps)(hk:Kp F w w')(hF:NoI w F):RowsI w' vs ps:=⟨h.1,fun i v p a b=>(h.2 i v p a b).kpT hk hF⟩
theorem RowsI.snoc {w:World}{vs:List Value}{ps:List (List Int)}(h:RowsI w vs ps){v:Value}{p:List Int}(hv:IRo w v p):RowsI w (vs++[v]) (ps++[p]):=by
 refine ⟨by rw[List.length_append,List.length_append,h.1];rfl,fun i x q a b=>?_⟩
 rcases Nat.lt_or_ge i vs.length with hi|hi
 ·rw[List.getElem?_append_left hi]at a
  rw[List.getElem?_append_left (by rw[<-h.1];exact hi)]at b
  exact h.2 i x q a b
 ·rw[List.getElem?_append_right hi]at a
  rw[List.getElem?_append_right (by rw[<-h.1];exact hi)]at b
  have hl:=(List.getElem?_eq_some_iff.1 a).1
  have hz:i-vs.length=0:=by simp at hl;omega
  rw[hz]at a
  rw[<-h.1,hz]at b
  simp at a b
  subst a b
  exact hv
theorem RowsI.lt {w:World}{vs:List Value}{ps:List (List Int)}(h:RowsI w vs ps){v:Value}(hv:v∈vs){b:Nat}(hb:v.ownBlock=some b):b<w.heap.size:=by
 obtain ⟨i,hi,rfl⟩:=List.getElem_of_mem hv
 exact (h.2 i vs[i] (ps[i]'(by rw[<-h.1];exact hi)) (List.getElem?_eq_getElem hi) (List.getElem?_eq_getElem _)).lt hb
def VRo (w:World)(v:Value)(vs:List Value):Prop:=w.ownsRow 0 38 1 v vs.length vs
theorem VRo.block {w:World}{v:Value}{vs:List Value}(h:VRo w v vs){b:Nat}(hb:v.ownBlock=some b): ∃cur,w.heap[b]?=some (.cells cur 38 (0,0)):=by
 obtain ⟨_,⟨rfl,_⟩|⟨g,cp,cur,rfl,_,hh,_⟩⟩:=h
 ·cases hb
 ·simp[Value.ownBlock]at hb
  subst hb
  exact ⟨cur,hh⟩
theorem VRo.kp {F:List Nat}{w w':World}{v:Value}{vs:List Value}(h:VRo w v vs)(hk:Kp F w w')(hF: ∀b,v.ownBlock=some b->b∉F):VRo w' v vs:=by
 obtain ⟨h0,⟨rfl,h1⟩|⟨g,cap,cur,rfl,hg,hh,h2,h3,h4,h5⟩⟩:=h
 ·exact ⟨h0,Or.inl ⟨rfl,h1⟩⟩
 ·exact ⟨h0,Or.inr ⟨g,cap,cur,rfl,hg,(hk.block g (Array.getElem?_eq_some_iff.1 hh).1 (hF g rfl)).trans hh,h2,h3,h4,h5⟩⟩
open Go.RowKit
structure PlS (w:World)(v:Value)(vs:List Value)(T:List (List Nat)):Prop where
 row:VRo w v vs
 ins:RowsI w vs (Mt.toZ T)
 nd: ∀(i j:Nat) (a b:Value) (k:Nat),vs[i]?=some a->vs[j]?=some b->a.ownBlock=some k->b.ownBlock=some k->i=j
def plB (v:Value)(vs:List Value):List Nat:=v.ownBlock.toList++vs.flatMap fun u=>u.ownBlock.toList
theorem mem_plB {v:Value}{vs:List Value}{k:Nat}:k∈plB v vs↔v.ownBlock=some k\/ ∃u∈vs,u.ownBlock=some k:=by
 unfold plB
 rw[List.mem_append,List.mem_flatMap]
 simp
theorem q0I (T:List (List Nat)):(Mt.toZ T).length=T.length:=by unfold Mt.toZ;rw[List.length_map]
theorem q4g {T:List (List Nat)}{i:Nat}{l:List Nat}(h:T[i]?=some l):(Mt.toZ T)[i]?=some (l.map Int.ofNat):=by unfold Mt.toZ;rw[List.getElem?_map,h];rfl
theorem PlS.len {w:World}{v:Value}{vs:List Value}{T:List (List Nat)}(h:PlS w v vs T):vs.length=T.length:=by rw[h.ins.1,q0I]
theorem PlS.kp {F:List Nat}{w w':World}{v:Value}{vs:List Value}{T:List (List Nat)}(h:PlS w v vs T)(hk:Kp F w w')(hF: ∀k∈plB v vs,k∉F):PlS w' v vs T:=
 ⟨h.row.kp hk (fun b hb=>hF b (mem_plB.2 (Or.inl hb))),⟨h.ins.1,fun i u p hu hp=>(h.ins.2 i u p hu hp).kp hk (fun b hb=>hF b (mem_plB.2 (Or.inr ⟨u,List.mem_of_getElem? hu,hb⟩)))⟩,h.nd⟩
theorem PlS.nil (w:World):PlS w (.slice none 0 0) [] []:=⟨World.ownsRow_nil _ _ _ _,RowsI.nil w,fun i j a b k h=>by simp at h⟩
theorem PlS.lt {w:World}{v:Value}{vs:List Value}{T:List (List Nat)}(h:PlS w v vs T): ∀k∈plB v vs,k<w.heap.size:=fun k hk=>by
 rcases mem_plB.1 hk with hk|⟨u,hu,hk⟩
 ·exact (World.ownsRow.lt h.row k hk).2
 ·exact h.ins.lt hu hk
theorem PlS.form {w:World}{v:Value}{vs:List Value}{T:List (List Nat)}(h:PlS w v vs T):(v= .slice none 0 0/\T=[])\/ ∃g cap,v= .slice (some ⟨g,0,none⟩) T.length cap/\T.length<=cap/\cap<=maxLen:=by
 have hl:=h.len
 obtain ⟨_,⟨rfl,h0⟩|⟨g,cap,cur,rfl,_,_,hc,hm,_⟩⟩:=h.row
 ·exact Or.inl ⟨rfl,List.eq_nil_of_length_eq_zero (by omega)⟩
 ·exact Or.inr ⟨g,cap,by rw[hl],by omega,hm⟩
theorem PlS.apart {w:World}{v:Value}{vs:List Value}{T:List (List Nat)}(h:PlS w v vs T){u:Value}{p:List Int}(hu:IRo w u p){g k:Nat}(hv:v.ownBlock=some g)(hk:u.ownBlock=some k):g≠k:=by
 rintro rfl
 obtain ⟨c1,e1⟩:=h.row.block hv
 obtain ⟨c2,e2⟩:=hu.block hk
 rw[e1]at e2
 injection e2 with e;injection e with _ e;exact absurd e (by decide)
theorem PlS.at {w:World}{v:Value}{vs:List Value}{T:List (List Nat)}(h:PlS w v vs T){i:Nat}{l:List Nat}(hl:T[i]?=some l): ∃u,vs[i]?=some u/\IRo w u (l.map Int.ofNat):=by
 have hi:i<vs.length:=by rw[h.len];exact (List.getElem?_eq_some_iff.1 hl).1
 exact ⟨vs[i],List.getElem?_eq_getElem hi,h.ins.2 i _ _ (List.getElem?_eq_getElem hi) (q4g hl)⟩
theorem PlS.cell {w:World}{g n cap:Nat}{vs:List Value}{T:List (List Nat)}(h:PlS w (.slice (some ⟨g,0,none⟩) n cap) vs T){i:Nat}{u:Value}(hu:vs[i]?=some u):w.cell? ⟨g,i,none⟩=some u:=by
 have:=World.ownsRow.cells h.row (g:=g) rfl i u hu
 rwa [Go.WideShapes.add_plain,Nat.zero_add]at this
theorem PlS.grow {w:World}{v:Value}{vs:List Value}{T:List (List Nat)}(h:PlS w v vs T){g c:Nat}(hz:CBox g #[.slice none 0 0] 38 w)(hl:T.length+1<=1000000)(ty:TypeId):
  ∃g' cap w',(Builtin.append_ #[35,35] ty #[v, .slice (some ⟨g,0,none⟩) 1 c]).run Tryz.prog w= .ok (.slice (some ⟨g',0,none⟩) (T.length+1) cap) w'/\PlS w' (.slice (some ⟨g',0,none⟩) (T.length+1) cap) (vs++[.slice none 0 0]) (T++[[]])/\Kp v.ownBlock.toList w w'/\(v.ownBlock=some g'\/w.heap.size<=g'):=by
 obtain ⟨i0,hi,hz0,hz1,hz2⟩:=info_parts q2F
 have hln:=h.len
 obtain ⟨g',cap,w',hrun,r1,r2,r3,_⟩:=run_append_lies (P:=Tryz.prog) (w:=w) 35 ty 0 38 i0 _ 1 24 Tryz.underlying35 hi hz0 hz1 hz2 rfl (by decide) v vs.length vs h.row ⟨g,0,none⟩ 1 c [.slice none 0 0] rfl (fun j u hj=>by
  rw[Go.WideShapes.add_plain,Nat.zero_add]
  exact hz.cell (by simpa using hj)) (fun u hu=>by rw[List.mem_singleton]at hu;rw[hu];rfl) (by omega) (by unfold maxLen;omega) (by omega) (Nat.zero_le _) _ rfl
 rw[hln]at hrun r1
 have hk:=Kp.of r2
 have hins: ∀i u p,vs[i]?=some u->(Mt.toZ T)[i]?=some p->IRo w' u p:=fun i u p hu hp=>(h.ins.2 i u p hu hp).kp hk (fun b hb hm=>h.apart (h.ins.2 i u p hu hp) (by simpa using hm) hb rfl)
 refine ⟨g',cap,w',hrun,⟨by unfold VRo;rw[List.length_append,hln];exact r1,?_,?_⟩,hk,r3.imp_right (fun e=>by omega)⟩
 ·have:Mt.toZ (T++[[]])=Mt.toZ T++[[]]:=by unfold Mt.toZ;simp
  rw[this]
  exact RowsI.snoc ⟨h.ins.1,hins⟩ (IRo.nil w')
 ·intro i j a b k ha hb hka hkb
  have hi:i<vs.length:=by
   rcases Nat.lt_or_ge i vs.length with hi|hi
   ·exact hi
   ·exfalso
    rw[List.getElem?_append_right hi]at ha
    have:=List.mem_of_getElem? ha
    rw[List.mem_singleton]at this
    subst this
    cases hka
  have hj:j<vs.length:=by
   rcases Nat.lt_or_ge j vs.length with hj|hj
   ·exact hj
   ·exfalso
    rw[List.getElem?_append_right hj]at hb
    have:=List.mem_of_getElem? hb
    rw[List.mem_singleton]at this
    subst this
    cases hkb
  rw[List.getElem?_append_left hi]at ha
  rw[List.getElem?_append_left hj]at hb
  exact h.nd i j a b k ha hb hka hkb
theorem IRo.app {w:World}{u:Value}{p:List Int}(h:IRo w u p)(q:Int){g c:Nat}(hz:CBox g #[.int .i64 q] 3 w)(hl:p.length+1<=1000000)(ty:TypeId):
  ∃g' cap w',(Builtin.append_ #[38,38] ty #[u, .slice (some ⟨g,0,none⟩) 1 c]).run Tryz.prog w= .ok (.slice (some ⟨g',0,none⟩) (p.length+1) cap) w'/\IRo w' (.slice (some ⟨g',0,none⟩) (p.length+1) cap) (p++[q])/\Kp u.ownBlock.toList w w'/\(u.ownBlock=some g'\/w.heap.size<=g'):=by
 obtain ⟨i0,hi,hz0,hz1,hz2⟩:=info_parts q9j
 obtain ⟨g',cap,w',hrun,r1,r2,r3,_⟩:=run_append_lies (P:=Tryz.prog) (w:=w) 38 ty 0 3 i0 _ 1 8 Tryz.underlying38 hi hz0 hz1 hz2 rfl (by decide) u p.length (iC p) h ⟨g,0,none⟩ 1 c [.int .i64 q] rfl (fun j x hj=>by
  rw[Go.WideShapes.add_plain,Nat.zero_add]
  exact hz.cell (by simpa using hj)) (fun x hx=>by rw[List.mem_singleton]at hx;rw[hx];rfl) (by omega) (by unfold maxLen;omega) (by omega) (Nat.zero_le _) _ rfl
 refine ⟨g',cap,w',hrun,?_,Kp.of r2,r3.imp_right (fun e=>by omega)⟩
 unfold IRo iC
 rw[List.length_append,List.map_append]
 exact r1
theorem q7V (T:List (List Nat))(i:Nat)(l:List Nat):Mt.toZ (T.set i l)=(Mt.toZ T).set i (l.map Int.ofNat):=by unfold Mt.toZ;rw[List.map_set]
theorem PlS.put {w w1:World}{g n cap:Nat}{vs:List Value}{T:List (List Nat)}(h:PlS w (.slice (some ⟨g,0,none⟩) n cap) vs T){i:Nat}{u u':Value}{l':List Nat}(hu:vs[i]?=some u)(hk:Kp u.ownBlock.toList w w1)(hu':IRo w1 u' (l'.map Int.ofNat))(hn:u'.ownBlock=u.ownBlock\/ ∃k,u'.ownBlock=some k/\w.heap.size<=k):
  PlS (w1.setCell ⟨g,i,none⟩ u') (.slice (some ⟨g,0,none⟩) n cap) (vs.set i u') (T.set i l'):=by
 have hiv:i<vs.length:=(List.getElem?_eq_some_iff.1 hu).1
 have hiT:i<(Mt.toZ T).length:=by rw[q0I, <-h.len];exact hiv
 have hui:=h.ins.2 i u _ hu (List.getElem?_eq_getElem hiT)
 have hgu:g∉u.ownBlock.toList:=fun hm=>h.apart hui rfl (by simpa using hm) rfl
 have hrow1:VRo w1 (.slice (some ⟨g,0,none⟩) n cap) vs:=h.row.kp hk (fun b hb hm=>by simp[Value.ownBlock]at hb;subst hb;exact hgu hm)
 obtain ⟨cur,hcur⟩:=hrow1.block (b:=g) rfl
 have hks:=Kp.set w1 g i u'
 have hgi: ∀{x:Value} {p:List Int},IRo w1 x p-> ∀b,x.ownBlock=some b->b∉[g]:=fun hx b hb hm=>by
  rw[List.mem_singleton]at hm
  subst hm
  obtain ⟨c2,e2⟩:=hx.block hb
  rw[hcur]at e2
  injection e2 with e;injection e with _ e;exact absurd e (by decide)
 have hold: ∀j x p,j≠i->vs[j]?=some x->(Mt.toZ T)[j]?=some p->IRo w1 x p:=fun j x p hj hx hp=>
  (h.ins.2 j x p hx hp).kp hk (fun b hb hm=>hj (h.nd j i x u b hx hu hb (by simpa using hm)))
 refine ⟨?_,⟨by rw[List.length_set,q7V,List.length_set];exact h.ins.1,fun j x p hx hp=>?_⟩,fun a b x y k hx hy hkx hky=>?_⟩
 ·have hnl:n=vs.length:=by
   obtain ⟨_,⟨e,_⟩|⟨g',cap',cur',e,_⟩⟩:=h.row
   ·cases e
   ·cases e;rfl
  subst hnl
  unfold VRo
  rw[List.length_set]
  exact (World.ownsRow.stored hrow1 i u').1
 ·rw[q7V]at hp
  rw[List.getElem?_set]at hx hp
  by_cases e:i=j
  ·subst e
   rw[if_pos rfl,if_pos hiv]at hx
   rw[if_pos rfl,if_pos hiT]at hp
   cases hx
   cases hp
   exact hu'.kp hks (hgi hu')
  ·rw[if_neg e]at hx hp
   have:=hold j x p (fun e'=>e e'.symm) hx hp
   exact this.kp hks (hgi this)
 ·have key: ∀j z,j≠i->vs[j]?=some z-> ∀k,u'.ownBlock=some k->z.ownBlock=some k->False:=fun j z hj hz k hk1 hk2=>by
   rcases hn with e|⟨k',e,hle⟩
   ·exact hj (h.nd j i z u k hz hu hk2 (by rw[<-e];exact hk1))
   ·rw[e]at hk1
    cases hk1
    have:=h.ins.lt (List.mem_of_getElem? hz) hk2
    omega
  rw[List.getElem?_set]at hx hy
  by_cases ea:i=a
  ·by_cases eb:i=b
   ·omega
   ·rw[if_neg eb]at hy
    rw[if_pos ea,if_pos hiv]at hx
    cases hx
    exact (key b y (fun e=>eb e.symm) hy k hkx hky).elim
  ·rw[if_neg ea]at hx
   by_cases eb:i=b
   ·rw[if_pos eb,if_pos hiv]at hy
    cases hy
    exact (key a x (fun e=>ea e.symm) hx k hky hkx).elim
   ·rw[if_neg eb]at hy
    exact h.nd a b x y k hx hy hkx hky
theorem PlS.pop {w:World}{g n cap:Nat}{vs:List Value}{T:List (List Nat)}(h:PlS w (.slice (some ⟨g,0,none⟩) (n+1) cap) vs T):T.length=n+1/\PlS w (.slice (some ⟨g,0,none⟩) n cap) vs.dropLast T.dropLast:=by
 have hl:=h.len
 have hn:vs.length=n+1:=by
  obtain ⟨_,⟨e,_⟩|⟨g',cap',cur',e,_⟩⟩:=h.row
  ·cases e
  ·injection e with _ e2 _;omega
 have hne:vs≠[]:=fun e=>by rw[e]at hn;cases hn
 refine ⟨by omega,?_,⟨by rw[List.length_dropLast,q0I,List.length_dropLast,hl],fun i x p hx hp=>?_⟩,fun i j a b k ha hb=>?_⟩
 ·have hr:=h.row
  unfold VRo at hr ⊢
  rw[hn, <-List.dropLast_concat_getLast hne]at hr
  have:=ownsRow_pop (n:=n) (by rw[List.length_dropLast];omega) hr
  rw[List.length_dropLast,hn]
  exact this
 ·have e:Mt.toZ T.dropLast=(Mt.toZ T).dropLast:=by unfold Mt.toZ;rw[List.map_dropLast]
  rw[e]at hp
  rw[List.getElem?_dropLast]at hx hp
  split at hx
  ·split at hp
   ·exact h.ins.2 i x p hx hp
   ·cases hp
  ·cases hx
 ·rw[List.getElem?_dropLast]at ha hb
  split at ha
  ·split at hb
   ·exact h.nd i j a b k ha hb
   ·cases hb
  ·cases ha
theorem IRo.pop {w:World}{g n cap:Nat}{p:List Int}{q:Int}(h:IRo w (.slice (some ⟨g,0,none⟩) (n+1) cap) (p++[q])):p.length=n/\IRo w (.slice (some ⟨g,0,none⟩) n cap) p:=by
 have hn:(p++[q]).length=n+1:=by
  obtain ⟨_,⟨e,_⟩|⟨g',cap',cur',e,_⟩⟩:=h
  ·cases e
  ·injection e with _ e2 _;omega
 have hp:p.length=n:=by rw[List.length_append]at hn;simpa using hn
 refine ⟨hp,?_⟩
 unfold IRo iC at h ⊢
 rw[hn,List.map_append]at h
 have:=ownsRow_pop (n:=n) (by rw[List.length_map];omega) h
 rw[hp]
 exact this
open Go.RowKit
structure Ev where
 k:ByteArray
 t:ByteArray
 n0:Int
 n1:Int
 n2:Int
 n3:Int
 x:ByteArray
def Ev.c (e:Ev):Array Value:=#[.string e.k, .string e.t, .int .i64 e.n0, .int .i64 e.n1, .int .i64 e.n2, .int .i64 e.n3, .string e.x]
def inI (n:Int):Prop:= -9223372036854775808<=n/\n<9223372036854775808
def Ev.ok (e:Ev):Prop:=e.k.size<=9223372036854775807/\e.t.size<=9223372036854775807/\e.x.size<=9223372036854775807/\inI e.n0/\inI e.n1/\inI e.n2/\inI e.n3
end Go.Proofs.YtcmjnlpofebbmaaGreatDoor
