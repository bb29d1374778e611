/-
  Walks and plain facts, made small.
-/
import Derived.Test.YtcmjnlpofebbmaaGreatDoorMa09
set_option maxRecDepth 100000
set_option maxHeartbeats 8000000
set_option linter.unusedSimpArgs false
namespace Go.Proofs.YtcmjnlpofebbmaaGreatDoor
open Go.RowKit Go.Shelf
attribute [local go_sem] Oper.semAt_some
variable {M:Mo} {gm:Nat}
def vlE (a:Vl):List Value:=[.int .i64 a.n, .string a.s, .bool a.t]
theorem q4M (a:Vl):(vlE a).length=3:=rfl
theorem q9i:(Tryz.prog.info? 208).map (fun i=>(i.zero,i.size,i.bytes))=some (some (.agg #[.int .i64 0, .string { data:=#[] }, .bool false]),3,32):=by kernel_rfl
theorem mkV (W:World):(Instr.makeSlice 251 (.int .i64 0) (.int .i64 16)).run Tryz.prog W= .ok (.slice (some ⟨W.heap.size,0,none⟩) 0 16) (W.alloc (.cells (madeCells #[.int .i64 0, .string { data:=#[] }, .bool false] (16 * 3)) 208)):=by
 obtain ⟨i0,hi,hz0,hz1,hz2⟩:=info_parts q9i
 have:=run_make (P:=Tryz.prog) W 251 208 i0 (.agg #[.int .i64 0, .string { data:=#[] }, .bool false]) Tryz.underlying251 hi hz0 .i64 .i64 0 16 (by omega) (by omega) (by rw[hz2];omega) (by omega)
 rw[hz1]at this
 exact this
structure FIV (M:Mo)(fv:Value)(ad:Option Addr)(cap0:Nat)(w:World)(g7 g8:Nat)(xs:List Pt)(pre:List (Fin xs.length))(W:World):Prop where
 be:CBox w.heap.size #[fv] 211 W
 b1:CBox (w.heap.size+1) #[.int .i64 0, .string { data:=#[] }, .bool false] 208 W
 b2:CBox (w.heap.size+1+1) #[.bool false] 4 W
 b3:CBox (w.heap.size+1+1+1) #[.int .i64 0, .string { data:=#[] }, .bool false] 208 W
 bo:CBox g7 opsV 235 W
 row: ∃(l:List Vl) (g cap:Nat),stk (vlv M) ((pre.map fun i=>xs[i]).reverse)=some l/\CBox g8 #[.slice (some ⟨g,0,none⟩) l.length cap] 251 W/\W.ownsRow (w.heap.size+4) 208 3 (.slice (some ⟨g,0,none⟩) l.length cap) l.length (l.reverse.flatMap vlE)
 bel:Below w.heap.size w W
 bs:CBox (g7+1+1+1) #[.slice ad xs.length cap0] 84 W
 sz:g7+4<=W.heap.size
theorem FIV.own {fv:Value}{ad:Option Addr}{cap0:Nat}{w:World}{g7 g8 B:Nat}{xs:List Pt}(hB:w.heap.size<=B):OwnFrom B (FIV M fv ad cap0 w g7 g8 xs):=fun pre W W' row h hg hr=>by
 have hr2:=fun r e=>(hr r e).2
 obtain ⟨l,g,cap,h1,h2,h3⟩:=h.row
 exact ⟨q0b h.be hg hr2,q0b h.b1 hg hr2,q0b h.b2 hg hr2,q0b h.b3 hg hr2,q0b h.bo hg hr2,⟨l,g,cap,h1,q0b h2 hg hr2,q7K h3 hg hr2⟩,ownFrom_below (β:=Unit) (Nat.le_refl _) hB () W W' row h.bel hg hr,q0b h.bs hg hr2,Nat.le_trans h.sz hg.size⟩
structure FXV (M:Mo)(w:World)(xs:List Pt)(pre:List (Fin xs.length))(W:World):Prop where
 no:stk (vlv M) ((pre.map fun i=>xs[i]).reverse)=none
 b1:CBox (w.heap.size+1) #[.int .i64 0, .string { data:=#[] }, .bool false] 208 W
 b2:CBox (w.heap.size+1+1) #[.bool false] 4 W
 bel:Below w.heap.size w W
theorem FXV.own {w:World}{B:Nat}{xs:List Pt}(hB:w.heap.size<=B)(c:Code):OwnFrom B (fun pre W=>c= .ret/\FXV M w xs pre W):=fun pre W W' row h hg hr=>by
 have hr2:=fun r e=>(hr r e).2
 exact ⟨h.1,h.2.no,q0b h.2.b1 hg hr2,q0b h.2.b2 hg hr2,ownFrom_below (β:=Unit) (Nat.le_refl _) hB () W W' row h.2.bel hg hr⟩
def foRV:Option Vl->Value
 |some a=> .tuple #[.agg (vlE a).toArray, .bool true]
 |none=> .tuple #[.agg #[.int .i64 0, .string { data:=#[] }, .bool false], .bool false]
def sdCV:List Vl->Array Value
 |[]=>#[.int .i64 0, .string { data:=#[] }, .bool false, .int .i64 0, .string { data:=#[] }, .bool false]
 |[a]=>(vlE a++([.int .i64 0, .string { data:=#[] }, .bool false]:List Value)).toArray
 |a::b::_=>(vlE a++vlE b).toArray
theorem q99 {fv:Value}{w w1:World}{ad:Option Addr}{cap:Nat}{xs:List Pt}(hk:Kp [] ((((w.alloc (.cells #[fv] 211)).alloc (.cells #[.int .i64 0, .string { data:=#[] }, .bool false] 208)).alloc (.cells #[.bool false] 4)).alloc (.cells #[.int .i64 0, .string { data:=#[] }, .bool false] 208)) w1):
  FIV M fv ad cap w w1.heap.size (w1.heap.size+1+1) xs [] ((((w1.alloc (.cells opsV 235)).alloc (.cells (madeCells #[.int .i64 0, .string { data:=#[] }, .bool false] (16 * 3)) 208)).alloc (.cells #[.slice (some ⟨w1.heap.size+1,0,none⟩) 0 16] 251)).alloc (.cells #[.slice ad xs.length cap] 84))/\
  ((((w1.alloc (.cells opsV 235)).alloc (.cells (madeCells #[.int .i64 0, .string { data:=#[] }, .bool false] (16 * 3)) 208)).alloc (.cells #[.slice (some ⟨w1.heap.size+1,0,none⟩) 0 16] 251)).alloc (.cells #[.slice ad xs.length cap] 84)).cell? ⟨w1.heap.size+1+1+1,0,none⟩=some (.slice ad xs.length cap)/\
  Below w.heap.size w ((((w1.alloc (.cells opsV 235)).alloc (.cells (madeCells #[.int .i64 0, .string { data:=#[] }, .bool false] (16 * 3)) 208)).alloc (.cells #[.slice (some ⟨w1.heap.size+1,0,none⟩) 0 16] 251)).alloc (.cells #[.slice ad xs.length cap] 84))/\
  ((((w1.alloc (.cells opsV 235)).alloc (.cells (madeCells #[.int .i64 0, .string { data:=#[] }, .bool false] (16 * 3)) 208)).alloc (.cells #[.slice (some ⟨w1.heap.size+1,0,none⟩) 0 16] 251)).alloc (.cells #[.slice ad xs.length cap] 84)).heap.size=w1.heap.size+4/\w.heap.size+4<=w1.heap.size:=by
 have hs:=hk.size
 simp at hs
 have hb:Below w.heap.size w w1:=(((((Below.refl _ _).alloc (Nat.le_refl _) _).alloc (by simp) _).alloc (by simp;omega) _).alloc (by simp;omega) _).trans (hk.below (by simp;omega) (by simp))
 have up: ∀{A B C D:Obj},Kp [] w1 ((((w1.alloc A).alloc B).alloc C).alloc D):=fun {A B C D}=>(((Kp.alloc _ _).trans (Kp.alloc _ _) (by simp)).trans (Kp.alloc _ _) (by simp)).trans (Kp.alloc _ _) (by simp)
 have old: ∀{g:Nat} {cs:Array Value} {t:TypeId} {A B C D:Obj},CBox g cs t ((((w.alloc (.cells #[fv] 211)).alloc (.cells #[.int .i64 0, .string { data:=#[] }, .bool false] 208)).alloc (.cells #[.bool false] 4)).alloc (.cells #[.int .i64 0, .string { data:=#[] }, .bool false] 208))->CBox g cs t ((((w1.alloc A).alloc B).alloc C).alloc D):=fun h=>(h.kp hk (by simp)).kp up (by simp)
 have n7:CBox w1.heap.size opsV 235 ((((w1.alloc (.cells opsV 235)).alloc (.cells (madeCells #[.int .i64 0, .string { data:=#[] }, .bool false] (16 * 3)) 208)).alloc (.cells #[.slice (some ⟨w1.heap.size+1,0,none⟩) 0 16] 251)).alloc (.cells #[.slice ad xs.length cap] 84)):=(CBox.new w1 _ _).kp (((Kp.alloc _ _).trans (Kp.alloc _ _) (by simp)).trans (Kp.alloc _ _) (by simp)) (by simp)
 have n8:=(CBox.new ((w1.alloc (.cells opsV 235)).alloc (.cells (madeCells #[.int .i64 0, .string { data:=#[] }, .bool false] (16 * 3)) 208)) #[.slice (some ⟨w1.heap.size+1,0,none⟩) 0 16] 251).kp (Kp.alloc _ (.cells #[.slice ad xs.length cap] 84)) (by simp)
 have n9:=CBox.new (((w1.alloc (.cells opsV 235)).alloc (.cells (madeCells #[.int .i64 0, .string { data:=#[] }, .bool false] (16 * 3)) 208)).alloc (.cells #[.slice (some ⟨w1.heap.size+1,0,none⟩) 0 16] 251)) #[.slice ad xs.length cap] 84
 have r0:=World.ownsRow_made (base:=w.heap.size+4) (e:=208) (size:=3) (w1.alloc (.cells opsV 235)) (madeCells #[.int .i64 0, .string { data:=#[] }, .bool false] (16 * 3)) 16 (by simp;omega) (by unfold maxLen;omega) (size_madeCells _ _)
 simp only[World.size_alloc]at n8 n9 r0
 have m1:=CBox.new w #[fv] 211
 have m2:=CBox.new (w.alloc (.cells #[fv] 211)) #[.int .i64 0, .string { data:=#[] }, .bool false] 208
 have m3:=CBox.new ((w.alloc (.cells #[fv] 211)).alloc (.cells #[.int .i64 0, .string { data:=#[] }, .bool false] 208)) #[.bool false] 4
 have m4:=CBox.new (((w.alloc (.cells #[fv] 211)).alloc (.cells #[.int .i64 0, .string { data:=#[] }, .bool false] 208)).alloc (.cells #[.bool false] 4)) #[.int .i64 0, .string { data:=#[] }, .bool false] 208
 simp only[World.size_alloc]at m2 m3 m4
 refine ⟨⟨old (m1.kp (((Kp.alloc _ _).trans (Kp.alloc _ _) (by simp)).trans (Kp.alloc _ _) (by simp)) (by simp)),old (m2.kp ((Kp.alloc _ _).trans (Kp.alloc _ _) (by simp)) (by simp)),old (m3.kp (Kp.alloc _ _) (by simp)),old m4,n7,⟨[],w1.heap.size+1,16,rfl,n8,?_⟩,?_,n9,by simp⟩,n9.cell rfl,?_,by simp,by omega⟩
 ·exact q02 r0 ((Kp.alloc _ _).trans (Kp.alloc _ _) (by simp)) (by simp)
 ·exact hb.trans ((((((Below.refl _ _).alloc (Nat.le_refl _) _).alloc (by simp) _).alloc (by simp;omega) _).alloc (by simp;omega) _).mono hb.size)
 ·exact hb.trans ((((((Below.refl _ _).alloc (Nat.le_refl _) _).alloc (by simp) _).alloc (by simp;omega) _).alloc (by simp;omega) _).mono hb.size)
theorem qcy {fv:Value}{ad:Option Addr}{cap0:Nat}{w W w2:World}{g7 g8 g L cp:Nat}{xs:List Pt}{pre:List (Fin xs.length)}{S:ByteArray}{N:Nat}{O I:Int}{F:Value}(h:FIV M fv ad cap0 w g7 g8 xs pre W)(b8:CBox g8 #[.slice (some ⟨g,0,none⟩) L cp] 251 W)(hk:Kp [] W w2):
  (w2.alloc (.cells #[.string S, .int .i64 (N:Int), .int .u64 O, .int .i64 I,F] 233)).cell? ⟨g8,0,none⟩=some (.slice (some ⟨g,0,none⟩) L cp)/\CBox (w.heap.size+1) #[.int .i64 0, .string { data:=#[] }, .bool false] 208 (w2.alloc (.cells #[.string S, .int .i64 (N:Int), .int .u64 O, .int .i64 I,F] 233))/\CBox (w.heap.size+1+1) #[.bool false] 4 (w2.alloc (.cells #[.string S, .int .i64 (N:Int), .int .u64 O, .int .i64 I,F] 233))/\CBox (w.heap.size+1+1+1) #[.int .i64 0, .string { data:=#[] }, .bool false] 208 (w2.alloc (.cells #[.string S, .int .i64 (N:Int), .int .u64 O, .int .i64 I,F] 233))/\Kp [] W (w2.alloc (.cells #[.string S, .int .i64 (N:Int), .int .u64 O, .int .i64 I,F] 233))/\CBox w2.heap.size #[.string S, .int .i64 (N:Int), .int .u64 O, .int .i64 I,F] 233 (w2.alloc (.cells #[.string S, .int .i64 (N:Int), .int .u64 O, .int .i64 I,F] 233))/\W.heap.size<=w2.heap.size/\CBox g8 #[.slice (some ⟨g,0,none⟩) L cp] 251 (w2.alloc (.cells #[.string S, .int .i64 (N:Int), .int .u64 O, .int .i64 I,F] 233)):=by
 have hk2:Kp [] W (w2.alloc (.cells #[.string S, .int .i64 (N:Int), .int .u64 O, .int .i64 I,F] 233)):=hk.trans (Kp.alloc _ _) (by simp)
 exact ⟨(b8.kp hk2 (by simp)).cell rfl,h.b1.kp hk2 (by simp),h.b2.kp hk2 (by simp),h.b3.kp hk2 (by simp),hk2,CBox.new _ _ _,hk.size,b8.kp hk2 (by simp)⟩
theorem qcw {w W W3:World}{B:Nat}{xs:List Pt}{pre:List (Fin xs.length)}(hb:Below w.heap.size w W)(hk:Kp [] W W3)(h1:CBox (w.heap.size+1) #[.int .i64 0, .string { data:=#[] }, .bool false] 208 W3)(h2:CBox (w.heap.size+1+1) #[.bool false] 4 W3)(hn:stk (vlv M) ((pre.map fun i=>xs[i]).reverse)=none):
  KeepsFrom B W ((((W3.setCell ⟨w.heap.size+1,0,none⟩ (.int .i64 0)).setCell ⟨w.heap.size+1,1,none⟩ (.string { data:=#[] })).setCell ⟨w.heap.size+1,2,none⟩ (.bool false)).setCell ⟨w.heap.size+1+1,0,none⟩ (.bool false))/\Code.ret=Code.ret/\FXV M w xs pre ((((W3.setCell ⟨w.heap.size+1,0,none⟩ (.int .i64 0)).setCell ⟨w.heap.size+1,1,none⟩ (.string { data:=#[] })).setCell ⟨w.heap.size+1,2,none⟩ (.bool false)).setCell ⟨w.heap.size+1+1,0,none⟩ (.bool false)):=by
 have q1:CBox (w.heap.size+1) #[.int .i64 0, .string { data:=#[] }, .bool false] 208 ((((W3.setCell ⟨w.heap.size+1,0,none⟩ (.int .i64 0)).setCell ⟨w.heap.size+1,1,none⟩ (.string { data:=#[] })).setCell ⟨w.heap.size+1,2,none⟩ (.bool false))):=(CBox.set (CBox.set (CBox.set h1 0 _) 1 _) 2 _)
 have q2:CBox (w.heap.size+1+1) #[.bool false] 4 ((((W3.setCell ⟨w.heap.size+1,0,none⟩ (.int .i64 0)).setCell ⟨w.heap.size+1,1,none⟩ (.string { data:=#[] })).setCell ⟨w.heap.size+1,2,none⟩ (.bool false))):=(CBox.kp (CBox.kp (CBox.kp h2 (Kp.set _ _ _ _) (by simp)) (Kp.set _ _ _ _) (by simp)) (Kp.set _ _ _ _) (by simp))
 have k1:KeepsOthers W3 ((((W3.setCell ⟨w.heap.size+1,0,none⟩ (.int .i64 0)).setCell ⟨w.heap.size+1,1,none⟩ (.string { data:=#[] })).setCell ⟨w.heap.size+1,2,none⟩ (.bool false))):=((((KeepsOthers.refl _).trans (KeepsOthers.setCell _ _ _)).trans (KeepsOthers.setCell _ _ _)).trans (KeepsOthers.setCell _ _ _))
 have l1:Below w.heap.size w ((((W3.setCell ⟨w.heap.size+1,0,none⟩ (.int .i64 0)).setCell ⟨w.heap.size+1,1,none⟩ (.string { data:=#[] })).setCell ⟨w.heap.size+1,2,none⟩ (.bool false))):=(Below.setCell (p:=⟨w.heap.size+1,2,none⟩) (Below.setCell (p:=⟨w.heap.size+1,1,none⟩) (Below.setCell (p:=⟨w.heap.size+1,0,none⟩) (hb.trans (hk.below hb.size (by simp))) (by show w.heap.size<=w.heap.size+1;omega) _) (by show w.heap.size<=w.heap.size+1;omega) _) (by show w.heap.size<=w.heap.size+1;omega) _)
 exact ⟨((KeepsOthers.ofKp hk).trans (k1.trans (KeepsOthers.setCell _ _ _))).from _,rfl,hn,q1.kp (Kp.set _ _ _ _) (by simp),q2.set 0 _,l1.setCell (p:=⟨w.heap.size+1+1,0,none⟩) (by show w.heap.size<=w.heap.size+1+1;omega) _⟩
theorem qaF {lst:List Vl}(h:0<lst.length): ∃a r,lst=a::r:=by
 cases lst with
 |nil=>simp at h
 |cons a r=>exact ⟨a,r,rfl⟩
theorem q97 {lst:List Vl}(h:1<lst.length): ∃a b r,lst=a::b::r:=by
 match lst,h with
 |[_],h=>simp at h
 |a::b::r,_=>exact ⟨a,b,r,rfl⟩
structure FLV (fv:Value)(w W Wl:World)(g7 g8 g L cp Bx gop:Nat)(p:Pt)(row:Array Value)(lst:List Vl):Prop where
 kp:Kp [] W Wl
 b8:CBox g8 #[.slice (some ⟨g,0,none⟩) L cp] 251 Wl
 bsd:CBox (gop+1) #[.int .i64 0, .string { data:=#[] }, .bool false, .int .i64 0, .string { data:=#[] }, .bool false] 252 Wl
 bop:CBox gop row 233 Wl
 bx:CBox Bx #[.int .i64 p.kd, .int .i64 p.n, .string p.s, .string p.st, .int .i64 p.fl] 166 Wl
 be:CBox w.heap.size #[fv] 211 Wl
 row:Wl.ownsRow (w.heap.size+4) 208 3 (.slice (some ⟨g,0,none⟩) L cp) L (lst.reverse.flatMap vlE)
 le:W.heap.size<=gop
 g78:g7+1+1=g8
 gl:g<W.heap.size
 n1:g≠g8
 n2:Bx≠g8
 n3:Bx<W.heap.size
 n4:g8<W.heap.size
 n5:w.heap.size+4<=g7
 n6:g≠Bx
 n7:w.heap.size+4<=g
theorem qaL {fv:Value}{ad:Option Addr}{cap0:Nat}{w W w2 W0:World}{g7 g cp Bx:Nat}{p:Pt}{xs:List Pt}{pre:List (Fin xs.length)}{lst:List Vl}{S:ByteArray}{N:Nat}{O I:Int}{F:Value}(h:FIV M fv ad cap0 w g7 (g7+1+1) xs pre W)(b8:CBox (g7+1+1) #[.slice (some ⟨g,0,none⟩) lst.length cp] 251 W)(hrow:W.ownsRow (w.heap.size+4) 208 3 (.slice (some ⟨g,0,none⟩) lst.length cp) lst.length (lst.reverse.flatMap vlE))(bX:CBox Bx #[.int .i64 p.kd, .int .i64 p.n, .string p.s, .string p.st, .int .i64 p.fl] 166 W)(hk:Kp [] W w2)(hBx:W0.heap.size<=Bx)(h0:W0.heap.size=g7+4)(hG7:w.heap.size+4<=g7):
  FLV fv w W ((w2.alloc (.cells #[.string S, .int .i64 (N:Int), .int .u64 O, .int .i64 I,F] 233)).alloc (.cells #[.int .i64 0, .string { data:=#[] }, .bool false, .int .i64 0, .string { data:=#[] }, .bool false] 252)) g7 (g7+1+1) g lst.length cp Bx w2.heap.size p #[.string S, .int .i64 (N:Int), .int .u64 O, .int .i64 I,F] lst:=by
 have k2:Kp [] W ((w2.alloc (.cells #[.string S, .int .i64 (N:Int), .int .u64 O, .int .i64 I,F] 233)).alloc (.cells #[.int .i64 0, .string { data:=#[] }, .bool false, .int .i64 0, .string { data:=#[] }, .bool false] 252)):=(hk.trans (Kp.alloc _ _) (by simp)).trans (Kp.alloc _ _) (by simp)
 have ns:=CBox.new (w2.alloc (.cells #[.string S, .int .i64 (N:Int), .int .u64 O, .int .i64 I,F] 233)) #[.int .i64 0, .string { data:=#[] }, .bool false, .int .i64 0, .string { data:=#[] }, .bool false] 252
 simp only[World.size_alloc]at ns
 have no:=(CBox.new w2 #[.string S, .int .i64 (N:Int), .int .u64 O, .int .i64 I,F] 233).kp (Kp.alloc _ (.cells #[.int .i64 0, .string { data:=#[] }, .bool false, .int .i64 0, .string { data:=#[] }, .bool false] 252)) (by simp)
 have hlt:=hrow.lt g rfl
 have hB:=(Array.getElem?_eq_some_iff.1 bX).1
 have h8:=(Array.getElem?_eq_some_iff.1 b8).1
 have h7:=(Array.getElem?_eq_some_iff.1 h.bo).1
 have hz:=h.sz
 have hne: ∀{x:Nat} {cs:Array Value} {t:TypeId},CBox x cs t W->t≠208->g≠x:=fun hb ht e=>q0d hrow hb ht (by rw[<-e];rfl)
 exact ⟨k2,b8.kp k2 (by simp),ns,no,bX.kp k2 (by simp),h.be.kp k2 (by simp),q02 hrow k2 (by simp),hk.size,rfl,hlt.2,hne b8 (by decide),by omega,hB,h8,by omega,hne bX (by decide),hlt.1⟩
theorem q4S {fv:Value}{w W Wl wr:World}{g7 g8 g cp Bx gop:Nat}{p:Pt}{rw_:Array Value}{lst:List Vl}(h:FLV fv w W Wl g7 g8 g lst.length cp Bx gop p rw_ lst)(hk:Kp [g8,gop+1] Wl wr){k:Nat}(hkl:k<lst.length):
  wr.cell? ⟨g,(lst.length-1-k) * 3,none⟩=some (.int .i64 lst[k].n)/\wr.cell? ⟨g,(lst.length-1-k) * 3+1,none⟩=some (.string lst[k].s)/\wr.cell? ⟨g,(lst.length-1-k) * 3+2,none⟩=some (.bool lst[k].t):=by
 have hr:wr.ownsRow (w.heap.size+4) 208 3 (.slice (some ⟨g,0,none⟩) lst.length cp) lst.length (lst.reverse.flatMap vlE):=q02 h.row hk (fun x e=>by
  simp[Value.ownBlock]at e
  subst e
  have h1:=h.n1
  have h2:=h.gl
  have h3:=h.le
  simp
  omega)
 have e0:(lst.reverse)[lst.length-1-k]'(by simp;omega)=lst[k]:=by
  rw[List.getElem_reverse]
  congr 1
  omega
 have key:=fun i hi=>q0t (enc:=vlE) (sz:=3) q4M (l:=lst.reverse) (by rw[List.length_reverse];exact hr) (lst.length-1-k) i (by simp;omega) hi
 simp only[e0]at key
 exact ⟨key 0 (by omega),key 1 (by omega),key 2 (by omega)⟩
theorem q7u {fv:Value}{w W Wl:World}{g7 g8 g L cp Bx gop:Nat}{p:Pt}{rw_:Array Value}{lst:List Vl}(h:FLV fv w W Wl g7 g8 g L cp Bx gop p rw_ lst):L<=cp:=by
 obtain ⟨_,⟨e,_⟩|⟨g',cp',cur,e,_,_,h5,_⟩⟩:=h.row
 ·cases e
 ·cases e
  exact h5
theorem q7w {w':World}{g8 gs g M cp:Nat}{v0 v1 v2:Value}(h8:g8≠gs)(hg:g≠gs)(c:w'.cell? ⟨g8,0,none⟩=some (.slice (some ⟨g,0,none⟩) (M+1) cp))(o:Nat)(q0:w'.cell? ⟨g,M * 3,none⟩=some v0)(q1:w'.cell? ⟨g,M * 3+1,none⟩=some v1)(q2:w'.cell? ⟨g,M * 3+2,none⟩=some v2):
  (((w'.setCell ⟨gs,o,none⟩ v0).setCell ⟨gs,o+1,none⟩ v1).setCell ⟨gs,o+2,none⟩ v2).cell? ⟨g8,0,none⟩=some (.slice (some ⟨g,0,none⟩) (M+1) cp)/\(((w'.setCell ⟨gs,o,none⟩ v0).setCell ⟨gs,o+1,none⟩ v1).setCell ⟨gs,o+2,none⟩ v2).cell? ⟨g,M * 3,none⟩=some v0/\(((w'.setCell ⟨gs,o,none⟩ v0).setCell ⟨gs,o+1,none⟩ v1).setCell ⟨gs,o+2,none⟩ v2).cell? ⟨g,M * 3+1,none⟩=some v1/\(((w'.setCell ⟨gs,o,none⟩ v0).setCell ⟨gs,o+1,none⟩ v1).setCell ⟨gs,o+2,none⟩ v2).cell? ⟨g,M * 3+2,none⟩=some v2:=by
 have k: ∀(p:Addr) (v:Value),p.block≠gs->w'.cell? p=some v->(((w'.setCell ⟨gs,o,none⟩ v0).setCell ⟨gs,o+1,none⟩ v1).setCell ⟨gs,o+2,none⟩ v2).cell? p=some v:=fun p v hp h=>
  (World.cell?_of_block (by rw[Below.heap_setCell _ _ _ _ hp,Below.heap_setCell _ _ _ _ hp,Below.heap_setCell _ _ _ _ hp])).trans h
 exact ⟨k _ _ h8 c,k _ _ hg q0,k _ _ hg q1,k _ _ hg q2⟩
theorem q88 {g8 gs M cp g:Nat}{a:Vl}{r:List Vl}{wr Wl:World}(h:CBox g8 #[.slice (some ⟨g,0,none⟩) (M+1) cp] 251 wr/\CBox gs (sdCV ((a::r).take 0)) 252 wr/\Kp [g8,gs] Wl wr)(hn:g8≠gs):
  CBox g8 #[.slice (some ⟨g,0,none⟩) M cp] 251 ((((wr.drew.setCell ⟨gs,0,none⟩ (.int .i64 a.n)).setCell ⟨gs,1,none⟩ (.string a.s)).setCell ⟨gs,2,none⟩ (.bool a.t)).setCell ⟨g8,0,none⟩ (.slice (some ⟨g,0,none⟩) M cp))/\CBox gs (sdCV ((a::r).take 1)) 252 ((((wr.drew.setCell ⟨gs,0,none⟩ (.int .i64 a.n)).setCell ⟨gs,1,none⟩ (.string a.s)).setCell ⟨gs,2,none⟩ (.bool a.t)).setCell ⟨g8,0,none⟩ (.slice (some ⟨g,0,none⟩) M cp))/\Kp [g8,gs] Wl ((((wr.drew.setCell ⟨gs,0,none⟩ (.int .i64 a.n)).setCell ⟨gs,1,none⟩ (.string a.s)).setCell ⟨gs,2,none⟩ (.bool a.t)).setCell ⟨g8,0,none⟩ (.slice (some ⟨g,0,none⟩) M cp)):=by
 obtain ⟨h1,h2,h3⟩:=h
 have kd:Kp [g8,gs] wr ((((wr.drew.setCell ⟨gs,0,none⟩ (.int .i64 a.n)).setCell ⟨gs,1,none⟩ (.string a.s)).setCell ⟨gs,2,none⟩ (.bool a.t))):=((((Kp.drew wr |>.mono (by simp)).trans (Kp.set _ _ _ _) (by simp)).trans (Kp.set _ _ _ _) (by simp)).trans (Kp.set _ _ _ _) (by simp))
 have c2:CBox gs (sdCV ((a::r).take 1)) 252 ((((wr.drew.setCell ⟨gs,0,none⟩ (.int .i64 a.n)).setCell ⟨gs,1,none⟩ (.string a.s)).setCell ⟨gs,2,none⟩ (.bool a.t))):=(CBox.set (CBox.set (CBox.set (CBox.kp h2 (Kp.drew _) (by simp)) 0 _) 1 _) 2 _)
 have c1:CBox g8 #[.slice (some ⟨g,0,none⟩) (M+1) cp] 251 ((((wr.drew.setCell ⟨gs,0,none⟩ (.int .i64 a.n)).setCell ⟨gs,1,none⟩ (.string a.s)).setCell ⟨gs,2,none⟩ (.bool a.t))):=(CBox.kp (CBox.kp (CBox.kp (CBox.kp h1 (Kp.drew _) (by simp)) (Kp.set _ _ _ _) (by simpa using hn)) (Kp.set _ _ _ _) (by simpa using hn)) (Kp.set _ _ _ _) (by simpa using hn))
 exact ⟨c1.set 0 _,c2.kp (Kp.set _ _ _ _) (by simp;omega),(h3.trans kd (fun _ hx=>Or.inl hx)).trans (Kp.set _ _ _ _) (by simp)⟩
theorem q89 {g8 gs M cp g:Nat}{a0 a:Vl}{r:List Vl}{wr Wl:World}(h:CBox g8 #[.slice (some ⟨g,0,none⟩) (M+1) cp] 251 wr/\CBox gs (sdCV ((a0::a::r).take 1)) 252 wr/\Kp [g8,gs] Wl wr)(hn:g8≠gs):
  CBox g8 #[.slice (some ⟨g,0,none⟩) M cp] 251 ((((wr.drew.setCell ⟨gs,3,none⟩ (.int .i64 a.n)).setCell ⟨gs,4,none⟩ (.string a.s)).setCell ⟨gs,5,none⟩ (.bool a.t)).setCell ⟨g8,0,none⟩ (.slice (some ⟨g,0,none⟩) M cp))/\CBox gs (sdCV ((a0::a::r).take 2)) 252 ((((wr.drew.setCell ⟨gs,3,none⟩ (.int .i64 a.n)).setCell ⟨gs,4,none⟩ (.string a.s)).setCell ⟨gs,5,none⟩ (.bool a.t)).setCell ⟨g8,0,none⟩ (.slice (some ⟨g,0,none⟩) M cp))/\Kp [g8,gs] Wl ((((wr.drew.setCell ⟨gs,3,none⟩ (.int .i64 a.n)).setCell ⟨gs,4,none⟩ (.string a.s)).setCell ⟨gs,5,none⟩ (.bool a.t)).setCell ⟨g8,0,none⟩ (.slice (some ⟨g,0,none⟩) M cp)):=by
 obtain ⟨h1,h2,h3⟩:=h
 have kd:Kp [g8,gs] wr ((((wr.drew.setCell ⟨gs,3,none⟩ (.int .i64 a.n)).setCell ⟨gs,4,none⟩ (.string a.s)).setCell ⟨gs,5,none⟩ (.bool a.t))):=((((Kp.drew wr |>.mono (by simp)).trans (Kp.set _ _ _ _) (by simp)).trans (Kp.set _ _ _ _) (by simp)).trans (Kp.set _ _ _ _) (by simp))
 have c2:CBox gs (sdCV ((a0::a::r).take 2)) 252 ((((wr.drew.setCell ⟨gs,3,none⟩ (.int .i64 a.n)).setCell ⟨gs,4,none⟩ (.string a.s)).setCell ⟨gs,5,none⟩ (.bool a.t))):=(CBox.set (CBox.set (CBox.set (CBox.kp h2 (Kp.drew _) (by simp)) 3 _) 4 _) 5 _)
 have c1:CBox g8 #[.slice (some ⟨g,0,none⟩) (M+1) cp] 251 ((((wr.drew.setCell ⟨gs,3,none⟩ (.int .i64 a.n)).setCell ⟨gs,4,none⟩ (.string a.s)).setCell ⟨gs,5,none⟩ (.bool a.t))):=(CBox.kp (CBox.kp (CBox.kp (CBox.kp h1 (Kp.drew _) (by simp)) (Kp.set _ _ _ _) (by simpa using hn)) (Kp.set _ _ _ _) (by simpa using hn)) (Kp.set _ _ _ _) (by simpa using hn))
 exact ⟨c1.set 0 _,c2.kp (Kp.set _ _ _ _) (by simp;omega),(h3.trans kd (fun _ hx=>Or.inl hx)).trans (Kp.set _ _ _ _) (by simp)⟩
theorem qdG (l:List Vl): ∃s0 s1 s2 s3 s4 s5,sdCV l=#[s0,s1,s2,s3,s4,s5]:=by
 match l with
 |[]=>exact ⟨_,_,_,_,_,_,rfl⟩
 |[a]=>exact ⟨_,_,_,_,_,_,rfl⟩
 |a::b::_=>exact ⟨_,_,_,_,_,_,rfl⟩
theorem qcC {fv:Value}{w W Wl wr:World}{g7 g8 g L cp Bx gop k:Nat}{p:Pt}{S:ByteArray}{N:Nat}{O I:Int}{F:Value}{lst:List Vl}{s0 s1 s2 s3 s4 s5:Value}(h:FLV fv w W Wl g7 g8 g L cp Bx gop p #[.string S, .int .i64 (N:Int), .int .u64 O, .int .i64 I,F] lst)(hr:CBox g8 #[.slice (some ⟨g,0,none⟩) (lst.length-k) cp] 251 wr/\CBox (gop+1) (sdCV (lst.take k)) 252 wr/\Kp [g8,gop+1] Wl wr)(hsd:sdCV (lst.take k)=#[s0,s1,s2,s3,s4,s5]):
  ∀W',Kp [g] wr W'->W'.cell? ⟨g8,0,none⟩=some (.slice (some ⟨g,0,none⟩) (lst.length-k) cp)/\W'.cell? ⟨w.heap.size,0,none⟩=some fv/\W'.cell? ⟨Bx,0,none⟩=some (.int .i64 p.kd)/\W'.cell? ⟨Bx,1,none⟩=some (.int .i64 p.n)/\W'.cell? ⟨Bx,2,none⟩=some (.string p.s)/\W'.cell? ⟨Bx,3,none⟩=some (.string p.st)/\W'.cell? ⟨Bx,4,none⟩=some (.int .i64 p.fl)/\W'.cell? ⟨gop,0,none⟩=some (.string S)/\W'.cell? ⟨gop,1,none⟩=some (.int .i64 (N:Int))/\W'.cell? ⟨gop,2,none⟩=some (.int .u64 O)/\W'.cell? ⟨gop,3,none⟩=some (.int .i64 I)/\W'.cell? ⟨gop,4,none⟩=some (F)/\W'.cell? ⟨gop+1,0,none⟩=some s0/\W'.cell? ⟨gop+1,1,none⟩=some s1/\W'.cell? ⟨gop+1,2,none⟩=some s2/\W'.cell? ⟨gop+1,3,none⟩=some s3/\W'.cell? ⟨gop+1,4,none⟩=some s4/\W'.cell? ⟨gop+1,5,none⟩=some s5:=fun W' hk=>by
 obtain ⟨h1,h2,h3⟩:=hr
 rw[hsd]at h2
 have a1:=h.le
 have a2:=h.gl
 have a3:=h.n1
 have a4:=h.n2
 have a5:=h.n3
 have a6:=h.n4
 have a7:=h.n5
 have a8:=h.n6
 have a9:=h.n7
 have a10:=h.g78
 have q8:=h1.kp hk (by simp;omega)
 have qs:=h2.kp hk (by simp;omega)
 have qe:=(h.be.kp h3 (by simp;omega)).kp hk (by simp;omega)
 have qx:=(h.bx.kp h3 (by simp;omega)).kp hk (by simp;omega)
 have qo:=(h.bop.kp h3 (by simp;omega)).kp hk (by simp;omega)
 exact ⟨q8.cell rfl,qe.cell rfl,qx.cell rfl,qx.cell rfl,qx.cell rfl,qx.cell rfl,qx.cell rfl,qo.cell rfl,qo.cell rfl,qo.cell rfl,qo.cell rfl,qo.cell rfl,qs.cell rfl,qs.cell rfl,qs.cell rfl,qs.cell rfl,qs.cell rfl,qs.cell rfl⟩
theorem qaH {EF:Nat}{fv:Value}{ad:Option Addr}{cap0:Nat}{w W Wl wr:World}{g7 g8 g L cp Bx gop k N:Nat}{p:Pt}{xs:List Pt}{x:Fin xs.length}{pre:List (Fin xs.length)}{S:ByteArray}{O I:Int}{F:Value}{lst:List Vl}{s0 s1 s2 s3 s4 s5:Value}
  (HE: ∀(p:Pt) (ts:List Ex) (W:World),p∈xs->(∀t∈ts,t.wf/\ ∀q∈t.flat,q∈xs)->(ts.flatMap Ex.flat).length+1<=xs.length->ts.length=sds p.kd->Below w.heap.size w W->
   Calls Tryz.prog EF #[.pointer (some ⟨gm,0,none⟩),p.v, .agg (rowC p.kd), .agg (sdCV (ts.map (Ex.val (vlv M))))] W fun e w'=>e= .returned (.agg (vlE ((vlv M) p (ts.map (Ex.val (vlv M))))).toArray)/\Below W.heap.size W w')
  (hx:p∈xs/\((pre++[x]).map fun i=>xs[i]).reverse=p::((pre.map fun i=>xs[i]).reverse)/\(∀q∈(pre.map fun i=>xs[i]).reverse,q∈xs)/\(pre.map fun i=>xs[i]).reverse.length<xs.length)
  (hi:FIV M fv ad cap0 w g7 g8 xs pre W/\stk (vlv M) ((pre.map fun i=>xs[i]).reverse)=some lst/\CBox g8 #[.slice (some ⟨g,0,none⟩) lst.length cp] 251 W/\W.ownsRow (w.heap.size+4) 208 3 (.slice (some ⟨g,0,none⟩) lst.length cp) lst.length (lst.reverse.flatMap vlE)/\CBox Bx #[.int .i64 p.kd, .int .i64 p.n, .string p.s, .string p.st, .int .i64 p.fl] 166 W)
  (h:FLV fv w W Wl g7 g8 g L cp Bx gop p #[.string S, .int .i64 (N:Int), .int .u64 O, .int .i64 I,F] lst) (hr:CBox g8 #[.slice (some ⟨g,0,none⟩) (lst.length-k) cp] 251 wr/\CBox (gop+1) (sdCV (lst.take k)) 252 wr/\Kp [g8,gop+1] Wl wr) (hN:sds p.kd=k) (hrc:rowC p.kd=#[.string S, .int .i64 (N:Int), .int .u64 O, .int .i64 I,F]) (hsd:sdCV (lst.take k)=#[s0,s1,s2,s3,s4,s5]) (hk:k<=lst.length):
  Calls Tryz.prog EF #[.pointer (some ⟨gm,0,none⟩), .agg #[.int .i64 p.kd, .int .i64 p.n, .string p.s, .string p.st, .int .i64 p.fl], .agg #[.string S, .int .i64 (N:Int), .int .u64 O, .int .i64 I,F], .agg #[s0,s1,s2,s3,s4,s5]] wr.drew fun e w'=>e= .returned (.agg #[.int .i64 ((vlv M) p (lst.take k)).n, .string ((vlv M) p (lst.take k)).s, .bool ((vlv M) p (lst.take k)).t])/\Below wr.drew.heap.size wr.drew w':=by
 obtain ⟨ts,t1,t2,t3⟩:=q2Q (vlv M) _ lst hi.2.1
 have e1:(ts.take k).map (Ex.val (vlv M))=lst.take k:=by rw[t3,List.map_take]
 have hl:lst.length=ts.length:=by rw[t3,List.length_map]
 have hb:Below w.heap.size w wr.drew:=by
  have a0:=hi.1.bel.size
  have a1:=h.le
  have a7:=h.n5
  have a10:=h.g78
  exact ((hi.1.bel.trans (h.kp.below a0 (by simp))).trans (hr.2.2.below (Nat.le_trans a0 h.kp.size) (by simp;omega))).trans ((Kp.drew wr).below (Nat.le_trans (Nat.le_trans a0 h.kp.size) hr.2.2.size) (by simp))
 have:=HE p (ts.take k) wr.drew hx.1 (fun t ht=>⟨t1 t (List.mem_of_mem_take ht),fun q hq=>hx.2.2.1 q (by rw[t2];exact List.mem_flatMap.2 ⟨t,List.mem_of_mem_take ht,hq⟩)⟩) (by have h1:=q37 ts k;have h2:=hx.2.2.2;rw[t2]at h2;omega) (by rw[List.length_take,hN];omega) hb
 rw[e1,hsd,hrc]at this
 exact this
theorem qcA {fv:Value}{w W Wl wr:World}{g7 g8 g cp Bx gop k:Nat}{p:Pt}{row:Array Value}{lst:List Vl}(h:FLV fv w W Wl g7 g8 g lst.length cp Bx gop p row lst)(hr:CBox g8 #[.slice (some ⟨g,0,none⟩) (lst.length-k) cp] 251 wr/\CBox (gop+1) (sdCV (lst.take k)) 252 wr/\Kp [g8,gop+1] Wl wr)(hk:k<=lst.length):
  wr.ownsRow (w.heap.size+4) 208 3 (.slice (some ⟨g,0,none⟩) (lst.length-k) cp) (lst.length-k) ((lst.drop k).reverse.flatMap vlE):=by
 have a1:=h.le
 have a2:=h.gl
 have a3:=h.n1
 have h1:=q02 h.row hr.2.2 (fun y e=>by simp[Value.ownBlock]at e;subst e;simp;omega)
 have h2:=q6g h1 (lst.length-k) (by omega)
 rw[q28 vlE 3 q4M,show lst.reverse.take (lst.length-k)=(lst.drop k).reverse by rw[List.reverse_drop]]at h2
 exact h2
theorem qaJ {fv:Value}{ad:Option Addr}{cap0:Nat}{w W Wl wr:World}{g7 g8 g L cp Bx gop k:Nat}{p:Pt}{xs:List Pt}{x:Fin xs.length}{pre:List (Fin xs.length)}{row:Array Value}{lst:List Vl}(hi:FIV M fv ad cap0 w g7 g8 xs pre W)(h:FLV fv w W Wl g7 g8 g L cp Bx gop p row lst)(hb8:CBox g8 #[.slice (some ⟨g,0,none⟩) (lst.length-k) cp] 251 wr)(hk:Kp [g8,gop+1] Wl wr):
  ∀(w7:World) (g7' cap7 n:Nat) (l':List Vl),Kp [g] wr w7->(g7'=g\/wr.heap.size<=g7')->stk (vlv M) (((pre++[x]).map fun i=>xs[i]).reverse)=some l'->n=l'.length->w7.ownsRow (w.heap.size+4) 208 3 (.slice (some ⟨g7',0,none⟩) n cap7) n (l'.reverse.flatMap vlE)-> ∀B,
   KeepsFrom B W (w7.setCell ⟨g8,0,none⟩ (.slice (some ⟨g7',0,none⟩) n cap7))/\KpB w.heap.size (g7+1+1+1) W (w7.setCell ⟨g8,0,none⟩ (.slice (some ⟨g7',0,none⟩) n cap7))/\FIV M fv ad cap0 w g7 g8 xs (pre++[x]) (w7.setCell ⟨g8,0,none⟩ (.slice (some ⟨g7',0,none⟩) n cap7)):=fun w7 g7' cap7 n l' k7 hg hst hn hown B=>by
 subst hn
 have a1:=h.le
 have a2:=h.gl
 have a3:=h.n1
 have a6:=h.n4
 have a7:=h.n5
 have a9:=h.n7
 have a10:=h.g78
 have s1:=hk.size
 have s2:=h.kp.size
 have kW:Kp [g8,g] W (w7.setCell ⟨g8,0,none⟩ (.slice (some ⟨g7',0,none⟩) l'.length cap7)):=by
  refine ⟨?_,?_,?_,?_,fun j hj hn=>?_⟩
  ·exact ((Kp.set w7 g8 0 _).os.trans k7.os).trans (hk.os.trans h.kp.os)
  ·exact ((Kp.set w7 g8 0 _).tape.trans k7.tape).trans (hk.tape.trans h.kp.tape)
  ·exact ((Kp.set w7 g8 0 _).output.trans k7.output).trans (hk.output.trans h.kp.output)
  ·exact Nat.le_trans (Nat.le_trans s2 s1) (Nat.le_trans k7.size (Kp.set w7 g8 0 _).size)
  ·simp only[List.mem_cons,List.not_mem_nil,or_false,not_or]at hn
   rw[(Kp.set w7 g8 0 _).block j (by have:=k7.size;omega) (by simpa using hn.1),k7.block j (by omega) (by simpa using hn.2),hk.block j (by omega) (by simp;omega),h.kp.block j hj (by simp)]
 have ne: ∀{y:Nat} {cs:Array Value} {t:TypeId},CBox y cs t W->y≠g8->y≠g->CBox y cs t (w7.setCell ⟨g8,0,none⟩ (.slice (some ⟨g7',0,none⟩) l'.length cap7)):=fun hb h1 h2=>hb.kp kW (by simp;omega)
 obtain ⟨l0,g0,c0,r1,r2,r3⟩:=hi.row
 have hgt: ∀{y:Nat} {cs:Array Value} {t:TypeId},CBox y cs t W->t≠208->y≠g:=fun hb ht e=>by
  have:=q0d h.row (hb.kp h.kp (by simp)) ht
  exact this (by rw[e];rfl)
 have c8:CBox g8 #[.slice (some ⟨g7',0,none⟩) l'.length cap7] 251 (w7.setCell ⟨g8,0,none⟩ (.slice (some ⟨g7',0,none⟩) l'.length cap7)):=by
  exact (hb8.kp k7 (by simp;omega)).set 0 _
 refine ⟨?_,⟨kW.below hi.bel.size (by simp;omega),kW.block _ (by have:=hi.sz;omega) (by simp;exact ⟨by omega,hgt hi.bs (by decide)⟩)⟩,⟨ne hi.be (by omega) (by omega),ne hi.b1 (by omega) (by omega),ne hi.b2 (by omega) (by omega),ne hi.b3 (by omega) (by omega),ne hi.bo (by omega) (hgt hi.bo (by decide)),⟨l',g7',cap7,hst,c8,q02 hown (Kp.set _ _ _ _) (fun y e=>by simp[Value.ownBlock]at e;subst e;simp;omega)⟩,hi.bel.trans (kW.below hi.bel.size (by simp;omega)),ne hi.bs (by omega) (hgt hi.bs (by decide)),Nat.le_trans hi.sz kW.size⟩⟩
 refine (KeepsOthers.ofCells kW (fun y hy=>?_)).from B
 simp only[List.mem_cons,List.not_mem_nil,or_false]at hy
 rcases hy with rfl|rfl
 ·exact ⟨_,_,r2⟩
 ·obtain ⟨_,⟨e,_⟩|⟨g',cp',cur,e,_,h4,_⟩⟩:=h.row
  ·cases e
  ·cases e
   exact ⟨cur,208,(h.kp.block y a2 (by simp)).symm.trans h4⟩
theorem qaN (EF:Nat)(ad:Option Addr)(cap:Nat)(xs:List Pt)(hsz:xs.length<=200)(w:World)(hc:PtsLow w.heap.size w ad xs)
  (hen: ∀args W,(callFunc EF args).run Tryz.prog W= .ok (.enter EF args) W)
  (HE: ∀(p:Pt) (ts:List Ex) (W:World),p∈xs->(∀t∈ts,t.wf/\ ∀q∈t.flat,q∈xs)->(ts.flatMap Ex.flat).length+1<=xs.length->ts.length=sds p.kd->Below w.heap.size w W->
   Calls Tryz.prog EF #[.pointer (some ⟨gm,0,none⟩),p.v, .agg (rowC p.kd), .agg (sdCV (ts.map (Ex.val (vlv M))))] W fun e w'=>e= .returned (.agg (vlE ((vlv M) p (ts.map (Ex.val (vlv M))))).toArray)/\Below W.heap.size W w'):
  CallsIn Fence.wide 9 Tryz.prog 122 #[.slice ad xs.length cap, .func (.func EF) #[.pointer (some ⟨gm,0,none⟩)] #[]] w fun e w'=>e= .returned (foRV (fdX (vlv M) xs))/\Below w.heap.size w w':=by
 refine callsIn_of_wp_marks Tryz.func122 rfl trivial ?_ rfl
 simp only[Tryz.ntmps122,List.size_toArray,List.length_cons,List.length_nil,Nat.reduceAdd,Nat.reduceSub,Array.replicate_succ,Array.replicate_zero,List.push_toArray,List.append_toArray,List.nil_append,List.cons_append]
 have hs70:=q0w
 have E1:Hid (∀W,CallsIn Fence.wide 8 Tryz.prog 137 #[] W fun e w'=>e= .returned (.agg opsV)/\Kp [] W w'):=hZq (fun W=>callsIn_wide.2 (q1y W))
 have HHE:=hZq HE
 have HEN:=hZq hen
 have HC:=hZq hc
 clear HE hen hc
 gi_wp2_with (first
  |(refine ⟨trivial,?_⟩;gi_at_call 137;refine (uQ E1 _).mono ?_;rintro e w1 ⟨rfl,hk1⟩;have st:=q7S w1;have mk:=mkV)
  |(refine ⟨trivial,?_⟩;gi_at_call 139;refine (q7d _ _ _ _ _).mono ?_;rintro e w2 ⟨rfl,rfl⟩))
 have FI0:=q99 (M:=M) (ad:=ad) (cap:=cap) (xs:=xs) hk1
 obtain ⟨hI0,hbs,hbl,hsz0⟩:=FI0
 clear E1 st mk hk1
 generalize (((w1.alloc (.cells opsV 235)).alloc (.cells (madeCells #[.int .i64 0, .string { data:=#[] }, .bool false] (16 * 3)) 208)).alloc (.cells #[.slice (some ⟨w1.heap.size+1,0,none⟩) 0 16] 251)).alloc (.cells #[.slice ad xs.length cap] 84)=W0 at *
 have hbo0:Below w.heap.size w W0:=hbl
 refine wpIn_rangeFunc_ownH rfl (by omega) (gf:=173) (lb:=#[.pointer (some ⟨w1.heap.size+1+1+1,0,none⟩)]) rfl trivial (enters_of Tryz.func173 (by kernel_rfl) rfl)
  (q3U 8 (w1.heap.size+1+1+1) w.heap.size cap ad xs (by omega) W0 hbl.size hbs ((uQ HC).below hbl)) KpB.trans (KpB.put hbl.size (by omega)) (Below.refl _ _) (fun _=>rfl)
  (FIV M (.func (.func EF) #[.pointer (some ⟨gm,0,none⟩)] #[]) ad cap w w1.heap.size (w1.heap.size+1+1) xs) (fun c pre W=>c= .ret/\FXV M w xs pre W) (FIV.own hbl.size) (fun c=>FXV.own hbl.size c) hI0
  (fun x a' W=> ∃Bx,W0.heap.size<=Bx/\CBox Bx (xs[x]).c 166 W/\a'={ tmps:=#[.slice ad xs.length cap, .func (.func EF) #[.pointer (some ⟨gm,0,none⟩)] #[],undef, .pointer (some ⟨w.heap.size,0,none⟩), .pointer (some ⟨w.heap.size+1,0,none⟩), .pointer (some ⟨w.heap.size+1+1,0,none⟩), .pointer (some ⟨w.heap.size+1+1+1,0,none⟩), .pointer (some ⟨w1.heap.size,0,none⟩), .pointer (some ⟨w1.heap.size+1+1,0,none⟩),undef, .pointer (some ⟨Bx,0,none⟩),undef,undef,undef,undef, .agg opsV, .slice (some ⟨w1.heap.size+1,0,none⟩) 0 16, .slice ad xs.length cap, .func (.func 173) #[] #[.pointer (some ⟨w1.heap.size+1+1+1,0,none⟩)], .int .i64 (x.val:Int),(xs[x]).v,undef,undef,undef,undef,undef,undef,undef,undef,undef,undef,undef,undef,undef,undef,undef,undef,undef,undef,undef,undef,undef,undef,undef,undef,undef,undef,undef,undef,undef,undef,undef,undef,undef,undef,undef,undef,undef,undef,undef,undef,undef,undef],defers:=[] })
  (fun x a' _ X Y row hs hg hr=>by obtain ⟨Bx,h1,h2,h3⟩:=hs;exact ⟨Bx,h1,q0b h2 hg (fun r e=>(hr r e).2),h3⟩) ?assign ?body ?done ?stop
 case assign=>
  rintro l pre x W K hi hK
  have HI:=hZq hi
  have hWs:=hZq hi.bel.size
  clear hi HHE HEN HC hI0 hbs hbl
  have hq:xs[x].v= .agg #[.int .i64 xs[x].kd, .int .i64 xs[x].n, .string xs[x].s, .string xs[x].st, .int .i64 xs[x].fl]:=rfl
  have hq2:xs[x].c=#[.int .i64 xs[x].kd, .int .i64 xs[x].n, .string xs[x].s, .string xs[x].st, .int .i64 xs[x].fl]:=rfl
  rw[hq]at hK ⊢
  rw[hq2]at hK
  generalize xs[x]=q at *
  obtain ⟨qk,qn,qs,qt,qf⟩:=q
  dsimp only at *
  gi_wp2
  have hiW:=uQ HI
  obtain ⟨l0,g0,c0,r1,r2,r3⟩:=hiW.row
  have ka:=Kp.alloc W (.cells #[.int .i64 qk, .int .i64 qn, .string qs, .string qt, .int .i64 qf] 166)
  refine hK _ _ ((KeepsOthers.alloc _ _).from _) ⟨(Below.refl _ W).alloc (uQ hWs) _,Below.heap_alloc _ _ _ (by have:=hiW.sz;omega)⟩ ⟨hiW.be.kp ka (by simp),hiW.b1.kp ka (by simp),hiW.b2.kp ka (by simp),hiW.b3.kp ka (by simp),hiW.bo.kp ka (by simp),⟨l0,g0,c0,r1,r2.kp ka (by simp),q02 r3 ka (by simp)⟩,hiW.bel.alloc hiW.bel.size _,hiW.bs.kp ka (by simp),by have:=hiW.sz;simp;omega⟩ ⟨W.heap.size,by have:=hiW.sz;omega,CBox.new W _ _,rfl⟩
 case body=>
  rintro l pre x a' W hl _ hi ⟨Bx,hBx,bX,rfl⟩ hlt
  have hpx:xs[x]∈xs:=List.getElem_mem x.isLt
  have hnx:((pre++[x]).map fun i=>xs[i]).reverse=xs[x]::((pre.map fun i=>xs[i]).reverse):=by simp
  have hmem: ∀q∈(pre.map fun i=>xs[i]).reverse,q∈xs:=fun q hq=>by
   simp only[List.mem_reverse,List.mem_map]at hq
   obtain ⟨i,_,rfl⟩:=hq
   exact List.getElem_mem i.isLt
  have hlen:(pre.map fun i=>xs[i]).reverse.length<xs.length:=by simpa using hlt
  have HSZ:Hid (W0.heap.size=w1.heap.size+4/\w.heap.size+4<=w1.heap.size):=hZq hsz0
  have HXP:=hZq (And.intro hpx (And.intro hnx (And.intro hmem hlen)))
  clear hpx hnx hmem hlen
  have hq:xs[x].v= .agg #[.int .i64 xs[x].kd, .int .i64 xs[x].n, .string xs[x].s, .string xs[x].st, .int .i64 xs[x].fl]:=rfl
  have hq2:xs[x].c=#[.int .i64 xs[x].kd, .int .i64 xs[x].n, .string xs[x].s, .string xs[x].st, .int .i64 xs[x].fl]:=rfl
  rw[hq]
  rw[hq2]at bX
  clear hq hq2
  generalize hpe:xs[x]=p at *
  have HPE:=hZq hpe
  clear hpe
  have RW:=hZq (CallsIn.inRound (n:=6) l (callsIn_wide.2 (q7J w1.heap.size p.kd W hi.bo)))
  have hone:=q1S p.kd
  have hrc:rowC p.kd=#[.string (txt (sgO p.kd)), .int .i64 (sds p.kd:Nat), .int .u64 (ofO p.kd), .int .i64 (isO p.kd),fnO p.kd]:=rfl
  have hcs:=bX.cell (i:=0) (v:= .int .i64 p.kd) rfl
  have hsd2:=q20 p.kd
  have HRC:=hZq hrc
  rw[hrc]at RW
  clear hrc
  generalize fnO p.kd=F at *
  generalize txt (sgO p.kd)=S at *
  generalize ofO p.kd=O at *
  generalize isO p.kd=I at *
  obtain ⟨N,hN⟩: ∃N,sds p.kd=N:=⟨_,rfl⟩
  rw[hN]at RW HRC hsd2
  have HN:=hZq hN
  clear hN
  have sF: ∀W a m,(store a F m).run Tryz.prog W=stored Tryz.prog W a F m:=fun W a m=>run_store Tryz.prog W a F m hone
  obtain ⟨lst,g,cp,hst,b8,hrow⟩:=hi.row
  have HI:=hZq (And.intro hi (And.intro hst (And.intro b8 (And.intro hrow bX))))
  have PF:=hZq (fun w2 (hk:Kp [] W w2)=>qcy (S:=S) (N:=N) (O:=O) (I:=I) (F:=F) hi b8 hk)
  clear hi hst b8 hrow bX hbs hI0 hbl hbo0
  gi_wp2_with fail
  refine ⟨trivial,?_⟩
  refine (uQ RW).mono ?_
  rintro e w2 ⟨rfl,hk2⟩
  obtain ⟨c8,z1,z2,z3,z4,z5,z6,z7⟩:=uQ PF w2 hk2
  by_cases hLN:lst.length<N
  ·have hl1:((lst.length:Int)<(N:Int))=True:=by simp;omega
   have x10:=z1.cell (i:=0) (v:= .int .i64 0) rfl
   have x30:=z3.cell (i:=0) (v:= .int .i64 0) rfl
   have x11:=z1.cell (i:=1) (v:= .string { data:=#[] }) rfl
   have x31:=z3.cell (i:=1) (v:= .string { data:=#[] }) rfl
   have x12:=z1.cell (i:=2) (v:= .bool false) rfl
   have x32:=z3.cell (i:=2) (v:= .bool false) rfl
   have y2:=z2.cell (i:=0) (v:= .bool false) rfl
   have f1:=z1.froz
   have f2:=z2.froz
   have HD:=hZq (And.intro z1 (And.intro z2 (And.intro z4 z6)))
   clear z1 z2 z3 z4 z5 z6 z7 PF RW hk2 hone hcs
   gi_wp2
   obtain ⟨u1,u2,u4,u6⟩:=uQ HD
   obtain ⟨hi,hst,b8,hrow,bX⟩:=uQ HI
   obtain ⟨hpx,hnx,hmem,hlen⟩:=uQ HXP
   exact qcw hi.bel u4 u1 u2 (by rw[hnx,stk,hst];dsimp only;rw[uQ HN,if_pos hLN])
  ·have hl1:((lst.length:Int)<(N:Int))=False:=by simp;omega
   have HLP:=hZq (qaL (uQ HI).1 (uQ HI).2.2.1 (uQ HI).2.2.2.1 (uQ HI).2.2.2.2 hk2 (S:=S) (N:=N) (O:=O) (I:=I) (F:=F) hBx (uQ HSZ).1 (uQ HSZ).2)
   clear z1 z2 z3 z4 z5 z6 z7 PF RW hk2 hone hcs
   gi_wp2
   generalize (w2.alloc (.cells #[.string S, .int .i64 (N:Int), .int .u64 O, .int .i64 I,F] 233)).alloc (.cells #[.int .i64 0, .string { data:=#[] }, .bool false, .int .i64 0, .string { data:=#[] }, .bool false] 252)=Wl at *
   clear c8 hl1
   gi_loopw [32] (fun i wr=> ∃k:Nat,k<=N/\i= .int .i64 (k:Int)/\Hid (CBox (w1.heap.size+1+1) #[.slice (some ⟨g,0,none⟩) (lst.length-k) cp] 251 wr/\CBox (w2.heap.size+1) (sdCV (lst.take k)) 252 wr/\Kp [w1.heap.size+1+1,w2.heap.size+1] Wl wr)) (fun i _=>N-(intOf i).toNat)
   case atStart=>exact ⟨0,Nat.zero_le _,rfl,hZq ⟨(uQ HLP).b8,(uQ HLP).bsd,Kp.refl _ _⟩⟩
   case round=>
    obtain ⟨k,hk,rfl,HR⟩:=hrel
    have HLN:Hid (lst.length<=200):=hZq (by have h1:=q3s (uQ HI).2.1;have h2:=(uQ HXP).2.2.2;omega)
    by_cases hkN:k<N
    ·rcases (show k=0\/k=1 by omega)with rfl|rfl
     ·obtain ⟨a,r,rfl⟩: ∃a r,lst=a::r:=qaF (by omega)
      obtain ⟨u8,us,uk⟩:=uQ HR
      have hRC:=hZq (q4S (uQ HLP) uk (k:=0) (by simp))
      have hlr:(a::r).length-0=r.length+1:=by simp
      rw[hlr]at u8
      obtain ⟨q0,q1,q2⟩:=uQ hRC
      have c8:=u8.cell (i:=0) (v:= .slice (some ⟨g,0,none⟩) (r.length+1) cp) rfl
      have fs:=us.froz
      have f8:=u8.froz
      have t0:=us.cell (i:=0) (v:= .int .i64 0) rfl
      have t1:=us.cell (i:=1) (v:= .string { data:=#[] }) rfl
      have t2:=us.cell (i:=2) (v:= .bool false) rfl
      have hn8:w1.heap.size+1+1≠w2.heap.size+1:=by have:=(uQ HLP).n4;have:=(uQ HLP).le;omega
      have hng:g≠w2.heap.size+1:=by have:=(uQ HLP).gl;have:=(uQ HLP).le;omega
      have HU:=hZq (And.intro u8 (And.intro us uk))
      clear u8 us uk hRC HR hlr
      obtain ⟨M,hM⟩: ∃M,r.length=M:=⟨_,rfl⟩
      have p0:wr.cell? ⟨g,M * 3,none⟩=some (.int .i64 a.n):=by have:=q0;subst hM;simpa using this
      have p1:wr.cell? ⟨g,M * 3+1,none⟩=some (.string a.s):=by have:=q1;subst hM;simpa using this
      have p2:wr.cell? ⟨g,M * 3+2,none⟩=some (.bool a.t):=by have:=q2;subst hM;simpa using this
      clear q0 q1 q2
      rw[hM]at c8 HU
      have HMM:=hZq hM
      clear hM
      have hM2:M<=1000000:=by have:=uQ HMM;have:=uQ HLN;simp at this;omega
      have hb1:((M:Int)<(M:Int)+1)=True:=by simp;omega
      have hb2:((M:Int)<=(M:Int)+1)=True:=by simp;omega
      have hcp:M<=cp:=by have h1:=q7u (uQ HLP);have h2:=uQ HMM;simp at h1;omega
      have hcp2:((M:Int)<=(cp:Int))=True:=by simp;omega
      have hS14:(fun W'=>W'.cell? ⟨w1.heap.size+1+1,0,none⟩=some (.slice (some ⟨g,0,none⟩) (M+1) cp)/\W'.cell? ⟨g,M * 3,none⟩=some (.int .i64 a.n)/\W'.cell? ⟨g,M * 3+1,none⟩=some (.string a.s)/\W'.cell? ⟨g,M * 3+2,none⟩=some (.bool a.t)) wr.drew:=⟨c8,p0,p1,p2⟩
      have hS15:(fun W'=>W'.cell? ⟨w1.heap.size+1+1,0,none⟩=some (.slice (some ⟨g,0,none⟩) (M+1) cp)/\W'.cell? ⟨g,M * 3,none⟩=some (.int .i64 a.n)/\W'.cell? ⟨g,M * 3+1,none⟩=some (.string a.s)/\W'.cell? ⟨g,M * 3+2,none⟩=some (.bool a.t)) (((wr.drew.setCell ⟨w2.heap.size+1,0,none⟩ (.int .i64 a.n)).setCell ⟨w2.heap.size+1,1,none⟩ (.string a.s)).setCell ⟨w2.heap.size+1,2,none⟩ (.bool a.t)):=q7w hn8 hng c8 0 p0 p1 p2
      have HEND:=hZq (q88 (uQ HU) hn8)
      gi_wp2
      refine q0l (fun W'=>W'.cell? ⟨w1.heap.size+1+1,0,none⟩=some (.slice (some ⟨g,0,none⟩) (M+1) cp)/\W'.cell? ⟨g,M * 3,none⟩=some (.int .i64 a.n)/\W'.cell? ⟨g,M * 3+1,none⟩=some (.string a.s)/\W'.cell? ⟨g,M * 3+2,none⟩=some (.bool a.t)) 10 (by kernel_rfl) (by kernel_rfl) (fun ⟨_,_,h⟩=>h) ?_
      show q0a _ _ _ _ _ _ 11 (Array.replicate 11 false) _ _
      refine zzL (i:=0) (v:=?_) rfl (fun _ _ _ h=>h) (Or.inl ⟨by rfl,?_⟩) hS14 ?_
      rotate_left 1
      ·intro w0 hSw;(try dsimp only at hSw);go_simp;(try with_reducible rfl)
      try simp only[Act.put,zz1,zz2,zz3]
      refine zzL (i:=1) (v:=?_) rfl (fun _ _ _ h=>h) (Or.inl ⟨by rfl,?_⟩) hS14 ?_
      rotate_left 1
      ·intro w0 hSw;(try dsimp only at hSw);go_simp;(try with_reducible rfl)
      try simp only[Act.put,zz1,zz2,zz3]
      refine zzL (i:=2) (v:=?_) rfl (fun _ _ _ h=>h) (Or.inl ⟨by rfl,?_⟩) hS14 ?_
      rotate_left 1
      ·intro w0 hSw;(try dsimp only at hSw);go_simp;(try with_reducible rfl)
      try simp only[Act.put,zz1,zz2,zz3]
      refine zzL (i:=3) (v:=?_) rfl (fun _ _ _ h=>h) (Or.inl ⟨by rfl,?_⟩) hS14 ?_
      rotate_left 1
      ·intro w0 hSw;(try dsimp only at hSw);go_simp;(try with_reducible rfl)
      try simp only[Act.put,zz1,zz2,zz3]
      refine zzL (i:=4) (v:=?_) rfl (fun _ _ _ h=>h) (Or.inl ⟨by rfl,?_⟩) hS14 ?_
      rotate_left 1
      ·intro w0 hSw;(try dsimp only at hSw);go_simp;(try with_reducible rfl)
      try simp only[Act.put,zz1,zz2,zz3]
      refine zzL (i:=5) (v:=?_) rfl (fun _ _ _ h=>h) (Or.inl ⟨by rfl,?_⟩) hS14 ?_
      rotate_left 1
      ·intro w0 hSw;(try dsimp only at hSw);go_simp;(try with_reducible rfl)
      try simp only[Act.put,zz1,zz2,zz3]
      refine zzL (i:=6) (v:=?_) rfl (fun _ _ _ h=>h) (Or.inl ⟨by rfl,?_⟩) hS14 ?_
      rotate_left 1
      ·intro w0 hSw;(try dsimp only at hSw);go_simp;(try with_reducible rfl)
      try simp only[Act.put,zz1,zz2,zz3]
      refine zzL (i:=7) (v:=?_) rfl (fun _ _ _ h=>h) (Or.inl ⟨by rfl,?_⟩) hS14 ?_
      rotate_left 1
      ·intro w0 hSw;(try dsimp only at hSw);go_simp;(try with_reducible rfl)
      try simp only[Act.put,zz1,zz2,zz3]
      refine zzL (i:=8) (v:=?_) rfl (fun _ _ _ h=>h) (Or.inl ⟨by rfl,?_⟩) hS14 ?_
      rotate_left 1
      ·intro w0 hSw;(try dsimp only at hSw);go_simp;(try with_reducible rfl)
      try simp only[Act.put,zz1,zz2,zz3]
      refine q01 (i:=9) rfl (by kernel_rfl) (fun K hK=>?_)
      go_simp
      refine hK _ _ (Or.inr hS15) ?_
      refine q01 (i:=10) rfl (by kernel_rfl) (fun K hK=>?_)
      go_simp
      refine hK _ _ (Or.inl rfl) ?_
      refine q0c (by kernel_rfl) ?_ _
      gi_wp2
      go_roundw
      case rel=>exact ⟨_,_,_,⟨1,by omega,rfl,hZq (by have e:=uQ HEND;have hm:=uQ HMM;subst hm;exact e)⟩,rfl,rfl,rfl⟩
      case measure=>simp[intOf];omega
     ·obtain ⟨a0,a,r,rfl⟩: ∃a0 a r,lst=a0::a::r:=q97 (by omega)
      obtain ⟨u8,us,uk⟩:=uQ HR
      have hRC:=hZq (q4S (uQ HLP) uk (k:=1) (by simp))
      have hlr:(a0::a::r).length-1=r.length+1:=by simp
      rw[hlr]at u8
      obtain ⟨q0,q1,q2⟩:=uQ hRC
      have c8:=u8.cell (i:=0) (v:= .slice (some ⟨g,0,none⟩) (r.length+1) cp) rfl
      have fs:=us.froz
      have f8:=u8.froz
      have t0:=us.cell (i:=3) (v:= .int .i64 0) rfl
      have t1:=us.cell (i:=4) (v:= .string { data:=#[] }) rfl
      have t2:=us.cell (i:=5) (v:= .bool false) rfl
      have hn8:w1.heap.size+1+1≠w2.heap.size+1:=by have:=(uQ HLP).n4;have:=(uQ HLP).le;omega
      have hng:g≠w2.heap.size+1:=by have:=(uQ HLP).gl;have:=(uQ HLP).le;omega
      have HU:=hZq (And.intro u8 (And.intro us uk))
      clear u8 us uk hRC HR hlr
      obtain ⟨M,hM⟩: ∃M,r.length=M:=⟨_,rfl⟩
      have p0:wr.cell? ⟨g,M * 3,none⟩=some (.int .i64 a.n):=by have:=q0;subst hM;simpa using this
      have p1:wr.cell? ⟨g,M * 3+1,none⟩=some (.string a.s):=by have:=q1;subst hM;simpa using this
      have p2:wr.cell? ⟨g,M * 3+2,none⟩=some (.bool a.t):=by have:=q2;subst hM;simpa using this
      clear q0 q1 q2
      rw[hM]at c8 HU
      have HMM:=hZq hM
      clear hM
      have hM2:M<=1000000:=by have:=uQ HMM;have:=uQ HLN;simp at this;omega
      have hb1:((M:Int)<(M:Int)+1)=True:=by simp;omega
      have hb2:((M:Int)<=(M:Int)+1)=True:=by simp;omega
      have hcp:M<=cp:=by have h1:=q7u (uQ HLP);have h2:=uQ HMM;simp at h1;omega
      have hcp2:((M:Int)<=(cp:Int))=True:=by simp;omega
      have hS14:(fun W'=>W'.cell? ⟨w1.heap.size+1+1,0,none⟩=some (.slice (some ⟨g,0,none⟩) (M+1) cp)/\W'.cell? ⟨g,M * 3,none⟩=some (.int .i64 a.n)/\W'.cell? ⟨g,M * 3+1,none⟩=some (.string a.s)/\W'.cell? ⟨g,M * 3+2,none⟩=some (.bool a.t)) wr.drew:=⟨c8,p0,p1,p2⟩
      have hS15:(fun W'=>W'.cell? ⟨w1.heap.size+1+1,0,none⟩=some (.slice (some ⟨g,0,none⟩) (M+1) cp)/\W'.cell? ⟨g,M * 3,none⟩=some (.int .i64 a.n)/\W'.cell? ⟨g,M * 3+1,none⟩=some (.string a.s)/\W'.cell? ⟨g,M * 3+2,none⟩=some (.bool a.t)) (((wr.drew.setCell ⟨w2.heap.size+1,3,none⟩ (.int .i64 a.n)).setCell ⟨w2.heap.size+1,4,none⟩ (.string a.s)).setCell ⟨w2.heap.size+1,5,none⟩ (.bool a.t)):=q7w hn8 hng c8 3 p0 p1 p2
      have HEND:=hZq (q89 (uQ HU) hn8)
      gi_wp2
      refine q0l (fun W'=>W'.cell? ⟨w1.heap.size+1+1,0,none⟩=some (.slice (some ⟨g,0,none⟩) (M+1) cp)/\W'.cell? ⟨g,M * 3,none⟩=some (.int .i64 a.n)/\W'.cell? ⟨g,M * 3+1,none⟩=some (.string a.s)/\W'.cell? ⟨g,M * 3+2,none⟩=some (.bool a.t)) 10 (by kernel_rfl) (by kernel_rfl) (fun ⟨_,_,h⟩=>h) ?_
      show q0a _ _ _ _ _ _ 11 (Array.replicate 11 false) _ _
      refine zzL (i:=0) (v:=?_) rfl (fun _ _ _ h=>h) (Or.inl ⟨by rfl,?_⟩) hS14 ?_
      rotate_left 1
      ·intro w0 hSw;(try dsimp only at hSw);go_simp;(try with_reducible rfl)
      try simp only[Act.put,zz1,zz2,zz3]
      refine zzL (i:=1) (v:=?_) rfl (fun _ _ _ h=>h) (Or.inl ⟨by rfl,?_⟩) hS14 ?_
      rotate_left 1
      ·intro w0 hSw;(try dsimp only at hSw);go_simp;(try with_reducible rfl)
      try simp only[Act.put,zz1,zz2,zz3]
      refine zzL (i:=2) (v:=?_) rfl (fun _ _ _ h=>h) (Or.inl ⟨by rfl,?_⟩) hS14 ?_
      rotate_left 1
      ·intro w0 hSw;(try dsimp only at hSw);go_simp;(try with_reducible rfl)
      try simp only[Act.put,zz1,zz2,zz3]
      refine zzL (i:=3) (v:=?_) rfl (fun _ _ _ h=>h) (Or.inl ⟨by rfl,?_⟩) hS14 ?_
      rotate_left 1
      ·intro w0 hSw;(try dsimp only at hSw);go_simp;(try with_reducible rfl)
      try simp only[Act.put,zz1,zz2,zz3]
      refine zzL (i:=4) (v:=?_) rfl (fun _ _ _ h=>h) (Or.inl ⟨by rfl,?_⟩) hS14 ?_
      rotate_left 1
      ·intro w0 hSw;(try dsimp only at hSw);go_simp;(try with_reducible rfl)
      try simp only[Act.put,zz1,zz2,zz3]
      refine zzL (i:=5) (v:=?_) rfl (fun _ _ _ h=>h) (Or.inl ⟨by rfl,?_⟩) hS14 ?_
      rotate_left 1
      ·intro w0 hSw;(try dsimp only at hSw);go_simp;(try with_reducible rfl)
      try simp only[Act.put,zz1,zz2,zz3]
      refine zzL (i:=6) (v:=?_) rfl (fun _ _ _ h=>h) (Or.inl ⟨by rfl,?_⟩) hS14 ?_
      rotate_left 1
      ·intro w0 hSw;(try dsimp only at hSw);go_simp;(try with_reducible rfl)
      try simp only[Act.put,zz1,zz2,zz3]
      refine zzL (i:=7) (v:=?_) rfl (fun _ _ _ h=>h) (Or.inl ⟨by rfl,?_⟩) hS14 ?_
      rotate_left 1
      ·intro w0 hSw;(try dsimp only at hSw);go_simp;(try with_reducible rfl)
      try simp only[Act.put,zz1,zz2,zz3]
      refine zzL (i:=8) (v:=?_) rfl (fun _ _ _ h=>h) (Or.inl ⟨by rfl,?_⟩) hS14 ?_
      rotate_left 1
      ·intro w0 hSw;(try dsimp only at hSw);go_simp;(try with_reducible rfl)
      try simp only[Act.put,zz1,zz2,zz3]
      refine q01 (i:=9) rfl (by kernel_rfl) (fun K hK=>?_)
      go_simp
      refine hK _ _ (Or.inr hS15) ?_
      refine q01 (i:=10) rfl (by kernel_rfl) (fun K hK=>?_)
      go_simp
      refine hK _ _ (Or.inl rfl) ?_
      refine q0c (by kernel_rfl) ?_ _
      gi_wp2
      go_roundw
      case rel=>exact ⟨_,_,_,⟨2,by omega,rfl,hZq (by have e:=uQ HEND;have hm:=uQ HMM;subst hm;exact e)⟩,rfl,rfl,rfl⟩
      case measure=>simp[intOf];omega
    ·obtain rfl:k=N:=by omega
     obtain ⟨s0,s1,s2,s3,s4,s5,hsd⟩:=qdG (lst.take k)
     have HSL:=hZq (qcC (uQ HLP) (uQ HR) hsd)
     have c8:=(uQ HR).1.cell (i:=0) (v:= .slice (some ⟨g,0,none⟩) (lst.length-k) cp) rfl
     have HCT:=hZq (qaH (uQ HHE) (uQ HXP) (uQ HI) (uQ HLP) (uQ HR) (uQ HN) (uQ HRC) hsd (by omega))
     have HOW:=hZq (qcA (uQ HLP) (uQ HR) (by omega))
     have HFI:=hZq (qaJ (x:=x) (uQ HI).1 (uQ HLP) (uQ HR).1 (uQ HR).2.2)
     have HST2:Hid (stk (vlv M) (((pre++[x]).map fun i=>xs[i]).reverse)=some ((vlv M) p (lst.take k)::lst.drop k)):=hZq (by
      rw[(uQ HXP).2.1,stk,(uQ HI).2.1]
      dsimp only
      rw[uQ HN,if_neg (by omega)])
     have HLL:Hid ((lst.drop k).length=lst.length-k):=hZq (by simp)
     obtain ⟨LL,hLL⟩: ∃LL,lst.length-k=LL:=⟨_,rfl⟩
     have HB8:=hZq (uQ HR).1
     have HKR:=hZq (uQ HR).2.2
     rw[hLL]at c8 HSL HOW HLL HB8
     have hLB:LL<=200:=by have:=uQ HLN;omega
     clear hLL HR
     have hS16:=uQ HSL wr.drew (Kp.drew wr |>.mono (by simp))
     gi_wp2
     refine q0l (fun W'=>W'.cell? ⟨w1.heap.size+1+1,0,none⟩=some (.slice (some ⟨g,0,none⟩) LL cp)/\W'.cell? ⟨w.heap.size,0,none⟩=some (.func (.func EF) #[.pointer (some ⟨gm,0,none⟩)] #[])/\W'.cell? ⟨Bx,0,none⟩=some (.int .i64 p.kd)/\W'.cell? ⟨Bx,1,none⟩=some (.int .i64 p.n)/\W'.cell? ⟨Bx,2,none⟩=some (.string p.s)/\W'.cell? ⟨Bx,3,none⟩=some (.string p.st)/\W'.cell? ⟨Bx,4,none⟩=some (.int .i64 p.fl)/\W'.cell? ⟨w2.heap.size,0,none⟩=some (.string S)/\W'.cell? ⟨w2.heap.size,1,none⟩=some (.int .i64 (k:Int))/\W'.cell? ⟨w2.heap.size,2,none⟩=some (.int .u64 O)/\W'.cell? ⟨w2.heap.size,3,none⟩=some (.int .i64 I)/\W'.cell? ⟨w2.heap.size,4,none⟩=some (F)/\W'.cell? ⟨w2.heap.size+1,0,none⟩=some s0/\W'.cell? ⟨w2.heap.size+1,1,none⟩=some s1/\W'.cell? ⟨w2.heap.size+1,2,none⟩=some s2/\W'.cell? ⟨w2.heap.size+1,3,none⟩=some s3/\W'.cell? ⟨w2.heap.size+1,4,none⟩=some s4/\W'.cell? ⟨w2.heap.size+1,5,none⟩=some s5) 8 (by kernel_rfl) (by kernel_rfl) (fun ⟨_,_,h⟩=>h) ?_
     show q0a _ _ _ _ _ _ 9 (Array.replicate 9 false) _ _
     refine zzL (i:=0) (v:=?_) rfl (fun _ _ _ h=>h) (Or.inl ⟨by rfl,?_⟩) hS16 ?_
     rotate_left 1
     ·intro w0 hSw;(try dsimp only at hSw);go_simp;(try with_reducible rfl)
     try simp only[Act.put,zz1,zz2,zz3]
     refine zzL (i:=1) (v:=?_) rfl (fun _ _ _ h=>h) (Or.inl ⟨by rfl,?_⟩) hS16 ?_
     rotate_left 1
     ·intro w0 hSw;(try dsimp only at hSw);go_simp;(try with_reducible rfl)
     try simp only[Act.put,zz1,zz2,zz3]
     refine zzL (i:=2) (v:=?_) rfl (fun _ _ _ h=>h) (Or.inl ⟨by rfl,?_⟩) hS16 ?_
     rotate_left 1
     ·intro w0 hSw;(try dsimp only at hSw);go_simp;(try with_reducible rfl)
     try simp only[Act.put,zz1,zz2,zz3]
     refine zzL (i:=3) (v:=?_) rfl (fun _ _ _ h=>h) (Or.inl ⟨by rfl,?_⟩) hS16 ?_
     rotate_left 1
     ·intro w0 hSw;(try dsimp only at hSw);go_simp;(try with_reducible rfl)
     try simp only[Act.put,zz1,zz2,zz3]
     refine zzL (i:=4) (v:=?_) rfl (fun _ _ _ h=>h) (Or.inl ⟨by rfl,?_⟩) hS16 ?_
     rotate_left 1
     ·intro w0 hSw;(try dsimp only at hSw);go_simp;(try with_reducible rfl)
     try simp only[Act.put,zz1,zz2,zz3]
     refine q01 (i:=5) rfl (by kernel_rfl) (fun K hK=>?_)
     go_simp
     rw[uQ HEN,Oper.upon_enter]
     refine (uQ HCT).mono ?_
     rintro e w3 ⟨rfl,hb3⟩
     dsimp only
     have kp3:Kp [] wr w3:=(Kp.drew wr).trans (Kp.ofBelow hb3) (by simp)
     refine hK _ _ (Or.inr (uQ HSL w3 (kp3.mono (by simp)))) ?_
     try simp only[Act.put,zz1,zz2,zz3]
     refine q01 (i:=6) rfl (by kernel_rfl) (fun K hK=>?_)
     go_simp
     have kp4:Kp [] wr (w3.alloc (.cells #[.int .i64 ((vlv M) p (lst.take k)).n, .string ((vlv M) p (lst.take k)).s, .bool ((vlv M) p (lst.take k)).t] 208)):=kp3.trans (Kp.alloc _ _) (by simp)
     have nc:=q4Z w3 [.int .i64 ((vlv M) p (lst.take k)).n, .string ((vlv M) p (lst.take k)).s, .bool ((vlv M) p (lst.take k)).t] 208
     refine hK _ _ (Or.inr (uQ HSL _ (kp4.mono (by simp)))) ?_
     have hown:=q02 (uQ HOW) kp4 (by simp)
     have hlow:w.heap.size+4<=(w3.alloc (.cells #[.int .i64 ((vlv M) p (lst.take k)).n, .string ((vlv M) p (lst.take k)).s, .bool ((vlv M) p (lst.take k)).t] 208)).heap.size:=by have h1:=(uQ HI).1.bel.size;have h2:=(uQ HI).1.sz;have h3:=kp4.size;have h4:=(uQ HSZ).2;have h5:=(uQ HLP).kp.size;have h6:=(uQ HKR).size;omega
     obtain ⟨i0,hi0,hz0,hz1,hz2⟩:=info_parts q9i
     refine q01 (i:=7) rfl (by kernel_rfl) (fun K hK=>?_)
     refine q0N rfl (.tmp 48) (.tmp 54) 251 rfl (w.heap.size+4) 208 i0 (.agg #[.int .i64 0, .string { data:=#[] }, .bool false]) 3 32 Tryz.underlying251 hi0 hz0 hz1 hz2 rfl (by decide) (.slice (some ⟨g,0,none⟩) LL cp) LL _ rfl hown ⟨w3.heap.size,0,none⟩ 1 1 [.int .i64 ((vlv M) p (lst.take k)).n, .string ((vlv M) p (lst.take k)).s, .bool ((vlv M) p (lst.take k)).t] rfl rfl nc (by simp[Value.oneCell']) (by decide) (by simp[maxLen];omega) (by omega) hlow ?_
     rintro g5 cap5 w5 hw5 hgr hg5
     have kp5:Kp [g] wr w5:=(kp4.mono (by simp)).trans (Kp.of hgr) (by simp[Value.ownBlock])
     have hb5:=(uQ HB8).kp kp5 (by simp;have:=(uQ HLP).n1;omega)
     have c5:=hb5.cell (i:=0) rfl
     have f5:=hb5.froz
     have hge:g5=g\/wr.heap.size<=g5:=by
      rcases hg5 with h|h
      ·simp[Value.ownBlock]at h
       exact Or.inl h.symm
      ·exact Or.inr (by have:=kp4.size;omega)
     have hfin:=uQ HFI w5 g5 cap5 (LL+1) _ kp5 hge (uQ HST2) (by rw[List.length_cons,uQ HLL]) (by rw[List.reverse_cons,List.flatMap_append];exact hw5)
     refine hK _ _ (Or.inr (uQ HSL _ kp5)) ?_
     try simp only[Act.put,zz1,zz2,zz3]
     refine q01 (i:=8) rfl (by kernel_rfl) (fun K hK=>?_)
     go_simp
     refine hK _ _ (Or.inl rfl) ?_
     refine q0c (by kernel_rfl) ?_ _
     exact hfin W0.heap.size
 case done=>
  rintro D ys W hD rfl hi hK
  obtain ⟨l,g,cp,hst,b8,hrow⟩:=hi.row
  rw[q3j xs xs.length (Nat.le_refl _),Nat.sub_self,List.drop_zero]at hst
  have HI:=hZq hi
  have c8:=b8.cell (i:=0) (v:= .slice (some ⟨g,0,none⟩) l.length cp) rfl
  have y2:=hi.b2.cell (i:=0) (v:= .bool false) rfl
  have f1:=hi.b1.froz
  have f2:=hi.b2.froz
  have hb:=hi.bel
  have x10:=hi.b1.cell (i:=0) (v:= .int .i64 0) rfl
  have x30:=hi.b3.cell (i:=0) (v:= .int .i64 0) rfl
  have x11:=hi.b1.cell (i:=1) (v:= .string { data:=#[] }) rfl
  have x31:=hi.b3.cell (i:=1) (v:= .string { data:=#[] }) rfl
  have x12:=hi.b1.cell (i:=2) (v:= .bool false) rfl
  have x32:=hi.b3.cell (i:=2) (v:= .bool false) rfl
  have hln:l.length<=200:=Nat.le_trans (q3s hst) hsz
  have HB:=hZq (And.intro hi.b1 hi.b2)
  clear HHE HEN HC hI0 hbs hbl hi hbo0
  by_cases h1:l.length=1
  ·obtain ⟨a,rfl⟩:=List.length_eq_one_iff.1 h1
   have hc:=fun i hi=>q0t (enc:=vlE) (sz:=3) q4M (l:=[a]) hrow 0 i (by simp) hi
   have e0:W.cell? ⟨g,0,none⟩=some (.int .i64 a.n):=hc 0 (by omega)
   have e1:W.cell? ⟨g,1,none⟩=some (.string a.s):=hc 1 (by omega)
   have e2:W.cell? ⟨g,2,none⟩=some (.bool a.t):=hc 2 (by omega)
   clear hc hrow
   have HFD:Hid (fdX (vlv M) xs=some a):=hZq (by unfold fdX;rw[hst])
   clear hst b8
   gi_wp2
   obtain ⟨u1,u2⟩:=uQ HB
   have kd:Kp [w.heap.size+1,w.heap.size+1+1] W ((((W.setCell ⟨w.heap.size+1,0,none⟩ (.int .i64 a.n)).setCell ⟨w.heap.size+1,1,none⟩ (.string a.s)).setCell ⟨w.heap.size+1,2,none⟩ (.bool a.t)).setCell ⟨w.heap.size+1+1,0,none⟩ (.bool true)):=(((((Kp.refl _ W).trans (Kp.set _ _ _ _) (by simp)).trans (Kp.set _ _ _ _) (by simp)).trans (Kp.set _ _ _ _) (by simp)).trans (Kp.set _ _ _ _) (by simp))
   refine q2s (b:=true) rfl rfl rfl Tryz.underlying208 rfl ((kd.block D (Array.getElem?_eq_some_iff.1 hK).1 (by simp;omega)).trans hK) (CBox.kp (CBox.set (CBox.set (CBox.set u1 0 _) 1 _) 2 _) (Kp.set _ _ _ _) (by simp)) (CBox.set (CBox.kp (CBox.kp (CBox.kp u2 (Kp.set _ _ _ _) (by simp)) (Kp.set _ _ _ _) (by simp)) (Kp.set _ _ _ _) (by simp)) 0 _) (hb.trans (kd.below hb.size (by simp;omega))) (by omega) (fun W' hW'=>⟨?_,hW'⟩)
   rw[uQ HFD]
   rfl
  ·have HFD:Hid (fdX (vlv M) xs=none):=hZq (by
    unfold fdX
    rw[hst]
    match l,h1 with
    |[],_=>rfl
    |_::_::_,_=>rfl)
   have h2:((l.length:Int)=1)=False:=by simp;omega
   clear hst b8 hrow
   gi_wp2
   obtain ⟨u1,u2⟩:=uQ HB
   have kd:Kp [w.heap.size+1,w.heap.size+1+1] W ((((W.setCell ⟨w.heap.size+1,0,none⟩ (.int .i64 0)).setCell ⟨w.heap.size+1,1,none⟩ (.string { data:=#[] })).setCell ⟨w.heap.size+1,2,none⟩ (.bool false)).setCell ⟨w.heap.size+1+1,0,none⟩ (.bool false)):=(((((Kp.refl _ W).trans (Kp.set _ _ _ _) (by simp)).trans (Kp.set _ _ _ _) (by simp)).trans (Kp.set _ _ _ _) (by simp)).trans (Kp.set _ _ _ _) (by simp))
   refine q2s (b:=false) rfl rfl rfl Tryz.underlying208 rfl ((kd.block D (Array.getElem?_eq_some_iff.1 hK).1 (by simp;omega)).trans hK) (CBox.kp (CBox.set (CBox.set (CBox.set u1 0 _) 1 _) 2 _) (Kp.set _ _ _ _) (by simp)) (CBox.set (CBox.kp (CBox.kp (CBox.kp u2 (Kp.set _ _ _ _) (by simp)) (Kp.set _ _ _ _) (by simp)) (Kp.set _ _ _ _) (by simp)) 0 _) (hb.trans (kd.below hb.size (by simp;omega))) (by omega) (fun W' hW'=>⟨?_,hW'⟩)
   rw[uQ HFD]
   rfl
 case stop=>
  rintro D c pre W hD ⟨k,hk,rfl⟩ ⟨rfl,hx⟩ hK
  have hno:=hx.no
  rw[q3j xs k hk]at hno
  have HFD:fdX (vlv M) xs=none:=by
   unfold fdX
   rw[<-List.take_append_drop (xs.length-k) xs,q4d (vlv M) _ _ hno]
  have HX:=hZq hx
  clear hx hno HHE HEN HC hI0 hbs
  gi_wp2
  have hx:=uQ HX
  refine q2s (b:=false) rfl rfl rfl Tryz.underlying208 rfl hK hx.b1 hx.b2 hx.bel (by have:=hbl.size;omega) (fun W' hW'=>⟨?_,hW'⟩)
  rw[HFD]
  rfl
end Go.Proofs.YtcmjnlpofebbmaaGreatDoor
