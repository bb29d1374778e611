/-
  Walks and plain facts, made small.
-/
import Derived.Test.YtcmjnlpofebbmaaGreatDoorMa35
import Derived.Lib.Small
import Derived.Lib.Bytealg
set_option maxRecDepth 100000
set_option maxHeartbeats 8000000
set_option linter.unusedSimpArgs false
namespace Go.Proofs.YtcmjnlpofebbmaaGreatDoor
open Go.RowKit Go.Shelf
def nso2:Oper:=⟨some 11,Op.call { callee:=Callee.value (Operand.func 40),args:=#[Operand.tmp 10],argTypes:=#[89] },91,"search.go:40",#[⟨1, .data⟩],none⟩
def nso4:Oper:=⟨some 13,Op.call { callee:=Callee.value (Operand.func 41),args:=#[Operand.tmp 12],argTypes:=#[24] },93,"search.go:41",#[⟨3, .data⟩,⟨2, .chain⟩],none⟩
def nso7:Oper:=⟨some 16,Op.makeSlice 95 (Operand.tmp 15) (Operand.tmp 15),95,"search.go:38",#[⟨6, .data⟩,⟨6, .data⟩],none⟩
def nso9:Oper:=⟨some 18,Op.box 97 (Operand.tmp 17),70,"search.go:38",#[⟨8, .data⟩],none⟩
theorem q8c:(Tryz.prog.info? 100).map (fun i=>(i.zero,i.size,i.bytes))=some (some (.map none),1,8):=by kernel_rfl
theorem qcR (n:Nat)(hn:n<=100000)(W:World):(Instr.makeSlice 95 (.int .i64 (n:Int)) (.int .i64 (n:Int))).run Tryz.prog W= .ok (.slice (some ⟨W.heap.size,0,none⟩) n n) (W.alloc (.cells (Array.replicate n (Value.map none)) 100)):=by
 obtain ⟨i0,hi,hz0,hz1,hz2⟩:=info_parts q8c
 have h:=run_make (P:=Tryz.prog) W 95 100 i0 (.map none) Tryz.underlying95 hi hz0 .i64 .i64 (n:Int) (n:Int) (by omega) (by omega) (by rw[hz2];omega) (by omega)
 rw[hz1]at h
 simp only[Int.toNat_natCast,Nat.mul_one]at h
 rw[h]
 have e:madeCells (Value.map none).cells n=Array.replicate n (Value.map none):=by
  apply Array.ext'
  rw[Array.toList_replicate]
  exact toList_madeCells_one (Value.map none) n
 rw[e]
structure NsS (w:World)(sa:Option Addr)(sc:Nat)(l:List SR)(WI:Nat)(ea:Option Addr)(m ec gs gt gx B gd:Nat)(nv0 av nv:Value)(avs nvs rs:List Value)(R:List (List RdC))(w':World):Prop where
 kp:Kp [] w w'
 tb:CBox gt (ntC sa l.length sc (WI:Int) ea m ec nv0) 99 w'
 ow: ∃lo,w.heap.size<=lo/\OwnsW lo w' nv0 (q00 (stgs l))
 tr: ∃wx,Kp [] w wx/\XtS wx gt gx (m * WI) (asks l) (asks l) av nv avs nvs w'
 ro: ∃wy,Kp [] w wy/\RoS wy B rs R w'
 rl:R.length=l.length
 ry: ∀(j:Nat) (r:List RdC),R[j]?=some r->RdY (stgs l) j (rdT (stgs l) j) r
 dd:CBox gd (Array.replicate m (Value.map none)) 100 w'
 bx:CBox gs #[.pointer (some ⟨gt,0,none⟩), .pointer (some ⟨gx,0,none⟩), .slice (some ⟨B,0,none⟩) l.length l.length, .slice (some ⟨gd,0,none⟩) m m, .int .i64 0, .int .i64 0] 97 w'
 nw:w.heap.size<=gs/\w.heap.size<=gt/\w.heap.size<=gx/\w.heap.size<=B/\w.heap.size<=gd
theorem q5j (sa:Option Addr)(sc:Nat)(l:List SR)(WI:Nat)(ea:Option Addr)(m ec:Nat)(w:World)(h:StsAt w sa l)(hp:(pcR ⟨stgs l,(WI:Int)⟩).2=0)(hT:TbE w)(hok: ∀r∈l,r.s.ok)(hfit: ∀r∈l, ∀q∈r.s.cd,q.fit)(hsc:l.length<=sc)(hW:WI<=256)(hm:m<=4096):
  Calls Tryz.prog 25 #[.agg #[.slice sa l.length sc, .int .i64 (WI:Int)], .slice ea m ec] w fun e w'=> ∃gs gt gx B gd nv0 av nv avs nvs rs R,e= .returned (.pointer (some ⟨gs,0,none⟩))/\NsS w sa sc l WI ea m ec gs gt gx B gd nv0 av nv avs nvs rs R w':=by
 have h8:l.length<=8:=by have:=(q1s hp).2.1;rw[show (⟨stgs l,(WI:Int)⟩:Ptn).ss.length=l.length from q03 l]at this;exact this
 have k1:=Kp.alloc w (.cells #[.slice sa l.length sc, .int .i64 (WI:Int)] 24)
 have p1:=CBox.new w #[.slice sa l.length sc, .int .i64 (WI:Int)] 24
 obtain ⟨W1,hW1⟩: ∃W1,W1=w.alloc (.cells #[.slice sa l.length sc, .int .i64 (WI:Int)] 24):=⟨_,rfl⟩
 rw[<-hW1]at k1 p1
 have NT:=hZq (q61 sa sc l (WI:Int) ea m ec W1 (h.kp k1) h8)
 have hmk:=fun W=>qcR m (by omega) W
 have HTR0:=hZq (fun (nv0:Value) (W:World) (hk:Kp [] w W) (hb:CBox (W1.heap.size+1) (ntC sa l.length sc (WI:Int) ea m ec nv0) 99 W)=>q5k (W1.heap.size+1) sa sc l WI ea m ec nv0 W hb (h.kp hk) h8 (hT.kp hk (by simp)) hfit hW hm)
 have HRD0:=hZq (fun (W:World) (hk:Kp [] w W)=>q73 sa sc l (WI:Int) W (h.kp hk) hp (hT.kp hk (by simp)) hok hsc)
 have c0:=p1.cell (i:=0) (v:= .slice sa l.length sc) rfl
 have c1:=p1.cell (i:=1) (v:= .int .i64 (WI:Int)) rfl
 have HK1:=hZq k1
 have HP1:=hZq p1
 have hsz1:w.heap.size<=W1.heap.size:=k1.size
 clear h hT hok hfit hp k1 p1
 obtain ⟨n,hn⟩: ∃n,l.length=n:=⟨_,rfl⟩
 have HN:=hZq hn
 rw[hn]at c0 NT HTR0 HRD0 HP1 hW1 ⊢
 clear hn
 go_enter Tryz.func25,Tryz.ntmps25
 go_upto_region 1 with fail
 rw[<-hW1]
 clear hW1
 go_wp2_with fail
 refine (uQ NT).mono ?_
 rintro e w2 ⟨rfl,nv0,hns⟩
 obtain ⟨V,hV⟩: ∃V,V=w2.drew:=⟨_,rfl⟩
 have kV:Kp [] w2 V:=by rw[hV];exact Kp.drew _
 have HKP:Hid (Kp [] w2 V):=hZq kV
 have HSS:Hid (∀W,Kp [] w2 W->W.cell? ⟨w.heap.size,0,none⟩=some (.slice sa n sc)/\W.cell? ⟨w.heap.size,1,none⟩=some (.int .i64 (WI:Int))):=hZq (fun W hk=>by
  have:=(uQ HP1).kp (hns.kp.trans hk (by simp)) (by simp)
  exact ⟨this.cell rfl,this.cell rfl⟩)
 have HTR:=hZq (fun (W:World) (hk:Kp [] w2 W)=>uQ HTR0 nv0 W (((uQ HK1).trans hns.kp (by simp)).trans hk (by simp)) (hns.tb.kp hk (by simp)))
 have HRD:=hZq (fun (W:World) (hk:Kp [] w2 W)=>uQ HRD0 W (((uQ HK1).trans hns.kp (by simp)).trans hk (by simp)))
 have HFIN:Hid (∀(gx B gd gs:Nat) (wx wy w':World) (av nv:Value) (avs nvs rs:List Value) (R:List (List RdC)),Kp [] w2 w'->XtS wx (W1.heap.size+1) gx (m * WI) (asks l) (asks l) av nv avs nvs w'->Kp [] w2 wx->RoS wy B rs R w'->Kp [] w2 wy->R.length=n->(∀(j:Nat) (r:List RdC),R[j]?=some r->RdY (stgs l) j (rdT (stgs l) j) r)->CBox gd (Array.replicate m (Value.map none)) 100 w'->w2.heap.size<=gd->w2.heap.size<=gs->CBox gs #[.pointer (some ⟨W1.heap.size+1,0,none⟩), .pointer (some ⟨gx,0,none⟩), .slice (some ⟨B,0,none⟩) n n, .slice (some ⟨gd,0,none⟩) m m, .int .i64 0, .int .i64 0] 97 w'-> ∃gs' gt gx B gd nv0 av nv avs nvs rs R,Ending.returned (.pointer (some ⟨gs,0,none⟩))= .returned (.pointer (some ⟨gs',0,none⟩))/\NsS w sa sc l WI ea m ec gs' gt gx B gd nv0 av nv avs nvs rs R w'):=hZq (fun gx B gd gs wx wy w' av nv avs nvs rs R a1 a2 a3 a4 a5 a6 a7 a8 a9 a10 a11=>by
  have g1:=hns.go a1
  have k2:=(uQ HK1).trans hns.kp (by simp)
  have z2:=k2.size
  have z3:=a3.size
  have z4:=a5.size
  have z5:=a2.lo
  have z6:=a4.lo
  refine ⟨gs,_,gx,B,gd,nv0,av,nv,avs,nvs,rs,R,rfl,k2.trans a1 (by simp),by rw[uQ HN];exact g1.tb,⟨_,?_,g1.ow⟩,⟨wx,k2.trans a3 (by simp),a2⟩,⟨wy,k2.trans a5 (by simp),a4⟩,by rw[uQ HN];exact a6,a7,a8,by rw[uQ HN];exact a11,by omega,by omega,by omega,by omega,by omega⟩
  omega)
 clear NT HTR0 HRD0 HP1 HK1 kV hns c0 c1
 go_upto_region 2 with fail
 refine wp_region_held_drew (S:=fun W=>W.cell? ⟨w.heap.size,0,none⟩=some (.slice sa n sc)/\W.cell? ⟨w.heap.size,1,none⟩=some (.int .i64 (WI:Int))) (by kernel_rfl) (by rw[<-hV];exact uQ HSS V (uQ HKP)) (fun hHeld=>?_)
 rw[<-hV]at hHeld ⊢
 clear hV
 show wpAnyH _ _ _ _ _ 11 (Array.replicate 11 false) _ _
 refine wpAnyH_take (i:=0) (oi:=⟨some 9,Op.move (.tmp 5),89,"search.go:38",#[],none⟩) (v:=?_) rfl (by kernel_rfl) (by kernel_rfl) (by kernel_rfl) (fun _ _ _ h=>h) (Or.inl ⟨by rfl,?_⟩) (by assumption) ?_
 rotate_left 1
 ·intro w0 hSw
  (try dsimp only at hSw)
  go_simp
  (try with_reducible rfl)
 try simp only[Act.put,zz1,zz2,zz3]
 refine wpAnyH_take (i:=1) (oi:=⟨some 10,Op.move (.tmp 5),89,"search.go:38",#[],none⟩) (v:=?_) rfl (by kernel_rfl) (by kernel_rfl) (by kernel_rfl) (fun _ _ _ h=>h) (Or.inl ⟨by rfl,?_⟩) (by assumption) ?_
 rotate_left 1
 ·intro w0 hSw
  (try dsimp only at hSw)
  go_simp
  (try with_reducible rfl)
 try simp only[Act.put,zz1,zz2,zz3]
 refine wpAnyH_take (i:=3) (oi:=⟨some 12,Op.load 24 (.tmp 2),24,"search.go:38",#[],none⟩) (v:=?_) rfl (by kernel_rfl) (by kernel_rfl) (by kernel_rfl) (fun _ _ _ h=>h) (Or.inl ⟨by rfl,?_⟩) (by assumption) ?_
 rotate_left 1
 ·intro w0 hSw
  (try dsimp only at hSw)
  go_simp
  (try with_reducible rfl)
 try simp only[Act.put,zz1,zz2,zz3]
 refine wpAnyH_take (i:=5) (oi:=⟨some 14,Op.move (.tmp 1),25,"search.go:38",#[],none⟩) (v:=?_) rfl (by kernel_rfl) (by kernel_rfl) (by kernel_rfl) (fun _ _ _ h=>h) (Or.inl ⟨by rfl,?_⟩) (by assumption) ?_
 rotate_left 1
 ·intro w0 hSw
  (try dsimp only at hSw)
  go_simp
  (try with_reducible rfl)
 try simp only[Act.put,zz1,zz2,zz3]
 refine wpAnyH_take (i:=6) (oi:=⟨some 15,Op.call { callee:= .builtin Builtin.len,args:=#[.tmp 14],argTypes:=#[25] },3,"search.go:38",#[⟨5, .data⟩],none⟩) (v:=?_) rfl (by kernel_rfl) (by kernel_rfl) (by kernel_rfl) (fun _ _ _ h=>h) (Or.inl ⟨by rfl,?_⟩) (by assumption) ?_
 rotate_left 1
 ·intro w0 hSw
  (try dsimp only at hSw)
  go_simp
  (try with_reducible rfl)
 try simp only[Act.put,zz1,zz2,zz3]
 refine wpAnyH_ready (rs:=[2,7]) (by kernel_rfl) (by simp) ?_
 refine AllReadyH.cons (o:=nso2) rfl (fun K hK=>?_) (AllReadyH.cons (o:=nso7) rfl (fun K hK=>?_) AllReadyH.nil)
 ·unfold nso2
  go_simp
  refine (uQ HTR V (uQ HKP)).mono ?_
  rintro e Vt ⟨rfl,av,nv,avs,nvs,hx⟩
  have HX:=hZq (And.intro hx (uQ HKP))
  have HKV:=hZq (show Kp [] V Vt from hx.kp)
  clear hx
  have HKP:=hZq ((uQ HKP).trans (uQ HKV) (by simp))
  refine hK.out _ _ ?_ (fun hHeld=>?_)
  ·exact uQ HSS _ (uQ HKP)
  clear hK K HKV
  try simp only[Act.put,zz1,zz2,zz3]
  refine wpAnyH_ready (rs:=[4,7]) (by kernel_rfl) (by simp) ?_
  refine AllReadyH.cons (o:=nso4) rfl (fun K hK=>?_) (AllReadyH.cons (o:=nso7) rfl (fun K hK=>?_) AllReadyH.nil)
  ·unfold nso4
   go_simp
   refine (uQ HRD Vt (uQ HKP)).mono ?_
   rintro e Vtr ⟨rfl,rs,R,hr1,hr2,hr3⟩
   have HRS:=hZq (And.intro hr1 (And.intro hr2 (And.intro hr3 (uQ HKP))))
   have HKV:=hZq (show Kp [] Vt Vtr from hr1.kp)
   clear hr1 hr2 hr3
   have HX:=hZq (And.intro ((uQ HX).1.go (uQ HKV)) (uQ HX).2)
   have HKP:=hZq ((uQ HKP).trans (uQ HKV) (by simp))
   refine hK.out _ _ ?_ (fun hHeld=>?_)
   ·exact uQ HSS _ (uQ HKP)
   clear hK K HKV
   try simp only[Act.put,zz1,zz2,zz3]
   refine wpAnyH_ready (rs:=[7]) (by kernel_rfl) (by simp) ?_
   refine AllReadyH.cons (o:=nso7) rfl (fun K hK=>?_) AllReadyH.nil
   unfold nso7
   go_simp
   obtain ⟨Vtrd,hnw⟩: ∃x,x=Vtr.alloc (.cells (Array.replicate m (Value.map none)) 100):=⟨_,rfl⟩
   have HDD:Hid (CBox Vtr.heap.size (Array.replicate m (Value.map none)) 100 Vtrd/\w2.heap.size<=Vtr.heap.size):=hZq ⟨by rw[hnw];exact CBox.new _ _ _,(uQ HKP).size⟩
   have HKV:Hid (Kp [] Vtr Vtrd):=hZq (by rw[hnw];exact Kp.alloc _ _)
   rw[<-hnw]
   clear hnw
   have HX:=hZq (And.intro ((uQ HX).1.go (uQ HKV)) (uQ HX).2)
   have HRS:=hZq (And.intro ((uQ HRS).1.go (uQ HKV)) (uQ HRS).2)
   have HKP:=hZq ((uQ HKP).trans (uQ HKV) (by simp))
   refine hK.out _ _ ?_ (fun hHeld=>?_)
   ·exact uQ HSS _ (uQ HKP)
   clear hK K HKV
   try simp only[Act.put,zz1,zz2,zz3]
   refine wpAnyH_take (i:=8) (oi:=⟨some 17,Op.build 97 #[(0, .tmp 9),(1, .tmp 11),(2, .tmp 13),(3, .tmp 16)],97,"search.go:38",#[⟨0, .data⟩,⟨2, .data⟩,⟨4, .data⟩,⟨7, .data⟩],none⟩) (v:=?_) rfl (by kernel_rfl) (by kernel_rfl) (by kernel_rfl) (fun _ _ _ h=>h) (Or.inl ⟨by rfl,?_⟩) (by assumption) ?_
   rotate_left 1
   ·intro w0 hSw
    (try dsimp only at hSw)
    go_simp
    (try with_reducible rfl)
   try simp only[Act.put,zz1,zz2,zz3]
   refine wpAnyH_ready (rs:=[9]) (by kernel_rfl) (by simp) ?_
   refine AllReadyH.cons (o:=nso9) rfl (fun K hK=>?_) AllReadyH.nil
   unfold nso9
   go_simp
   have HKV:=hZq (Kp.alloc Vtrd (.cells #[.pointer (some ⟨W1.heap.size+1,0,none⟩), .pointer (some ⟨V.heap.size,0,none⟩), .slice (some ⟨Vt.heap.size+1,0,none⟩) n n, .slice (some ⟨Vtr.heap.size,0,none⟩) m m, .int .i64 0, .int .i64 0] 97))
   have HBX:=hZq (CBox.new Vtrd #[.pointer (some ⟨W1.heap.size+1,0,none⟩), .pointer (some ⟨V.heap.size,0,none⟩), .slice (some ⟨Vt.heap.size+1,0,none⟩) n n, .slice (some ⟨Vtr.heap.size,0,none⟩) m m, .int .i64 0, .int .i64 0] 97)
   refine hK.out _ _ ?_ (fun hHeld=>?_)
   ·exact uQ HSS _ ((uQ HKP).trans (uQ HKV) (by simp))
   clear hK K
   try simp only[Act.put,zz1,zz2,zz3]
   refine wpAnyH_take (i:=10) (oi:=⟨some 4,Op.assign (.tmp 18),70,"search.go:38",#[⟨9, .data⟩,⟨4, .chain⟩,⟨0, .phase⟩,⟨1, .phase⟩,⟨2, .phase⟩,⟨3, .phase⟩,⟨4, .phase⟩,⟨5, .phase⟩,⟨6, .phase⟩,⟨7, .phase⟩,⟨8, .phase⟩,⟨9, .phase⟩],none⟩) (v:=?_) rfl (by kernel_rfl) (by kernel_rfl) (by kernel_rfl) (fun _ _ _ h=>h) (Or.inl ⟨by rfl,?_⟩) (by assumption) ?_
   rotate_left 1
   ·intro w0 hSw
    (try dsimp only at hSw)
    go_simp
    (try with_reducible rfl)
   try simp only[Act.put,zz1,zz2,zz3]
   refine wpAnyH_done (by kernel_rfl) ?_ _
   have HFI:=hZq (uQ HFIN _ _ _ _ _ _ _ _ _ _ _ _ _ ((uQ HKP).trans (uQ HKV) (by simp)) ((uQ HX).1.go (uQ HKV)) (uQ HX).2 ((uQ HRS).1.go (uQ HKV)) (uQ HRS).2.2.2 (uQ HRS).2.1 (uQ HRS).2.2.1 ((uQ HDD).1.kp (uQ HKV) (by simp)) (uQ HDD).2 (uQ HKP).size (uQ HBX))
   clear HX HRS HDD HKP HKV HBX HTR HRD HSS HFIN
   go_wp2
   go_ret
   exact uQ HFI
  ·unfold nso7
   go_simp
   obtain ⟨Vtd,hnw⟩: ∃x,x=Vt.alloc (.cells (Array.replicate m (Value.map none)) 100):=⟨_,rfl⟩
   have HDD:Hid (CBox Vt.heap.size (Array.replicate m (Value.map none)) 100 Vtd/\w2.heap.size<=Vt.heap.size):=hZq ⟨by rw[hnw];exact CBox.new _ _ _,(uQ HKP).size⟩
   have HKV:Hid (Kp [] Vt Vtd):=hZq (by rw[hnw];exact Kp.alloc _ _)
   rw[<-hnw]
   clear hnw
   have HX:=hZq (And.intro ((uQ HX).1.go (uQ HKV)) (uQ HX).2)
   have HKP:=hZq ((uQ HKP).trans (uQ HKV) (by simp))
   refine hK.out _ _ ?_ (fun hHeld=>?_)
   ·exact uQ HSS _ (uQ HKP)
   clear hK K HKV
   try simp only[Act.put,zz1,zz2,zz3]
   refine wpAnyH_ready (rs:=[4]) (by kernel_rfl) (by simp) ?_
   refine AllReadyH.cons (o:=nso4) rfl (fun K hK=>?_) AllReadyH.nil
   unfold nso4
   go_simp
   refine (uQ HRD Vtd (uQ HKP)).mono ?_
   rintro e Vtdr ⟨rfl,rs,R,hr1,hr2,hr3⟩
   have HRS:=hZq (And.intro hr1 (And.intro hr2 (And.intro hr3 (uQ HKP))))
   have HKV:=hZq (show Kp [] Vtd Vtdr from hr1.kp)
   clear hr1 hr2 hr3
   have HX:=hZq (And.intro ((uQ HX).1.go (uQ HKV)) (uQ HX).2)
   have HDD:=hZq (And.intro ((uQ HDD).1.kp (uQ HKV) (by simp)) (uQ HDD).2)
   have HKP:=hZq ((uQ HKP).trans (uQ HKV) (by simp))
   refine hK.out _ _ ?_ (fun hHeld=>?_)
   ·exact uQ HSS _ (uQ HKP)
   clear hK K HKV
   try simp only[Act.put,zz1,zz2,zz3]
   refine wpAnyH_take (i:=8) (oi:=⟨some 17,Op.build 97 #[(0, .tmp 9),(1, .tmp 11),(2, .tmp 13),(3, .tmp 16)],97,"search.go:38",#[⟨0, .data⟩,⟨2, .data⟩,⟨4, .data⟩,⟨7, .data⟩],none⟩) (v:=?_) rfl (by kernel_rfl) (by kernel_rfl) (by kernel_rfl) (fun _ _ _ h=>h) (Or.inl ⟨by rfl,?_⟩) (by assumption) ?_
   rotate_left 1
   ·intro w0 hSw
    (try dsimp only at hSw)
    go_simp
    (try with_reducible rfl)
   try simp only[Act.put,zz1,zz2,zz3]
   refine wpAnyH_ready (rs:=[9]) (by kernel_rfl) (by simp) ?_
   refine AllReadyH.cons (o:=nso9) rfl (fun K hK=>?_) AllReadyH.nil
   unfold nso9
   go_simp
   have HKV:=hZq (Kp.alloc Vtdr (.cells #[.pointer (some ⟨W1.heap.size+1,0,none⟩), .pointer (some ⟨V.heap.size,0,none⟩), .slice (some ⟨Vtd.heap.size+1,0,none⟩) n n, .slice (some ⟨Vt.heap.size,0,none⟩) m m, .int .i64 0, .int .i64 0] 97))
   have HBX:=hZq (CBox.new Vtdr #[.pointer (some ⟨W1.heap.size+1,0,none⟩), .pointer (some ⟨V.heap.size,0,none⟩), .slice (some ⟨Vtd.heap.size+1,0,none⟩) n n, .slice (some ⟨Vt.heap.size,0,none⟩) m m, .int .i64 0, .int .i64 0] 97)
   refine hK.out _ _ ?_ (fun hHeld=>?_)
   ·exact uQ HSS _ ((uQ HKP).trans (uQ HKV) (by simp))
   clear hK K
   try simp only[Act.put,zz1,zz2,zz3]
   refine wpAnyH_take (i:=10) (oi:=⟨some 4,Op.assign (.tmp 18),70,"search.go:38",#[⟨9, .data⟩,⟨4, .chain⟩,⟨0, .phase⟩,⟨1, .phase⟩,⟨2, .phase⟩,⟨3, .phase⟩,⟨4, .phase⟩,⟨5, .phase⟩,⟨6, .phase⟩,⟨7, .phase⟩,⟨8, .phase⟩,⟨9, .phase⟩],none⟩) (v:=?_) rfl (by kernel_rfl) (by kernel_rfl) (by kernel_rfl) (fun _ _ _ h=>h) (Or.inl ⟨by rfl,?_⟩) (by assumption) ?_
   rotate_left 1
   ·intro w0 hSw
    (try dsimp only at hSw)
    go_simp
    (try with_reducible rfl)
   try simp only[Act.put,zz1,zz2,zz3]
   refine wpAnyH_done (by kernel_rfl) ?_ _
   have HFI:=hZq (uQ HFIN _ _ _ _ _ _ _ _ _ _ _ _ _ ((uQ HKP).trans (uQ HKV) (by simp)) ((uQ HX).1.go (uQ HKV)) (uQ HX).2 ((uQ HRS).1.go (uQ HKV)) (uQ HRS).2.2.2 (uQ HRS).2.1 (uQ HRS).2.2.1 ((uQ HDD).1.kp (uQ HKV) (by simp)) (uQ HDD).2 (uQ HKP).size (uQ HBX))
   clear HX HRS HDD HKP HKV HBX HTR HRD HSS HFIN
   go_wp2
   go_ret
   exact uQ HFI
 ·unfold nso7
  go_simp
  obtain ⟨Vd,hnw⟩: ∃x,x=V.alloc (.cells (Array.replicate m (Value.map none)) 100):=⟨_,rfl⟩
  have HDD:Hid (CBox V.heap.size (Array.replicate m (Value.map none)) 100 Vd/\w2.heap.size<=V.heap.size):=hZq ⟨by rw[hnw];exact CBox.new _ _ _,(uQ HKP).size⟩
  have HKV:Hid (Kp [] V Vd):=hZq (by rw[hnw];exact Kp.alloc _ _)
  rw[<-hnw]
  clear hnw
  have HKP:=hZq ((uQ HKP).trans (uQ HKV) (by simp))
  refine hK.out _ _ ?_ (fun hHeld=>?_)
  ·exact uQ HSS _ (uQ HKP)
  clear hK K HKV
  try simp only[Act.put,zz1,zz2,zz3]
  refine wpAnyH_ready (rs:=[2]) (by kernel_rfl) (by simp) ?_
  refine AllReadyH.cons (o:=nso2) rfl (fun K hK=>?_) AllReadyH.nil
  unfold nso2
  go_simp
  refine (uQ HTR Vd (uQ HKP)).mono ?_
  rintro e Vdt ⟨rfl,av,nv,avs,nvs,hx⟩
  have HX:=hZq (And.intro hx (uQ HKP))
  have HKV:=hZq (show Kp [] Vd Vdt from hx.kp)
  clear hx
  have HDD:=hZq (And.intro ((uQ HDD).1.kp (uQ HKV) (by simp)) (uQ HDD).2)
  have HKP:=hZq ((uQ HKP).trans (uQ HKV) (by simp))
  refine hK.out _ _ ?_ (fun hHeld=>?_)
  ·exact uQ HSS _ (uQ HKP)
  clear hK K HKV
  try simp only[Act.put,zz1,zz2,zz3]
  refine wpAnyH_ready (rs:=[4]) (by kernel_rfl) (by simp) ?_
  refine AllReadyH.cons (o:=nso4) rfl (fun K hK=>?_) AllReadyH.nil
  unfold nso4
  go_simp
  refine (uQ HRD Vdt (uQ HKP)).mono ?_
  rintro e Vdtr ⟨rfl,rs,R,hr1,hr2,hr3⟩
  have HRS:=hZq (And.intro hr1 (And.intro hr2 (And.intro hr3 (uQ HKP))))
  have HKV:=hZq (show Kp [] Vdt Vdtr from hr1.kp)
  clear hr1 hr2 hr3
  have HDD:=hZq (And.intro ((uQ HDD).1.kp (uQ HKV) (by simp)) (uQ HDD).2)
  have HX:=hZq (And.intro ((uQ HX).1.go (uQ HKV)) (uQ HX).2)
  have HKP:=hZq ((uQ HKP).trans (uQ HKV) (by simp))
  refine hK.out _ _ ?_ (fun hHeld=>?_)
  ·exact uQ HSS _ (uQ HKP)
  clear hK K HKV
  try simp only[Act.put,zz1,zz2,zz3]
  refine wpAnyH_take (i:=8) (oi:=⟨some 17,Op.build 97 #[(0, .tmp 9),(1, .tmp 11),(2, .tmp 13),(3, .tmp 16)],97,"search.go:38",#[⟨0, .data⟩,⟨2, .data⟩,⟨4, .data⟩,⟨7, .data⟩],none⟩) (v:=?_) rfl (by kernel_rfl) (by kernel_rfl) (by kernel_rfl) (fun _ _ _ h=>h) (Or.inl ⟨by rfl,?_⟩) (by assumption) ?_
  rotate_left 1
  ·intro w0 hSw
   (try dsimp only at hSw)
   go_simp
   (try with_reducible rfl)
  try simp only[Act.put,zz1,zz2,zz3]
  refine wpAnyH_ready (rs:=[9]) (by kernel_rfl) (by simp) ?_
  refine AllReadyH.cons (o:=nso9) rfl (fun K hK=>?_) AllReadyH.nil
  unfold nso9
  go_simp
  have HKV:=hZq (Kp.alloc Vdtr (.cells #[.pointer (some ⟨W1.heap.size+1,0,none⟩), .pointer (some ⟨Vd.heap.size,0,none⟩), .slice (some ⟨Vdt.heap.size+1,0,none⟩) n n, .slice (some ⟨V.heap.size,0,none⟩) m m, .int .i64 0, .int .i64 0] 97))
  have HBX:=hZq (CBox.new Vdtr #[.pointer (some ⟨W1.heap.size+1,0,none⟩), .pointer (some ⟨Vd.heap.size,0,none⟩), .slice (some ⟨Vdt.heap.size+1,0,none⟩) n n, .slice (some ⟨V.heap.size,0,none⟩) m m, .int .i64 0, .int .i64 0] 97)
  refine hK.out _ _ ?_ (fun hHeld=>?_)
  ·exact uQ HSS _ ((uQ HKP).trans (uQ HKV) (by simp))
  clear hK K
  try simp only[Act.put,zz1,zz2,zz3]
  refine wpAnyH_take (i:=10) (oi:=⟨some 4,Op.assign (.tmp 18),70,"search.go:38",#[⟨9, .data⟩,⟨4, .chain⟩,⟨0, .phase⟩,⟨1, .phase⟩,⟨2, .phase⟩,⟨3, .phase⟩,⟨4, .phase⟩,⟨5, .phase⟩,⟨6, .phase⟩,⟨7, .phase⟩,⟨8, .phase⟩,⟨9, .phase⟩],none⟩) (v:=?_) rfl (by kernel_rfl) (by kernel_rfl) (by kernel_rfl) (fun _ _ _ h=>h) (Or.inl ⟨by rfl,?_⟩) (by assumption) ?_
  rotate_left 1
  ·intro w0 hSw
   (try dsimp only at hSw)
   go_simp
   (try with_reducible rfl)
  try simp only[Act.put,zz1,zz2,zz3]
  refine wpAnyH_done (by kernel_rfl) ?_ _
  have HFI:=hZq (uQ HFIN _ _ _ _ _ _ _ _ _ _ _ _ _ ((uQ HKP).trans (uQ HKV) (by simp)) ((uQ HX).1.go (uQ HKV)) (uQ HX).2 ((uQ HRS).1.go (uQ HKV)) (uQ HRS).2.2.2 (uQ HRS).2.1 (uQ HRS).2.2.1 ((uQ HDD).1.kp (uQ HKV) (by simp)) (uQ HDD).2 (uQ HKP).size (uQ HBX))
  clear HX HRS HDD HKP HKV HBX HTR HRD HSS HFIN
  go_wp2
  go_ret
  exact uQ HFI
open Go.RowKit Go.Shelf
def nsF (gs gt gd:Nat)(nvs:List Value)(Fc:List Nat):List Nat:=gt::gs::gd::((nvs.flatMap fun u=>u.ownBlock.toList)++Fc)
section
variable {W:World} {sa:Option Addr} {sc:Nat} {l:List SR} {WI:Nat} {ea:Option Addr} {m ec gs gt gx B gd:Nat} {nv0 av nv:Value} {avs nvs rs:List Value} {R:List (List RdC)} {w0:World} {Fc:List Nat}
theorem NsS.nvs_cl (h:NsS W sa sc l WI ea m ec gs gt gx B gd nv0 av nv avs nvs rs R w0){b:Nat}(hb:b∈nvs.flatMap fun u=>u.ownBlock.toList):Cl w0 b [144]/\W.heap.size<=b:=by
 obtain ⟨wx,_,hx⟩:=h.tr
 rw[List.mem_flatMap]at hb
 obtain ⟨u,hu,hb⟩:=hb
 obtain ⟨t,ht⟩:=List.getElem?_of_mem hu
 have hlt:t<(asks l).length:=by rw[<-hx.nl];exact (List.getElem?_eq_some_iff.1 ht).1
 obtain ⟨h1,h2⟩:=hx.ni t u _ ht (List.getElem?_eq_getElem hlt)
 rcases Nat.lt_or_ge 1 ((asks l)[t]).length with h3|h3
 ·rw[h2 h3]at hb
  simp[Value.ownBlock]at hb
 ·obtain ⟨b2,e,h4,h5⟩:=h1 h3
  rw[e]at hb
  simp[Value.ownBlock]at hb
  subst hb
  have:=h.nw.2.2.1
  exact ⟨h4.cl,by omega⟩
theorem NsS.out (h:NsS W sa sc l WI ea m ec gs gt gx B gd nv0 av nv avs nvs rs R w0)(hFc: ∀x∈Fc,x<W.heap.size){b:Nat}{s:List TypeId}(hb:W.heap.size<=b)(hc:Cl w0 b s)(hs: ∀t∈s,t∉[99,97,100,144]):b∉nsF gs gt gd nvs Fc:=fun hm=>by
 unfold nsF at hm
 rw[List.mem_cons,List.mem_cons,List.mem_cons,List.mem_append]at hm
 rcases hm with rfl|rfl|rfl|hm|hm
 ·exact hc.ne (h.tb.cl.wide (s':=[99,97,100,144]) (by simp)) hs rfl
 ·exact hc.ne (h.bx.cl.wide (s':=[99,97,100,144]) (by simp)) hs rfl
 ·exact hc.ne (h.dd.cl.wide (s':=[99,97,100,144]) (by simp)) hs rfl
 ·exact hc.ne ((h.nvs_cl hm).1.wide (s':=[99,97,100,144]) (by simp)) hs rfl
 ·have:=hFc b hm
  omega
theorem qe8 {w:World}{B e sz n:Nat}{v:Value}{xs:List Value}(h:w.ownsRow B e sz v n xs){b:Nat}(hb:v.ownBlock=some b):B<=b:=(World.ownsRow.lt h b hb).1
theorem NsS.hki (h:NsS W sa sc l WI ea m ec gs gt gx B gd nv0 av nv avs nvs rs R w0)(hFc: ∀x∈Fc,x<W.heap.size){wB:World}{es:List Ev}{an:Option Addr}{cn:Nat}(hn0:nv0= .slice an l.length cn)(hkB:Kp [] wB W)(hFB: ∀x∈Fc,wB.heap.size<=x)(hst:StsAt wB sa l)(hev:EvsAt wB ea es)(htb:TbE wB)(hft: ∀r∈l, ∀q∈r.s.cd,q.fit)(hl8:l.length<=8)(hel:es.length<=4096):HkI ⟨wB,w0,nsF gs gt gd nvs Fc,gt,sa,sc,l,(WI:Int),ea,ec,es,an,cn⟩:=by
 obtain ⟨lo,hlo,how⟩:=h.ow
 have hnl:(q00 (stgs l)).length=l.length:=by unfold q00;rw[List.length_map,q03]
 have hWB:=hkB.size
 obtain ⟨ad,cp,e,hnm,hcp⟩:=how.at
 rw[hn0]at e
 injection e with e1 e2 e3
 subst e1 e3
 have hcx:cn<=9223372036854775807:=by
  obtain ⟨_,⟨e,e0⟩|⟨g,cap,cur,e,_,_,_,hcm,_⟩⟩:=id how
  ·rw[hn0]at e
   injection e with _ _ e3
   omega
  ·rw[hn0]at e
   injection e with _ _ e3
   unfold maxLen at hcm
   omega
 refine ⟨hst,hev,htb,hnm,fun b off e hb=>?_,hkB.trans h.kp (by simp),fun x hx=>?_,by unfold nsF;simp,hft,hl8,hel,by rw[<-hnl];exact hcp,hcx⟩
 ·have hob:nv0.ownBlock=some b:=by
   have e':an=some ⟨b,off,none⟩:=e
   rw[hn0,e']
   rfl
  obtain ⟨cs,hc⟩:=q08 how hob
  exact h.out hFc (by have:=qe8 how hob;omega) hc.cl (by decide) hb
 ·unfold nsF at hx
  rw[List.mem_cons,List.mem_cons,List.mem_cons,List.mem_append]at hx
  obtain ⟨n1,n2,n3,n4,n5⟩:=h.nw
  rcases hx with rfl|rfl|rfl|hx|hx
  ·show wB.heap.size<=x;omega
  ·show wB.heap.size<=x;omega
  ·show wB.heap.size<=x;omega
  ·have:=(h.nvs_cl hx).2
   show wB.heap.size<=x;omega
  ·exact hFB x hx
theorem NsS.xki (h:NsS W sa sc l WI ea m ec gs gt gx B gd nv0 av nv avs nvs rs R w0)(hFc: ∀x∈Fc,x<W.heap.size){wB:World}{es:List Ev}(hm:m=es.length){an:Option Addr}{cn:Nat}(hp:(pcR ⟨stgs l,(WI:Int)⟩).2=0)(hI:HkI ⟨wB,w0,nsF gs gt gd nvs Fc,gt,sa,sc,l,(WI:Int),ea,ec,es,an,cn⟩):XkI ⟨⟨wB,w0,nsF gs gt gd nvs Fc,gt,sa,sc,l,(WI:Int),ea,ec,es,an,cn⟩,gx,WI,m * WI,av,nv,nvs⟩:=by
 obtain ⟨wx,hkx,hx⟩:=h.tr
 have hgx:=h.nw.2.2.1
 have hal:avs.length=l.length:=by rw[hx.ai.1,q0U]
 have hnl:nvs.length=l.length:=by rw[hx.nl,q0U]
 have hask: ∀t (ht:t<l.length),(asks l)[t]?=some ((asT (stgs l) t).map Int.ofNat):=fun t ht=>by
  unfold asks
  rw[List.getElem?_map,List.getElem?_eq_getElem ht]
  show some (asZ l l[t].s.cd)=_
  rw[q8L hp ht]
 refine ⟨hI,hp,rfl,by rw[hm],fun w hk=>hx.bx.kp hk (h.out hFc hgx hx.bx.cl (by decide)),fun w hk t ht=>?_,fun w hk t ht=>?_,hx.nd⟩
 ·have ht:t<l.length:=ht
  obtain ⟨v,hv⟩: ∃v,avs[t]?=some v:=⟨_,List.getElem?_eq_getElem (by omega)⟩
  have har:=hx.ar.kp hk (fun b hb=>by
   obtain ⟨cs,hc⟩:=q08 hx.ar hb
   exact h.out hFc (by have:=hx.nw av (by simp) b hb;omega) hc.cl (by decide))
  have hir:=(hx.ai.2 t v _ hv (hask t ht)).kp hk (fun b hb=>by
   obtain ⟨cs,hc⟩:=q08 (hx.ai.2 t v _ hv (hask t ht)) hb
   exact h.out hFc (by have:=hx.nw v (by simp[List.mem_of_getElem? hv]) b hb;omega) hc.cl (by decide))
  obtain ⟨_,⟨e,e0⟩|⟨g,c,cur,e,_⟩⟩:=id har
  ·omega
  ·obtain ⟨a,c2,e2,hat⟩:=hir.at
   refine ⟨g,c,a,c2,by rw[<-hal];exact e,?_,hat⟩
   have hcell:=World.ownsRow.cellAt (by rw[e]at har;exact har) t (by omega)
   rw[hcell,hv,e2,List.length_map]
   rfl
 ·have ht:t<l.length:=ht
  obtain ⟨v,hv⟩: ∃v,nvs[t]?=some v:=⟨_,List.getElem?_eq_getElem (by omega)⟩
  have hnr:=q02 hx.nr hk (fun b hb=>by
   obtain ⟨cs,hc⟩:=q08 hx.nr hb
   exact h.out hFc (by have:=hx.nw nv (by simp) b hb;omega) hc.cl (by decide))
  obtain ⟨h1,h2⟩:=hx.ni t v _ hv (hask t ht)
  rw[List.length_map]at h1 h2
  obtain ⟨_,⟨e,e0⟩|⟨g,c,cur,e,_⟩⟩:=id hnr
  ·omega
  ·refine ⟨g,c,v,by rw[<-hnl];exact e,hv,?_,h2,fun hl=>?_⟩
   ·have hcell:=World.ownsRow.cellAt (by rw[e]at hnr;exact hnr) t (by omega)
    rw[hcell,hv]
   ·obtain ⟨b,e3,_⟩:=h1 hl
    refine ⟨b,e3,?_⟩
    show b∈nsF gs gt gd nvs Fc
    unfold nsF
    simp only[List.mem_cons,List.mem_append,List.mem_flatMap]
    exact Or.inr (Or.inr (Or.inr (Or.inl ⟨v,List.mem_of_getElem? hv,by rw[e3];simp[Value.ownBlock]⟩)))
theorem NsS.sci (h:NsS W sa sc l WI ea m ec gs gt gx B gd nv0 av nv avs nvs rs R w0)(hFc: ∀x∈Fc,x<W.heap.size){wB:World}{es:List Ev}{an:Option Addr}{cn:Nat}(hX:XkI ⟨⟨wB,w0,nsF gs gt gd nvs Fc,gt,sa,sc,l,(WI:Int),ea,ec,es,an,cn⟩,gx,WI,m * WI,av,nv,nvs⟩)(hw1:1<=WI)(J:Bool->List Cp->World->Prop)(hjk: ∀go xs w w' F,J go xs w->Kp F w w'->(∀b∈F,Ow w b)->J go xs w')(hjl: ∀go xs w,J go xs w->xs.length<=100000):ScI ⟨⟨⟨wB,w0,nsF gs gt gd nvs Fc,gt,sa,sc,l,(WI:Int),ea,ec,es,an,cn⟩,gx,WI,m * WI,av,nv,nvs⟩,gs,gd,B,rs,R,J⟩:=by
 obtain ⟨wy,hky,hr⟩:=h.ro
 obtain ⟨wx,hkx,hx⟩:=h.tr
 have hB:=h.nw.2.2.2.1
 refine ⟨hX,fun w hk=>⟨hr.row.kp hk (h.out hFc hB hr.row.cl (by decide)),fun i v r hv hrr=>q02 (hr.ins i v r hv hrr) hk (fun b hb=>?_),fun r hrr y hy=>(hr.az r hrr y hy).kp hk (fun b hb=>?_)⟩,h.rl,hr.len,h.ry,?_,?_,fun b hb=>?_,by rw[hx.nl,q0U],hjk,hjl,hw1⟩
 ·obtain ⟨cs,hc⟩:=q08 (hr.ins i v r hv hrr) hb
  exact h.out hFc (by have:=hr.nw.1 v (List.mem_of_getElem? hv) b hb;omega) hc.cl (by decide)
 ·obtain ⟨cs,hc⟩:=q08 (hr.az r hrr y hy) hb
  exact h.out hFc (by have:=hr.nw.2 r hrr y hy b hb;omega) hc.cl (by decide)
 ·show gs∈nsF gs gt gd nvs Fc
  unfold nsF
  simp
 ·show gd∈nsF gs gt gd nvs Fc
  unfold nsF
  simp
 ·show b∈nsF gs gt gd nvs Fc
  unfold nsF
  simp only[List.mem_cons,List.mem_append]
  exact Or.inr (Or.inr (Or.inr (Or.inl hb)))
theorem NsS.ste (h:NsS W sa sc l WI ea m ec gs gt gx B gd nv0 av nv avs nvs rs R w0){wB:World}{es:List Ev}(hm:m=es.length){an:Option Addr}{cn:Nat}(hn0:nv0= .slice an l.length cn)(J:Bool->List Cp->World->Prop)(hJ:J true [] w0):StE ⟨⟨⟨wB,w0,nsF gs gt gd nvs Fc,gt,sa,sc,l,(WI:Int),ea,ec,es,an,cn⟩,gx,WI,m * WI,av,nv,nvs⟩,gs,gd,B,rs,R,J⟩ true [] 0 0 [] (.slice none 0 0) (.slice none 0 0) [] (List.replicate m none) w0:=by
 obtain ⟨wx,hkx,hx⟩:=h.tr
 have hrep: ∀q b:Nat,(List.replicate m (none:Option Nat))[q]?≠some (some b):=fun q b e=>by
  have:=List.eq_of_mem_replicate (List.mem_of_getElem? e)
  cases this
 refine ⟨?_,⟨?_,PlS.nil _,World.ownsRow_nil _ _ _ _,Kp.refl _ _,by simp[plB,Value.ownBlock]⟩,fun t b hb=>?_,⟨?_,by rw[List.length_replicate,hm],fun q b e=>absurd e (hrep q b),fun i j b e=>absurd e (hrep i b)⟩,by simp,by simp,hJ⟩
 ·unfold srC
  rw[<-hm]
  exact h.bx
 ·have:=h.tb
  unfold ntC at this
  unfold hkC
  rw[hn0,hm]at this
  exact this
 ·have hb:nvs[t]?=some (.slice (some ⟨b,0,none⟩) (m * WI) (m * WI)):=hb
  have hlt:t<l.length:=by rw[<-q0U l, <-hx.nl];exact (List.getElem?_eq_some_iff.1 hb).1
  obtain ⟨h1,h2⟩:=hx.ni t _ _ hb (List.getElem?_eq_getElem (by rw[q0U];exact hlt))
  rcases Nat.lt_or_ge 1 ((asks l)[t]'(by rw[q0U];exact hlt)).length with h3|h3
  ·have:=h2 h3
   cases this
  ·obtain ⟨b2,e,h4,_⟩:=h1 h3
   injection e with e1 _ _
   injection e1 with e1
   injection e1 with e1 _ _
   subst e1
   exact ⟨_,h4,List.length_replicate ..,Mt.NtOk.zero _ _ _ _ _⟩
 ·have e:((List.replicate m (none:Option Nat)).map Value.map).toArray=Array.replicate m (Value.map none):=by
   rw[List.map_replicate]
   simp
  rw[e]
  exact h.dd
end
open Go.RowKit Go.Shelf
theorem q60 (wB W:World)(sa:Option Addr)(sc:Nat)(l:List SR)(WI:Nat)(ea:Option Addr)(ec:Nat)(es:List Ev)(hkB:Kp [] wB W)(hst:StsAt wB sa l)(hev:EvsAt wB ea es)(htb:TbE wB)(hp:(pcR ⟨stgs l,(WI:Int)⟩).2=0)(hok: ∀r∈l,r.s.ok)(hfit: ∀r∈l, ∀q∈r.s.cd,q.fit)(hsc:l.length<=sc)(hW:WI<=256)(hw1:1<=WI)(hel:es.length<=4096)
  (pb eb:Nat) (hpb:CBox pb #[.slice sa l.length sc, .int .i64 (WI:Int)] 24 W) (heb:CBox eb #[.slice ea es.length ec] 25 W) (Fc:List Nat) (hFc: ∀x∈Fc,x<W.heap.size) (hFB: ∀x∈Fc,wB.heap.size<=x)
  (J:Nat->Bool->List Cp->World->Prop) (hjk: ∀n0 go xs w w' F,J n0 go xs w->Kp F w w'->(∀b∈F,Ow w b)->J n0 go xs w') (hjl: ∀n0 go xs w,J n0 go xs w->xs.length<=100000) (hJ0: ∀w0,Kp [] W w0->J w0.heap.size true [] w0)
  (ly:Nat) (hY: ∀n0,W.heap.size<=n0-> ∀(m:Nat) (xs:List Cp) (w:World) (x:Cp),J n0 true xs w->CpAt w x->x.T.length<=8->(∀l∈x.T,l≠[]/\l.length<=4096)->YieldAt Fence.wide m Tryz.prog ly #[x.v] w fun e w'=> ∃F go,e= .returned (.bool go)/\Kp F w w'/\(∀b∈F,Yw w b/\(b∈Fc\/n0<=b))/\J n0 go (xs++[x]) w'):
  Calls Tryz.prog 24 #[.func (.yield ly) #[] #[], .pointer (some ⟨pb,0,none⟩), .pointer (some ⟨eb,0,none⟩)] W fun e w'=>(∃v,e= .returned v)/\ ∃n0 go ys,J n0 go ys w'/\(∀x∈ys,CpAt w' x)/\PrT go ys (Mt.fnd (Mt.pm ⟨stgs l,(WI:Int)⟩ es) WI)/\Kp Fc W w':=by
 have hl1:1<=l.length/\l.length<=8:=by
  have:=q1s hp
  have e:(⟨stgs l,(WI:Int)⟩:Ptn).ss.length=l.length:=q03 l
  have h1:=this.1
  have h2:=this.2.1
  rw[e]at h1 h2
  exact ⟨h1,h2⟩
 have NS:=hZq (q5j sa sc l WI ea es.length ec W (hst.kp hkB) hp (htb.kp hkB (by simp)) hok hfit hsc hW hel)
 have c0:=hpb.cell (i:=0) (v:= .slice sa l.length sc) rfl
 have c1:=hpb.cell (i:=1) (v:= .int .i64 (WI:Int)) rfl
 have d0:=heb.cell (i:=0) (v:= .slice ea es.length ec) rfl
 have HAL:Hid (∀gs gt gx B gd nv0 av nv avs nvs rs R w0,NsS W sa sc l WI ea es.length ec gs gt gx B gd nv0 av nv avs nvs rs R w0->Calls Tryz.prog 26 #[.pointer (some ⟨gs,0,none⟩), .func (.yield ly) #[] #[]] w0 fun e w'=>(∃v,e= .returned v)/\ ∃n0 go ys,J n0 go ys w'/\(∀x∈ys,CpAt w' x)/\PrT go ys (Mt.fnd (Mt.pm ⟨stgs l,(WI:Int)⟩ es) WI)/\Kp Fc W w'):=hZq (fun gs gt gx B gd nv0 av nv avs nvs rs R w0 h=>by
  obtain ⟨lo,_,how⟩:=h.ow
  have hnl:(q00 (stgs l)).length=l.length:=by unfold q00;rw[List.length_map,q03]
  obtain ⟨an,cn,hn0,_,_⟩:=how.at
  rw[hnl]at hn0
  have hI:=h.hki hFc hn0 hkB hFB hst hev htb hfit hl1.2 hel
  have hX:=h.xki hFc rfl hp hI
  have hz:=h.kp.size
  have hS:=h.sci hFc hX hw1 (J w0.heap.size) (hjk _) (hjl _)
  have h0:=h.ste (Fc:=Fc) (wB:=wB) rfl hn0 (J w0.heap.size) (hJ0 w0 h.kp)
  have hyl:Ylds ⟨⟨⟨wB,w0,nsF gs gt gd nvs Fc,gt,sa,sc,l,(WI:Int),ea,ec,es,an,cn⟩,gx,WI,es.length * WI,av,nv,nvs⟩,gs,gd,B,rs,R,J w0.heap.size⟩ ly:=fun m xs w x a1 a2 a3 a4=>by
   obtain ⟨fn,tmps,assign,body,hy,hR⟩:=hY w0.heap.size hz m xs w x a1 a2 a3 a4
   refine ⟨fn,tmps,assign,body,hy,hR.mono ?_⟩
   rintro e w' ⟨F,go,b1,b2,b3,b4⟩
   refine ⟨F,go,b1,b2,fun b hb=>⟨(b3 b hb).1,(b3 b hb).2.imp (fun h=>?_) id⟩,b4⟩
   show b∈nsF gs gt gd nvs Fc
   unfold nsF
   simp[h]
  refine (qbY _ hS ly hyl hl1.1 (by show WI<=_;omega) _ _ _ _ w0 h0 (fun q b e=>by
   have:=List.eq_of_mem_replicate (List.mem_of_getElem? e)
   cases this)).mono ?_
  rintro e w' ⟨hv,go,ys,en,⟨pv,lv,vs,D,hE⟩,_,hpre⟩
  refine ⟨hv,w0.heap.size,go,ys,hE.jj,hE.cp,hpre,?_⟩
  have hk:=hE.hk.kp
  refine (h.kp.mono (by simp)).trans hk (fun b hb=>?_)
  have hb:b∈nsF gs gt gd nvs Fc:=hb
  unfold nsF at hb
  rw[List.mem_cons,List.mem_cons,List.mem_cons,List.mem_append]at hb
  obtain ⟨n1,n2,n3,n4,n5⟩:=h.nw
  rcases hb with rfl|rfl|rfl|hb|hb
  ·exact Or.inr n2
  ·exact Or.inr n1
  ·exact Or.inr n5
  ·exact Or.inr (h.nvs_cl hb).2
  ·exact Or.inl hb)
 clear hkB hst hev htb hp hok hfit hFc hFB hjk hjl hJ0 hY hpb heb
 generalize l.length=n at *
 generalize es.length=m at *
 go_enter Tryz.func24,Tryz.ntmps24
 go_wp2_with fail
 refine (uQ NS).mono ?_
 rintro e w0 ⟨gs,gt,gx,B,gd,nv0,av,nv,avs,nvs,rs,R,rfl,hns⟩
 have HC:=hZq (uQ HAL gs gt gx B gd nv0 av nv avs nvs rs R w0 hns)
 clear NS HAL hns
 go_wp2_with fail
 refine (uQ HC).mono ?_
 rintro e w' ⟨⟨v,rfl⟩,hpost⟩
 clear HC
 go_wp2
 go_end0
 exact ⟨⟨_,rfl⟩,hpost⟩
def nb (c:UInt8):Bool:=(decide ((97:Int)<=(c.toNat:Int)) && decide ((c.toNat:Int)<=122))||(decide ((48:Int)<=(c.toNat:Int)) && decide ((c.toNat:Int)<=57))
def q0q (s:ByteArray):Bool:=decide (1<=s.size) && decide (s.size<=32) && s.data.toList.all nb
def cL {α : Type} (c : α -> α -> Int) : List α -> List α -> Int
  | [], [] => 0
  | [], _ :: _ => -1
  | _ :: _, [] => 1
  | a :: r, b :: s => if c a b = 0 then cL c r s else c a b
def orI (a b : Int) : Int := if a = 0 then b else a
structure Pre {α : Type} (c : α -> α -> Int) : Prop where
  anti : ∀ x y, c y x = - c x y
  trans : ∀ x y z, c x y <= 0 -> c y z <= 0 -> c x z <= 0 /\ (c x z = 0 -> c x y = 0 /\ c y z = 0)
theorem pre_int : Pre Lib.compareInt where
  anti x y := by unfold Lib.compareInt; repeat' split
                 all_goals omega
  trans x y z h1 h2 := by
    unfold Lib.compareInt at *
    repeat' split at h1
    all_goals repeat' split at h2
    all_goals repeat' split
    all_goals omega
theorem q3S (x y : Int) : Lib.compareInt x y = 0 ↔ x = y := by
  unfold Lib.compareInt; repeat' split
  all_goals omega
theorem Pre.or {α : Type} {c d : α -> α -> Int} (hc : Pre c) (hd : Pre d) : Pre fun x y => orI (c x y) (d x y) where
  anti x y := by
    show orI (c y x) (d y x) = - orI (c x y) (d x y)
    unfold orI
    rw [hc.anti x y, hd.anti x y]
    split <;> split <;> omega
  trans x y z h1 h2 := by
    unfold orI at *
    have k1 : c x y <= 0 := by split at h1 <;> omega
    have k2 : c y z <= 0 := by split at h2 <;> omega
    obtain ⟨t1, t2⟩ := hc.trans x y z k1 k2
    by_cases h0 : c x z = 0
    · obtain ⟨e1, e2⟩ := t2 h0
      rw [if_pos e1] at h1
      rw [if_pos e2] at h2
      rw [if_pos h0, if_pos e1, if_pos e2]
      exact hd.trans x y z h1 h2
    · rw [if_neg h0]
      exact ⟨t1, fun h => absurd h h0⟩
theorem Pre.on {α β : Type} {c : β -> β -> Int} (hc : Pre c) (f : α -> β) : Pre fun x y => c (f x) (f y) :=
  ⟨fun x y => hc.anti (f x) (f y), fun x y z => hc.trans (f x) (f y) (f z)⟩
theorem q7g {α : Type} {c : α -> α -> Int} (hc : ∀ x y, c y x = - c x y) : ∀ x y, cL c y x = - cL c x y
  | [], [] => rfl
  | [], _ :: _ => rfl
  | _ :: _, [] => rfl
  | a :: r, b :: s => by
    simp only [cL]
    rw [hc a b, q7g hc r s]
    by_cases h : c a b = 0
    · rw [if_pos h, if_pos (by omega)]
    · rw [if_neg h, if_neg (by omega)]
theorem q5r {α : Type} {c : α -> α -> Int} (hc : Pre c) : ∀ x y z, cL c x y <= 0 -> cL c y z <= 0 -> cL c x z <= 0 /\ (cL c x z = 0 -> cL c x y = 0 /\ cL c y z = 0)
  | [], [], [], _, _ => ⟨by simp [cL], fun _ => ⟨rfl, rfl⟩⟩
  | [], [], _ :: _, _, _ => ⟨by simp [cL], fun h => by simp [cL] at h⟩
  | [], _ :: _, [], _, h => by simp [cL] at h
  | [], _ :: _, _ :: _, _, _ => ⟨by simp [cL], fun h => by simp [cL] at h⟩
  | _ :: _, [], _, h, _ => by simp [cL] at h
  | _ :: _, _ :: _, [], _, h => by simp [cL] at h
  | a :: r, b :: s, d :: t, h1, h2 => by
    simp only [cL] at *
    have k1 : c a b <= 0 := by split at h1 <;> omega
    have k2 : c b d <= 0 := by split at h2 <;> omega
    obtain ⟨t1, t2⟩ := hc.trans a b d k1 k2
    by_cases h0 : c a d = 0
    · obtain ⟨e1, e2⟩ := t2 h0
      rw [if_pos e1] at h1
      rw [if_pos e2] at h2
      rw [if_pos h0, if_pos e1, if_pos e2]
      exact q5r hc r s t h1 h2
    · rw [if_neg h0]
      exact ⟨t1, fun h => absurd h h0⟩
theorem q3H {α : Type} {c : α -> α -> Int} (hc : Pre c) : Pre (cL c) := ⟨q7g hc.anti, q5r hc⟩
theorem q2h {α : Type} {c : α -> α -> Int} (hc : ∀ x y, c x y = 0 ↔ x = y) : ∀ x y, cL c x y = 0 ↔ x = y
  | [], [] => by simp [cL]
  | [], _ :: _ => by simp [cL]
  | _ :: _, [] => by simp [cL]
  | a :: r, b :: s => by
    simp only [cL, List.cons.injEq]
    by_cases h : c a b = 0
    · rw [if_pos h, q2h hc r s]; exact ⟨fun e => ⟨(hc a b).1 h, e⟩, fun e => e.2⟩
    · rw [if_neg h]; exact ⟨fun e => absurd e h, fun e => absurd ((hc a b).2 e.1) h⟩
theorem q0K : ∀ a b : List UInt8, Lib.compareBytes a b = cL (fun x y => Lib.compareInt (x.toNat : Int) (y.toNat : Int)) a b
  | [], [] => rfl
  | [], _ :: _ => rfl
  | _ :: _, [] => rfl
  | x :: r, y :: s => by
    simp only [Lib.compareBytes, cL, q0K r s, Lib.compareInt, UInt8.lt_iff_toNat_lt]
    repeat' split
    all_goals first | rfl | (exfalso; omega)
theorem pre_bytes : Pre Lib.compareBytes := by
  have := q3H (pre_int.on fun x : UInt8 => (x.toNat : Int))
  refine ⟨fun x y => ?_, fun x y z => ?_⟩
  · rw [q0K, q0K]; exact this.anti x y
  · rw [q0K, q0K, q0K]; exact this.trans x y z
theorem q2T (a b : List UInt8) : Lib.compareBytes a b = 0 ↔ a = b := by
  rw [q0K]
  refine q2h (fun x y => ?_) a b
  rw [q3S]
  exact ⟨fun h => UInt8.toNat_inj.1 (by omega), fun h => by rw [h]⟩
end Go.Proofs.YtcmjnlpofebbmaaGreatDoor
