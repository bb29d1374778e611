/-
  Walks and plain facts, made small.
-/
import Derived.Test.YtcmjnlpofebbmaaGreatDoorMa08
import Derived.Laws.ResultCell
set_option maxRecDepth 100000
set_option maxHeartbeats 8000000
set_option linter.unusedSimpArgs false
namespace Go.Proofs.YtcmjnlpofebbmaaGreatDoor
open Go.RowKit Go.Shelf
theorem KeepsOthers.ofCells {W W':World}{F:List Nat}(h:Kp F W W')(hF: ∀y∈F, ∃cs t,CBox y cs t W):KeepsOthers W W':=⟨h.size,fun k o hk ho=>by
 refine (h.block k (Array.getElem?_eq_some_iff.1 hk).1 (fun hm=>?_)).trans hk
 obtain ⟨cs,t,hc⟩:=hF k hm
 unfold CBox at hc
 rw[hk]at hc
 cases hc
 cases ho⟩
theorem q4Z (W:World)(news:List Value)(t:TypeId): ∀(j:Nat) (u:Value),news[j]?=some u->(W.alloc (.cells news.toArray t)).cell? ((⟨W.heap.size,0,none⟩:Addr).add j)=some u:=fun j u hj=>by
 have:=(CBox.new W news.toArray t).cell (i:=j) (v:=u) (by simpa using hj)
 rw[show (⟨W.heap.size,0,none⟩:Addr).add j=⟨W.heap.size,j,none⟩ by cases j <;> simp[Addr.add]]
 exact this
theorem q37 (ts:List Ex)(k:Nat):((ts.take k).flatMap Ex.flat).length<=(ts.flatMap Ex.flat).length:=by
 conv=>rhs;rw[<-List.take_append_drop k ts,List.flatMap_append,List.length_append]
 omega
theorem q7S (w:World):(storeCells ⟨w.heap.size,0,none⟩ opsV.toList 0).run Tryz.prog (w.alloc (.cells Tryz.zeroCells235 235))= .ok () (w.alloc (.cells opsV 235)):=
 run_storeCells_new w _ _ opsV q3C (by kernel_rfl) q3F
theorem q3I {P:Program}{fn:Func}{p u:Tmp}{ty ty2:TypeId}(h:fn.results=#[.cell p ty, .cell u ty2])(tmps:Array Value)(w:World)(g:Nat)(t:TypeId)(cs:Array Value)(fr:Nat × Nat)(fs:Array Field)
  (hp:tmps.getD p undef= .pointer (some ⟨g,0,none⟩)) (hg:w.heap[g]?=some (.cells cs t fr))
  (hu:P.underlying ty=some (.struct fs)) (hi:(P.info? ty).map (·.size)=some cs.size)
  (g2:Nat) (v:Value) (hp2:tmps.getD u undef= .pointer (some ⟨g2,0,none⟩)) (h2:(loadVar ty2 ⟨g2,0,none⟩).run P w= .ok v w):
  (results fn tmps).run P w= .ok (.tuple #[.agg cs,v]) w:=by
 have hp':tmps[p]?.getD undef= .pointer (some ⟨g,0,none⟩):=by simpa using hp
 have hp2':tmps[u]?.getD undef= .pointer (some ⟨g2,0,none⟩):=by simpa using hp2
 simp[results,h,hp',hp2',asAddr,run_loadVar_row w g t ty cs fr (.struct fs) hg hu rfl hi,h2,Sem.run_bind,Result.andThen]
theorem q9r {W:World}{g:Nat}{b:Bool}(h:CBox g #[.bool b] 4 W):(loadVar 4 ⟨g,0,none⟩).run Tryz.prog W= .ok (.bool b) W:=by
 have c:=h.cell (i:=0) (v:= .bool b) rfl
 go_simp
theorem CBox.putObj {g D:Nat}{cs:Array Value}{t:TypeId}{W:World}{o o':Obj}(h:CBox g cs t W)(hD:W.heap[D]?=some o)(ho:o.isCells=false):CBox g cs t (W.putObj D o'):=by
 unfold CBox at *
 rw[World.putObj_heap_other (fun e=>by subst e;rw[h]at hD;cases hD;cases ho)]
 exact h
theorem q2s {n:Nat}{fn:Func}{R:Ending->World->Prop}{tmps:Array Value}{W:World}{D b1 b2 n₀:Nat}{ty:TypeId}{cs:Array Value}{b:Bool}{fs:Array Field}{w:World}(h:fn.results=#[.cell 4 ty, .cell 5 4])
  (h4:tmps.getD 4 undef= .pointer (some ⟨b1,0,none⟩)) (h5:tmps.getD 5 undef= .pointer (some ⟨b2,0,none⟩)) (hu:Tryz.prog.underlying ty=some (.struct fs)) (hi:(Tryz.prog.info? ty).map (·.size)=some cs.size)
  (hK:W.heap[D]?=some (.deferred (some []))) (c1:CBox b1 cs ty W) (c2:CBox b2 #[.bool b] 4 W) (hb:Below n₀ w W) (hD:n₀<=D)
  (hR: ∀W',Below n₀ w W'->R (.returned (.tuple #[.agg cs, .bool b])) W'):
  bodyPostM Fence.wide n Tryz.prog fn R .ret { tmps:=tmps,defers:=[{ target:= .collected D,args:=#[] }] } W:=by
 refine ⟨by simp, .inl ⟨_,_,rfl,run_takeDeferred hK,?_⟩⟩
 have k1:=c1.putObj (o':= .deferred none) hK rfl
 have k2:=c2.putObj (o':= .deferred none) hK rfl
 refine ⟨_,q3I h tmps _ b1 ty cs (0,0) fs h4 k1 hu hi b2 (.bool b) h5 (q9r k2),hR _ ?_⟩
 exact hb.trans ⟨rfl,rfl,rfl,by simp,fun k hk=>World.putObj_heap_other (by omega)⟩
end Go.Proofs.YtcmjnlpofebbmaaGreatDoor
