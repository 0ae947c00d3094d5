import Derived.Test.YtllhgcfacgiabaaGreatLawA
import Derived.Test.YtllhgcfacgiabaaGreatP16
namespace Go.Proofs.YtllhgcfacgiabaaGreat
open Go Go.Am Go.RowKit Go.ChangeShapes Go.WideShapes Go.ChangeAt Go.Deep
set_option linter.unusedVariables false
section
variable {H:Type} {enc:TypeId × Value→H} {w:World} {base:Nat} {sp:Nat→Bool} {held:Bool}
theorem all3 {Z0 Z1 Z2:List AV→Prop}:∀ {ps:List (List AV)},All2 (fun (Z:List AV→Prop) p=>Z p) [Z0,Z1,Z2] ps→∃ p0 p1 p2,ps=[p0,p1,p2]∧Z0 p0∧Z1 p1∧Z2 p2
 | [p0,p1,p2],h=>⟨p0,p1,p2,rfl,h.1,h.2.1,h.2.2.1⟩
 | [],h=>h.elim
 | [_],h=>h.2.elim
 | [_,_],h=>h.2.2.elim
 | _::_::_::_::_,h=>h.2.2.2.elim
theorem all2 {Z0 Z1:List AV→Prop}:∀ {ps:List (List AV)},All2 (fun (Z:List AV→Prop) p=>Z p) [Z0,Z1] ps→∃ p0 p1,ps=[p0,p1]∧Z0 p0∧Z1 p1
 | [p0,p1],h=>⟨p0,p1,rfl,h.1,h.2.1⟩
 | [],h=>h.elim
 | [_],h=>h.2.elim
 | _::_::_::_,h=>h.2.2.elim
theorem info_ints:Tryz.prog.underlying 62=some (.slice 2):=by kernel_rfl
theorem cells_i64:Tryz.prog.cellsOf 2=1:=by kernel_rfl
abbrev isInt:List AV→Prop:=fun us=>∃ z:Int,us=[iv z]
abbrev isInts:List AV→Prop:=fun us=>∃ zs:List Int,us=[il zs]∧zs.length≤maxLen
theorem reads_i:Reads enc Tryz.prog w base sp held 2 isInt:=(reads_int info_i64).mono fun us ⟨z,h,_⟩=>⟨z,h⟩
theorem reads_l:Reads enc Tryz.prog w base sp held 62 isInts:=(reads_ints info_ints info_i64 cells_i64).mono fun us ⟨z,h,h2,_⟩=>⟨z,h,h2⟩
theorem info_In:∃ f0 f1 f2:Field,Tryz.prog.underlying 219=some (.struct #[f0,f1,f2])∧f0.type=2∧f1.type=2∧f2.type=62∧offsB Tryz.prog 0 [f0,f1,f2] (Tryz.prog.cellsOf 219)=true :=
 ⟨_,_,_,Tryz.underlying219,rfl,rfl,rfl,by kernel_rfl⟩
theorem reads_In:Reads enc Tryz.prog w base sp held 219 fun us=>∃ x:InD,us=inRow x∧x.2.2.length≤maxLen:=by
 obtain ⟨f0,f1,f2,hu,h0,h1,h2,ho⟩:=info_In
 refine (reads_struct hu [isInt,isInt,isInts] ho ⟨?_,?_,?_,trivial⟩).mono ?_
 · show Reads enc _ w base sp held f0.type isInt; rw [h0]; exact reads_i
 · show Reads enc _ w base sp held f1.type isInt; rw [h1]; exact reads_i
 · show Reads enc _ w base sp held f2.type isInts; rw [h2]; exact reads_l
 rintro us ⟨ps,hp,rfl⟩
 obtain ⟨_,_,_,rfl,⟨a,rfl⟩,⟨b,rfl⟩,⟨c,rfl,hc⟩⟩:=all3 hp
 exact ⟨(a,b,c),rfl,hc⟩
theorem info_Out:∃ f0 f1:Field,Tryz.prog.underlying 221=some (.struct #[f0,f1])∧f0.type=2∧f1.type=62∧offsB Tryz.prog 0 [f0,f1] (Tryz.prog.cellsOf 221)=true :=
 ⟨_,_,Tryz.underlying221,rfl,rfl,by kernel_rfl⟩
theorem reads_Out:Reads enc Tryz.prog w base sp held 221 fun us=>∃ x:OutD,us=outRow x∧x.2.length≤maxLen:=by
 obtain ⟨f0,f1,hu,h0,h1,ho⟩:=info_Out
 refine (reads_struct hu [isInt,isInts] ho ⟨?_,?_,trivial⟩).mono ?_
 · show Reads enc _ w base sp held f0.type isInt; rw [h0]; exact reads_i
 · show Reads enc _ w base sp held f1.type isInts; rw [h1]; exact reads_l
 rintro us ⟨ps,hp,rfl⟩
 obtain ⟨_,_,rfl,⟨a,rfl⟩,⟨c,rfl,hc⟩⟩:=all2 hp
 exact ⟨(a,c),rfl,hc⟩
theorem reads_InS:Reads enc Tryz.prog w base sp held 123 fun us=>∃ xs:List InD,us=[insV xs]∧xs.length≤maxLen∧∀ x∈xs,x.2.2.length≤maxLen :=
 (reads_slice Tryz.underlying123 (by rw [show Tryz.prog.cellsOf 219=3 from by kernel_rfl]; decide) reads_In).mono fun us ⟨rows,h1,h2,h3⟩=>by
   obtain ⟨zs,g1,g2,g3⟩:=rows_of (f:=inRow) h3
   exact ⟨zs,by rw [h1,g1],by omega,g2⟩
theorem reads_OutS:Reads enc Tryz.prog w base sp held 124 fun us=>∃ xs:List OutD,us=[outsV xs]∧xs.length≤maxLen∧∀ x∈xs,x.2.length≤maxLen :=
 (reads_slice Tryz.underlying124 (by rw [show Tryz.prog.cellsOf 221=2 from by kernel_rfl]; decide) reads_Out).mono fun us ⟨rows,h1,h2,h3⟩=>by
   obtain ⟨zs,g1,g2,g3⟩:=rows_of (f:=outRow) h3
   exact ⟨zs,by rw [h1,g1],by omega,g2⟩
theorem info_Tx:∃ f0 f1 f2:Field,Tryz.prog.underlying 126=some (.struct #[f0,f1,f2])∧f0.type=2∧f1.type=123∧f2.type=124∧offsB Tryz.prog 0 [f0,f1,f2] (Tryz.prog.cellsOf 126)=true :=
 ⟨_,_,_,Tryz.underlying126,rfl,rfl,rfl,by kernel_rfl⟩
theorem reads_Tx:Reads enc Tryz.prog w base sp held 126 fun us=>∃ t:TxD,us=txC t∧Mem t:=by
 obtain ⟨f0,f1,f2,hu,h0,h1,h2,ho⟩:=info_Tx
 refine (reads_struct hu [isInt,fun us=>∃ xs:List InD,us=[insV xs]∧xs.length≤maxLen∧∀ x∈xs,x.2.2.length≤maxLen,fun us=>∃ xs:List OutD,us=[outsV xs]∧xs.length≤maxLen∧∀ x∈xs,x.2.length≤maxLen] ho ⟨?_,?_,?_,trivial⟩).mono ?_
 · show Reads enc _ w base sp held f0.type isInt; rw [h0]; exact reads_i
 · show Reads enc _ w base sp held f1.type _; rw [h1]; exact reads_InS
 · show Reads enc _ w base sp held f2.type _; rw [h2]; exact reads_OutS
 rintro us ⟨ps,hp,rfl⟩
 obtain ⟨_,_,_,rfl,⟨a,rfl⟩,⟨b,rfl,hb1,hb2⟩,⟨c,rfl,hc1,hc2⟩⟩:=all3 hp
 exact ⟨(a,b,c),rfl,Nat.le_trans hb1 (by decide),Nat.le_trans hc1 (by decide),fun x hx=>Nat.le_trans (hb2 x hx) (by decide),fun x hx=>Nat.le_trans (hc2 x hx) (by decide)⟩
theorem reads_agg {t:TypeId} {Z:List AV→Prop} (hr:Reads enc Tryz.prog w base sp held t Z) {vs:Array Value} {d:DataW H} {ps:List MemPlace} (h:DataW.Trod enc Tryz.prog w base sp held t (.agg vs) d ps):∃ us,Z us∧VRel w (fun b=>b < w.heap.size) (fun _=>none) (.agg vs) (.agg us):=by
 obtain ⟨fuel,hf⟩:=h
 obtain ⟨us,h1,h2⟩:=hr _ _ _ hf
 refine ⟨us,h1,?_⟩
 have hv:(Value.agg vs)=.agg vs.toList.toArray:=by simp
 rw [hv]
 exact .one (.agg vs.toList us (All2.mono (fun _ _ h=>.rd h) (by simpa [Value.cells] using h2)))
end
end Go.Proofs.YtllhgcfacgiabaaGreat
