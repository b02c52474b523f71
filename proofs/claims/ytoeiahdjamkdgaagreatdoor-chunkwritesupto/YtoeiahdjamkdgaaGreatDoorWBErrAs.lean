/-
  errors.As at a target of type **api.Fault, walked: an error of errors.New's make is none; a *api.Fault is one, and the target is set to it.
  errors.As at a target of type **api.Fault: its two answers.
  errors.Is at two errors of errors.New's make: whether they are one.
  What the listed variables hold: each error variable a pointer to its text; no two of them the same.
  plain.Code of nil and of each bare error: its number, and no place.
  errors.As and errors.Is at a *api.Fault round an error of errors.New's make; plain.Code of it: the error's number and the place.
  plain.Code of a *api.Fault round one of the eight errors: the error's number, and the place; of a new error: -1, and no place.
  From what the rows list to what the walks use: the eight errors and the handle of the type error.
-/
import Derived.Test.YtoeiahdjamkdgaaGreatDoorRows
import Derived.WalkKit
import Derived.LaidEql
import Derived.Stop.Asserts
import Derived.RowKitTokens
import Derived.Below
import Derived.LaidLaws
import Derived.LaidHandle
import Derived.Stop.LaidErr
set_option maxRecDepth 100000
set_option maxHeartbeats 4000000
namespace Go.Proofs.YtoeiahdjamkdgaaGreatDoor
open Go.RowKit Go.Extern.Stop Go.Stop Go.Extern
theorem Tryz.asValueOf (t:Addr)(w:World):(ReflectliteValue.unpack (.iface 85 (.pointer (some t)))).run Tryz.prog w
    = .ok (.agg #[.pointer (some ⟨9,85,none⟩),.pointer (some ⟨w.heap.size,0,none⟩),.int .u64 150]) (w.alloc (.cells #[.pointer (some t)] 85)):=by kernel_rfl
theorem Tryz.asType (a:Addr)(w:World):(ReflectliteValue.methodAny (ReflectliteValue.valueError "reflectlite.Value.Type" 0) (fun t _ _ _=>ReflectliteType.toType t) #[.agg #[.pointer (some ⟨9,85,none⟩),.pointer (some a),.int .u64 150]]).run Tryz.prog w
    = .ok (.iface 161 (.agg #[.pointer (some ⟨9,85,none⟩)])) w:=by kernel_rfl
theorem Tryz.asMethodKind (h:Value)(w:World):(Go.method 375 161 (.agg #[h]) "Kind").run Tryz.prog w=.ok (204,h) w:=by kernel_rfl
theorem Tryz.asKindPP (w:World):((ReflectliteType.abiMethod fun t=>(fun a:Nat=>Value.int IntKind.u8 (a:Int)) <$> Rtype.kind t) #[.pointer (some ⟨9,85,none⟩)]).run Tryz.prog w=.ok (.int .u8 22) w:=by kernel_rfl
theorem Tryz.asKindP (w:World):((ReflectliteType.abiMethod fun t=>(fun a:Nat=>Value.int IntKind.u8 (a:Int)) <$> Rtype.kind t) #[.pointer (some ⟨9,83,none⟩)]).run Tryz.prog w=.ok (.int .u8 22) w:=by kernel_rfl
theorem asMethod (P:Program)(W:World)(z:Sem Value)(f:TypeId->Addr->Nat->Nat->Sem Value)(v:Value)(t:TypeId)(a:Addr)(fl:Nat)(h:(ReflectliteValue.parts v).run P W=.ok (some (t,a,fl)) W) :
    (ReflectliteValue.method z f #[v]).run P W=(f t a fl (fl % 32)).run P W:=by
 refine (congrArg (fun s=>Sem.run P s W) (show ReflectliteValue.method z f #[v]=(ReflectliteValue.parts v >>= _) from rfl)).trans ?_
 simp only[Sem.run_bind,h,Result.andThen]
theorem Tryz.asPartsPP (a:Addr)(w:World):(ReflectliteValue.parts (.agg #[.pointer (some ⟨9,85,none⟩),.pointer (some a),.int .u64 150])).run Tryz.prog w=.ok (some (85,a,150)) w:=by kernel_rfl
theorem Tryz.asIsNil (a p:Addr)(W:World)(ha:W.cell? a=some (.pointer (some p))) :
    (ReflectliteValue.method (ReflectliteValue.valueError "reflectlite.Value.IsNil" 0) ReflectliteValue.isNil #[.agg #[.pointer (some ⟨9,85,none⟩),.pointer (some a),.int .u64 150]]).run Tryz.prog W=.ok (.bool false) W:=by
 rw[asMethod _ _ _ _ _ _ _ _ (Tryz.asPartsPP a W)]
 simp[ReflectliteValue.isNil,loadVar,isAgg,underlying,Tryz.underlying85,ha,Result.andThen]
theorem Tryz.asMethodElem (h:Value)(w:World):(Go.method 375 161 (.agg #[h]) "Elem").run Tryz.prog w=.ok (217,.agg #[h]) w:=by kernel_rfl
theorem Tryz.asMethodImplements (h:Value)(w:World):(Go.method 375 161 (.agg #[h]) "Implements").run Tryz.prog w=.ok (218,.agg #[h]) w:=by kernel_rfl
theorem Tryz.asMethodAssignable (h:Value)(w:World):(Go.method 375 161 (.agg #[h]) "AssignableTo").run Tryz.prog w=.ok (215,.agg #[h]) w:=by kernel_rfl
theorem Tryz.asElem (w:World):(ReflectliteType.method ReflectliteType.elem #[.agg #[.pointer (some ⟨9,85,none⟩)]]).run Tryz.prog w=.ok (.iface 161 (.agg #[.pointer (some ⟨9,83,none⟩)])) w:=by kernel_rfl
theorem Tryz.asImplements (w:World):(ReflectliteType.relation "Implements" ReflectliteType.implements_ #[.agg #[.pointer (some ⟨9,83,none⟩)],.iface 161 (.agg #[.pointer (some ⟨9,36,none⟩)])]).run Tryz.prog w=.ok (.bool true) w:=by kernel_rfl
theorem Tryz.asTypeOfP (v:Value)(w:World):(ReflectliteType.typeOf #[.iface 83 v]).run Tryz.prog w=.ok (.iface 161 (.agg #[.pointer (some ⟨9,83,none⟩)])) w:=by kernel_rfl
theorem Tryz.asTypeOfE (v:Value)(w:World):(ReflectliteType.typeOf #[.iface 244 v]).run Tryz.prog w=.ok (.iface 161 (.agg #[.pointer (some ⟨9,244,none⟩)])) w:=by kernel_rfl
theorem Tryz.asAssignableP (w:World):(ReflectliteType.relation "AssignableTo" ReflectliteType.assignableTo #[.agg #[.pointer (some ⟨9,83,none⟩)],.iface 161 (.agg #[.pointer (some ⟨9,83,none⟩)])]).run Tryz.prog w=.ok (.bool true) w:=by kernel_rfl
theorem Tryz.asAssignableE (w:World):(ReflectliteType.relation "AssignableTo" ReflectliteType.assignableTo #[.agg #[.pointer (some ⟨9,244,none⟩)],.iface 161 (.agg #[.pointer (some ⟨9,83,none⟩)])]).run Tryz.prog w=.ok (.bool false) w:=by kernel_rfl
theorem Tryz.asValueOfP (e:Addr)(w:World):(ReflectliteValue.unpack (.iface 83 (.pointer (some e)))).run Tryz.prog w
    = .ok (.agg #[.pointer (some ⟨9,83,none⟩),.pointer (some ⟨w.heap.size,0,none⟩),.int .u64 150]) (w.alloc (.cells #[.pointer (some e)] 83)):=by kernel_rfl
theorem Tryz.asElemOf (w:World):(Rtype.elem? 85).run Tryz.prog w=.ok (some 83) w:=by kernel_rfl
theorem Tryz.asMk (p:Addr)(w:World):(ReflectliteValue.mk 83 p ReflectliteValue.flagAddr).run Tryz.prog w=.ok (.agg #[.pointer (some ⟨9,83,none⟩),.pointer (some p),.int .u64 406]) w:=by kernel_rfl
theorem Tryz.asElemV (a p:Addr)(W:World)(ha:W.cell? a=some (.pointer (some p))) :
    (ReflectliteValue.method (ReflectliteValue.valueError "reflectlite.Value.Elem" 0) ReflectliteValue.elem #[.agg #[.pointer (some ⟨9,85,none⟩),.pointer (some a),.int .u64 150]]).run Tryz.prog W
     = .ok (.agg #[.pointer (some ⟨9,83,none⟩),.pointer (some p),.int .u64 406]) W:=by
 rw[asMethod _ _ _ _ _ _ _ _ (Tryz.asPartsPP a W)]
 simp[ReflectliteValue.elem,loadVar,isAgg,underlying,Tryz.underlying85,ha,Result.andThen,Tryz.asElemOf,Tryz.asMk]
theorem Tryz.asPartsA (a:Addr)(w:World):(ReflectliteValue.parts (.agg #[.pointer (some ⟨9,83,none⟩),.pointer (some a),.int .u64 406])).run Tryz.prog w=.ok (some (83,a,406)) w:=by kernel_rfl
theorem Tryz.asParts (a:Addr)(w:World):(ReflectliteValue.parts (.agg #[.pointer (some ⟨9,83,none⟩),.pointer (some a),.int .u64 150])).run Tryz.prog w=.ok (some (83,a,150)) w:=by kernel_rfl
theorem Tryz.asDirect (w:World):(Rtype.directlyAssignable 83 83).run Tryz.prog w=.ok true w:=by kernel_rfl
theorem Tryz.asSet (ta b e:Addr)(old:Value)(W:World)(hb:W.cell? b=some (.pointer (some e)))(ht:W.cell? ta=some old)(hf:W.frozen? ta=false) :
    (ReflectliteValue.set #[.agg #[.pointer (some ⟨9,83,none⟩),.pointer (some ta),.int .u64 406],.agg #[.pointer (some ⟨9,83,none⟩),.pointer (some b),.int .u64 150]]).run Tryz.prog W
     = .ok (.tuple #[]) (W.setCell ta (.pointer (some e))):=by
 refine (congrArg (fun s=>Sem.run Tryz.prog s W) (show ReflectliteValue.set #[.agg #[.pointer (some ⟨9,83,none⟩),.pointer (some ta),.int .u64 406],.agg #[.pointer (some ⟨9,83,none⟩),.pointer (some b),.int .u64 150]]=(ReflectliteValue.parts (.agg #[.pointer (some ⟨9,83,none⟩),.pointer (some ta),.int .u64 406]) >>= fun p=>ReflectliteValue.parts (.agg #[.pointer (some ⟨9,83,none⟩),.pointer (some b),.int .u64 150]) >>= _) from rfl)).trans ?_
 simp only[Sem.run_bind,Tryz.asPartsA,Tryz.asParts,Result.andThen]
 simp[ReflectliteValue.flagAddr,loadVar,isAgg,underlying,Tryz.underlying83,hb,Result.andThen,Tryz.asDirect,storeVar,Value.cells,storeCells,Addr.add]
 rw[run_store Tryz.prog W ta _ _ (by rfl)]
 simp[ht,hf]
abbrev handleV:Value:=.iface 161 (.agg #[.pointer (some ⟨9,36,none⟩)])
theorem Tryz.asNoAs (v:Value)(xT:TypeId)(w:World):(Instr.typeAssert (.iface 244 v) xT 165 true).run Tryz.prog w=.ok (.tuple #[.nilIface,.bool false]) w:=run_typeAssert_lacksB Tryz.underlying165 (by kernel_rfl) (by kernel_rfl) v xT w
theorem Tryz.asNoUnwrap (v:Value)(xT:TypeId)(w:World):(Instr.typeAssert (.iface 244 v) xT 168 true).run Tryz.prog w=.ok (.tuple #[.nilIface,.bool false]) w:=run_typeAssert_lacksB Tryz.underlying168 (by kernel_rfl) (by kernel_rfl) v xT w
theorem Tryz.asNoUnwraps (v:Value)(xT:TypeId)(w:World):(Instr.typeAssert (.iface 244 v) xT 170 true).run Tryz.prog w=.ok (.tuple #[.nilIface,.bool false]) w:=run_typeAssert_lacksB Tryz.underlying170 (by kernel_rfl) (by kernel_rfl) v xT w
theorem as_miss (e t:Addr)(w:World)(hg:w.cell? ⟨8,0,none⟩=some handleV) :
    Calls Tryz.prog 38 #[.iface 244 (.pointer (some e)),.iface 85 (.pointer (some t))] w fun ev w'=>ev=.returned (.bool false)/\Below w.heap.size w w':=by
 have x1:=@run_callFunc_extern Tryz.prog 68 _ (fun args=>ReflectliteValue.unpack (args.getD 0 (.tuple #[]))) Tryz.func68 (by kernel_rfl) (by kernel_rfl) (by kernel_rfl) (by kernel_rfl)
 have x2:=@run_callFunc_extern Tryz.prog 69 _ (ReflectliteValue.methodAny (ReflectliteValue.valueError "reflectlite.Value.Type" 0) (fun t _ _ _=>ReflectliteType.toType t)) Tryz.func69 (by kernel_rfl) (by kernel_rfl) (by kernel_rfl) (by kernel_rfl)
 have x3:=@run_callFunc_extern Tryz.prog 70 _ (ReflectliteValue.method (ReflectliteValue.valueError "reflectlite.Value.IsNil" 0) ReflectliteValue.isNil) Tryz.func70 (by kernel_rfl) (by kernel_rfl) (by kernel_rfl) (by kernel_rfl)
 have x4:=@run_callFunc_extern Tryz.prog 204 _ (ReflectliteType.abiMethod fun t=>do pure (.int .u8 (← Rtype.kind t))) Tryz.func204 (by kernel_rfl) (by kernel_rfl) (by kernel_rfl) (by kernel_rfl)
 have x5:=@run_callFunc_extern Tryz.prog 217 _ (ReflectliteType.method ReflectliteType.elem) Tryz.func217 (by kernel_rfl) (by kernel_rfl) (by kernel_rfl) (by kernel_rfl)
 have x6:=@run_callFunc_extern Tryz.prog 218 _ (ReflectliteType.relation "Implements" ReflectliteType.implements_) Tryz.func218 (by kernel_rfl) (by kernel_rfl) (by kernel_rfl) (by kernel_rfl)
 have x7:=@run_callFunc_extern Tryz.prog 72 _ ReflectliteType.typeOf Tryz.func72 (by kernel_rfl) (by kernel_rfl) (by kernel_rfl) (by kernel_rfl)
 have x8:=@run_callFunc_extern Tryz.prog 215 _ (ReflectliteType.relation "AssignableTo" ReflectliteType.assignableTo) Tryz.func215 (by kernel_rfl) (by kernel_rfl) (by kernel_rfl) (by kernel_rfl)
 have y1:=Tryz.asTypeOfE
 have y2:=Tryz.asMethodAssignable
 have y3:=Tryz.asAssignableE
 have y4:=Tryz.asValueOf
 have y5:=Tryz.asType
 have y6:=Tryz.asMethodKind
 have y7:=Tryz.asMethodElem
 have y8:=Tryz.asMethodImplements
 have y9:=Tryz.asKindPP
 have z1:=Tryz.asKindP
 have z2:=Tryz.asElem
 have z3:=Tryz.asImplements
 have z4:=Tryz.asNoAs
 have z5:=Tryz.asNoUnwrap
 have z6:=Tryz.asNoUnwraps
 have n8:=Tryz.asIsNil ⟨w.heap.size,0,none⟩ t ((w.alloc (.cells #[.pointer (some t)] 85)).alloc (.cells #[.pointer (some ⟨9,85,none⟩),.pointer (some ⟨w.heap.size,0,none⟩),.int .u64 150] 124)) (by simp)
 have hlt:8<w.heap.size:=World.block_lt_of_cell? w _ hg
 have hg2:((w.alloc (.cells #[.pointer (some t)] 85)).alloc (.cells #[.pointer (some ⟨9,85,none⟩),.pointer (some ⟨w.heap.size,0,none⟩),.int .u64 150] 124)).cell? ⟨8,0,none⟩=some handleV:=by
  rw[World.cell?_alloc_lt _ _ ⟨8,0,none⟩ (by simp;omega),World.cell?_alloc_lt _ _ ⟨8,0,none⟩ hlt];exact hg
 go_enter Tryz.func38,Tryz.ntmps38
 go_wp2
 refine wp_loop_rounds 1 ?_
 rw[rounds_succ]
 go_wp2
 go_ret
 exact⟨rfl,(((Below.refl _ _).alloc (Nat.le_refl _) _).alloc (by simp) _).alloc (by simp;omega) _⟩
theorem Tryz.isComparable (w:World):((Extern.ReflectliteType.method fun t=>do Rtype.noPackHeld "Comparable" t;(fun a=>Value.bool a.comparable) <$> typeInfo t) #[.agg #[.pointer (some ⟨9,244,none⟩)]]).run Tryz.prog w=.ok (.bool true) w:=by kernel_rfl
theorem Tryz.isMethodComparable (v:Value)(w:World):(Go.method 375 161 v "Comparable").run Tryz.prog w=.ok (216,v) w:=by kernel_rfl
theorem Tryz.isComp:(Tryz.prog.info? 244).map (·.comparable)=some true:=by kernel_rfl
theorem Tryz.isSize:(Tryz.prog.info? 263).map (·.size)=some 1:=by kernel_rfl
theorem Tryz.noIsE (v:Value)(xT:TypeId)(w:World):(Instr.typeAssert (.iface 244 v) xT 172 true).run Tryz.prog w=.ok (.tuple #[.nilIface,.bool false]) w:=run_typeAssert_lacksB Tryz.underlying172 (by kernel_rfl) (by kernel_rfl) v xT w
theorem is_same (a:Addr)(w:World) :
    Calls Tryz.prog 39 #[.iface 244 (.pointer (some a)),.iface 244 (.pointer (some a))] w fun e w'=>e=.returned (.bool true)/\w'=w:=by
 obtain⟨i,hi,hcmp⟩:=Option.map_eq_some_iff.1 Tryz.isComp
 obtain⟨j,hj,hjs⟩:=Option.map_eq_some_iff.1 Tryz.isSize
 have x7:=@run_callFunc_extern Tryz.prog 72 _ ReflectliteType.typeOf Tryz.func72 (by kernel_rfl) (by kernel_rfl) (by kernel_rfl) (by kernel_rfl)
 have x8:=@run_callFunc_extern Tryz.prog 216 _ (Extern.ReflectliteType.method fun t=>do Rtype.noPackHeld "Comparable" t;pure (.bool (← typeInfo t).comparable)) Tryz.func216 (by kernel_rfl) (by kernel_rfl) (by kernel_rfl) (by kernel_rfl)
 have y1:=Tryz.asTypeOfE
 have y2:=Tryz.isComparable
 have y3:=Tryz.isMethodComparable
 have heq:=run_eql_iface_ptr_same (P:=Tryz.prog) w a Tryz.underlying36 Tryz.underlying244 hi hcmp hj
 go_enter Tryz.func39,Tryz.ntmps39
 go_wp2
 refine wp_loop_rounds 1 ?_
 rw[rounds_succ]
 go_wp2
 go_ret
 exact⟨rfl,rfl⟩
theorem is_other (a b:Addr)(ca cb:Array Value)(ta tb:TypeId)(w:World)(hne:a≠b)(ha:w.heap[a.block]? = some (.cells ca ta (0,0)))(hb:w.heap[b.block]? = some (.cells cb tb (0,0))) :
    Calls Tryz.prog 39 #[.iface 244 (.pointer (some a)),.iface 244 (.pointer (some b))] w fun e w'=>e=.returned (.bool false)/\w'=w:=by
 obtain⟨i,hi,hcmp⟩:=Option.map_eq_some_iff.1 Tryz.isComp
 obtain⟨j,hj,hjs⟩:=Option.map_eq_some_iff.1 Tryz.isSize
 have x7:=@run_callFunc_extern Tryz.prog 72 _ ReflectliteType.typeOf Tryz.func72 (by kernel_rfl) (by kernel_rfl) (by kernel_rfl) (by kernel_rfl)
 have x8:=@run_callFunc_extern Tryz.prog 216 _ (Extern.ReflectliteType.method fun t=>do Rtype.noPackHeld "Comparable" t;pure (.bool (← typeInfo t).comparable)) Tryz.func216 (by kernel_rfl) (by kernel_rfl) (by kernel_rfl) (by kernel_rfl)
 have y1:=Tryz.asTypeOfE
 have y2:=Tryz.isComparable
 have y3:=Tryz.isMethodComparable
 have z4:=Tryz.noIsE
 have z5:=Tryz.asNoUnwrap
 have z6:=Tryz.asNoUnwraps
 have heq:=run_eql_iface_ptr_other (P:=Tryz.prog) w Tryz.underlying36 Tryz.underlying244 hi hcmp hj (by rw[hjs];decide) hne ha hb
 go_enter Tryz.func39,Tryz.ntmps39
 go_wp2
 refine wp_loop_rounds 1 ?_
 rw[rounds_succ]
 go_wp2
 go_ret
 exact⟨rfl,rfl⟩
end Go.Proofs.YtoeiahdjamkdgaaGreatDoor
namespace Go.Proofs.YtoeiahdjamkdgaaGreatDoor
open Go.RowKit
theorem Tryz.star : "*errors.errorString" = "*" ++ "errors.errorString":=by decide
theorem Tryz.rowErr (u:TypeId)(h:Tryz.prog.typeName? 3 u=some "*errors.errorString"):u=244 :=
 typeName_ptr_named (nm := "errors.errorString") (by rw[←Tryz.star];kernel_rfl) (by kernel_rfl) (by decide) u (by rw[←Tryz.star];exact h)
theorem Tryz.cellsErr:Tryz.prog.cellsOf 263=1:=by kernel_rfl
theorem Tryz.cellsStr:Tryz.prog.cellsOf 9=1:=by kernel_rfl
abbrev sentD (text:List UInt8):DataW Unit:=.iface "*errors.errorString" (.ptr (.agg [.lit (.string text)]))
structure Sent (W:World) (g:Nat) (text:List UInt8) (a:Addr):Prop where
 var:W.cell? ⟨g,0,none⟩=some (.iface 244 (.pointer (some a)))
 str:∃s:ByteArray,W.cell? a=some (.string s)/\s.data.toList=text
 row:∃c t,W.heap[a.block]? = some (.cells c t (0,0))
theorem sent_of {n:String}{g:Nat}{text:List UInt8}{W:World}(hg:Tryz.prog.globalNamed n=some g)(ht:(Tryz.prog.globals[g]?).map (·.type)=some 36) :
    ∀(l:List (String × DataW Unit)),(n,sentD text)∈l->laidMet Tryz.prog l W->∃a,Sent W g text a
 | [],hm,_=>absurd hm (by simp)
 | (n1,d1) :: r,hm,h=>by
  obtain⟨ps,⟨g0,t0,cs0,f0,p0,q0,hg0,ht0,hv0,hd0,hr,e0⟩,hnd,hrows⟩:=h
  subst e0
  by_cases hx:(n,sentD text)=(n1,d1)
  · obtain⟨rfl,rfl⟩:=Prod.mk.inj hx
    obtain rfl:=Option.some.inj (hg.symm.trans hg0)
    obtain rfl:=Option.some.inj (ht.symm.trans ht0)
    obtain⟨l0⟩:=cs0
    have ok0:∀u v,l0=[.iface u v]->Value.okWide Tryz.prog W .any 0 u v:=fun u v e=>by
     subst e
     exact (hrows g 0 (by simp[MemPlace.row])).2 u v (by simpa using World.var?_cell hg0 hv0 0)
    obtain⟨a0,s0,rfl,hc0,hs0,hz0,rfl⟩:=errorString_of_trod Tryz.underlying36 Tryz.rowErr Tryz.underlying244 Tryz.underlying263 rfl rfl Tryz.underlying9 Tryz.cellsErr Tryz.cellsStr hd0 ok0
    exact⟨a0,by simpa using World.var?_cell hg0 hv0 0,⟨s0,hc0,hs0⟩,(hrows a0.block a0.off (by simp[MemPlace.row])).1⟩
  · have hm' : (n, sentD text) ∈ r := by
      rcases List.mem_cons.1 hm with h|h
      · exact absurd h hx
      · exact h
    exact sent_of hg ht r hm' ⟨q0,hr,(List.nodup_append.1 hnd).2.1,fun b off hb=>hrows b off (List.mem_append_right _ hb)⟩
theorem Sent.ne {W:World}{g1 g2:Nat}{t1 t2:List UInt8}{a1 a2:Addr}(h1:Sent W g1 t1 a1)(h2:Sent W g2 t2 a2)(hne:t1≠t2):a1≠a2:=by
 rintro rfl
 obtain⟨s1,e1,d1⟩:=h1.str
 obtain⟨s2,e2,d2⟩:=h2.str
 rw[e1] at e2
 cases e2
 exact hne (d1.symm.trans d2)
theorem Sent.keep {W W':World}{g:Nat}{t:List UInt8}{a:Addr}(h:Sent W g t a)(hb:Below W.heap.size W W'):Sent W' g t a:=by
 obtain⟨s,e,d⟩:=h.str
 obtain⟨c,ty,hr⟩:=h.row
 have hl:=World.block_lt_of_cell? W a e
 exact⟨(hb.cell (World.block_lt_of_cell? W _ h.var)).trans h.var,⟨s,(hb.cell hl).trans e,d⟩,⟨c,ty,(hb.block _ hl).trans hr⟩⟩
end Go.Proofs.YtoeiahdjamkdgaaGreatDoor
namespace Go.Proofs.YtoeiahdjamkdgaaGreatDoor
open Go.RowKit Go.Extern.Stop Go.Stop Go.Extern
def errG:Nat->Nat
 | 0=>2|1=>1|2=>0|3=>3|4=>4|5=>5|6=>6|_=>7
def errT:Nat->List UInt8
 | 0=>[115,104,114,101,100,99,111,108,58,32,116,101,120,116]
 | 1=>[115,104,114,101,100,99,111,108,58,32,98,111,117,110,100]
 | 2=>[115,104,114,101,100,99,111,108,58,32,115,104,97,112,101]
 | 3=>[115,104,114,101,100,99,111,108,58,32,107,105,110,100]
 | 4=>[115,104,114,101,100,99,111,108,58,32,110,97,109,101]
 | 5=>[115,104,114,101,100,99,111,108,58,32,110,111,110,101]
 | 6=>[115,104,114,101,100,99,111,108,58,32,115,117,109]
 | _=>[115,104,114,101,100,99,111,108,58,32,115,112,97,99,101]
theorem errT_ne:∀i j:Fin 8,i≠j->errT i≠errT j:=by decide
abbrev errV (a:Addr):Value:=.iface 244 (.pointer (some a))
structure Errs (W:World) (A:Nat->Addr):Prop where
 at_:∀i,i<8->Sent W (errG i) (errT i) (A i)
 handle:W.cell? ⟨8,0,none⟩=some handleV
theorem Errs.keep {W W':World}{A:Nat->Addr}(h:Errs W A)(hb:Below W.heap.size W W'):Errs W' A :=
 ⟨fun i hi=>(h.at_ i hi).keep hb,(hb.cell (World.block_lt_of_cell? W _ h.handle)).trans h.handle⟩
theorem Errs.ne {W:World}{A:Nat->Addr}(h:Errs W A){i j:Nat}(hi:i<8)(hj:j<8)(hne:i≠j):A i≠A j :=
 (h.at_ i hi).ne (h.at_ j hj) (errT_ne ⟨i,hi⟩ ⟨j,hj⟩ (fun e=>hne (Fin.mk.inj e)))
theorem is_errs {W:World}{A:Nat->Addr}(h:Errs W A){i j:Nat}(hi:i<8)(hj:j<8)(hne:i≠j) :
    Calls Tryz.prog 39 #[errV (A i),errV (A j)] W fun e w'=>e=.returned (.bool false)/\w'=W:=by
 obtain⟨c1,t1,r1⟩:=(h.at_ i hi).row
 obtain⟨c2,t2,r2⟩:=(h.at_ j hj).row
 exact is_other (A i) (A j) c1 c2 t1 t2 W (h.ne hi hj hne) r1 r2
def eightV (A:Nat->Addr):Array Value:=#[errV (A 0),errV (A 1),errV (A 2),errV (A 3),errV (A 4),errV (A 5),errV (A 6),errV (A 7)]
theorem eight_at (A:Nat->Addr)(k:Nat)(hk:k<8):(eightV A)[k]? = some (errV (A k)):=by
 have h:k=0\/k=1\/k=2\/k=3\/k=4\/k=5\/k=6\/k=7:=by omega
 rcases h with rfl|rfl|rfl|rfl|rfl|rfl|rfl|rfl<;>rfl
structure Eight (w:World) (A:Nat->Addr) (g:Nat) (wr:World):Prop where
 errs:Errs wr A
 cell:∀k,k<8->wr.cell? ⟨g,k,none⟩=some (errV (A k))
 old:Below w.heap.size w wr
theorem Eight.start {w w1:World}{A:Nat->Addr}(hb:Below w.heap.size w w1)(h:Errs w1 A):Eight w A w1.heap.size (w1.alloc (.cells (eightV A) 36)):=by
 have hb3:Below w1.heap.size w1 (w1.alloc (.cells (eightV A) 36)):=(Below.refl _ _).alloc (Nat.le_refl _) _
 refine⟨h.keep hb3,fun k hk=>?_,hb.trans (hb3.mono hb.size)⟩
 rw[cell_of_row _ w1.heap.size k (eightV A) 36 (0,0) (heap_alloc_new w1 _)]
 exact eight_at A k hk
theorem code_sent (w:World)(A:Nat->Addr)(h:Errs w A)(i:Nat)(hi:i<8) :
    Calls Tryz.prog 25 #[errV (A i)] w fun e w'=>e=.returned (.tuple #[.int .i64 ((i:Int)+1),.int .i64 (-1)])/\Below w.heap.size w w':=by
 have hb0:Below w.heap.size w (w.alloc (.cells #[.pointer none] 83)):=(Below.refl _ _).alloc (Nat.le_refl _) _
 have h1:=h.keep hb0
 have HA:Hid (Errs w A):=h
 clear h
 go_enter Tryz.func25,Tryz.ntmps25
 go_wp2_with fail
 refine (as_miss _ _ _ h1.handle).mono ?_
 rintro e w1 ⟨rfl,hb1⟩
 have hb2:Below w.heap.size w w1:=hb0.trans (hb1.mono hb0.size)
 have h2:=HA.out.keep hb2
 have g0:=(h2.at_ 0 (by omega)).var
 have g1:=(h2.at_ 1 (by omega)).var
 have g2:=(h2.at_ 2 (by omega)).var
 have g3:=(h2.at_ 3 (by omega)).var
 have g4:=(h2.at_ 4 (by omega)).var
 have g5:=(h2.at_ 5 (by omega)).var
 have g6:=(h2.at_ 6 (by omega)).var
 have g7:=(h2.at_ 7 (by omega)).var
 simp only[errG] at g0 g1 g2 g3 g4 g5 g6 g7
 clear h1 hb0 hb1
 go_wp2_with fail
 clear g0 g1 g2 g3 g4 g5 g6 g7
 have HS:Hid (Eight w A w1.heap.size (w1.alloc (.cells (eightV A) 36))):=Eight.start hb2 h2
 clear h2 hb2
 go_loopw [3,26] (fun y x wr=>∃k:Nat,k<=i/\y=.int .i64 (-1)/\x=.int .i64 k/\Hid (Eight w A w1.heap.size wr)) (fun _ x _=>8-(intOf x).toNat)
 case atStart=>exact⟨0,Nat.zero_le _,rfl,rfl,HS⟩
 case round =>
  obtain⟨k,hk,rfl,rfl,HE⟩:=hrel
  have hck:=HE.out.cell k (by omega)
  by_cases hki:k=i
  · subst hki
    go_wp2_with (go_at_call 39;refine (is_same _ _).mono ?_;rintro e w' ⟨rfl,rfl⟩)
    go_ret2
    exact⟨rfl,HE.out.old⟩
  · go_wp2_with (go_at_call 39;refine (is_errs HE.out.errs hi (by omega) (fun e=>hki e.symm)).mono ?_;rintro e w' ⟨rfl,hw'⟩;subst hw')
    go_roundw
    case rel=>exact⟨k+1,by omega,rfl,by go_num,HE⟩
    case measure=>simp[intOf];omega
theorem Tryz.noIsF (v:Value)(xT:TypeId)(w:World):(Instr.typeAssert (.iface 83 v) xT 172 true).run Tryz.prog w=.ok (.tuple #[.nilIface,.bool false]) w:=run_typeAssert_lacksB Tryz.underlying172 (by kernel_rfl) (by kernel_rfl) v xT w
theorem Tryz.hasUnwrapF (v:Value)(xT:TypeId)(w:World):(Instr.typeAssert (.iface 83 v) xT 168 true).run Tryz.prog w=.ok (.tuple #[.iface 83 v,.bool true]) w:=run_typeAssert_hasB Tryz.underlying168 (by kernel_rfl) v xT w
theorem Tryz.methodUnwrapF (v:Value)(w:World):(Go.method 375 83 v "Unwrap").run Tryz.prog w=.ok (210,v) w:=by kernel_rfl
theorem as_hit (e t:Addr)(old:Value)(w:World)(hg:w.cell? ⟨8,0,none⟩=some handleV)(ht0:w.cell? t=some old)(hf0:w.frozen? t=false) :
    Calls Tryz.prog 38 #[.iface 83 (.pointer (some e)),.iface 85 (.pointer (some t))] w fun ev w'=>ev=.returned (.bool true)/\∃w1,Below w.heap.size w w1/\w'=w1.setCell t (.pointer (some e)):=by
 have x1:=@run_callFunc_extern Tryz.prog 68 _ (fun args=>ReflectliteValue.unpack (args.getD 0 (.tuple #[]))) Tryz.func68 (by kernel_rfl) (by kernel_rfl) (by kernel_rfl) (by kernel_rfl)
 have x2:=@run_callFunc_extern Tryz.prog 69 _ (ReflectliteValue.methodAny (ReflectliteValue.valueError "reflectlite.Value.Type" 0) (fun t _ _ _=>ReflectliteType.toType t)) Tryz.func69 (by kernel_rfl) (by kernel_rfl) (by kernel_rfl) (by kernel_rfl)
 have x3:=@run_callFunc_extern Tryz.prog 70 _ (ReflectliteValue.method (ReflectliteValue.valueError "reflectlite.Value.IsNil" 0) ReflectliteValue.isNil) Tryz.func70 (by kernel_rfl) (by kernel_rfl) (by kernel_rfl) (by kernel_rfl)
 have x4:=@run_callFunc_extern Tryz.prog 204 _ (ReflectliteType.abiMethod fun t=>do pure (.int .u8 (← Rtype.kind t))) Tryz.func204 (by kernel_rfl) (by kernel_rfl) (by kernel_rfl) (by kernel_rfl)
 have x5:=@run_callFunc_extern Tryz.prog 217 _ (ReflectliteType.method ReflectliteType.elem) Tryz.func217 (by kernel_rfl) (by kernel_rfl) (by kernel_rfl) (by kernel_rfl)
 have x6:=@run_callFunc_extern Tryz.prog 218 _ (ReflectliteType.relation "Implements" ReflectliteType.implements_) Tryz.func218 (by kernel_rfl) (by kernel_rfl) (by kernel_rfl) (by kernel_rfl)
 have x7:=@run_callFunc_extern Tryz.prog 72 _ ReflectliteType.typeOf Tryz.func72 (by kernel_rfl) (by kernel_rfl) (by kernel_rfl) (by kernel_rfl)
 have x8:=@run_callFunc_extern Tryz.prog 215 _ (ReflectliteType.relation "AssignableTo" ReflectliteType.assignableTo) Tryz.func215 (by kernel_rfl) (by kernel_rfl) (by kernel_rfl) (by kernel_rfl)
 have x9:=@run_callFunc_extern Tryz.prog 111 _ (ReflectliteValue.method (ReflectliteValue.valueError "reflectlite.Value.Elem" 0) ReflectliteValue.elem) Tryz.func111 (by kernel_rfl) (by kernel_rfl) (by kernel_rfl) (by kernel_rfl)
 have x0:=@run_callFunc_extern Tryz.prog 112 _ ReflectliteValue.set Tryz.func112 (by kernel_rfl) (by kernel_rfl) (by kernel_rfl) (by kernel_rfl)
 have y1:=Tryz.asTypeOfP
 have y2:=Tryz.asMethodAssignable
 have y3:=Tryz.asAssignableP
 have y4:=Tryz.asValueOf
 have y5:=Tryz.asType
 have y6:=Tryz.asMethodKind
 have y7:=Tryz.asMethodElem
 have y8:=Tryz.asMethodImplements
 have y9:=Tryz.asKindPP
 have z1:=Tryz.asKindP
 have z2:=Tryz.asElem
 have z3:=Tryz.asImplements
 have z4:=Tryz.asValueOfP
 obtain⟨o1,ho1⟩:∃o,o=Obj.cells #[.pointer (some t)] 85:=⟨_,rfl⟩
 obtain⟨o2,ho2⟩:∃o,o=Obj.cells #[.pointer (some ⟨9,85,none⟩),.pointer (some ⟨w.heap.size,0,none⟩),.int .u64 150] 124:=⟨_,rfl⟩
 have n8:=Tryz.asIsNil ⟨w.heap.size,0,none⟩ t ((w.alloc o1).alloc o2) (by subst ho1;simp)
 have hlt:8<w.heap.size:=World.block_lt_of_cell? w _ hg
 have htl:t.block<w.heap.size:=World.block_lt_of_cell? w _ ht0
 have hg2:((w.alloc o1).alloc o2).cell? ⟨8,0,none⟩=some handleV:=by
  rw[World.cell?_alloc_lt _ _ ⟨8,0,none⟩ (by simp;omega),World.cell?_alloc_lt _ _ ⟨8,0,none⟩ hlt];exact hg
 have el:=Tryz.asElemV ⟨w.heap.size,0,none⟩ t (((w.alloc o1).alloc o2).alloc o2) (by rw[World.cell?_alloc_lt _ _ ⟨w.heap.size,0,none⟩ (by simp;omega)];subst ho1;simp)
 have st:=Tryz.asSet t ⟨w.heap.size+1+1+1,0,none⟩ e old ((((w.alloc o1).alloc o2).alloc o2).alloc (.cells #[.pointer (some e)] 83))
  (by rw[World.cell?_alloc_at _ _ _ _ (by simp)];rfl)
  (by rw[World.cell?_alloc_lt _ _ t (by simp;omega),World.cell?_alloc_lt _ _ t (by simp;omega),World.cell?_alloc_lt _ _ t (by simp;omega),World.cell?_alloc_lt _ _ t htl];exact ht0)
  (by rw[World.frozen?_alloc_old _ _ t (by simp;omega),World.frozen?_alloc_old _ _ t (by simp;omega),World.frozen?_alloc_old _ _ t (by simp;omega),World.frozen?_alloc_old _ _ t (Nat.ne_of_lt htl)];exact hf0)
 subst ho1 ho2
 go_enter Tryz.func38,Tryz.ntmps38
 go_wp2
 refine wp_loop_rounds 1 ?_
 rw[rounds_succ]
 go_wp2
 go_ret
 exact⟨rfl,_,((((Below.refl _ _).alloc (Nat.le_refl _) _).alloc (by simp) _).alloc (by simp;omega) _).alloc (by simp;omega) _,rfl⟩
theorem is_fault_same (p:Nat)(b:Addr)(w:World)(h1:w.cell? ⟨p,1,none⟩=some (errV b)) :
    Calls Tryz.prog 39 #[.iface 83 (.pointer (some ⟨p,0,none⟩)),errV b] w fun e w'=>e=.returned (.bool true)/\w'=w:=by
 obtain⟨i,hi,hcmp⟩:=Option.map_eq_some_iff.1 Tryz.isComp
 obtain⟨j,hj,hjs⟩:=Option.map_eq_some_iff.1 Tryz.isSize
 have x7:=@run_callFunc_extern Tryz.prog 72 _ ReflectliteType.typeOf Tryz.func72 (by kernel_rfl) (by kernel_rfl) (by kernel_rfl) (by kernel_rfl)
 have x8:=@run_callFunc_extern Tryz.prog 216 _ (Extern.ReflectliteType.method fun t=>do Rtype.noPackHeld "Comparable" t;pure (.bool (← typeInfo t).comparable)) Tryz.func216 (by kernel_rfl) (by kernel_rfl) (by kernel_rfl) (by kernel_rfl)
 have y1:=Tryz.asTypeOfE
 have y2:=Tryz.isComparable
 have y3:=Tryz.isMethodComparable
 have y4:=Tryz.noIsF
 have y5:=Tryz.hasUnwrapF
 have y6:=Tryz.methodUnwrapF
 have heq:=run_eql_iface_ptr_same (P:=Tryz.prog) w b Tryz.underlying36 Tryz.underlying244 hi hcmp hj
 have hty:=run_eql_iface_types (P:=Tryz.prog) 83 244 (.pointer (some ⟨p,0,none⟩)) (.pointer (some b)) Tryz.underlying36 (by decide) w
 go_enter Tryz.func39,Tryz.ntmps39
 go_wp2
 refine wp_loop_rounds 2 ?_
 rw[rounds_succ]
 go_wp2
 rw[rounds_succ]
 go_wp2
 go_ret
 exact⟨rfl,rfl⟩
theorem is_fault_other (p:Nat)(a b:Addr)(ca cb:Array Value)(ta tb:TypeId)(w:World)(h1:w.cell? ⟨p,1,none⟩=some (errV a))(hne:a≠b)(ha:w.heap[a.block]? = some (.cells ca ta (0,0)))(hb:w.heap[b.block]? = some (.cells cb tb (0,0))) :
    Calls Tryz.prog 39 #[.iface 83 (.pointer (some ⟨p,0,none⟩)),errV b] w fun e w'=>e=.returned (.bool false)/\w'=w:=by
 obtain⟨i,hi,hcmp⟩:=Option.map_eq_some_iff.1 Tryz.isComp
 obtain⟨j,hj,hjs⟩:=Option.map_eq_some_iff.1 Tryz.isSize
 have x7:=@run_callFunc_extern Tryz.prog 72 _ ReflectliteType.typeOf Tryz.func72 (by kernel_rfl) (by kernel_rfl) (by kernel_rfl) (by kernel_rfl)
 have x8:=@run_callFunc_extern Tryz.prog 216 _ (Extern.ReflectliteType.method fun t=>do Rtype.noPackHeld "Comparable" t;pure (.bool (← typeInfo t).comparable)) Tryz.func216 (by kernel_rfl) (by kernel_rfl) (by kernel_rfl) (by kernel_rfl)
 have y1:=Tryz.asTypeOfE
 have y2:=Tryz.isComparable
 have y3:=Tryz.isMethodComparable
 have y4:=Tryz.noIsF
 have y5:=Tryz.hasUnwrapF
 have y6:=Tryz.methodUnwrapF
 have z4:=Tryz.noIsE
 have z5:=Tryz.asNoUnwrap
 have z6:=Tryz.asNoUnwraps
 have heq:=run_eql_iface_ptr_other (P:=Tryz.prog) w Tryz.underlying36 Tryz.underlying244 hi hcmp hj (by rw[hjs];decide) hne ha hb
 have hty:=run_eql_iface_types (P:=Tryz.prog) 83 244 (.pointer (some ⟨p,0,none⟩)) (.pointer (some b)) Tryz.underlying36 (by decide) w
 go_enter Tryz.func39,Tryz.ntmps39
 go_wp2
 refine wp_loop_rounds 2 ?_
 rw[rounds_succ]
 go_wp2
 rw[rounds_succ]
 go_wp2
 go_ret
 exact⟨rfl,rfl⟩
theorem is_fault_errs {W:World}{A:Nat->Addr}(h:Errs W A){i j p:Nat}(hi:i<8)(hj:j<8)(hne:i≠j)(h1:W.cell? ⟨p,1,none⟩=some (errV (A i))) :
    Calls Tryz.prog 39 #[.iface 83 (.pointer (some ⟨p,0,none⟩)),errV (A j)] W fun e w'=>e=.returned (.bool false)/\w'=W:=by
 obtain⟨c1,t1,r1⟩:=(h.at_ i hi).row
 obtain⟨c2,t2,r2⟩:=(h.at_ j hj).row
 exact is_fault_other p (A i) (A j) c1 c2 t1 t2 W h1 (h.ne hi hj hne) r1 r2
theorem code_fault (w:World)(A:Nat->Addr)(h:Errs w A)(i p:Nat)(hi:i<8)(at_:Int)(h0:w.cell? ⟨p,0,none⟩=some (.int .i64 at_))(h1:w.cell? ⟨p,1,none⟩=some (errV (A i))) :
    Calls Tryz.prog 25 #[.iface 83 (.pointer (some ⟨p,0,none⟩))] w fun e w'=>e=.returned (.tuple #[.int .i64 ((i:Int)+1),.int .i64 at_])/\Below w.heap.size w w':=by
 have hp:=World.block_lt_of_cell? w _ h0
 have hb0:Below w.heap.size w (w.alloc (.cells #[.pointer none] 83)):=(Below.refl _ _).alloc (Nat.le_refl _) _
 have k1:=h.keep hb0
 have HA:Hid (Errs w A):=h
 have H0:Hid (w.cell? ⟨p,0,none⟩=some (.int .i64 at_)):=h0
 have H1:Hid (w.cell? ⟨p,1,none⟩=some (errV (A i))):=h1
 clear h h0 h1
 go_enter Tryz.func25,Tryz.ntmps25
 go_wp2_with fail
 refine (as_hit _ _ (.pointer none) _ k1.handle (by simp) (by simp)).mono ?_
 rintro e w0 ⟨rfl,w1,hb1,hw⟩
 have hb2:Below w.heap.size w w1:=hb0.trans (hb1.mono hb0.size)
 have hb3:Below w.heap.size w w0:=by rw[hw];exact hb2.setCell (Nat.le_refl _) _
 have hf:w0.cell? ⟨w.heap.size,0,none⟩=some (.pointer (some ⟨p,0,none⟩)):=by
  have h5:w1.cell? ⟨w.heap.size,0,none⟩=some (.pointer none):=by rw[hb1.cell (by simp)];simp
  rw[hw];exact World.cell?_setCell_same _ _ _ h5
 have c0:=(hb3.cell hp).trans H0.out
 have c1:w0.cell? ⟨p,1,none⟩=some (errV (A i)):=(hb3.cell hp).trans H1.out
 have h2:=HA.out.keep hb3
 have g0:=(h2.at_ 0 (by omega)).var
 have g1:=(h2.at_ 1 (by omega)).var
 have g2:=(h2.at_ 2 (by omega)).var
 have g3:=(h2.at_ 3 (by omega)).var
 have g4:=(h2.at_ 4 (by omega)).var
 have g5:=(h2.at_ 5 (by omega)).var
 have g6:=(h2.at_ 6 (by omega)).var
 have g7:=(h2.at_ 7 (by omega)).var
 simp only[errG] at g0 g1 g2 g3 g4 g5 g6 g7
 clear k1 hb0 hb1 hb2 hw
 go_wp2_with fail
 clear g0 g1 g2 g3 g4 g5 g6 g7
 have HS:Hid (Eight w A w0.heap.size (w0.alloc (.cells (eightV A) 36))):=Eight.start hb3 h2
 have HC:Hid ((w0.alloc (.cells (eightV A) 36)).cell? ⟨p,1,none⟩=some (errV (A i))):=(World.cell?_alloc_lt _ _ _ (World.block_lt_of_cell? _ _ c1)).trans c1
 clear h2 hb3 c1 c0 hf
 go_loopw [3,26] (fun y x wr=>∃k:Nat,k<=i/\y=.int .i64 at_/\x=.int .i64 k/\Hid (Eight w A w0.heap.size wr)/\Hid (wr.cell? ⟨p,1,none⟩=some (errV (A i)))) (fun _ x _=>8-(intOf x).toNat)
 case atStart=>exact⟨0,Nat.zero_le _,rfl,rfl,HS,HC⟩
 case round =>
  obtain⟨k,hk,rfl,rfl,HE,HP⟩:=hrel
  have hck:=HE.out.cell k (by omega)
  by_cases hki:k=i
  · subst hki
    go_wp2_with (go_at_call 39;refine (is_fault_same p _ _ HP.out).mono ?_;rintro e w' ⟨rfl,rfl⟩)
    go_ret2
    exact⟨rfl,HE.out.old⟩
  · go_wp2_with (go_at_call 39;refine (is_fault_errs HE.out.errs hi (by omega) (fun e=>hki e.symm) HP.out).mono ?_;rintro e w' ⟨rfl,hw'⟩;subst hw')
    go_roundw
    case rel=>exact⟨k+1,by omega,rfl,by go_num,HE,HP⟩
    case measure=>simp[intOf];omega
end Go.Proofs.YtoeiahdjamkdgaaGreatDoor
namespace Go.Proofs.YtoeiahdjamkdgaaGreatDoor
open Go.RowKit
theorem Tryz.gErr:∀i:Fin 8,Tryz.prog.globalNamed (["shredcol/api.ErrText", "shredcol/api.ErrBound", "shredcol/api.ErrShape", "shredcol/api.ErrKind", "shredcol/api.ErrName", "shredcol/api.ErrNone", "shredcol/api.ErrSum", "shredcol/api.ErrSpace"].getD i "")=some (errG i)
 | ⟨0,_⟩=>by kernel_rfl|⟨1,_⟩=>by kernel_rfl|⟨2,_⟩=>by kernel_rfl|⟨3,_⟩=>by kernel_rfl|⟨4,_⟩=>by kernel_rfl|⟨5,_⟩=>by kernel_rfl|⟨6,_⟩=>by kernel_rfl|⟨7,_⟩=>by kernel_rfl
theorem Tryz.gErrType:∀i:Fin 8,(Tryz.prog.globals[errG i]?).map (·.type)=some 36
 | ⟨0,_⟩=>by kernel_rfl|⟨1,_⟩=>by kernel_rfl|⟨2,_⟩=>by kernel_rfl|⟨3,_⟩=>by kernel_rfl|⟨4,_⟩=>by kernel_rfl|⟨5,_⟩=>by kernel_rfl|⟨6,_⟩=>by kernel_rfl|⟨7,_⟩=>by kernel_rfl
theorem Tryz.gHandle:Tryz.prog.globalNamed "errors.errorType"=some 8:=by kernel_rfl
theorem Tryz.rt:(Tryz.prog.cutTypes.find? (·.1 == "internal/reflectlite.rtype")).map (·.2)=some 161:=by kernel_rfl
theorem Tryz.oneRow:((List.range 275).filter fun t=>Tryz.prog.rowNamed t [101,114,114,111,114])=[36]:=by kernel_rfl
theorem Tryz.ntypes:Tryz.prog.types.size=275:=by kernel_rfl
theorem handle_of {W:World}(h:handlesMet Tryz.prog [("errors.errorType",Rows.laid_errors_errorType)] W):W.cell? ⟨8,0,none⟩=some handleV:=by
 obtain⟨name,u,ty,e1,e2,e3,e4,e5⟩:=h _ (List.mem_singleton.2 rfl)
 have en:name=[101,114,114,111,114]:=(Option.some.inj e1).symm
 subst en
 obtain rfl:=Option.some.inj (Tryz.rt.symm.trans e2)
 have hm:ty∈(List.range 275).filter fun t=>Tryz.prog.rowNamed t [101,114,114,111,114]:=List.mem_filter.2 ⟨List.mem_range.2 (by rw[←Tryz.ntypes];exact e3),e4⟩
 rw[Tryz.oneRow] at hm
 obtain rfl:=List.mem_singleton.1 hm
 have hh:typeHandle Tryz.prog 36=.pointer (some ⟨9,36,none⟩):=by kernel_rfl
 rw[hh] at e5
 simpa using World.var?_cell Tryz.gHandle e5 0
def eightL:List (String × DataW Unit):=[("shredcol/api.ErrText",Rows.laid_shredcol_api_ErrText),("shredcol/api.ErrBound",Rows.laid_shredcol_api_ErrBound),("shredcol/api.ErrShape",Rows.laid_shredcol_api_ErrShape),("shredcol/api.ErrKind",Rows.laid_shredcol_api_ErrKind),("shredcol/api.ErrName",Rows.laid_shredcol_api_ErrName),("shredcol/api.ErrNone",Rows.laid_shredcol_api_ErrNone),("shredcol/api.ErrSum",Rows.laid_shredcol_api_ErrSum),("shredcol/api.ErrSpace",Rows.laid_shredcol_api_ErrSpace)]
theorem eightL_get (i:Fin 8):eightL[i.val]? = some (["shredcol/api.ErrText", "shredcol/api.ErrBound", "shredcol/api.ErrShape", "shredcol/api.ErrKind", "shredcol/api.ErrName", "shredcol/api.ErrNone", "shredcol/api.ErrSum", "shredcol/api.ErrSpace"].getD i "",sentD (errT i)):=by
 match i with
 | ⟨0,_⟩=>rfl|⟨1,_⟩=>rfl|⟨2,_⟩=>rfl|⟨3,_⟩=>rfl|⟨4,_⟩=>rfl|⟨5,_⟩=>rfl|⟨6,_⟩=>rfl|⟨7,_⟩=>rfl
theorem errs_of {W:World}(h:laidMet Tryz.prog eightL W/\handlesMet Tryz.prog [("errors.errorType",Rows.laid_errors_errorType)] W):∃A,Errs W A:=by
 have hs:∀i:Fin 8,∃a,Sent W (errG i) (errT i) a:=fun i =>
  sent_of (Tryz.gErr i) (Tryz.gErrType i) eightL (List.mem_of_getElem? (eightL_get i)) h.1
 refine⟨fun i=>if hi:i<8 then (hs ⟨i,hi⟩).choose else ⟨0,0,none⟩,fun i hi=>?_,handle_of h.2⟩
 rw[dif_pos hi]
 exact (hs ⟨i,hi⟩).choose_spec
end Go.Proofs.YtoeiahdjamkdgaaGreatDoor
