/-
  errors.As at a target of type **api.Fault, walked: an error of errors.New's make is none; a *api.Fault is one, and the target is set to it.
  errors.As at a target of type **api.Fault: its two answers.
  errors.Is at two errors of errors.New's make: whether they are one.
-/
import Derived.Test.YtnfjpngmadoflaaGreatDoorRows
import Derived.WalkKit
import Derived.LaidEql
import Derived.Stop.Asserts
import Derived.RowKitTokens
import Derived.Below
namespace Go.Proofs.YtnfjpngmadoflaaGreatDoor
open Go.RowKit Go.Extern.Stop Go.Stop Go.Extern
theorem Tryz.asKindP (w : World) : ((ReflectliteType.abiMethod fun t => (fun a : Nat => Value.int IntKind.u8 (a : Int)) <$> Rtype.kind t) #[.pointer (some ⟨10, 101, none⟩)]).run Tryz.prog w = .ok (.int .u8 22) w := by kernel_rfl
theorem asMethod (P : Program) (W : World) (z : Sem Value) (f : TypeId → Addr → Nat → Nat → Sem Value) (v : Value) (t : TypeId) (a : Addr) (fl : Nat) (h : (ReflectliteValue.parts v).run P W = .ok (some (t, a, fl)) W) :
    (ReflectliteValue.method z f #[v]).run P W = (f t a fl (fl % 32)).run P W := by
  refine (congrArg (fun s => Sem.run P s W) (show ReflectliteValue.method z f #[v] = (ReflectliteValue.parts v >>= _) from rfl)).trans ?_
  simp only [Sem.run_bind, h, Result.andThen]
theorem Tryz.asValueOfP (e : Addr) (w : World) : (ReflectliteValue.unpack (.iface 101 (.pointer (some e)))).run Tryz.prog w
    = .ok (.agg #[.pointer (some ⟨10, 101, none⟩), .pointer (some ⟨w.heap.size, 0, none⟩), .int .u64 150]) (w.alloc (.cells #[.pointer (some e)] 101)) := by kernel_rfl
theorem Tryz.asMk (p : Addr) (w : World) : (ReflectliteValue.mk 101 p ReflectliteValue.flagAddr).run Tryz.prog w = .ok (.agg #[.pointer (some ⟨10, 101, none⟩), .pointer (some p), .int .u64 406]) w := by kernel_rfl
theorem Tryz.asPartsA (a : Addr) (w : World) : (ReflectliteValue.parts (.agg #[.pointer (some ⟨10, 101, none⟩), .pointer (some a), .int .u64 406])).run Tryz.prog w = .ok (some (101, a, 406)) w := by kernel_rfl
theorem Tryz.asParts (a : Addr) (w : World) : (ReflectliteValue.parts (.agg #[.pointer (some ⟨10, 101, none⟩), .pointer (some a), .int .u64 150])).run Tryz.prog w = .ok (some (101, a, 150)) w := by kernel_rfl
theorem Tryz.asDirect (w : World) : (Rtype.directlyAssignable 101 101).run Tryz.prog w = .ok true w := by kernel_rfl
theorem Tryz.asSet (ta b e : Addr) (old : Value) (W : World) (hb : W.cell? b = some (.pointer (some e))) (ht : W.cell? ta = some old) (hf : W.frozen? ta = false) :
    (ReflectliteValue.set #[.agg #[.pointer (some ⟨10, 101, none⟩), .pointer (some ta), .int .u64 406], .agg #[.pointer (some ⟨10, 101, none⟩), .pointer (some b), .int .u64 150]]).run Tryz.prog W
      = .ok (.tuple #[]) (W.setCell ta (.pointer (some e))) := by
  refine (congrArg (fun s => Sem.run Tryz.prog s W) (show ReflectliteValue.set #[.agg #[.pointer (some ⟨10, 101, none⟩), .pointer (some ta), .int .u64 406], .agg #[.pointer (some ⟨10, 101, none⟩), .pointer (some b), .int .u64 150]] = (ReflectliteValue.parts (.agg #[.pointer (some ⟨10, 101, none⟩), .pointer (some ta), .int .u64 406]) >>= fun p => ReflectliteValue.parts (.agg #[.pointer (some ⟨10, 101, none⟩), .pointer (some b), .int .u64 150]) >>= _) from rfl)).trans ?_
  simp only [Sem.run_bind, Tryz.asPartsA, Tryz.asParts, Result.andThen]
  simp [ReflectliteValue.flagAddr, loadVar, isAgg, underlying, Tryz.underlying101, hb, Result.andThen, Tryz.asDirect, storeVar, Value.cells, storeCells, Addr.add]
  rw [run_store Tryz.prog W ta _ _ (by rfl)]
  simp [ht, hf]
end Go.Proofs.YtnfjpngmadoflaaGreatDoor

namespace Go.Proofs.YtnfjpngmadoflaaGreatDoor
open Go.RowKit Go.Extern.Stop Go.Stop Go.Extern
end Go.Proofs.YtnfjpngmadoflaaGreatDoor

namespace Go.Proofs.YtnfjpngmadoflaaGreatDoor
open Go.RowKit Go.Extern.Stop Go.Stop Go.Extern
theorem Tryz.isComparable (w : World) : ((Extern.ReflectliteType.method fun t => do Rtype.noPackHeld "Comparable" t; (fun a => Value.bool a.comparable) <$> typeInfo t) #[.agg #[.pointer (some ⟨10, 135, none⟩)]]).run Tryz.prog w = .ok (.bool true) w := by kernel_rfl
theorem Tryz.isComp : (Tryz.prog.info? 135).map (·.comparable) = some true := by kernel_rfl
theorem Tryz.isSize : (Tryz.prog.info? 137).map (·.size) = some 1 := by kernel_rfl
end Go.Proofs.YtnfjpngmadoflaaGreatDoor
