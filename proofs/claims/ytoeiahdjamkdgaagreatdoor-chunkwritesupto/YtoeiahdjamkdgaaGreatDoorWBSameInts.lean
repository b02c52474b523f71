/-
  The reference's SameInts: whether two slices of ints hold the same numbers.
  enc.Less, enc.inTotalOrder and the reference's LessOf: what they answer.
  The order of values is one: the mathematics, without the program.
-/
import Derived.Below
import Derived.Test.YtoeiahdjamkdgaaGreatDoorWBVal
import Derived.Deep.QuietTactic
import Derived.BigQuiet
set_option maxRecDepth 100000
set_option maxHeartbeats 800000
namespace Go.Proofs.YtoeiahdjamkdgaaGreatDoor
open Go.RowKit
def IntsAt (w:World)(v:Value)(xs:List Int):Prop :=
 (v=.slice none 0 0/\xs=[])\/∃b o cap,v=.slice (some ⟨b,o,none⟩) xs.length cap/\∀j (h:j<xs.length),w.cell? ⟨b,o+j,none⟩=some (.int .i64 xs[j])
theorem IntsAt.keep {w w':World}{v:Value}{xs:List Int}(h:IntsAt w v xs)(hb:Below w.heap.size w w'):IntsAt w' v xs:=by
 rcases h with h|⟨b,o,cap,e,hc⟩
 · exact Or.inl h
 · exact Or.inr ⟨b,o,cap,e,fun j hj=>(hb.cell (World.block_lt_of_cell? w _ (hc j hj))).trans (hc j hj)⟩
theorem ret_bool' {a b:Bool}(h:a=b):Ending.returned (.bool a)=.returned (.bool b):=by rw[h]
theorem blw_drewN {B:Nat}{a w:World}(h:Below B a w)(n:Nat):Below B a (w.drewN n):=h.trans ⟨rfl,rfl,rfl,Nat.le_refl _,fun _ _=>rfl⟩
theorem xor_low (m:Nat)(hm:m<2 ^ 63):(2 ^ 63+m) ^^^ (2 ^ 63-1)=2 ^ 63+(2 ^ 63-1-m):=by
 apply Nat.eq_of_testBit_eq
 intro i
 rw[Nat.testBit_xor,Nat.testBit_two_pow_sub_one]
 rcases Nat.lt_trichotomy i 63 with h|h|h
 · rw[Nat.testBit_two_pow_add_gt h,Nat.testBit_two_pow_add_gt h,show 2 ^ 63-1-m=2 ^ 63-(m+1) from by omega,Nat.testBit_two_pow_sub_succ hm]
   simp[h]
 · subst h
   rw[Nat.testBit_two_pow_add_eq,Nat.testBit_two_pow_add_eq,Nat.testBit_lt_two_pow hm,Nat.testBit_lt_two_pow (show 2 ^ 63-1-m<2 ^ 63 by omega)]
   rfl
 · have hb:(2:Nat) ^ 64<=2 ^ i:=Nat.pow_le_pow_right (by omega) h
   rw[Nat.testBit_lt_two_pow (show 2 ^ 63+m<2 ^ i by omega),Nat.testBit_lt_two_pow (show 2 ^ 63+(2 ^ 63-1-m)<2 ^ i by omega)]
   simp;omega
theorem flip_i64 (a:Int)(h0:-9223372036854775808<=a)(h1:a<0):bits .xor .i64 a 9223372036854775807=-9223372036854775809-a:=by
 obtain⟨m,hm⟩:∃m:Nat,a=-9223372036854775808+m:=⟨(a+9223372036854775808).toNat,by omega⟩
 have hm2:m<2 ^ 63:=by omega
 show IntKind.i64.wrap ((BitVec.ofInt 64 a ^^^ BitVec.ofInt 64 9223372036854775807).toNat:Int)=_
 have e1:(BitVec.ofInt 64 a).toNat=2 ^ 63+m:=by rw[BitVec.toNat_ofInt];omega
 have e2:(BitVec.ofInt 64 9223372036854775807).toNat=2 ^ 63-1:=by decide
 rw[BitVec.toNat_xor,e1,e2,xor_low m hm2,IntKind.wrap_i64]
 omega
theorem inTotal_any (n:Int)(w:World)(h0:-9223372036854775808<=n):Calls Tryz.prog 124 #[.int .i64 n] w fun e w'=>e=.returned (.int .i64 (if n<0 then -9223372036854775809-n else n))/\w'=w:=by
 by_cases h:n<0
 · have hf:=flip_i64 n h0 h
   rw[if_pos h]
   go_enter Tryz.func124,Tryz.ntmps124
   go_wp2
   go_ret
   exact⟨rfl,rfl⟩
 · rw[if_neg h]
   go_enter Tryz.func124,Tryz.ntmps124
   go_wp2
   go_ret
   exact⟨rfl,rfl⟩
def tot (n:Int):Int:=if n<0 then -9223372036854775809-n else n
def vless (k1 n1:Int)(s1:ByteArray)(k2 n2:Int)(s2:ByteArray):Bool :=
 if k1=k2 then (if k1=4 then Op.bytesLess s1.toList s2.toList else if k1=5 then decide (tot n1<tot n2) else decide (n1<n2)) else decide (k1<k2)
theorem less_any (k1 n1:Int)(s1:ByteArray)(k2 n2:Int)(s2:ByteArray)(w:World)(h1:-9223372036854775808<=n1)(h2:-9223372036854775808<=n2) :
    Calls Tryz.prog 85 #[.agg #[.int .i64 k1,.int .i64 n1,.string s1],.agg #[.int .i64 k2,.int .i64 n2,.string s2]] w fun e w'=>e=.returned (.bool (vless k1 n1 s1 k2 n2 s2))/\Below w.heap.size w w':=by
 go_enter Tryz.func85,Tryz.ntmps85
 go_wp2
 all_goals try (go_quiet ((go_at_call 124;exact Calls.quiet_of_same (inTotal_any _ _ (by assumption))));go_wp2)
 all_goals go_ret
 all_goals refine⟨ret_b ?_,?_⟩
 all_goals first
  | exact ((Below.refl _ _).alloc (Nat.le_refl _) _).alloc (by simp) _
  | exact blw_drewN (((Below.refl _ _).alloc (Nat.le_refl _) _).alloc (by simp) _) _
  | (unfold vless tot;grind)
theorem lessOf_any (k1 n1:Int)(s1:ByteArray)(k2 n2:Int)(s2:ByteArray)(w:World)(h1:-9223372036854775808<=n1)(h2:-9223372036854775808<=n2) :
    Calls Tryz.prog 80 #[.agg #[.int .i64 k1,.int .i64 n1,.string s1],.agg #[.int .i64 k2,.int .i64 n2,.string s2]] w fun e w'=>e=.returned (.bool (vless k1 n1 s1 k2 n2 s2))/\Below w.heap.size w w':=by
 go_enter Tryz.func80,Tryz.ntmps80
 go_wp2
 all_goals go_ret
 all_goals refine⟨ret_b ?_,((Below.refl _ _).alloc (Nat.le_refl _) _).alloc (by simp) _⟩
 all_goals (unfold vless tot;grind)
theorem bless_eq:∀(x y:List UInt8),Op.bytesLess x y=decide (x<y)
 | [],[]=>by simp[Op.bytesLess]
 | _ :: _,[]=>by simp[Op.bytesLess]
 | [],_ :: _=>by simp[Op.bytesLess]
 | a :: x,b :: y=>by
  rw[Op.bytesLess,bless_eq x y]
  simp only[List.cons_lt_cons_iff]
  by_cases h1:a<b<;>by_cases h2:a=b<;>by_cases h3:x<y<;>simp[h1,h2,h3]
theorem bl_asymm (x y:List UInt8)(h:Op.bytesLess x y=true):Op.bytesLess y x=false:=by
 rw[bless_eq] at *
 exact decide_eq_false (List.lt_asymm (of_decide_eq_true h))
theorem bl_trans (x y z:List UInt8)(h:Op.bytesLess x y=true)(h':Op.bytesLess y z=true):Op.bytesLess x z=true:=by
 rw[bless_eq] at *
 exact decide_eq_true (List.lt_trans (of_decide_eq_true h) (of_decide_eq_true h'))
theorem bl_irrefl (x:List UInt8):Op.bytesLess x x=false:=by
 rw[bless_eq]
 exact decide_eq_false (List.lt_irrefl x)
theorem bl_total:∀(x y:List UInt8),Op.bytesLess x y=false->Op.bytesLess y x=false->x=y
 | [],[],_,_=>rfl
 | _ :: _,[],_,h=>by simp[Op.bytesLess] at h
 | [],_ :: _,h,_=>by simp[Op.bytesLess] at h
 | a :: x,b :: y,h,h'=>by
  rw[Op.bytesLess,Bool.or_eq_false_iff,Bool.and_eq_false_iff,decide_eq_false_iff_not] at h h'
  have hab:a=b:=by
   have:=a.toNat_lt
   have h1:=h.1
   have h2:=h'.1
   rw[UInt8.lt_iff_toNat_lt] at h1 h2
   exact UInt8.toNat_inj.1 (by omega)
  subst hab
  have e:x=y:=bl_total x y (by simpa using h.2) (by simpa using h'.2)
  rw[e]
theorem tot_inj {n m:Int}(h1:-9223372036854775808<=n)(h2:-9223372036854775808<=m)(h:tot n=tot m):n=m:=by
 unfold tot at h;split at h<;>split at h<;>omega
theorem vless_tri (k n1 n2:Int)(s1 s2:ByteArray)(h1:-9223372036854775808<=n1)(h2:-9223372036854775808<=n2)(o1:OkV k k n1 s1.size)(o2:OkV k k n2 s2.size) :
    (vless k n1 s1 k n2 s2 && vless k n2 s2 k n1 s1)=false/\((vless k n1 s1 k n2 s2 || vless k n2 s2 k n1 s1)=true ↔ ¬ (n1=n2/\s1=s2)):=by
 unfold OkV at o1 o2
 have es:∀a b:ByteArray,a=b ↔ a.toList=b.toList:=fun a b=>by
  rw[Lib.toList_data,Lib.toList_data,Array.toList_inj]
  cases a;cases b;simp
 by_cases h4:k=4
 · have e:∀a b x y,vless k x a k y b=Op.bytesLess a.toList b.toList:=fun a b x y=>by simp[vless,h4]
   rw[e,e]
   have hn:n1=n2:=by omega
   constructor
   · cases hb:Op.bytesLess s1.toList s2.toList
     · rfl
     · rw[bl_asymm _ _ hb];rfl
   · rw[es]
     constructor
     · rintro h ⟨_,he⟩
       rw[he,bl_irrefl] at h
       simp at h
     · intro h
       cases hb:Op.bytesLess s1.toList s2.toList
       · cases hc:Op.bytesLess s2.toList s1.toList
         · exact absurd ⟨hn,bl_total _ _ hb hc⟩ h
         · rfl
       · rfl
 · have hs : s1 = s2 := by
     rw[es,(toList_nil s1).2 (by omega),(toList_nil s2).2 (by omega)]
   by_cases h5:k=5
   · have e:∀a b x y,vless k x a k y b=decide (tot x<tot y):=fun a b x y=>by simp[vless,h5]
     rw[e,e]
     constructor
     · simp;omega
     · have hi:tot n1=tot n2 ↔ n1=n2:=⟨tot_inj h1 h2,fun h=>by rw[h]⟩
       simp[hs]
       omega
   · have e:∀a b x y,vless k x a k y b=decide (x<y):=fun a b x y=>by simp[vless,h4,h5]
     rw[e,e]
     constructor
     · simp;omega
     · simp[hs]
       omega
theorem vless_trans (k n1 n2 n3:Int)(s1 s2 s3:ByteArray)(h:vless k n1 s1 k n2 s2=true)(h':vless k n2 s2 k n3 s3=true):vless k n1 s1 k n3 s3=true:=by
 by_cases h4:k=4
 · have e:∀a b x y,vless k x a k y b=Op.bytesLess a.toList b.toList:=fun a b x y=>by simp[vless,h4]
   rw[e] at *
   exact bl_trans _ _ _ h h'
 · by_cases h5:k=5
   · have e:∀a b x y,vless k x a k y b=decide (tot x<tot y):=fun a b x y=>by simp[vless,h5]
     rw[e] at *
     simp at *
     omega
   · have e:∀a b x y,vless k x a k y b=decide (x<y):=fun a b x y=>by simp[vless,h4,h5]
     rw[e] at *
     simp at *
     omega
end Go.Proofs.YtoeiahdjamkdgaaGreatDoor
