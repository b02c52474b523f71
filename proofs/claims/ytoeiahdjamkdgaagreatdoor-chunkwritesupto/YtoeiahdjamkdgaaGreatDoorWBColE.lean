/-
  The law's columns: slim; the reference's IsLeaf, CountOf, SameColumn.
  The reference's CountOf and SameColumn.
-/
import Derived.Test.YtoeiahdjamkdgaaGreatDoorWBLfM
import Derived.Test.YtoeiahdjamkdgaaGreatDoorWBSameInts
set_option maxRecDepth 100000
set_option maxHeartbeats 1600000
namespace Go.Proofs.YtoeiahdjamkdgaaGreatDoor
open Go.RowKit
theorem isLeafR_any (id kind mr md:Int)(pa:Option Addr)(pn pc:Nat)(W:World) :
    Calls Tryz.prog 15 #[.agg #[.int .i64 id,.int .i64 kind,.int .i64 mr,.int .i64 md,.slice pa pn pc]] W fun e w'=>e=.returned (.bool (isLfB kind mr md))/\Below W.heap.size W w':=by
 have HB:Hid (Below W.heap.size W (W.alloc (.cells #[.int .i64 id,.int .i64 kind,.int .i64 mr,.int .i64 md,.slice pa pn pc] 24))):=(Below.refl _ _).alloc (Nat.le_refl _) _
 obtain⟨b,Hb⟩:∃b,Hid (isLfB kind mr md=b):=⟨_,rfl⟩
 rw[Hb.out]
 have HE:Hid (b=decide (1<=kind/\kind<=5/\0<=mr/\mr<=40/\0<=md/\md<=40)):=(by
  show _=_
  rw[←Hb.out,isLfB,btw,btw,btw,Bool.eq_iff_iff]
  simp[and_assoc])
 go_enter Tryz.func15,Tryz.ntmps15
 go_wp2
 all_goals go_ret
 all_goals refine⟨?_,HB.out⟩
 all_goals rw[HE.out]
 all_goals refine ret_bool' ?_
 all_goals rw[Bool.eq_iff_iff]
 all_goals simp
 all_goals omega
theorem countOf_any (id:Int)(ra:Option Addr)(rs:List Int)(rc:Nat)(da:Option Addr)(qn dc:Nat)(va:Option Addr)(vn vc:Nat)(hn:rs.length<=1048576)(W:World)(hl:Lies W ra (i64s rs)) :
    Calls Tryz.prog 26 #[colV id ra rs.length rc da qn dc va vn vc] W fun e w'=>e=.returned (.int .i64 (cntE 0 rs:Nat))/\Below W.heap.size W w':=by
 have hb:Below W.heap.size W (W.alloc (.cells #[.int .i64 id,.slice ra rs.length rc,.slice da qn dc,.slice va vn vc] 27)):=(Below.refl _ _).alloc (Nat.le_refl _) _
 have HL:Hid (Lies (W.alloc (.cells #[.int .i64 id,.slice ra rs.length rc,.slice da qn dc,.slice va vn vc] 27)) ra (i64s rs)):=hl.keep hb
 have HB:Hid _:=hb
 clear hl hb
 unfold colV
 go_enter Tryz.func26,Tryz.ntmps26
 go_wp2
 go_loop [3,4] (fun y x=>∃i:Nat,i<=rs.length/\x=.int .i64 i/\y=.int .i64 (cntE 0 (rs.take i):Nat)) (fun _ x=>rs.length-(intOf x).toNat)
 case atStart=>exact⟨0,Nat.zero_le _,rfl,rfl⟩
 case round =>
  obtain⟨i,hi,rfl,rfl⟩:=hrel
  have hcl:cntE 0 (rs.take i)<=i:=Nat.le_trans (List.length_filter_le _ _) (by simp;omega)
  by_cases hlt:i<rs.length
  · obtain⟨k,hk⟩:∃k,cntE 0 (rs.take i)=k:=⟨_,rfl⟩
    have HS:Hid (cntE 0 (rs.take (i+1))=k+if (rs[i] == 0)=true then 1 else 0):=(by
     show _=_
     rw[cntE,List.take_succ_eq_append_getElem hlt,List.filter_append,List.length_append]
     have hk':((rs.take i).filter (fun x=>x == 0)).length=k:=hk
     rw[hk']
     congr 1
     cases h:(rs[i] == 0)<;>simp[List.filter,h])
    rw[hk] at hcl ⊢
    obtain⟨b,o,rfl,hc⟩:=HL.out i (by simpa [i64s] using hlt)
    have hc':=hc
    rw[show (i64s rs)[i]'(by simpa [i64s] using hlt)=.int .i64 rs[i] by simp[i64s]] at hc'
    obtain⟨r,hr⟩:∃r,r=rs[i]:=⟨_,rfl⟩
    rw[←hr] at hc' HS
    clear hc hk hr
    by_cases hz:r=0
    · have HN:Hid (cntE 0 (rs.take (i+1))=k+1):=(by show _=_;rw[HS.out,hz];rfl)
      subst hz
      go_wp2
      go_round
      case rel=>exact⟨i+1,by omega,by go_num,by rw[HN.out];go_num⟩
      case measure=>simp[intOf];omega
    · have q:(r == 0)=false:=by simp[hz]
      have HN:Hid (cntE 0 (rs.take (i+1))=k):=(by show _=_;rw[HS.out,q];rfl)
      clear hz
      go_wp2
      go_round
      case rel=>exact⟨i+1,by omega,by go_num,by rw[HN.out]⟩
      case measure=>simp[intOf];omega
  · obtain rfl:i=rs.length:=by omega
    rw[List.take_length] at *
    go_wp2
    go_ret
    exact⟨rfl,HB.out⟩
end Go.Proofs.YtoeiahdjamkdgaaGreatDoor
