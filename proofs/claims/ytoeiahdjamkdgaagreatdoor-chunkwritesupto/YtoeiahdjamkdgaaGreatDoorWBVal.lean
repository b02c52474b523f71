/-
  Values (api.Value): isValue of the program and IsValue of the reference: what they answer.
  enc.isCount, checkCount, check: which kinds, counts and values are right, and where one is not.
  Bytes behind bytes.
-/
import Derived.Test.YtoeiahdjamkdgaaGreatDoorWBBase
import Derived.RegionTactic
import Derived.Lib.Strings
set_option maxRecDepth 100000
set_option maxHeartbeats 1600000
namespace Go.Proofs.YtoeiahdjamkdgaaGreatDoor
open Go.RowKit
theorem ret_b {a b:Bool}(h:a=b):Ending.returned (.bool a)=.returned (.bool b):=by rw[h]
def OkV (kd k n:Int)(len:Nat):Prop:=k=kd/\(kd=1/\len=0/\(n=0\/n=1)\/kd=2/\len=0/\-2147483648<=n/\n<=2147483647\/(kd=3\/kd=5)/\len=0\/kd=4/\n=0/\len<=100)
def okV (kd k n:Int)(len:Nat):Bool:=decide (k=kd/\(kd=1/\len=0/\(n=0\/n=1)\/kd=2/\len=0/\-2147483648<=n/\n<=2147483647\/(kd=3\/kd=5)/\len=0\/kd=4/\n=0/\len<=100))
theorem okV_iff {kd k n:Int}{len:Nat}:okV kd k n len=true ↔ OkV kd k n len:=by unfold okV OkV;exact decide_eq_true_iff
theorem okV_no {kd k n:Int}{len:Nat}(h:¬ OkV kd k n len):okV kd k n len=false:=by
 cases e:okV kd k n len
 · rfl
 · exact absurd (okV_iff.1 e) h
theorem toList_nil (s:ByteArray):s.toList=[] ↔ s.size=0:=by
 rw[Lib.toList_data,←List.length_eq_zero_iff,Array.length_toList];rfl
theorem toList_isEmpty (s:ByteArray):s.toList.isEmpty=decide (s.size=0):=by
 rw[Bool.eq_iff_iff,List.isEmpty_iff,toList_nil,decide_eq_true_iff]
theorem isValue_any (k n:Int)(s:ByteArray)(w:World):Calls Tryz.prog 90 #[.agg #[.int .i64 k,.int .i64 n,.string s]] w fun e w'=>e=.returned (.bool (okV k k n s.size))/\Below w.heap.size w w':=by
 go_enter Tryz.func90,Tryz.ntmps90
 go_wp2
 all_goals go_ret
 all_goals refine⟨ret_b ?_,(Below.refl _ _).alloc (Nat.le_refl _) _⟩
 all_goals (unfold okV;grind [toList_nil,toList_isEmpty])
theorem isValueR_any (kd k n:Int)(s:ByteArray)(w:World):Calls Tryz.prog 16 #[.int .i64 kd,.agg #[.int .i64 k,.int .i64 n,.string s]] w fun e w'=>e=.returned (.bool (okV kd k n s.size))/\Below w.heap.size w w':=by
 go_enter Tryz.func16,Tryz.ntmps16
 go_wp2
 all_goals go_ret
 all_goals refine⟨ret_b ?_,(Below.refl _ _).alloc (Nat.le_refl _) _⟩
 all_goals (unfold okV;grind [toList_nil,toList_isEmpty])
structure Vl where
 k:Int
 n:Int
 s:ByteArray
def LiesV (w:World)(a:Option Addr)(vs:List Vl):Prop:=∀j (h:j<vs.length),∃b o,a=some ⟨b,o,none⟩/\w.cell? ⟨b,o+j*3,none⟩=some (.int .i64 vs[j].k)/\w.cell? ⟨b,o+j*3+1,none⟩=some (.int .i64 vs[j].n)/\w.cell? ⟨b,o+j*3+2,none⟩=some (.string vs[j].s)
theorem LiesV.keep {w w':World}{a:Option Addr}{vs:List Vl}(h:LiesV w a vs)(hb:Below w.heap.size w w'):LiesV w' a vs:=fun j hj=>by
 obtain⟨b,o,e,h0,h1,h2⟩:=h j hj
 exact⟨b,o,e,(hb.cell (World.block_lt_of_cell? w _ h0)).trans h0,(hb.cell (World.block_lt_of_cell? w _ h1)).trans h1,(hb.cell (World.block_lt_of_cell? w _ h2)).trans h2⟩
theorem cell_alloc_at {w:World}{cs:Array Value}{T:TypeId}{i b:Nat}{v:Value}(h:cs[i]? = some v)(hb:b=w.heap.size):(w.alloc (.cells cs T)).cell? ⟨b,i,none⟩=some v:=by
 subst hb
 rw[cell_of_row _ w.heap.size i _ T (0,0) (heap_alloc_new w _)]
 exact h
def Vl.Ok (kd:Int)(v:Vl):Prop:=OkV kd v.k v.n v.s.size
theorem isCountE_any (k:Int)(w:World):Calls Tryz.prog 158 #[.int .i64 k] w fun e w'=>e=.returned (.bool (decide (0<=k/\k<=20000)))/\w'=w:=by
 go_enter Tryz.func158,Tryz.ntmps158
 go_wp2
 all_goals go_ret
 all_goals exact⟨ret_b (by grind),rfl⟩
theorem checkCount_fine (kd n:Int)(w:World)(hk:1<=kd)(hk5:kd<=5)(hn:0<=n)(hn2:n<=20000) :
    Calls Tryz.prog 153 #[.int .i64 kd,.int .i64 n] w fun e w'=>e=.returned .nilIface/\w'=w:=by
 have hd:decide (0<=n/\n<=20000)=true:=decide_eq_true ⟨hn,hn2⟩
 go_enter Tryz.func153,Tryz.ntmps153
 go_wp2_with (go_at_call 158;refine (isCountE_any _ _).mono ?_;rw[hd];rintro e w1 ⟨rfl,hw⟩;obtain rfl:=hw.symm)
 go_ret
 exact⟨rfl,rfl⟩
theorem checkE_any (a:Option Addr)(vs:List Vl)(c:Nat)(kd:Int)(w:World)(st:TypeId)(sp:Value)(hn:vs.length<=20000)(hk:1<=kd)(hk5:kd<=5)(hg:w.cell? ⟨3,0,none⟩=some (.iface st sp))(hl:LiesV w a vs) :
    Calls Tryz.prog 134 #[.int .i64 kd,.slice a vs.length c] w fun e w' =>
     ((e=.returned .nilIface/\∀j (h:j<vs.length),vs[j].Ok kd) ∨
      (∃i p,∃hi:i<vs.length,e=.returned (.iface 83 (.pointer (some ⟨p,0,none⟩)))/\(∀j (h:j<vs.length),j<i->vs[j].Ok kd)/\¬ vs[i].Ok kd/\w'.cell? ⟨p,0,none⟩=some (.int .i64 i)/\w'.cell? ⟨p,1,none⟩=some (.iface st sp)))/\Below w.heap.size w w':=by
 have HL:Hid (LiesV w a vs):=hl
 have HG:Hid _:=hg
 clear hl hg
 go_enter Tryz.func134,Tryz.ntmps134
 go_wp2_with (go_at_call 153;refine (checkCount_fine _ _ _ hk hk5 (by omega) (by omega)).mono ?_;rintro e w1 ⟨rfl,hw⟩;obtain rfl:=hw.symm)
 go_loopw [17] (fun x wr=>∃i:Nat,i<=vs.length/\x=.int .i64 i/\Hid (∀j (h:j<vs.length),j<i->vs[j].Ok kd)/\Below w.heap.size w wr) (fun x _=>vs.length-(intOf x).toNat)
 case atStart=>exact⟨0,Nat.zero_le _,rfl,fun j _ h=>absurd h (Nat.not_lt_zero _),Below.refl _ _⟩
 case round =>
  obtain⟨i,hi,rfl,HP,hb⟩:=hrel
  by_cases hlt:i<vs.length
  · obtain⟨b,o,rfl,hc0,hc1,hc2⟩:=(HL.out.keep hb) i hlt
    have hg:=(hb.cell (World.block_lt_of_cell? w _ HG.out)).trans HG.out
    have hz:=World.block_lt_of_cell? wr _ hg
    generalize hv:vs[i]=v at hc0 hc1 hc2
    obtain⟨k,n,s⟩:=v
    have HV:Hid (vs[i]=⟨k,n,s⟩):=hv
    clear hv
    simp only at hc0 hc1 hc2 hz
    have hb0:Below w.heap.size w (wr.alloc (.cells #[.int .i64 k,.int .i64 n,.string s] 46)):=hb.alloc hb.size _
    by_cases hkk:k=kd
    · subst hkk
      go_wp2_with fail
      refine (isValue_any _ _ _ _).mono ?_
      rintro e w1 ⟨rfl,hb1⟩
      have hg1:w1.cell? ⟨3,0,none⟩=some (.iface st sp):=(hb1.cell (Nat.lt_of_lt_of_le hz ((Below.refl wr.heap.size wr).alloc (Nat.le_refl _) _).size)).trans (((Below.refl wr.heap.size wr).alloc (Nat.le_refl _) _).cell hz |>.trans hg)
      have hb2:=hb0.trans (hb1.mono hb0.size)
      clear hg hc0 hc1 hc2
      by_cases hok:OkV k k n s.size
      · have hd:okV k k n s.size=true:=okV_iff.2 hok
        have HO:Hid (OkV k k n s.size):=hok
        clear hok
        go_wp2
        go_roundw
        case rel=>exact⟨i+1,by omega,by go_num,fun j h hj=>if e:j=i then (by subst e;show OkV _ _ _ _;rw[HV.out];exact HO.out) else HP.out j h (by omega),hb2⟩
        case measure=>simp[intOf];omega
      · have hd:okV k k n s.size=false:=okV_no hok
        have HO:Hid (¬ OkV k k n s.size):=hok
        clear hok
        go_wp2
        go_ret
        refine⟨Or.inr ⟨i,w1.heap.size,hlt,rfl,HP.out,(by show ¬ OkV _ _ _ _;rw[HV.out];exact HO.out),?_,?_⟩,hb2.alloc hb2.size _⟩
        · exact cell_alloc_at rfl rfl
        · exact cell_alloc_at rfl rfl
    · have HO:Hid (¬ OkV kd k n s.size):=fun h=>hkk h.1
      go_wp2
      go_ret
      refine⟨Or.inr ⟨i,_,hlt,rfl,HP.out,(by show ¬ OkV _ _ _ _;rw[HV.out];exact HO.out),?_,?_⟩,hb0.alloc hb0.size _⟩
      · exact cell_alloc_at rfl (by simp)
      · exact cell_alloc_at rfl (by simp)
  · go_wp2
    go_ret
    exact⟨Or.inl ⟨rfl,fun j h=>HP.out j h (by omega)⟩,hb⟩
def Fsh (N:Nat)(a:Option Addr):Prop:=∀p,a=some p->N<=p.block
theorem Fsh.at {N g o:Nat}(h:N<=g):Fsh N (some ⟨g,o,none⟩):=fun p e=>by
 injection e with e
 subst e
 exact h
theorem Fsh.low {N M:Nat}{a:Option Addr}(h:Fsh N a)(hm:M<=N):Fsh M a:=fun p e=>Nat.le_trans hm (h p e)
theorem arr_app (l m:List UInt8):(⟨l.toArray⟩:ByteArray)++⟨m.toArray⟩=⟨(l++m).toArray⟩:=by
 apply ByteArray.ext
 rw[ByteArray.data_append]
 simp
theorem txt_arr (s:ByteArray):(⟨(Um.uv s.size).toArray⟩:ByteArray)++s=⟨(Um.txt s.data.toList).toArray⟩:=by
 have e:s=⟨s.data.toList.toArray⟩:=by cases s;simp
 have h:=arr_app (Um.uv s.size) s.data.toList
 rw[←e] at h
 rw[h]
 unfold Um.txt
 rw[Array.length_toList];rfl
end Go.Proofs.YtoeiahdjamkdgaaGreatDoor
