/-
  The reader of a page's body: levels.
-/
import Derived.Test.YtoeiahdjamkdgaaGreatDoorWBRsB
import Derived.Test.YtoeiahdjamkdgaaGreatDoorWBPgC
import Derived.Test.YtoeiahdjamkdgaaGreatDoorWBWVarint
set_option maxRecDepth 100000
set_option maxHeartbeats 6400000
namespace Go.Proofs.YtoeiahdjamkdgaaGreatDoor
open Go.RowKit
theorem runs_lenP (w:Nat):∀(m n:Nat) (l:List UInt8) (p:List Nat) (u:Nat),n<=m->Um.runs l w n=some (p,u)->p.length=n
 | m,0,l,p,u,_,h=>by
  rw[Um.runs_zero] at h
  cases h
  rfl
 | 0,n+1,_,_,_,h,_=>by omega
 | m+1,n+1,l,p,u,hm,h=>by
  rw[Um.runs_step l w (n+1) (by omega)] at h
  cases hp:Um.part l w (n+1) with
  | none=>rw[hp] at h;cases h
  | some q =>
   rw[hp] at h
   have hq:=(Um.part_len (by omega) hp).1
   simp only[Option.bind_some] at h
   cases hr:Um.runs (l.drop q.2) w (n+1-q.1.length) with
   | none=>rw[hr] at h;cases h
   | some r =>
    rw[hr] at h
    obtain⟨r1,r2⟩:=r
    have ih:=runs_lenP w m (n+1-q.1.length) (l.drop q.2) r1 r2 (by omega) hr
    cases h
    rw[List.length_append,ih]
    omega
theorem widthP_any (n:Nat)(w:World)(h:n<=40):Calls Tryz.prog 60 #[.int .i64 (n:Nat)] w fun e w'=>e=.returned (.int .i64 (Lib.bitLen n:Nat))/\w'=w:=by
 by_cases h0:n=0
 · subst h0
   exact width_none 0 w (by omega)
 · exact width_any n w (by omega) (by omega)
theorem lvUp_any (lv most:Int)(g:Nat)(W:World)(hg:W.heap[g]? = some (.cells #[.int .i64 most] 3 (0,0))):Calls Tryz.prog (150) #[.int .i64 lv,.pointer (some ⟨g,0,none⟩)] W fun e w'=>e=.returned (.bool (decide (most<lv)))/\w'=W:=by
 obtain⟨c0,_⟩:=row_one hg
 clear hg
 go_enter Tryz.func150,Tryz.ntmps150
 go_wp2
 go_ret
 exact⟨rfl,rfl⟩
theorem idxL_any (most:Int)(g:Nat)(a:Option Addr)(c:Nat)(xs:List Int)(hn:xs.length<=1048576)(W:World)(hg:W.heap[g]? = some (.cells #[.int .i64 most] 3 (0,0)))(hl:Lies W a (i64s xs)) :
    Calls Tryz.prog (91) #[.slice a xs.length c,.func (.func 150) #[] #[.pointer (some ⟨g,0,none⟩)]] W fun e w'=>(∃r,e=.returned (.int .i64 r)/\Idx (fun x=>decide (most<x)) xs r)/\w'=W:=by
 have HL:Hid (Lies W a (i64s xs)):=hl
 have HG:Hid (W.heap[g]? = some (.cells #[.int .i64 most] 3 (0,0))):=hg
 clear hl hg
 go_enter Tryz.func91,Tryz.ntmps91
 go_wp2
 go_loop [8] (fun x=>∃i:Nat,i<=xs.length/\x=.int .i64 i/\Hid (∀j (h:j<xs.length),j<i->(decide (most<xs[j]))=false)) (fun x=>xs.length-(intOf x).toNat)
 case atStart=>exact⟨0,Nat.zero_le _,rfl,fun j _ h=>absurd h (Nat.not_lt_zero _)⟩
 case round =>
  obtain⟨i,hi,rfl,HA⟩:=hrel
  by_cases hlt:i<xs.length
  · obtain⟨b,o,rfl,hc⟩:=HL.out i (by simpa [i64s] using hlt)
    have hc':W.cell? ⟨b,o+i,none⟩=some (.int .i64 xs[i]):=by rw[hc];simp[i64s]
    clear hc
    go_wp2_with fail
    refine (lvUp_any xs[i] most g W HG.out).mono ?_
    rintro e w1 ⟨rfl,rfl⟩
    cases hq:(decide (most<xs[i])) with
    | true =>
     have HQ:Hid _:=hq
     clear hq
     go_wp2
     go_ret
     exact⟨⟨(i:Int),rfl,.inr ⟨i,hlt,rfl,HQ.out,fun j h=>HA.out j (by omega) h⟩⟩,rfl⟩
    | false =>
     have HN:Hid (∀j (h:j<xs.length),j<i+1->(decide (most<xs[j]))=false):=fun j h hj=>by
      by_cases e:j=i
      · subst e;exact hq
      · exact HA.out j h (by omega)
     clear hq
     go_wp2
     go_round
     case rel=>exact⟨i+1,by omega,by go_num,HN⟩
     case measure=>simp[intOf];omega
  · obtain rfl:i=xs.length:=by omega
    go_wp2
    go_ret
    exact⟨⟨-1,rfl,.inl ⟨rfl,fun j h=>HA.out j h h⟩⟩,rfl⟩
theorem containsL_any (most:Int)(g:Nat)(a:Option Addr)(c:Nat)(xs:List Int)(hn:xs.length<=1048576)(W:World)(hg:W.heap[g]? = some (.cells #[.int .i64 most] 3 (0,0)))(hl:Lies W a (i64s xs)) :
    Calls Tryz.prog (128) #[.slice a xs.length c,.func (.func 150) #[] #[.pointer (some ⟨g,0,none⟩)]] W fun e w'=>e=.returned (.bool (xs.any fun x=>decide (most<x)))/\w'=W:=by
 have HC:Hid _:=idxL_any most g a c xs hn W hg hl
 clear hg hl
 go_enter Tryz.func128,Tryz.ntmps128
 go_wp2_with fail
 refine Calls.mono HC.out ?_
 rintro e w1 ⟨⟨r,rfl,hr⟩,rfl⟩
 have HR:Hid _:=hr.any
 clear hr
 go_wp2
 go_ret
 exact⟨by rw[←HR.out];rfl,rfl⟩
structure LvAt (s:ByteArray) (most many n k:Nat) (p:List Nat):Prop where
 tx:LtAt s n k
 rn:Um.runs (s.extract k (k+n)).data.toList (Lib.bitLen most) many=some (p,n)
 up:∀x∈p,x<=most
def LevR (N R:Nat)(s:ByteArray)(f:Bool)(most many:Nat)(e:Ending)(w':World):Prop :=
 (∃n k p a c,LvAt s most many n k p/\e=.returned (.slice a p.length c)/\Lies w' a (i64s (p.map fun n:Nat=>(n:Int)))/\p.length<=c/\Fsh N a/\Rdr 188 w' R (s.extract (k+n) s.size) f) ∨
 ((¬ ∃n k p,LvAt s most many n k p)/\∃a l c s',e=.returned (.slice a l c)/\s'.size<=s.size/\Rdr 188 w' R s' true)
theorem any_up {p:List Nat}{most:Nat}:((p.map fun n:Nat=>(n:Int)).any fun x=>decide ((most:Int)<x))=false ↔ ∀x∈p,x<=most:=by
 rw[List.any_eq_false]
 constructor
 · intro h x hx
   have:=h (x:Int) (List.mem_map.2 ⟨x,hx,rfl⟩)
   simp at this
   omega
 · intro h x hx
   obtain⟨y,hy,rfl⟩:=List.mem_map.1 hx
   have:=h y hy
   simp
   omega
theorem levels_any (R:Nat)(s:ByteArray)(f:Bool)(most many:Nat)(W:World)(hR:Rdr 188 W R s f)(hs:s.size<=1000000)(hm:most<=40)(hn:many<=20000)(st:TypeId)(sp:Value)(hg:W.cell? ⟨2,0,none⟩=some (.iface st sp)) :
    Calls Tryz.prog (121) #[.pointer (some ⟨R,0,none⟩),.int .i64 most,.int .i64 many] W fun e w'=>LevR W.heap.size R s f most many e w'/\PFr R W w':=by
 have hRW:=lt_of_block hR
 have hne:R≠W.heap.size:=by omega
 obtain⟨w0,HW0,HX,HB⟩:=boxed1 W #[.int .i64 (most:Nat)] 3
 have HR0:Hid (Rdr 188 w0 R s f):=hR.keep HB.out
 have HF0:Hid (PFr R W w0):=.of_below HB.out
 have HG:Hid (∀X,PFr R W X->X.cell? ⟨2,0,none⟩=some (.iface st sp)):=fun X hX=>hX.cell hg (fun e=>by
  have h1:=hR
  unfold Rdr at h1
  rw[←e] at h1
  have h2:=hg
  simp[World.cell?,h1] at h2)
 have hmf:∀(fn:Fn) (first cap:Array Value) (W:World),(Instr.makeFunc fn first cap).run Tryz.prog W=.ok (.func fn first cap) W:=fun _ _ _ _=>rfl
 have hwd:Lib.bitLen most<=32:=Lib.bitLen_le _ 32 (by omega) (Nat.lt_of_le_of_lt hm (by decide))
 clear hR hg
 go_enter Tryz.func121,Tryz.ntmps121
 go_upto_region 1 with fail
 rw[HW0.out]
 go_wp2_with fail
 refine Calls.mono (rtext_any R s f w0 HR0.out hs st sp (HG.out w0 HF0.out)) ?_
 rintro e w1 ⟨hx,hfr⟩
 obtain⟨tx,s1,f1,rfl,hR1,hz1,hzt,hT1⟩:∃(tx s1:ByteArray) (f1:Bool),e=.returned (.string tx)/\Rdr 188 w1 R s1 f1/\s1.size<=s.size/\tx.size<=s.size/\((f1=true/\¬ ∃n k,LtAt s n k)\/(f1=f/\∃n k,LtAt s n k/\tx=s.extract k (k+n)/\s1=s.extract (k+n) s.size/\tx.size=n)):=by
  rcases hx with ⟨n,k,h1,h2,h3⟩|⟨h1,h2,h3⟩
  · have hsz:(s.extract k (k+n)).size=n:=by rw[ByteArray.size_extract];have:=h1.fit;omega
    exact⟨_,_,_,h2,h3,by rw[ByteArray.size_extract];omega,by rw[hsz];have:=h1.fit;omega,.inr ⟨rfl,n,k,h1,rfl,rfl,hsz⟩⟩
  · exact⟨_,_,_,h2,h3,Nat.le_refl _,Nat.zero_le _,.inl ⟨rfl,h1⟩⟩
 have HF1:Hid (PFr R W w1):=HF0.out.trans hfr
 have HX1:Hid (w1.heap[W.heap.size]? = some (.cells #[.int .i64 (most:Nat)] 3 (0,0))):=hfr.box HX.out hne.symm
 have HR1:Hid (Rdr 188 w1 R s1 f1):=hR1
 have HT1:Hid ((f1=true/\¬ ∃n k,LtAt s n k)\/(f1=f/\∃n k,LtAt s n k/\tx=s.extract k (k+n)/\s1=s.extract (k+n) s.size/\tx.size=n)):=hT1
 clear hx hfr hR1 hT1 HX HR0 HF0
 obtain⟨c0,_⟩:=row_one HX1.out
 go_wp2_with fail
 refine Calls.mono (widthP_any most w1 hm) ?_
 rintro e w2 ⟨rfl,hw⟩
 obtain rfl:=hw.symm
 go_wp2_with fail
 refine Calls.mono (readRuns_c tx (Lib.bitLen most) many w1 st sp (by omega) hwd hn (HG.out w1 HF1.out)) ?_
 rintro e w3 ⟨hrp,hb3⟩
 have hz10:W.heap.size<=w1.heap.size:=HF1.out.size
 have HF3:Hid (PFr R W w3):=HF1.out.trans (.of_below hb3)
 have HX3:Hid (w3.heap[W.heap.size]? = some (.cells #[.int .i64 (most:Nat)] 3 (0,0))):=blk_keep hb3 HX1.out
 have HR3:Hid (Rdr 188 w3 R s1 f1):=HR1.out.keep hb3
 clear hb3 c0 HX1 HF1 HR1
 obtain⟨⟨c0,c1⟩,c2,c3⟩:=HR3.out.cells
 obtain⟨rr,HRr⟩:∃rr,Hid (Um.runs tx.data.toList (Lib.bitLen most) many=rr):=⟨_,rfl⟩
 rw[HRr.out] at hrp
 cases rr with
 | none =>
  have hrp':e=.returned (.tuple #[.slice none 0 0,.int .i64 0,.iface st sp]):=hrp
  subst hrp'
  have HM:Hid (¬ ∃n k p,LvAt s most many n k p):=fun ⟨n,k,p,h⟩=>by
   rcases HT1.out with ⟨_,h2⟩|⟨_,n',k',h2,h3,_⟩
   · exact h2 ⟨n,k,h.tx⟩
   · obtain⟨rfl,rfl⟩:=h.tx.fn h2
     have h4:=h.rn
     rw[←h3,HRr.out] at h4
     cases h4
  clear hrp HT1 HRr
  go_wp2
  go_ret
  exact⟨.inr ⟨HM.out,_,_,_,_,rfl,hz1,HR3.out.fail⟩,HF3.out.set⟩
 | some pu =>
  obtain⟨p,u⟩:=pu
  obtain⟨a,c,rfl,hl,hcp,hfs⟩:∃a c,e=.returned (.tuple #[.slice a p.length c,.int .i64 u,.nilIface])/\Lies w3 a (i64s (p.map fun n:Nat=>(n:Int)))/\p.length<=c/\∀q,a=some q->w1.heap.size<=q.block:=hrp
  have HCp:Hid (p.length<=c/\Fsh W.heap.size a):=⟨hcp,fun q e=>Nat.le_trans hz10 (hfs q e)⟩
  clear hcp hfs
  have hpl:p.length<=20000:=(by have:=runs_lenP (Lib.bitLen most) many many _ p u (Nat.le_refl _) HRr.out;omega)
  have HL:Hid (Lies w3 a (i64s (p.map fun n:Nat=>(n:Int)))):=hl
  clear hl
  by_cases hu:u=tx.size
  · subst hu
    have q1:((tx.size:Int) != (tx.size:Int))=false:=by simp
    have hml:(p.map fun n:Nat=>(n:Int)).length=p.length:=List.length_map ..
    have HCo:Hid (Calls Tryz.prog (128) #[.slice a p.length c,.func (.func 150) #[] #[.pointer (some ⟨W.heap.size,0,none⟩)]] w3 fun e w'=>e=.returned (.bool ((p.map fun n:Nat=>(n:Int)).any fun x=>decide ((most:Int)<x)))/\w'=w3):=(by
     have h:=containsL_any most W.heap.size a c (p.map fun n:Nat=>(n:Int)) (by rw[hml];omega) w3 HX3.out HL.out
     rw[hml] at h
     exact h)
    obtain⟨ab,HAb⟩:∃b,Hid (((p.map fun n:Nat=>(n:Int)).any fun x=>decide ((most:Int)<x))=b):=⟨_,rfl⟩
    rw[HAb.out] at HCo
    go_wp2_with fail
    refine Calls.mono HCo.out ?_
    rintro e w4 ⟨rfl,hw⟩
    obtain rfl:=hw.symm
    cases ab with
    | true =>
     have HM:Hid (¬ ∃n k p,LvAt s most many n k p):=fun ⟨n,k,p',h⟩=>by
      rcases HT1.out with ⟨_,h2⟩|⟨_,n',k',h2,h3,_,h5⟩
      · exact h2 ⟨n,k,h.tx⟩
      · obtain⟨rfl,rfl⟩:=h.tx.fn h2
        have h4:=h.rn
        rw[←h3,HRr.out] at h4
        cases h4
        have h6:=any_up.2 h.up
        rw[HAb.out] at h6
        cases h6
     clear HT1 HRr
     go_wp2
     go_ret
     exact⟨.inr ⟨HM.out,_,_,_,_,rfl,hz1,HR3.out.fail⟩,HF3.out.set⟩
    | false =>
     have HO:Hid (LevR W.heap.size R s f most many (.returned (.slice a p.length c)) w3):=(by
      rcases HT1.out with ⟨rfl,h2⟩|⟨rfl,n',k',h2,h3,h4,h5⟩
      · exact .inr ⟨fun ⟨n,k,_,h⟩=>h2 ⟨n,k,h.tx⟩,_,_,_,_,rfl,hz1,HR3.out⟩
      · refine .inl ⟨n',k',p,a,c,⟨h2,?_,any_up.1 HAb.out⟩,rfl,HL.out,HCp.out.1,HCp.out.2,?_⟩
        · rw[←h3,HRr.out,h5]
        · have h6:=HR3.out
          rw[h4] at h6
          exact h6)
     clear HT1 HRr
     go_wp2
     go_ret
     exact⟨HO.out,HF3.out⟩
  · have q1:((u:Int) != (tx.size:Int))=true:=by simp;omega
    have HM:Hid (¬ ∃n k p,LvAt s most many n k p):=fun ⟨n,k,p',h⟩=>by
     rcases HT1.out with ⟨_,h2⟩|⟨_,n',k',h2,h3,_,h5⟩
     · exact h2 ⟨n,k,h.tx⟩
     · obtain⟨rfl,rfl⟩:=h.tx.fn h2
       have h4:=h.rn
       rw[←h3,HRr.out] at h4
       cases h4
       exact hu h5.symm
    clear HT1 HRr
    go_wp2
    go_ret
    exact⟨.inr ⟨HM.out,_,_,_,_,rfl,hz1,HR3.out.fail⟩,HF3.out.set⟩
end Go.Proofs.YtoeiahdjamkdgaaGreatDoor
