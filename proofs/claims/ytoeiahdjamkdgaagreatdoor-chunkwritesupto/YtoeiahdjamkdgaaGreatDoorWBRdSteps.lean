/-
  enc.readSteps: the numbers that bytes say, step by step.
  enc.ReadDelta: the numbers that bytes say by their differences; they are what writes the same bytes.
  What Delta writes is read: the bytes of numbers by their differences lead back to them.
-/
import Derived.Test.YtoeiahdjamkdgaaGreatDoorWBDelta
import Derived.Test.YtoeiahdjamkdgaaGreatDoorWBMapV
set_option maxRecDepth 100000
set_option maxHeartbeats 1600000
namespace Go.Proofs.YtoeiahdjamkdgaaGreatDoor
open Go.RowKit
def accD (x:Int):List Int->List Int
 | []=>[]
 | d :: ds=>wrap64 (x+d) :: accD (wrap64 (x+d)) ds
def lastOf (x:Int)(ds:List Int):Int:=ds.foldl (fun a d=>wrap64 (a+d)) x
theorem accD_len (ds:List Int):∀x,(accD x ds).length=ds.length:=by
 induction ds with
 | nil=>intro x;rfl
 | cons d ds ih=>intro x;simp[accD,ih]
theorem accD_app (a b:List Int):∀x,accD x (a++b)=accD x a++accD (lastOf x a) b:=by
 induction a with
 | nil=>intro x;rfl
 | cons d a ih=>intro x;simp[accD,ih,lastOf]
theorem lastOf_app (a b:List Int)(x:Int):lastOf x (a++b)=lastOf (lastOf x a) b:=by simp[lastOf]
theorem wrap64_in (x:Int):-9223372036854775808<=wrap64 x/\wrap64 x<=9223372036854775807:=by unfold wrap64;omega
theorem accD_in (ds:List Int):∀x,∀y∈accD x ds,-9223372036854775808<=y/\y<=9223372036854775807:=by
 induction ds with
 | nil=>intro x y h;cases h
 | cons d ds ih =>
  intro x y h
  rcases List.mem_cons.1 h with rfl|h
  · exact wrap64_in _
  · exact ih _ y h
def rdSt (s:List UInt8):Nat->Nat->Int->Nat->Option (List Int)
 | 0,_,_,_=>some []
 | f+1,u,x,k=>if k=0 then some [] else
     match rdBk (s.drop u) (min 32 k) with
     | none=>none
     | some (ds,z)=>(rdSt s f (u+z) (lastOf x ds) (k-min 32 k)).map fun l=>accD x ds++l
theorem rdSt_zero (s:List UInt8)(f u:Nat)(x:Int):rdSt s f u x 0=some []:=by cases f<;>simp[rdSt]
theorem rdSt_none {s:List UInt8}{f u k:Nat}{x:Int}(hk:0<k)(hf:k<=f)(h:rdBk (s.drop u) (min 32 k)=none):rdSt s f u x k=none:=by
 obtain⟨f,rfl⟩:∃g,f=g+1:=⟨f-1,by omega⟩
 simp[rdSt,h,show k≠0 by omega]
theorem rdSt_some {s:List UInt8}{f u k z:Nat}{x:Int}{ds:List Int}(hk:0<k)(h:rdBk (s.drop u) (min 32 k)=some (ds,z)):rdSt s (f+1) u x k=(rdSt s f (u+z) (lastOf x ds) (k-min 32 k)).map fun l=>accD x ds++l:=by
 simp[rdSt,h,show k≠0 by omega]
def rdSteps (s:List UInt8)(n:Nat):Option (List Int) :=
 if n=0 then some [] else
  let p:=Um.rdv s 0 0
  if 0<p.2 then (rdSt s n p.2 (unz p.1) (n-1)).map fun l=>unz p.1 :: l else none
theorem rdBk_len {s:List UInt8}{n z:Nat}{ds:List Int}(h:rdBk s n=some (ds,z)):ds.length=n/\z<=s.length/\0<z:=by
 unfold rdBk at h
 simp only at h
 split at h
 · rename_i hc
   injection h with h
   injection h with h1 h2
   subst h1 h2
   exact⟨bkd_len _ _ _ _,hc.2.2.2,by omega⟩
 · cases h
theorem unz_in {m:Nat}(h:m<18446744073709551616):-9223372036854775808<=unz m/\unz m<=9223372036854775807:=by unfold unz;split<;>omega
def kvs (kd:Int)(xs:List Int):List Vl:=xs.map fun x=>⟨kd,x,⟨#[]⟩⟩
theorem kvs_len (kd:Int)(xs:List Int):(kvs kd xs).length=xs.length:=by simp[kvs]
theorem kvs_snoc (kd:Int)(xs:List Int)(x:Int):kvs kd (xs++[x])=kvs kd xs++[⟨kd,x,⟨#[]⟩⟩]:=by simp[kvs]
theorem grow_keep {w w':World}{B e n size g ty:Nat}{v:Value}{xs:List Value}(hown:w.ownsRow B e size v n xs)(ht:Typed g ty w)(hne:ty≠e)(hg:w.grownBy w' v.ownBlock):w'.heap[g]? = w.heap[g]?:=by
 obtain⟨cs,z,hk⟩:=ht
 refine hg.block g (Array.getElem?_eq_some_iff.1 hk).1 (fun h=>?_)
 rcases hown.2 with ⟨rfl,_⟩|⟨g1,_,cur1,rfl,_,hg1,_⟩
 · simp[Value.ownBlock] at h
 · simp[Value.ownBlock] at h
   subst h
   rw[hg1] at hk
   injection hk with hk
   injection hk with _ hk _
   exact hne hk.symm
theorem Lies.heap {w w':World}{g o:Nat}{cs:List Value}(h:w'.heap[g]? = w.heap[g]?)(hl:Lies w (some ⟨g,o,none⟩) cs):Lies w' (some ⟨g,o,none⟩) cs:=fun j hj=>by
 obtain⟨b,o',e,hc⟩:=hl j hj
 refine⟨b,o',e,?_⟩
 injection e with e
 injection e with e1 e2 _
 subst e1
 rw[←hc]
 simp[World.cell?,h]
def RetSt (N:Nat)(o:Option (List Int))(kd:Int)(n:Nat)(ev:Value)(e:Ending)(w':World):Prop :=
 (∃xs a c,o=some xs/\xs.length=n/\(∀x∈xs,-9223372036854775808<=x/\x<=9223372036854775807)/\e=.returned (.tuple #[.slice a n c,.nilIface])/\LiesV w' a (kvs kd xs)/\n<=c/\Fsh N a)\/(o=none/\e=.returned (.tuple #[.slice none 0 0,ev]))
structure SRow (kd:Int) (w:World) (l:Value) (wr:World) (xs:List Int):Prop where
 row:wr.ownsRow w.heap.size 46 3 l xs.length (vcells (kvs kd xs))
 old:Below w.heap.size w wr
theorem SRow.push {kd x:Int}{w:World}{l l':Value}{wr w1:World}{ob:Obj}{xs:List Int}(h:SRow kd w l wr xs)(hown:w1.ownsRow w.heap.size 46 3 l' (xs.length+1) (vcells (kvs kd xs)++[.int .i64 kd,.int .i64 x,.string ⟨#[]⟩]))(hg:(wr.alloc ob).grownBy w1 l.ownBlock):SRow kd w l' w1 (xs++[x]) :=
 ⟨by rw[kvs_snoc,vcells_snoc,List.length_append];exact hown,(h.old.alloc h.old.size ob).grown hg (by have:=h.old.size;simp;omega) (fun k hk=>(h.row.lt k hk).1)⟩
structure SAt (s:List UInt8) (n:Nat) (xs:List Int) (lx:Int) (u f:Nat):Prop where
 ans:rdSteps s n=(rdSt s f u lx (n-xs.length)).map fun l=>xs++l
 fuel:n-xs.length<=f
 ins:∀x∈xs,-9223372036854775808<=x/\x<=9223372036854775807
theorem SAt.fin {s:List UInt8}{n:Nat}{xs:List Int}{lx:Int}{u f:Nat}(h:SAt s n xs lx u f)(hl:xs.length=n):rdSteps s n=some xs:=by
 rw[h.ans,hl,Nat.sub_self,rdSt_zero]
 simp
theorem SAt.bad {s:List UInt8}{n:Nat}{xs:List Int}{lx:Int}{u f:Nat}(h:SAt s n xs lx u f)(hl:xs.length<n)(hb:rdBk (s.drop u) (min 32 (n-xs.length))=none):rdSteps s n=none:=by
 rw[h.ans,rdSt_none (by omega) h.fuel hb]
 rfl
theorem SAt.next {s:List UInt8}{n z:Nat}{xs ds:List Int}{lx:Int}{u f:Nat}(h:SAt s n xs lx u f)(hl:xs.length<n)(hb:rdBk (s.drop u) (min 32 (n-xs.length))=some (ds,z)):SAt s n (xs++accD lx ds) (lastOf lx ds) (u+z) (f-1):=by
 have hd:=(rdBk_len hb).1
 have hf:=h.fuel
 obtain⟨f,rfl⟩:∃g,f=g+1:=⟨f-1,by omega⟩
 refine⟨?_,?_,fun x hx=>?_⟩
 · rw[h.ans,rdSt_some (by omega) hb,List.length_append,accD_len,hd,Nat.add_sub_cancel,Option.map_map,←Nat.sub_sub]
   congr 1
   funext l
   simp
 · rw[List.length_append,accD_len,hd];omega
 · rcases List.mem_append.1 hx with hx|hx
   · exact h.ins x hx
   · exact accD_in _ _ x hx
theorem readSteps_any (kd:Int)(s:ByteArray)(n:Nat)(w:World)(st:TypeId)(sp:Value)(hg:w.cell? ⟨2,0,none⟩=some (.iface st sp))(hs:s.size<=1000000)(hn:n<=20000) :
    Calls Tryz.prog 178 #[.int .i64 kd,.string s,.int .i64 n] w fun e w'=>RetSt w.heap.size (rdSteps s.data.toList n) kd n (.iface st sp) e w'/\Below w.heap.size w w':=by
 obtain⟨iv,hvi,hv0,hv1,hv2⟩:=info_parts Tryz.infoV
 have hm:s.size<=maxLen:=by unfold maxLen;omega
 have HG:Hid _:=hg
 by_cases h0:n=0
 · subst h0
   have HA:Hid (rdSteps s.data.toList 0=some []):=by show _=_;simp[rdSteps]
   go_enter Tryz.func178,Tryz.ntmps178
   go_wp2
   go_ret2
   exact⟨Or.inl ⟨[],none,0,HA.out,rfl,fun x hx=>absurd hx (by simp),rfl,fun j hj=>absurd hj (by simp[kvs]),Nat.le_refl _,fun p e=>by cases e⟩,Below.refl _ _⟩
 · generalize hp:Um.rdv s.data.toList 0 0=p
   obtain⟨m,i⟩:=p
   have HP:Hid (Um.rdv s.data.toList 0 0=(m,i)):=hp
   have hroom:=Um.rdv_room s.data.toList 0 0 (by simp)
   rw[hp] at hroom
   have HM:Hid (m<18446744073709551616):=hroom.1
   have hil:i<=s.size:=by have:=hroom.2.2;simpa using this
   have HRS:Hid (rdSteps s.data.toList n=if 0<i then (rdSt s.data.toList n i (unz m) (n-1)).map (fun l=>unz m :: l) else none):=by
    show _=_
    unfold rdSteps
    rw[if_neg h0]
    simp only[hp]
   clear hp hroom
   have hn0:((n:Int) == 0)=false:=by simp;omega
   by_cases hi:0<i
   · have HS1 : Hid (SAt s.data.toList n [unz m] (unz m) i n) := by
       refine⟨?_,by omega,fun x hx=>?_⟩
       · rw[HRS.out,if_pos hi];rfl
       · rw[List.mem_singleton.1 hx];exact unz_in HM.out
     obtain⟨M,hM⟩:∃M,M=madeCells (Value.agg #[.int .i64 0,.int .i64 0,.string ⟨#[]⟩]).cells (((n:Nat):Int).toNat*iv.size):=⟨_,rfl⟩
     have hMs:M.size=n*3:=by rw[hM,size_madeCells,hv1];simp
     have hmk:∀W:World,(Instr.makeSlice 25 (.int .i64 0) (.int .i64 (n:Int))).run Tryz.prog W=.ok (.slice (some ⟨W.heap.size,0,none⟩) 0 n) (W.alloc (.cells M 46)):=fun W=>by
      have h:=run_make (P:=Tryz.prog) W 25 46 iv (.agg #[.int .i64 0,.int .i64 0,.string ⟨#[]⟩]) Tryz.underlying25 hvi hv0 .i64 .i64 (0:Int) (n:Int) (by omega) (by omega) (by rw[hv2];omega) (by omega)
      rw[←hM] at h
      simpa using h
     go_enter Tryz.func178,Tryz.ntmps178
     go_wp2_with fail
     refine (readV_hit s _ _ m i hm HG.out HP.out hi).mono ?_
     rintro e w1 ⟨rfl,hb1⟩
     have hg1:=(hb1.cell (World.block_lt_of_cell? w _ HG.out)).trans HG.out
     have HR0:Hid (SRow kd w (.slice (some ⟨w1.heap.size,0,none⟩) 0 n) (w1.alloc (.cells M 46)) []):=by
      refine⟨⟨rfl,Or.inr ⟨w1.heap.size,n,M,rfl,hb1.size,heap_alloc_new w1 _,Nat.zero_le _,by unfold maxLen;omega,hMs,rfl⟩⟩,hb1.alloc hb1.size _⟩
     clear hM hMs
     generalize unz m=z at *
     have h3:∀j u,[Value.int .i64 kd,.int .i64 z,.string ⟨#[]⟩][j]? = some u->((w1.alloc (.cells M 46)).alloc (.cells #[.int .i64 kd,.int .i64 z,.string ⟨#[]⟩] 46)).cell? ((⟨w1.heap.size+1,0,none⟩:Addr).add j)=some u:=fun j u h=>by
      have:=three_cells (w:=w1.alloc (.cells M 46)) (T:=46) j u h
      rwa [show (w1.alloc (.cells M 46)).heap.size=w1.heap.size+1 by simp] at this
     go_wp2_with (at_builtin;refine wpList_append_own _ rfl _ _ 25 rfl w.heap.size 46 iv (.agg #[.int .i64 0,.int .i64 0,.string ⟨#[]⟩]) 3 32 Tryz.underlying25 hvi hv0 hv1 hv2 rfl (by decide) _ 0 (vcells (kvs kd [])) rfl (HR0.out.row.alloc _) ⟨_,0,none⟩ 1 1 [.int .i64 kd,.int .i64 z,.string ⟨#[]⟩] rfl rfl h3 (by intro u hu;simp at hu;rcases hu with rfl|rfl|rfl<;>rfl) (by unfold maxLen;omega) (by omega) (by have:=HR0.out.old.size;simp at this ⊢;omega) ?_;intro v1 w2 hown1 hgrow1 _;have HR1:Hid _:=HR0.out.push hown1 hgrow1)
     clear HR0 hmk h3
     have hb2:=HR1.out.old
     go_loopw [8,9,11] (fun x u l wr=>∃(xs:List Int) (lx:Int) (uz f:Nat),x=.int .i64 lx/\u=.int .i64 (uz:Nat)/\uz<=s.size/\xs.length<=n/\Hid (SRow kd w l wr xs)/\Hid (SAt s.data.toList n xs lx uz f)) (fun _ _ l _=>n-slLen l)
     case atStart=>exact⟨[z],z,i,n,rfl,rfl,hil,by simp;omega,HR1,HS1⟩
     case round =>
      clear HR1 HS1 hb2
      obtain⟨xs,lx,uz,f,rfl,rfl,huz,hxn,HR,HA⟩:=hrel
      have hb:=HR.out.old
      obtain⟨a2,c2,rfl,hl2⟩:=liesV_own HR.out.row
      have HCp:Hid _:=own_capS HR.out.row _ _ _ rfl
      rw[kvs_len] at *
      by_cases hlt:xs.length<n
      · have hgr:=(hb.cell (World.block_lt_of_cell? w _ HG.out)).trans HG.out
        obtain⟨p,HPn⟩:∃p,Hid (p=min 32 (n-xs.length)):=⟨_,rfl⟩
        have hpi:min 32 ((n:Int)-(xs.length:Int))=(p:Int):=by rw[HPn.out];omega
        have hp32:p<=32:=by rw[HPn.out];omega
        have hpn:xs.length+p<=n/\0<p:=by rw[HPn.out];omega
        have hxz:(s.extract uz s.size).size=s.size-uz:=by rw[ByteArray.size_extract];omega
        have HX:Hid ((s.extract uz s.size).data.toList=s.data.toList.drop uz):=drop_ext s uz
        go_wp2_with fail
        refine (readBlock_any (s.extract uz s.size) p wr st sp hgr (by omega) hp32).mono ?_
        rw[HX.out]
        rintro e w3 ⟨⟨ds,k,g,ho,rfl,hl3,hT3⟩|⟨ho,rfl⟩,hb3⟩
        · have hdl:=rdBk_len ho
          have hkz:uz+k<=s.size:=by have:=hdl.2.1;rw[List.length_drop,Array.length_toList] at this;have h2:s.data.size=s.size:=rfl;omega
          have hdp:ds.length=p:=hdl.1
          have HA2:Hid (SAt s.data.toList n (xs++accD lx ds) (lastOf lx ds) (uz+k) (f-1)):=HA.out.next hlt (by rw[←HPn.out];exact ho)
          have HR3:Hid (SRow kd w (.slice a2 xs.length c2) w3 (xs++accD lx (ds.take 0))):=by
           show SRow _ _ _ _ _
           rw[show xs++accD lx (ds.take 0)=xs by simp[accD]]
           exact⟨ow_kept HR.out.row hb3,hb.trans (hb3.mono hb.size)⟩
          have HL3:Hid _:=hl3
          have HT3:Hid _:=hT3
          clear ho hl3 hT3 hdl HA HR hl2
          go_wp2
          go_loopw [8,11,58] (fun x l j wq=>∃q:Nat,q<=p/\j=.int .i64 q/\x=.int .i64 (lastOf lx (ds.take q))/\Hid (SRow kd w l wq (xs++accD lx (ds.take q)))/\Hid (Lies wq (some ⟨g,0,none⟩) (i64s ds))/\Hid (Typed g 2 wq)) (fun _ _ j _=>p-(intOf j).toNat)
          case atStart=>exact⟨0,Nat.zero_le _,rfl,by simp[lastOf],HR3,HL3,HT3⟩
          case round =>
           clear HR3 HL3 HT3
           obtain⟨q,hqp,rfl,rfl,HRq,HLq,HTq⟩:=hrel
           by_cases hq:q<p
           · obtain⟨b',o',e',hc⟩:=HLq.out q (by rw[i64s_len];omega)
             obtain⟨rfl,rfl⟩:g=b'/\0=o':=by simpa using e'
             clear e'
             have hqd:q<ds.length:=by omega
             have HTK:Hid (ds.take (q+1)=ds.take q++[ds[q]]):=List.take_succ_eq_append_getElem hqd
             rw[Nat.zero_add] at hc
             simp only[i64s,List.getElem_map] at hc
             generalize ds[q]=d at *
             have HY1:Hid (lastOf lx (ds.take (q+1))=wrap64 (lastOf lx (ds.take q)+d)):=by show _=_;rw[HTK.out,lastOf_app];rfl
             have HY2:Hid (xs++accD lx (ds.take (q+1))=xs++accD lx (ds.take q)++[wrap64 (lastOf lx (ds.take q)+d)]):=by show _=_;rw[HTK.out,accD_app,List.append_assoc];rfl
             have hql:(xs++accD lx (ds.take q)).length<=20000:=by rw[List.length_append,accD_len,List.length_take];omega
             generalize lastOf lx (ds.take q)=y at *
             generalize xs++accD lx (ds.take q)=ys at *
             go_wp2_with (at_builtin;refine wpList_append_own _ rfl _ _ 25 rfl w.heap.size 46 iv (.agg #[.int .i64 0,.int .i64 0,.string ⟨#[]⟩]) 3 32 Tryz.underlying25 hvi hv0 hv1 hv2 rfl (by decide) _ ys.length (vcells (kvs kd ys)) rfl (HRq.out.row.alloc _) ⟨_,0,none⟩ 1 1 [.int .i64 kd,.int .i64 (wrap64 (y+d)),.string ⟨#[]⟩] rfl rfl three_cells (by intro u hu;simp at hu;rcases hu with rfl|rfl|rfl<;>rfl) (by unfold maxLen;omega) (by omega) (by have:=HRq.out.old.size;simp at this ⊢;omega) ?_;intro v1 w4 hown1 hgrow1 _;have HR4:Hid _:=HRq.out.push hown1 hgrow1;have hkp:=grow_keep (HRq.out.row.alloc _) (HTq.out.keep ((Below.refl _ _).alloc (Nat.le_refl _) _)) (by decide) hgrow1)
             go_roundw
             case rel =>
              refine⟨q+1,by omega,by go_num,by rw[HY1.out],?_,Lies.heap hkp (HLq.out.keep ((Below.refl _ _).alloc (Nat.le_refl _) _)),?_⟩
              · rw[HY2.out];exact HR4
              · obtain⟨cs,zz,hh⟩:=HTq.out.keep ((Below.refl _ _).alloc (Nat.le_refl _) _)
                exact⟨cs,zz,hkp.trans hh⟩
             case measure=>simp[intOf];omega
           · obtain rfl:q=p:=by omega
             have HRf:Hid (SRow kd w u11 wr (xs++accD lx ds)):=by
              show SRow _ _ _ _ _
              rw[←List.take_of_length_le (show ds.length<=q by omega)]
              exact HRq.out
             obtain⟨a3,c3,rfl,hl3⟩:=liesV_own HRf.out.row
             have hLf:(xs++accD lx ds).length=xs.length+q:=by rw[List.length_append,accD_len,hdp]
             clear hl3 HRq
             rw[kvs_len] at *
             have htk:ds.take q=ds:=List.take_of_length_le (by omega)
             rw[htk]
             go_wp2
             go_roundw
             case rel=>exact⟨xs++accD lx ds,lastOf lx ds,uz+k,f-1,rfl,by go_num,hkz,by omega,HRf,HA2⟩
             case measure=>simp only[slLen,hLf];omega
        · have HNo:Hid (rdSteps s.data.toList n=none):=HA.out.bad hlt (by rw[←HPn.out];exact ho)
          go_wp2
          go_ret2
          exact⟨Or.inr ⟨HNo.out,rfl⟩,hb.trans (hb3.mono hb.size)⟩
      · obtain rfl:xs.length=n:=by omega
        have HFin:Hid _:=HA.out.fin rfl
        have HIn:Hid _:=HA.out.ins
        have HLx:Hid _:=hl2
        clear hl2 HA
        go_wp2
        go_ret2
        exact⟨Or.inl ⟨xs,a2,c2,HFin.out,rfl,HIn.out,rfl,HLx.out,HCp.out.1,HCp.out.2⟩,hb⟩
   · obtain rfl:i=0:=by omega
     have HNo:Hid (rdSteps s.data.toList n=none):=by show _=_;rw[HRS.out,if_neg hi]
     have HP0:Hid (Um.rdv s.data.toList 0 0=(0,0)):=by
      show _=_
      rw[HP.out,Um.rdv_zero HP.out]
     go_enter Tryz.func178,Tryz.ntmps178
     go_wp2_with fail
     refine (readV_miss s _ st sp hm HG.out HP0.out).mono ?_
     rintro e w1 ⟨rfl,hb1⟩
     go_wp2
     go_ret2
     exact⟨Or.inr ⟨HNo.out,rfl⟩,hb1⟩
def IsDl (kd:Int)(s:List UInt8)(n:Nat)(vs:List Vl):Prop:=∃xs,rdSteps s n=some xs/\xs.length=n/\vs=kvs kd xs/\(∀x∈xs,-9223372036854775808<=x/\x<=9223372036854775807)/\(∀j (h:j<vs.length),vs[j].Ok kd)/\deltaB vs=s
theorem bytes_back (s:ByteArray)(l:List UInt8)(h:(⟨l.toArray⟩:ByteArray)=s):l=s.data.toList:=by
 subst h
 simp
theorem bytes_to (s:ByteArray)(l:List UInt8)(h:l=s.data.toList):(⟨l.toArray⟩:ByteArray)=s:=by
 subst h
 rfl
theorem readDelta_c (kd:Int)(s:ByteArray)(n:Nat)(w:World)(st kt:TypeId)(sp kp:Value)(hg:w.cell? ⟨2,0,none⟩=some (.iface st sp))(hgk:w.cell? ⟨3,0,none⟩=some (.iface kt kp))(hs:s.size<=1000000)(hn:n<=20000)(hk:kd=2\/kd=3) :
    Calls Tryz.prog 167 #[.int .i64 kd,.string s,.int .i64 n] w fun e w'=>RetRdC w.heap.size (IsDl kd s.data.toList n) n (.iface st sp) e w'/\Below w.heap.size w w':=by
 have HG:Hid _:=hg
 have HGK:Hid _:=hgk
 have HK:Hid (kd=2\/kd=3):=hk
 have hd:decide (kd=2\/kd=3)=true:=by simp[hk]
 have hk1:1<=kd/\kd<=5:=by omega
 clear hg hgk hk
 go_enter Tryz.func167,Tryz.ntmps167
 go_wp2_with fail
 refine (checkCount_fine kd n w hk1.1 hk1.2 (by omega) (by omega)).mono ?_
 rintro e w1 ⟨rfl,hw⟩
 obtain rfl:=hw.symm
 go_wp2_with fail
 refine (hasDelta_any kd _).mono ?_
 rw[hd]
 rintro e w2 ⟨rfl,hw⟩
 obtain rfl:=hw.symm
 go_wp2_with fail
 refine (readSteps_any kd s n w st sp HG.out hs hn).mono ?_
 rintro e w1 ⟨⟨xs,a,c,ho,hxl,hin,rfl,hl⟩|⟨ho,rfl⟩,hb1⟩
 · have hgk1:=(hb1.cell (World.block_lt_of_cell? w _ HGK.out)).trans HGK.out
   have hg1:=(hb1.cell (World.block_lt_of_cell? w _ HG.out)).trans HG.out
   have HG1:Hid _:=hg1
   have HL1:Hid (LiesV w1 a (kvs kd xs)):=hl.1
   have HLc:Hid (n<=c/\Fsh w.heap.size a):=hl.2
   have hvl:(kvs kd xs).length=n:=by rw[kvs_len,hxl]
   have HX1:Hid (∀j (h:j<(kvs kd xs).length),-9223372036854775808<=(kvs kd xs)[j].n/\(kvs kd xs)[j].n<=9223372036854775807):=fun j h=>by
    simp only[kvs,List.getElem_map]
    exact hin _ (List.getElem_mem _)
   have HO:Hid (rdSteps s.data.toList n=some xs):=ho
   have HI:Hid (xs.length=n/\∀x∈xs,-9223372036854775808<=x/\x<=9223372036854775807):=⟨hxl,hin⟩
   have HGK1:Hid _:=hgk1
   clear hg1 hl hin ho hxl hgk1
   by_cases hok:∀j (h:j<(kvs kd xs).length),(kvs kd xs)[j].Ok kd
   · have hdr:=delta_right a (kvs kd xs) c kd w1 kt kp HGK1.out (by omega) HK.out HL1.out hok HX1.out
     rw[hvl] at hdr
     have HOK:Hid _:=hok
     clear hok
     go_wp2_with fail
     refine hdr.mono ?_
     clear hdr
     rintro e w2 ⟨rfl,hb2⟩
     have hb12:=hb1.trans (hb2.mono hb1.size)
     have hg2:=(hb2.cell (World.block_lt_of_cell? w1 _ HG1.out)).trans HG1.out
     by_cases hq:(⟨(deltaB (kvs kd xs)).toArray⟩:ByteArray)=s
     · have HI2:Hid (IsDl kd s.data.toList n (kvs kd xs)):=⟨xs,HO.out,HI.out.1,rfl,HI.out.2,HOK.out,bytes_back s _ hq⟩
       rw[hq]
       clear hq
       have HL2:Hid _:=LiesV.keep HL1.out hb2
       go_wp2
       go_ret2
       exact⟨Or.inl ⟨_,a,c,HI2.out,rfl,HL2.out,HLc.out⟩,hb12⟩
     · have HI2 : Hid (¬ ∃ vs, IsDl kd s.data.toList n vs) := fun ⟨vs, ys, h1, h2, h3, h4, h5, h6⟩ => by
         rw[HO.out] at h1
         injection h1 with h1
         subst h1 h3
         exact hq (bytes_to s _ h6)
       have hq2:((⟨(deltaB (kvs kd xs)).toArray⟩:ByteArray).toList == s.toList)=false:=by simp only[beq_eq_false_iff_ne,ne_eq];exact fun h=>hq (str_ext h)
       clear hq
       generalize (⟨(deltaB (kvs kd xs)).toArray⟩:ByteArray)=t at *
       go_wp2
       go_quiet (fail)
       go_wp2
       go_ret2
       exact⟨Or.inr ⟨HI2.out,rfl⟩,dN hb12 _⟩
   · have hdf : Calls Tryz.prog 104 #[.int .i64 kd, .slice a n c] w1 fun e w' => (∃ p, e = .returned (.tuple #[.string ⟨#[]⟩, .iface 83 (.pointer (some ⟨p, 0, none⟩))])) ∧ Below w1.heap.size w1 w' := by
       rw[←hvl]
       refine (delta_fault a (kvs kd xs) c kd w1 kt kp HGK1.out (by omega) hk1 HL1.out hok).mono ?_
       rintro e w2 ⟨⟨i,p,hi,rfl,_,_,_,_⟩,hb2⟩
       exact⟨⟨p,rfl⟩,hb2⟩
     have HI2:Hid (¬ ∃vs,IsDl kd s.data.toList n vs):=fun ⟨vs,ys,h1,h2,h3,h4,h5,h6⟩=>by
      rw[HO.out] at h1
      injection h1 with h1
      subst h1 h3
      exact hok h5
     clear hok
     go_wp2_with fail
     refine hdf.mono ?_
     clear hdf
     rintro e w2 ⟨⟨p,rfl⟩,hb2⟩
     have hb12:=hb1.trans (hb2.mono hb1.size)
     have hg2:=(hb2.cell (World.block_lt_of_cell? w1 _ HG1.out)).trans HG1.out
     go_wp2
     go_quiet (fail)
     go_wp2
     go_ret2
     exact⟨Or.inr ⟨HI2.out,rfl⟩,dN hb12 _⟩
 · have HI2 : Hid (¬ ∃ vs, IsDl kd s.data.toList n vs) := fun ⟨vs, ys, h1, _⟩ => by
     rw[ho] at h1
     cases h1
   clear ho
   go_wp2
   go_ret2
   exact⟨Or.inr ⟨HI2.out,rfl⟩,hb1⟩
theorem bt_nat (x:Nat)(h:x<256):(Um.bt (x:Int)).toNat=x:=by
 unfold Um.bt
 simp
 omega
theorem rdBk_blk (ds:List Int)(r:List UInt8)(h0:0<ds.length)(hx:∀d∈ds,-9223372036854775808<=d/\d<=9223372036854775807):rdBk (blkB ds++r) ds.length=some (ds,(blkB ds).length):=by
 have hlo:=hx _ (lows_in h0)
 obtain⟨ha1,ha2⟩:=abv_lt hx h0
 have hv:=Um.rdv_whole (zig (lows ds)) (Um.bt (wdt ds:Nat) :: Um.lit (Um.num (wdt ds) (abv ds)) ((ds.length*wdt ds+7) / 8)++r) (zig_lt hlo.1 hlo.2)
 have he:blkB ds++r=Um.uv (zig (lows ds))++(Um.bt (wdt ds:Nat) :: Um.lit (Um.num (wdt ds) (abv ds)) ((ds.length*wdt ds+7) / 8)++r):=by
  unfold blkB
  rw[List.append_assoc]
 have hp:0<(Um.uv (zig (lows ds))).length:=Um.uv_pos _
 have hgd:((blkB ds++r).getD (Um.uv (zig (lows ds))).length 0).toNat=wdt ds:=by
  rw[he,List.getD_eq_getElem?_getD,List.getElem?_append_right (Nat.le_refl _),Nat.sub_self]
  exact bt_nat _ (by omega)
 have hl:(blkB ds).length=(Um.uv (zig (lows ds))).length+1+(ds.length*wdt ds+7) / 8:=by
  unfold blkB
  rw[List.length_append,List.length_cons,Um.lit_len]
  omega
 have hdr:((blkB ds++r).drop ((Um.uv (zig (lows ds))).length+1)).take ((ds.length*wdt ds+7) / 8)=Um.lit (Um.num (wdt ds) (abv ds)) ((ds.length*wdt ds+7) / 8):=by
  rw[he,←List.drop_drop,List.drop_left]
  simp only[List.cons_append,List.drop_succ_cons,List.drop_zero]
  exact List.take_left' (Um.lit_len _ _)
 unfold rdBk
 simp only
 rw[show Um.rdv (blkB ds++r) 0 0=(zig (lows ds),(Um.uv (zig (lows ds))).length) by rw[he];exact hv]
 simp only
 rw[hgd,if_pos ⟨hp,by rw[List.length_append,hl];omega,ha2,by rw[List.length_append,hl];omega⟩,hdr,hl,unz_zig]
 have hu:unw (Um.lit (Um.num (wdt ds) (abv ds)) ((ds.length*wdt ds+7) / 8)) (wdt ds) ds.length=abv ds:=by
  have h:=Um.unp_packed (wdt ds) (abv ds) ((ds.length*wdt ds+7) / 8) [] ha1 (by rw[abv_len,Nat.mul_comm];omega)
  rw[List.append_nil,abv_len] at h
  exact h
 have hb:bkd (lows ds) (Um.lit (Um.num (wdt ds) (abv ds)) ((ds.length*wdt ds+7) / 8)) (wdt ds) ds.length=ds:=by
  unfold bkd
  rw[hu]
  unfold abv
  rw[List.map_map]
  refine (List.map_congr_left (fun d hd=>?_)).trans (List.map_id _)
  have h1:=lows_le hd
  have h2:=hx d hd
  simp only[Function.comp_apply,id_eq]
  unfold wrap64
  omega
 rw[hb]
def blks:Nat->List Int->List UInt8
 | 0,_=>[]
 | m+1,es=>blkB (es.take 32)++blks m (es.drop 32)
theorem stepsB_blks:∀(m:Nat) (ds:List Int),stepsB ds m=blks m ds
 | 0,_=>rfl
 | m+1,ds=>by
  have ih:=stepsB_blks m (ds.drop 32)
  unfold blks
  rw[←ih]
  unfold stepsB
  rw[List.range_succ_eq_map,List.flatMap_cons,List.flatMap_map]
  congr 1
  refine congrArg (fun f=>(List.range m).flatMap f) (funext fun j=>?_)
  unfold stepB
  rw[List.drop_drop]
  congr 3
  omega
theorem rdSt_blks (s:List UInt8):∀(m:Nat) (es:List Int) (f u:Nat) (x:Int),s.drop u=blks m es->es.length<=32*m->32*m<es.length+32->es.length<=f->(∀d∈es,-9223372036854775808<=d/\d<=9223372036854775807)->rdSt s f u x es.length=some (accD x es)
 | 0,es,f,u,x,_,h1,_,_,_=>by
  obtain rfl:es=[]:=List.eq_nil_of_length_eq_zero (by omega)
  exact rdSt_zero s f u x
 | m+1,es,f,u,x,hs,h1,h2,hf,hx=>by
  obtain⟨f,rfl⟩:∃g,f=g+1:=⟨f-1,by omega⟩
  have htl:(es.take 32).length=min 32 es.length:=List.length_take
  have hb:=rdBk_blk (es.take 32) (blks m (es.drop 32)) (by omega) (fun d hd=>hx d (List.mem_of_mem_take hd))
  rw[htl] at hb
  have hs2:s.drop u=blkB (es.take 32)++blks m (es.drop 32):=hs
  have hb2:rdBk (s.drop u) (min 32 es.length)=some (es.take 32,(blkB (es.take 32)).length):=by rw[hs2];exact hb
  have ih:=rdSt_blks s m (es.drop 32) f (u+(blkB (es.take 32)).length) (lastOf x (es.take 32)) (by rw[←List.drop_drop,hs2,List.drop_left]) (by rw[List.length_drop];omega) (by rw[List.length_drop];omega) (by rw[List.length_drop];omega) (fun d hd=>hx d (List.mem_of_mem_drop hd))
  rw[rdSt_some (by omega) hb2]
  rw[show es.length-min 32 es.length=(es.drop 32).length by rw[List.length_drop];omega,ih]
  show some (accD x (es.take 32)++accD (lastOf x (es.take 32)) (es.drop 32))=_
  rw[←accD_app,List.take_append_drop]
theorem accD_difs:∀(xs:List Int) (x:Int),(∀y∈x :: xs,-9223372036854775808<=y/\y<=9223372036854775807)->accD x ((List.range xs.length).map fun j=>wrap64 ((x :: xs).getD (j+1) 0-(x :: xs).getD j 0))=xs
 | [],x,_=>rfl
 | y :: xs,x,h=>by
  have hx:=h x (by simp)
  have hy:=h y (by simp)
  rw[List.length_cons,List.range_succ_eq_map,List.map_cons,List.map_map]
  unfold accD
  have e:wrap64 (x+wrap64 ((x :: y :: xs).getD (0+1) 0-(x :: y :: xs).getD 0 0))=y:=by
   simp only[List.getD_cons_succ,List.getD_cons_zero,Nat.zero_add]
   unfold wrap64
   omega
  rw[e]
  congr 1
  exact accD_difs xs y (fun z hz=>h z (by simp only[List.mem_cons] at hz ⊢;exact Or.inr hz))
theorem isDl_delta {kd:Int}{vs:List Vl}(hk:kd=2\/kd=3)(hr:Right kd vs):IsDl kd (deltaB vs) vs.length vs:=by
 have hkv:vs=kvs kd (vs.map (·.n)):=by
  unfold kvs
  rw[List.map_map]
  refine ((List.map_congr_left (fun v hv=>?_)).trans (List.map_id _)).symm
  have ho:=(hr.2 v hv).1
  unfold Vl.Ok OkV at ho
  obtain⟨k,n,s⟩:=v
  simp only[Function.comp_apply,id_eq] at ho ⊢
  have h0:s=⟨#[]⟩:=by
   have hz:s.size=0:=by omega
   exact ByteArray.ext (Array.eq_empty_of_size_eq_zero hz)
  rw[ho.1,h0]
 have hin:∀x∈vs.map (·.n),-9223372036854775808<=x/\x<=9223372036854775807:=fun x hx=>by
  obtain⟨v,hv,rfl⟩:=List.mem_map.1 hx
  exact (hr.2 v hv).2.2.1
 refine⟨vs.map (·.n),?_,by simp,hkv,hin,fun j h=>(hr.2 _ (List.getElem_mem h)).1,rfl⟩
 unfold rdSteps
 by_cases h0:vs.length=0
 · rw[if_pos h0,List.eq_nil_of_length_eq_zero h0];rfl
 · rw[if_neg h0]
   obtain⟨v,us,rfl⟩:∃v us,vs=v :: us:=by
    cases vs with
    | nil=>exact absurd rfl h0
    | cons v us=>exact⟨v,us,rfl⟩
   have hv:=hin v.n (by simp)
   have hd:deltaB (v :: us)=Um.uv (zig v.n)++blks ((us.length+31) / 32) (difs (v :: us)):=by
    rw[←stepsB_blks]
    unfold deltaB
    rw[if_neg h0]
    simp[vns]
   have hvr:=Um.rdv_whole (zig v.n) (blks ((us.length+31) / 32) (difs (v :: us))) (zig_lt hv.1 hv.2)
   have hlen:(difs (v :: us)).length=us.length:=by rw[difs_len];simp
   simp only
   rw[hd,hvr]
   simp only
   rw[if_pos (Um.uv_pos _),unz_zig,List.length_cons,Nat.add_sub_cancel]
   have hm:=rdSt_blks (Um.uv (zig v.n)++blks ((us.length+31) / 32) (difs (v :: us))) ((us.length+31) / 32) (difs (v :: us)) (us.length+1) (Um.uv (zig v.n)).length v.n List.drop_left (by omega) (by omega) (by omega) difs_ok
   rw[hlen] at hm
   rw[hm]
   have ha:=accD_difs (us.map (·.n)) v.n (fun y hy=>hin y (by simpa using hy))
   have hdf:difs (v :: us)=(List.range (us.map (·.n)).length).map fun j=>wrap64 ((v.n :: us.map (·.n)).getD (j+1) 0-(v.n :: us.map (·.n)).getD j 0):=by
    unfold difs dif vns
    simp
   rw[hdf,ha]
   rfl
end Go.Proofs.YtoeiahdjamkdgaaGreatDoor
