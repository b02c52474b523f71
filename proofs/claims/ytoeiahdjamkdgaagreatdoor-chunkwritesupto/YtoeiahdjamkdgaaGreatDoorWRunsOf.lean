/-
  The reference's RunsOf: the bytes of right numbers as runs.
-/
import Derived.Test.YtoeiahdjamkdgaaGreatDoorWBPack
import Derived.Deep.RegionLaw
set_option maxRecDepth 100000
set_option maxHeartbeats 4000000
namespace Go.Proofs.YtoeiahdjamkdgaaGreatDoor
open Go.RowKit
set_option linter.unusedVariables false
def padL (xs:List Int)(i k:Nat):List Int:=(xs.drop i++List.replicate 8 0).take k
theorem padL_len (xs:List Int)(i k:Nat)(h:k<=8):(padL xs i k).length=k:=by simp[padL];omega
theorem padL_in {xs:List Int}{i k:Nat}(h:i+k<xs.length)(hk:k<8):padL xs i (k+1)=padL xs i k++[xs[i+k]]:=by
 unfold padL
 rw[List.take_succ_eq_append_getElem (by simp;omega),List.getElem_append_left (by simp;omega),List.getElem_drop]
theorem padL_out {xs:List Int}{i k:Nat}(h:¬ i+k<xs.length)(hk:k<8)(hi:i<=xs.length):padL xs i (k+1)=padL xs i k++[0]:=by
 unfold padL
 rw[List.take_succ_eq_append_getElem (by simp;omega),List.getElem_append_right (by simp;omega),List.getElem_replicate]
theorem padL_eight (xs:List Int)(i:Nat):padL xs i 8=(xs.drop i).take 8++List.replicate (8-(xs.length-i)) 0:=by
 unfold padL
 rw[List.take_append,List.take_replicate,List.length_drop,Nat.min_eq_left (by omega)]
theorem num_zeros (w:Nat)(l:List Nat)(k:Nat):Um.num w (l++List.replicate k 0)=Um.num w l:=by
 induction k with
 | zero=>simp
 | succ k ih=>rw[List.replicate_succ',←List.append_assoc,Um.num_snoc,ih];simp
theorem pad_num (w:Nat)(p xs:List Int)(i:Nat):Um.num w (nats (p++padL xs i 8))=Um.num w (nats (p++(xs.drop i).take 8)):=by
 rw[padL_eight,←List.append_assoc]
 have e:nats (p++(xs.drop i).take 8++List.replicate (8-(xs.length-i)) 0)=nats (p++(xs.drop i).take 8)++List.replicate (8-(xs.length-i)) 0:=by simp[nats]
 rw[e,num_zeros]
theorem flush_full {w:Nat}{p:List Int}(hp:0<p.length)(h8:p.length % 8=0):Um.flush w p=Um.uv (p.length / 8*2+1)++Um.lit (Um.num w (nats p)) ((w*p.length+7) / 8):=by
 unfold Um.flush
 rw[if_neg (by omega)]
 obtain⟨g,hg⟩:∃g,p.length=8*g:=⟨p.length / 8,by omega⟩
 have e1:(8*g+7) / 8=g:=by omega
 have e2:(w*(8*g)+7) / 8=g*w:=by rw[Nat.mul_left_comm,Nat.mul_comm w g];omega
 rw[hg,e1,e2]
 congr 2
 omega
theorem flush_pad {w:Nat}{p xs:List Int}{i:Nat}(h8:p.length % 8=0)(hi:i<xs.length):Um.flush w (p++(xs.drop i).take 8)=Um.uv ((p++padL xs i 8).length / 8*2+1)++Um.lit (Um.num w (nats (p++padL xs i 8))) ((w*(p++padL xs i 8).length+7) / 8):=by
 unfold Um.flush
 have hl:(p++(xs.drop i).take 8).length=p.length+min 8 (xs.length-i):=by simp
 have hl2:(p++padL xs i 8).length=p.length+8:=by rw[List.length_append,padL_len _ _ _ (Nat.le_refl _)]
 rw[if_neg (by omega),pad_num,hl2,hl]
 obtain⟨g,hg⟩:∃g,p.length+8=8*g:=⟨(p.length+8) / 8,by omega⟩
 have e0:(p.length+min 8 (xs.length-i)+7) / 8=g:=by omega
 have e2:(w*(8*g)+7) / 8=g*w:=by rw[Nat.mul_left_comm,Nat.mul_comm w g];omega
 rw[e0,hg,e2]
 congr 2
 omega
theorem str_cat (l m:List UInt8):(⟨l.toArray⟩:ByteArray)++⟨m.toArray⟩=⟨(l++m).toArray⟩:=by
 apply ByteArray.ext
 simp[ByteArray.data_append]
theorem cat_go (l m:List UInt8)(h:l.length+m.length<=100000000)(W:World):(Op.stringOp .add ⟨l.toArray⟩ ⟨m.toArray⟩).run Tryz.prog W=.ok (.string ⟨(l++m).toArray⟩) W:=by
 rw[run_string_add_sum,str_cat]
 show l.toArray.size+m.toArray.size<=_
 simp only[List.size_toArray]
 omega
theorem own_stay {w w':World}{base e size n:Nat}{v:Value}{xs:List Value}(h:w.ownsRow base e size v n xs)(hb:Below w.heap.size w w'):w'.ownsRow base e size v n xs:=by
 refine⟨h.1,?_⟩
 rcases h.2 with hn|⟨g,cap,cur,rfl,hbg,hgg,rest⟩
 · exact .inl hn
 · exact .inr ⟨g,cap,cur,rfl,hbg,(hb.block g (Array.getElem?_eq_some_iff.1 hgg).1).trans hgg,rest⟩
theorem i64s_snoc (l:List Int)(x:Int):i64s (l++[x])=i64s l++[.int .i64 x]:=by simp[i64s]
theorem shl_le (wd:Nat)(h:wd<=32):(2:Int) ^ wd<=4294967296:=by
 have h1:=Nat.pow_le_pow_right (n:=2) (by omega) h
 have e:((2 ^ wd:Nat):Int)=(2:Int) ^ wd:=by simp
 have h32:(2:Nat) ^ 32=4294967296:=by decide
 rw[←e]
 omega
theorem wrap_eights (wd:Nat)(h:wd<=32):IntKind.i64.wrap ((IntKind.i64.wrap ((wd:Int)+7)).tdiv 8)=(((wd+7) / 8:Nat):Int):=by
 have e:IntKind.i64.wrap ((wd:Int)+7)=(wd:Int)+7:=by rw[IntKind.wrap_i64];omega
 rw[e,Int.tdiv_eq_ediv_of_nonneg (by omega),IntKind.wrap_i64]
 omega
theorem wrap_even (c:Nat)(h:c<=100000):IntKind.u64.wrap (IntKind.i64.wrap (2*(c:Int)))=((2*c:Nat):Int):=by
 have e:IntKind.i64.wrap (2*(c:Int))=2*(c:Int):=by rw[IntKind.wrap_i64];omega
 rw[e,IntKind.wrap_u64]
 omega
theorem room_app {wd:Nat}{p q:List Int}(hp:∀j (h:j<p.length),Room wd p[j])(hq:∀j (h:j<q.length),Room wd q[j]):∀j (h:j<(p++q).length),Room wd (p++q)[j]:=by
 intro j h
 rw[List.getElem_append]
 split
 · exact hp _ _
 · exact hq _ _
theorem room_pad {wd:Nat}{xs:List Int}{i:Nat}(hr:∀j (h:j<xs.length),Room wd xs[j]):∀j (h:j<(padL xs i 8).length),Room wd (padL xs i 8)[j]:=by
 intro j h
 have h':j<((xs.drop i++List.replicate 8 0).take 8).length:=h
 show Room wd (((xs.drop i++List.replicate 8 0).take 8)[j]'h')
 rw[List.getElem_take,List.getElem_append]
 split
 · rw[List.getElem_drop];exact hr _ _
 · rw[List.getElem_replicate]
   exact⟨Int.le_refl _,Int.pow_pos (by omega)⟩
structure RF (xs:List Int) (wd:Nat) (w:World) (o v x:Value) (wq:World) (bs:List UInt8) (p:List Int) (i:Nat):Prop where
 ho:o=.string ⟨bs.toArray⟩
 hx:x=.int .i64 i
 own:wq.ownsRow w.heap.size 3 1 v p.length (i64s p)
 tot:bs++Um.wrs wd p (xs.drop i)=Um.wrs wd [] xs
 full:p.length % 8=0
 done:i ≥ xs.length->p=[]
 room:∀j (h:j<p.length),Room wd p[j]
 pl:p.length<=i
 bl:bs.length<=5000*i
 il:i<=xs.length+8
 old:Below w.heap.size w wq
structure RP (xs p:List Int) (i:Nat) (w:World) (v y:Value) (wq:World) (k:Nat):Prop where
 le:k<=8
 hy:y=.int .i64 k
 own:wq.ownsRow w.heap.size 3 1 v (p++padL xs i k).length (i64s (p++padL xs i k))
 old:Below w.heap.size w wq
theorem padL_zero (xs:List Int)(i:Nat):padL xs i 0=[]:=rfl
structure RC (xs:List Int) (i:Nat) (y:Value) (c:Nat):Prop where
 hy:y=.int .i64 c
 le:i+c<=xs.length
 same:∀j (h:i+j<xs.length) (hi:i<xs.length),j<c->xs[i+j]=xs[i]
theorem runsOf_any (a:Option Addr)(c0:Nat)(xs:List Int)(wd:Nat)(w:World)(hn:xs.length<=1000)(hwd:wd<=32)(hr:∀j (h:j<xs.length),Room wd xs[j])(h:Lies w a (i64s xs)) :
    Calls Tryz.prog 44 #[.slice a xs.length c0,.int .i64 wd] w fun e w'=>e=.returned (.string ⟨(Um.wrs wd [] xs).toArray⟩)/\Below w.heap.size w w':=by
 obtain⟨i0,hi,hz0,hz1,hz2⟩:=info_parts Tryz.info3
 have HL:Hid (Lies w a (i64s xs)):=h
 have HRm:Hid (∀j (h:j<xs.length),Room wd xs[j]):=hr
 clear h hr
 go_enter Tryz.func44,Tryz.ntmps44
 go_wp2_with fail
 go_loopw [5,6,7] (fun o v x wq=>∃(bs:List UInt8) (p:List Int) (i:Nat),Hid (RF xs wd w o v x wq bs p i)) (fun _ _ x _=>xs.length+8-(intOf x).toNat)
 case atStart=>exact⟨[],[],0,⟨rfl,rfl,World.ownsRow_nil w w.heap.size 3 1,by simp,rfl,fun _=>rfl,fun j h=>absurd h (by simp),Nat.le_refl _,Nat.le_refl _,by omega,Below.refl _ _⟩⟩
 case round =>
  obtain⟨bs,p,i,HR⟩:=hrel
  obtain⟨rfl,rfl,hown,htot,hfull,hdone,hroom,hpl,hbl,hil,hb⟩:=HR.out
  clear htot hfull hdone hroom
  by_cases hlt:i<xs.length
  · obtain⟨a6,c6,rfl,_⟩:=lies_own hown
    rw[i64s_len] at hown
    rw[i64s_len]
    have hLw:=HL.out.keep hb
    have HLb:Hid (∃b o,a=some ⟨b,o,none⟩/\∀j (h:j<xs.length),w.cell? ⟨b,o+j,none⟩=some (.int .i64 xs[j])):=by
     obtain⟨b,o,rfl,_⟩:=lies_ints HL.out i hlt
     refine⟨b,o,rfl,fun j hj=>?_⟩
     obtain⟨b2,o2,e2,hc2⟩:=lies_ints HL.out j hj
     obtain⟨rfl,rfl⟩:b=b2/\o=o2:=by injection e2 with e2;injection e2 with x y;exact⟨x,y⟩
     exact hc2
    obtain⟨b,o,rfl,hcells⟩:=HLb.out
    have HCs:Hid (∀j (h:j<xs.length),w.cell? ⟨b,o+j,none⟩=some (.int .i64 xs[j])):=hcells
    have HOwn:Hid (wr.ownsRow w.heap.size 3 1 (.slice a6 p.length c6) p.length (i64s p)):=hown
    clear hcells HLb hLw hown
    go_wp2_with fail
    go_loopw [8] (fun y wq=>∃c:Nat,Hid (RC xs i y c)/\Below wr.heap.size wr wq) (fun y _=>xs.length-i-(intOf y).toNat)
    case atStart=>exact⟨0,⟨rfl,by omega,fun j _ _ h=>absurd h (Nat.not_lt_zero _)⟩,Below.refl _ _⟩
    case round =>
     obtain⟨c,HC,hbq⟩:=hrel
     obtain⟨rfl,hcl,_⟩:=HC.out
     have hb2:=hb.trans (hbq.mono hb.size)
     have hci:=(hb2.cell (World.block_lt_of_cell? w _ (HCs.out i hlt))).trans (HCs.out i hlt)
     obtain⟨m,HM⟩:∃m,Hid (m=i+c):=⟨_,rfl⟩
     have hmi:IntKind.i64.wrap ((i:Int)+(c:Int))=(m:Int):=by rw[IntKind.wrap_i64,HM.out];omega
     have hmi2:(i:Int)+(c:Int)=(m:Int):=by rw[HM.out];omega
     have hml:m<=xs.length:=by rw[HM.out];exact hcl
     have HSm:Hid (∀j (h:j<xs.length),i<j->j<m->xs[j]=xs[i]):=fun j h h1 h2=>by
      have:=HC.out.same (j-i) (by omega) hlt (by have:=HM.out;omega)
      have e:i+(j-i)=j:=by omega
      simpa only[e] using this
     by_cases hgo:m<xs.length
     · have hcc:=(hb2.cell (World.block_lt_of_cell? w _ (HCs.out m hgo))).trans (HCs.out m hgo)
       have hd:decide ((m:Int)<(xs.length:Int))=true:=by simp;omega
       by_cases he:xs[m]=xs[i]
       · have HE:Hid (xs[m]=xs[i]):=he
         have hbe:(xs[m] == xs[i])=true:=by simpa using he
         clear he
         go_wp2_with fail
         go_region
         all_goals (try go_wp2_with fail)
         all_goals go_roundw
         all_goals first
          | (exact⟨c+1,⟨by go_num,by have:=HM.out;omega,fun j h1 h2 h3=>if e:j=c then (by have:=HE.out;have e2:=HM.out;subst e2;subst e;exact this) else HC.out.same j h1 h2 (by omega)⟩,hbq.drew⟩)
          | (simp[intOf];have:=HM.out;omega)
       · have hc1 : 0 < c := by
           by_cases h0:c=0
           · exact absurd (by have e2:=HM.out;subst h0;subst e2;rfl) he
           · omega
         have HLe:Hid (Um.lead (xs.drop i)=c):=by
          show _=_
          rw[lead_drop hlt (show i<m by have:=HM.out;omega) hml HSm.out (fun _=>he),HM.out]
          omega
         have hbe:(xs[m] == xs[i])=false:=by simpa using he
         clear he
         have hbX:=hb2.drew
         have HOX:Hid (World.ownsRow (World.drew wr) w.heap.size 3 1 (.slice a6 p.length c6) p.length (i64s p)):=own_stay HOwn.out hbq.drew
         by_cases hc8:c<8
         · have HC8:Hid (c<8):=hc8
           have hd8:decide ((c:Int)<8)=true:=by simp;omega
           clear hc8
           go_wp2_with fail
           go_region
           all_goals (try go_wp2_with fail)
           go_loopw [6,9] (fun v y wq=>∃k:Nat,Hid (RP xs p i w v y wq k)) (fun _ y _=>8-(intOf y).toNat)
           case atStart=>exact⟨0,⟨Nat.zero_le _,rfl,by rw[padL_zero,List.append_nil];exact HOX.out,hbX⟩⟩
           case round =>
            obtain⟨k,HPk⟩:=hrel
            obtain⟨hk8,rfl,hownk,hbk⟩:=HPk.out
            by_cases hk:k<8
            · have hpk:(p++padL xs i k).length<=1100:=by rw[List.length_append,padL_len _ _ _ hk8];omega
              by_cases hin:i+k<xs.length
              · have hck:=(hbk.cell (World.block_lt_of_cell? w _ (HCs.out (i+k) hin))).trans (HCs.out (i+k) hin)
                have HT:Hid (p++padL xs i (k+1)=p++padL xs i k++[xs[i+k]]):=by show _=_;rw[padL_in hin hk,List.append_assoc]
                go_wp2_with (at_builtin;refine wpList_append_own _ rfl _ _ 22 rfl w.heap.size 3 i0 (.int .i64 0) 1 8 Tryz.underlying22 hi hz0 hz1 hz2 rfl (by decide) _ _ _ rfl (hownk.alloc _) ⟨_,0,none⟩ 1 1 [.int .i64 xs[i+k]] rfl rfl (cell_one_new _ _ _) (by intro u hu;simp at hu;subst hu;rfl) (by unfold maxLen;omega) (by omega) (by have:=hbk.size;simp;omega) ?_;intro v' wv hown' hgrow _)
                have hbv:=below_app hbk (Nat.le_refl _) hownk hgrow
                rw[←i64s_snoc,←HT.out] at hown'
                go_roundw
                case rel=>exact⟨k+1,⟨by omega,by go_num,by rw[HT.out,List.length_append];rw[HT.out] at hown';exact hown',hbv⟩⟩
                case measure=>simp[intOf];omega
              · have HT:Hid (p++padL xs i (k+1)=p++padL xs i k++[0]):=by show _=_;rw[padL_out hin hk (by omega),List.append_assoc]
                go_wp2_with (at_builtin;refine wpList_append_own _ rfl _ _ 22 rfl w.heap.size 3 i0 (.int .i64 0) 1 8 Tryz.underlying22 hi hz0 hz1 hz2 rfl (by decide) _ _ _ rfl (hownk.alloc _) ⟨_,0,none⟩ 1 1 [.int .i64 0] rfl rfl (cell_one_new _ _ _) (by intro u hu;simp at hu;subst hu;rfl) (by unfold maxLen;omega) (by omega) (by have:=hbk.size;simp;omega) ?_;intro v' wv hown' hgrow _)
                have hbv:=below_app hbk (Nat.le_refl _) hownk hgrow
                rw[←i64s_snoc,←HT.out] at hown'
                go_roundw
                case rel=>exact⟨k+1,⟨by omega,by go_num,by rw[HT.out,List.length_append];rw[HT.out] at hown';exact hown',hbv⟩⟩
                case measure=>simp[intOf];omega
            · obtain rfl:k=8:=by omega
              have HSh:Hid (Um.wrs wd p (xs.drop i)=Um.wrs wd (p++(xs.drop i).take 8) (xs.drop (i+8))):=by
               show _=_
               rw[Um.wrs_short wd p (xs.drop i) (by rw[List.length_drop];omega) (by rw[HLe.out];exact HC8.out),List.drop_drop]
              obtain⟨L,HLn⟩:∃L,Hid (L=(p++padL xs i 8).length):=⟨_,rfl⟩
              have hL:L=p.length+8:=by rw[HLn.out,List.length_append,padL_len _ _ _ (Nat.le_refl _)]
              have hLb:L<=1100:=by omega
              have hL0:0<L:=by omega
              rw[←HLn.out] at hownk
              obtain⟨aL,cL,hvL,hlL⟩:=lies_own hownk
              have hlen1:(i64s (p++padL xs i 8)).length=L:=by rw[i64s_len,HLn.out]
              rw[hlen1] at hvL
              subst hvL
              have HOL:Hid _:=hownk
              have HLL:Hid (Lies _ aL (i64s (p++padL xs i 8))):=hlL
              have hd9:decide ((8:Int)<=(c:Int))=false:=by have:=HC8.out;simp;omega
              have HFull:Hid (p.length % 8=0):=HR.out.full
              have HRoomP:Hid (∀j (h:j<(p++padL xs i 8).length),Room wd (p++padL xs i 8)[j]):=room_app HR.out.room (room_pad HRm.out)
              have HTot:Hid (bs++Um.wrs wd p (xs.drop i)=Um.wrs wd [] xs):=HR.out.tot
              clear hownk hlL hlen1 hL
              by_cases hin:i+8<xs.length
              · have hd10:decide ((xs.length:Int)<=(i:Int)+8)=false:=by simp;omega
                have HPe:Hid (p++padL xs i 8=p++(xs.drop i).take 8):=by
                 show _=_
                 rw[padL_eight,show 8-(xs.length-i)=0 by omega]
                 simp
                go_wp2_with fail
                go_roundw
                case rel=>exact⟨bs,p++padL xs i 8,i+8,⟨rfl,by go_num,by rw[←HLn.out];exact HOL.out,by rw[HPe.out,←HSh.out];exact HTot.out,by rw[List.length_append,padL_len _ _ _ (Nat.le_refl _)];have:=HFull.out;omega,fun h=>absurd h (by omega),HRoomP.out,by rw[List.length_append,padL_len _ _ _ (Nat.le_refl _)];omega,by omega,by omega,hbk⟩⟩
                case measure=>simp[intOf];omega
              · have hd10:decide ((xs.length:Int)<=(i:Int)+8)=true:=by simp;omega
                obtain⟨gg,HGg⟩:∃gg,Hid (gg=L / 8*2+1):=⟨_,rfl⟩
                have hgg:(L:Int) / 8*2+1=(gg:Int):=by rw[HGg.out];omega
                have hgl:gg<=1100:=by rw[HGg.out];omega
                have huv:=Um.uv_ten (n:=gg) (by omega)
                obtain⟨q,HQ⟩:∃q,Hid (q=(wd*L+7) / 8):=⟨_,rfl⟩
                have hql:q<=5000:=by have:=Nat.mul_le_mul hwd hLb;rw[HQ.out];omega
                have HFl:Hid (Um.flush wd (p++(xs.drop i).take 8)=Um.uv gg++Um.lit (Um.num wd (nats (p++padL xs i 8))) q):=by
                 show _=_
                 rw[flush_pad HFull.out hlt,←HLn.out,←HGg.out,←HQ.out]
                have HEnd:Hid (bs++Um.uv gg++Um.lit (Um.num wd (nats (p++padL xs i 8))) q=Um.wrs wd [] xs):=by
                 show _=_
                 rw[←HTot.out,HSh.out,List.drop_of_length_le (show xs.length<=i+8 by omega),Um.wrs_nil,HFl.out,List.append_assoc]
                have hlit:(Um.lit (Um.num wd (nats (p++padL xs i 8))) q).length<=5000:=by rw[Um.lit_len];exact hql
                go_wp2_with fail
                refine (seven_any gg _ (by omega)).mono ?_
                rintro e w3 ⟨rfl,hb3⟩
                have hbw3:=hbk.trans (hb3.mono hbk.size)
                have hwide:=wide_any aL cL (p++padL xs i 8) w3 (by rw[←HLn.out];omega) (HLL.out.keep hb3) (fun j h=>⟨(HRoomP.out j h).1,by
                 have:=(HRoomP.out j h).2
                 have hp2:=(shl_le wd hwd)
                 omega⟩)
                rw[←HLn.out] at hwide
                go_wp2_with fail
                refine hwide.mono ?_
                rintro e w4 ⟨⟨a4,c4,rfl,hl4⟩,hb4⟩
                have hbw4:=hbw3.trans (hb4.mono hbw3.size)
                have hpk:=packOf_any a4 c4 (nats (p++padL xs i 8)) wd w4 (by rw[nats_len,←HLn.out];omega) (by omega) (nats_lt HRoomP.out) hl4
                rw[nats_len,←HLn.out,←HQ.out] at hpk
                clear hwide hl4
                go_wp2_with fail
                refine hpk.mono ?_
                rintro e w5 ⟨rfl,hb5⟩
                have hbw5:=hbw4.trans (hb5.mono hbw4.size)
                clear hpk
                go_wp2_with fail
                go_roundw
                case rel=>exact⟨bs++Um.uv gg++Um.lit (Um.num wd (nats (p++padL xs i 8))) q,[],i+8,⟨by rw[str_cat,str_cat],by go_num,World.ownsRow_nil _ w.heap.size 3 1,by rw[List.drop_of_length_le (show xs.length<=i+8 by omega),Um.wrs_nil,HEnd.out];simp[Um.flush],rfl,fun _=>rfl,fun j h=>absurd h (by simp),Nat.zero_le _,by simp;omega,by omega,hbw5⟩⟩
                case measure=>simp[intOf];omega
         · have hd8:decide ((c:Int)<8)=false:=by simp;omega
           have hd9:decide ((8:Int)<=(c:Int))=true:=by simp;omega
           have HC8:Hid (¬ c<8):=hc8
           have HLo:Hid (Um.wrs wd p (xs.drop i)=Um.flush wd p++(Um.uv (2*c)++Um.lit xs[i].toNat ((wd+7) / 8))++Um.wrs wd [] (xs.drop (i+c))):=by
            show _=_
            rw[Um.wrs_long wd p (xs.drop i) (by rw[HLe.out];exact hc8),HLe.out,List.drop_drop]
            rw[List.drop_eq_getElem_cons hlt]
            rfl
           have HTot:Hid (bs++Um.wrs wd p (xs.drop i)=Um.wrs wd [] xs):=HR.out.tot
           have hxr:=HRm.out i hlt
           have hx4:xs[i]<4294967296:=by have:=hxr.2;have:=shl_le wd hwd;omega
           have hciX:(World.drew wr).cell? ⟨b,o+i,none⟩=some (.int .i64 xs[i]):=by simpa using hci
           clear hc8
           have HW2:Hid (IntKind.u64.wrap (IntKind.i64.wrap (2*(c:Int)))=((2*c:Nat):Int)):=wrap_even c (by omega)
           obtain⟨z,HZ⟩:∃z,Hid (z=(wd+7) / 8):=⟨_,rfl⟩
           have hz4:z<=4:=by rw[HZ.out];omega
           obtain⟨xn,HXN⟩:∃xn:Nat,Hid (xn=xs[i].toNat):=⟨xs[i].toNat,Eq.refl _⟩
           have hxn:xn<18446744073709551616:=by rw[HXN.out];omega
           have HWx:Hid (IntKind.u64.wrap xs[i]=(xn:Int)):=by show _=_;have h1:=hxr.1;rw[HXN.out,IntKind.wrap_u64];omega
           have HWz:Hid (IntKind.i64.wrap ((IntKind.i64.wrap ((wd:Int)+7)).tdiv 8)=(z:Int)):=by show _=_;rw[HZ.out];exact wrap_eights wd hwd
           rw[←HZ.out,←HXN.out] at HLo
           have huv:=Um.uv_ten (n:=2*c) (by omega)
           by_cases hp0:p.length=0
           · obtain rfl:p=[]:=List.eq_nil_of_length_eq_zero hp0
             clear hp0
             have hcat1:=cat_go bs (Um.uv (2*c)) (by omega)
             have hcat2:=cat_go (bs++Um.uv (2*c)) (Um.lit xn z) (by rw[Um.lit_len,List.length_append];omega)
             have hnl1:¬ 9223372036854775807<bs.length+(Um.uv (2*c)).length:=by omega
             go_wp2_with fail
             go_region
             all_goals (try go_wp2_with fail)
             go_region_law (first|(rw[if_pos (by kernel_rfl)];go_simp;rw[HW2.out];refine (seven_any (2*c) _ (by omega)).mono ?_;rintro e w3 ⟨rfl,hb3⟩;have hc3:=(hb3.cell (World.block_lt_of_cell? _ _ hciX)).trans hciX)|(rw[if_pos (by kernel_rfl)];go_simp;rw[HWx.out,HWz.out];refine (little_any xn z _ hxn (by omega)).mono ?_;rintro e w4 ⟨rfl,hb4⟩))
             all_goals
              go_wp2_with fail
              go_roundw
              case rel=>exact⟨bs++(Um.uv (2*c)++Um.lit xn z),[],i+c,⟨rfl,by go_num,own_stay (own_stay (show (World.drew (World.drew wr)).ownsRow w.heap.size 3 1 (.slice a6 0 c6) 0 (i64s []) from HOX.out) hb3) hb4,by rw[←HTot.out,HLo.out];simp[Um.flush],rfl,fun _=>rfl,fun j h=>absurd h (by simp),Nat.zero_le _,by have:=HC8.out;simp[Um.lit_len];omega,by have:=HM.out;omega,(hbX.drew.trans (hb3.mono hbX.drew.size)).trans (hb4.mono (hbX.drew.trans (hb3.mono hbX.drew.size)).size)⟩⟩
              case measure=>simp[intOf];omega
           · have hd11:decide ((0:Int)<(p.length:Int))=true:=decide_eq_true (by omega)
             have HFull:Hid (p.length % 8=0):=HR.out.full
             have HRoomP:Hid (∀j (h:j<p.length),Room wd p[j]):=HR.out.room
             obtain⟨L,HLn⟩:∃L,Hid (L=p.length):=⟨_,rfl⟩
             have hLb:L<=1000:=by rw[HLn.out];omega
             have hL0:0<L:=by rw[HLn.out];omega
             obtain⟨gg,HGg⟩:∃gg,Hid (gg=L / 8*2+1):=⟨_,rfl⟩
             have hgg:(L:Int) / 8*2+1=(gg:Int):=by rw[HGg.out];omega
             have hgl:gg<=1100:=by rw[HGg.out];omega
             have huv2:=Um.uv_ten (n:=gg) (by omega)
             obtain⟨q,HQ⟩:∃q,Hid (q=(wd*L+7) / 8):=⟨_,rfl⟩
             have hql:q<=4100:=by have:=Nat.mul_le_mul hwd hLb;rw[HQ.out];omega
             have HFl:Hid (Um.flush wd p=Um.uv gg++Um.lit (Um.num wd (nats p)) q):=by
              show _=_
              rw[flush_full (by rw[←HLn.out];exact hL0) HFull.out,←HLn.out,←HGg.out,←HQ.out]
             have hlit:(Um.lit (Um.num wd (nats p)) q).length=q:=Um.lit_len _ _
             obtain⟨aL,cL,hvL,hlL⟩:=lies_own HOX.out
             injection hvL with hv1 hv2 hv3
             subst hv1 hv3
             have HLL:Hid (Lies (World.drew wr) a6 (i64s p)):=hlL
             clear hv2 hlL hp0
             rw[←HLn.out] at hd11
             have hpL:p.length=L:=HLn.out.symm
             obtain⟨bsA,HbA⟩:∃bsA,Hid (bsA=bs++Um.uv gg):=⟨_,rfl⟩
             have hs1:(⟨bs.toArray⟩:ByteArray)++⟨(Um.uv gg).toArray⟩=⟨bsA.toArray⟩:=by rw[HbA.out,str_cat]
             have hbAl:bsA.length<=bs.length+10:=by rw[HbA.out,List.length_append];omega
             obtain⟨lt,HLt⟩:∃lt,Hid (lt=Um.lit (Um.num wd (nats p)) q):=⟨_,rfl⟩
             have hltl:lt.length<=4100:=by rw[HLt.out,Um.lit_len];exact hql
             obtain⟨bs1,Hb1⟩:∃bs1,Hid (bs1=bsA++lt):=⟨_,rfl⟩
             have hs2:(⟨bsA.toArray⟩:ByteArray)++⟨lt.toArray⟩=⟨bs1.toArray⟩:=by rw[Hb1.out,str_cat]
             have hb1l:bs1.length<=bs.length+4110:=by rw[Hb1.out,List.length_append];omega
             have hcat1:=cat_go bs1 (Um.uv (2*c)) (by omega)
             have hcat2:=cat_go (bs1++Um.uv (2*c)) (Um.lit xn z) (by rw[Um.lit_len,List.length_append];omega)
             have hnl1:¬ 9223372036854775807<bs1.length+(Um.uv (2*c)).length:=by omega
             have HEnd:Hid (bs1++(Um.uv (2*c)++Um.lit xn z)++Um.wrs wd [] (xs.drop (i+c))=Um.wrs wd [] xs):=by
              show _=_
              rw[←HTot.out,HLo.out,HFl.out,Hb1.out,HbA.out,HLt.out]
              simp only[List.append_assoc]
             clear hlit
             go_wp2_with fail
             go_region
             all_goals (try go_wp2_with fail)
             refine (seven_any gg _ (by omega)).mono ?_
             rintro e w3 ⟨rfl,hb3⟩
             have hbw3:=hbX.trans (hb3.mono hbX.size)
             have hwide:=wide_any a6 c6 p w3 (by omega) (HLL.out.keep hb3) (fun j h=>⟨(HRoomP.out j h).1,by
              have:=(HRoomP.out j h).2
              have hp2:=(shl_le wd hwd)
              omega⟩)
             rw[←HLn.out] at hwide
             go_wp2_with fail
             refine hwide.mono ?_
             rintro e w4 ⟨⟨a4,c4,rfl,hl4⟩,hb4⟩
             have hbw4:=hbw3.trans (hb4.mono hbw3.size)
             have hpk:=packOf_any a4 c4 (nats p) wd w4 (by rw[nats_len];omega) (by omega) (nats_lt HRoomP.out) hl4
             rw[nats_len,←HLn.out,←HQ.out,←HLt.out] at hpk
             clear hwide hl4
             go_wp2_with fail
             refine hpk.mono ?_
             rintro e w5 ⟨rfl,hb5⟩
             have hbw5:=hbw4.trans (hb5.mono hbw4.size)
             have hci5:=(hbw5.cell (World.block_lt_of_cell? w _ (HCs.out i hlt))).trans (HCs.out i hlt)
             have hci6:(World.drew w5).cell? ⟨b,o+i,none⟩=some (.int .i64 xs[i]):=by simpa using hci5
             clear hpk
             go_wp2_with fail
             go_region_law (first|(rw[if_pos (by kernel_rfl)];go_simp;rw[HW2.out];refine (seven_any (2*c) _ (by omega)).mono ?_;rintro e w7 ⟨rfl,hb7⟩;have hc7:=(hb7.cell (World.block_lt_of_cell? _ _ hci6)).trans hci6)|(rw[if_pos (by kernel_rfl)];go_simp;rw[HWx.out,HWz.out];refine (little_any xn z _ hxn (by omega)).mono ?_;rintro e w8 ⟨rfl,hb8⟩))
             all_goals
              go_wp2_with fail
              go_roundw
              case rel=>exact⟨bs1++(Um.uv (2*c)++Um.lit xn z),[],i+c,⟨rfl,by go_num,World.ownsRow_nil _ w.heap.size 3 1,HEnd.out,rfl,fun _=>rfl,fun j h=>absurd h (by simp),Nat.zero_le _,by have:=HC8.out;simp[Um.lit_len];omega,by have:=HM.out;omega,(hbw5.drew.trans (hb7.mono hbw5.drew.size)).trans (hb8.mono (hbw5.drew.trans (hb7.mono hbw5.drew.size)).size)⟩⟩
              case measure=>simp[intOf];omega
     · have hc1:0<c:=by have:=HM.out;omega
       have HLe:Hid (Um.lead (xs.drop i)=c):=by
        show _=_
        rw[lead_drop hlt (show i<m by have:=HM.out;omega) hml HSm.out (fun h=>absurd h hgo),HM.out]
        omega
       have hd:decide ((m:Int)<(xs.length:Int))=false:=by simp;omega
       have hbX:=hb2.drew
       have HOX:Hid (World.ownsRow (World.drew wr) w.heap.size 3 1 (.slice a6 p.length c6) p.length (i64s p)):=own_stay HOwn.out hbq.drew
       by_cases hc8:c<8
       · have HC8:Hid (c<8):=hc8
         have hd8:decide ((c:Int)<8)=true:=by simp;omega
         clear hc8
         go_wp2_with fail
         go_region
         all_goals (try go_wp2_with fail)
         go_loopw [6,9] (fun v y wq=>∃k:Nat,Hid (RP xs p i w v y wq k)) (fun _ y _=>8-(intOf y).toNat)
         case atStart=>exact⟨0,⟨Nat.zero_le _,rfl,by rw[padL_zero,List.append_nil];exact HOX.out,hbX⟩⟩
         case round =>
          obtain⟨k,HPk⟩:=hrel
          obtain⟨hk8,rfl,hownk,hbk⟩:=HPk.out
          by_cases hk:k<8
          · have hpk:(p++padL xs i k).length<=1100:=by rw[List.length_append,padL_len _ _ _ hk8];omega
            by_cases hin:i+k<xs.length
            · have hck:=(hbk.cell (World.block_lt_of_cell? w _ (HCs.out (i+k) hin))).trans (HCs.out (i+k) hin)
              have HT:Hid (p++padL xs i (k+1)=p++padL xs i k++[xs[i+k]]):=by show _=_;rw[padL_in hin hk,List.append_assoc]
              go_wp2_with (at_builtin;refine wpList_append_own _ rfl _ _ 22 rfl w.heap.size 3 i0 (.int .i64 0) 1 8 Tryz.underlying22 hi hz0 hz1 hz2 rfl (by decide) _ _ _ rfl (hownk.alloc _) ⟨_,0,none⟩ 1 1 [.int .i64 xs[i+k]] rfl rfl (cell_one_new _ _ _) (by intro u hu;simp at hu;subst hu;rfl) (by unfold maxLen;omega) (by omega) (by have:=hbk.size;simp;omega) ?_;intro v' wv hown' hgrow _)
              have hbv:=below_app hbk (Nat.le_refl _) hownk hgrow
              rw[←i64s_snoc,←HT.out] at hown'
              go_roundw
              case rel=>exact⟨k+1,⟨by omega,by go_num,by rw[HT.out,List.length_append];rw[HT.out] at hown';exact hown',hbv⟩⟩
              case measure=>simp[intOf];omega
            · have HT:Hid (p++padL xs i (k+1)=p++padL xs i k++[0]):=by show _=_;rw[padL_out hin hk (by omega),List.append_assoc]
              go_wp2_with (at_builtin;refine wpList_append_own _ rfl _ _ 22 rfl w.heap.size 3 i0 (.int .i64 0) 1 8 Tryz.underlying22 hi hz0 hz1 hz2 rfl (by decide) _ _ _ rfl (hownk.alloc _) ⟨_,0,none⟩ 1 1 [.int .i64 0] rfl rfl (cell_one_new _ _ _) (by intro u hu;simp at hu;subst hu;rfl) (by unfold maxLen;omega) (by omega) (by have:=hbk.size;simp;omega) ?_;intro v' wv hown' hgrow _)
              have hbv:=below_app hbk (Nat.le_refl _) hownk hgrow
              rw[←i64s_snoc,←HT.out] at hown'
              go_roundw
              case rel=>exact⟨k+1,⟨by omega,by go_num,by rw[HT.out,List.length_append];rw[HT.out] at hown';exact hown',hbv⟩⟩
              case measure=>simp[intOf];omega
          · obtain rfl:k=8:=by omega
            have HSh:Hid (Um.wrs wd p (xs.drop i)=Um.wrs wd (p++(xs.drop i).take 8) (xs.drop (i+8))):=by
             show _=_
             rw[Um.wrs_short wd p (xs.drop i) (by rw[List.length_drop];omega) (by rw[HLe.out];exact HC8.out),List.drop_drop]
            obtain⟨L,HLn⟩:∃L,Hid (L=(p++padL xs i 8).length):=⟨_,rfl⟩
            have hL:L=p.length+8:=by rw[HLn.out,List.length_append,padL_len _ _ _ (Nat.le_refl _)]
            have hLb:L<=1100:=by omega
            have hL0:0<L:=by omega
            rw[←HLn.out] at hownk
            obtain⟨aL,cL,hvL,hlL⟩:=lies_own hownk
            have hlen1:(i64s (p++padL xs i 8)).length=L:=by rw[i64s_len,HLn.out]
            rw[hlen1] at hvL
            subst hvL
            have HOL:Hid _:=hownk
            have HLL:Hid (Lies _ aL (i64s (p++padL xs i 8))):=hlL
            have hd9:decide ((8:Int)<=(c:Int))=false:=by have:=HC8.out;simp;omega
            have HFull:Hid (p.length % 8=0):=HR.out.full
            have HRoomP:Hid (∀j (h:j<(p++padL xs i 8).length),Room wd (p++padL xs i 8)[j]):=room_app HR.out.room (room_pad HRm.out)
            have HTot:Hid (bs++Um.wrs wd p (xs.drop i)=Um.wrs wd [] xs):=HR.out.tot
            clear hownk hlL hlen1 hL
            by_cases hin:i+8<xs.length
            · have hd10:decide ((xs.length:Int)<=(i:Int)+8)=false:=by simp;omega
              have HPe:Hid (p++padL xs i 8=p++(xs.drop i).take 8):=by
               show _=_
               rw[padL_eight,show 8-(xs.length-i)=0 by omega]
               simp
              go_wp2_with fail
              go_roundw
              case rel=>exact⟨bs,p++padL xs i 8,i+8,⟨rfl,by go_num,by rw[←HLn.out];exact HOL.out,by rw[HPe.out,←HSh.out];exact HTot.out,by rw[List.length_append,padL_len _ _ _ (Nat.le_refl _)];have:=HFull.out;omega,fun h=>absurd h (by omega),HRoomP.out,by rw[List.length_append,padL_len _ _ _ (Nat.le_refl _)];omega,by omega,by omega,hbk⟩⟩
              case measure=>simp[intOf];omega
            · have hd10:decide ((xs.length:Int)<=(i:Int)+8)=true:=by simp;omega
              obtain⟨gg,HGg⟩:∃gg,Hid (gg=L / 8*2+1):=⟨_,rfl⟩
              have hgg:(L:Int) / 8*2+1=(gg:Int):=by rw[HGg.out];omega
              have hgl:gg<=1100:=by rw[HGg.out];omega
              have huv:=Um.uv_ten (n:=gg) (by omega)
              obtain⟨q,HQ⟩:∃q,Hid (q=(wd*L+7) / 8):=⟨_,rfl⟩
              have hql:q<=5000:=by have:=Nat.mul_le_mul hwd hLb;rw[HQ.out];omega
              have HFl:Hid (Um.flush wd (p++(xs.drop i).take 8)=Um.uv gg++Um.lit (Um.num wd (nats (p++padL xs i 8))) q):=by
               show _=_
               rw[flush_pad HFull.out hlt,←HLn.out,←HGg.out,←HQ.out]
              have HEnd:Hid (bs++Um.uv gg++Um.lit (Um.num wd (nats (p++padL xs i 8))) q=Um.wrs wd [] xs):=by
               show _=_
               rw[←HTot.out,HSh.out,List.drop_of_length_le (show xs.length<=i+8 by omega),Um.wrs_nil,HFl.out,List.append_assoc]
              have hlit:(Um.lit (Um.num wd (nats (p++padL xs i 8))) q).length<=5000:=by rw[Um.lit_len];exact hql
              go_wp2_with fail
              refine (seven_any gg _ (by omega)).mono ?_
              rintro e w3 ⟨rfl,hb3⟩
              have hbw3:=hbk.trans (hb3.mono hbk.size)
              have hwide:=wide_any aL cL (p++padL xs i 8) w3 (by rw[←HLn.out];omega) (HLL.out.keep hb3) (fun j h=>⟨(HRoomP.out j h).1,by
               have:=(HRoomP.out j h).2
               have hp2:=(shl_le wd hwd)
               omega⟩)
              rw[←HLn.out] at hwide
              go_wp2_with fail
              refine hwide.mono ?_
              rintro e w4 ⟨⟨a4,c4,rfl,hl4⟩,hb4⟩
              have hbw4:=hbw3.trans (hb4.mono hbw3.size)
              have hpk:=packOf_any a4 c4 (nats (p++padL xs i 8)) wd w4 (by rw[nats_len,←HLn.out];omega) (by omega) (nats_lt HRoomP.out) hl4
              rw[nats_len,←HLn.out,←HQ.out] at hpk
              clear hwide hl4
              go_wp2_with fail
              refine hpk.mono ?_
              rintro e w5 ⟨rfl,hb5⟩
              have hbw5:=hbw4.trans (hb5.mono hbw4.size)
              clear hpk
              go_wp2_with fail
              go_roundw
              case rel=>exact⟨bs++Um.uv gg++Um.lit (Um.num wd (nats (p++padL xs i 8))) q,[],i+8,⟨by rw[str_cat,str_cat],by go_num,World.ownsRow_nil _ w.heap.size 3 1,by rw[List.drop_of_length_le (show xs.length<=i+8 by omega),Um.wrs_nil,HEnd.out];simp[Um.flush],rfl,fun _=>rfl,fun j h=>absurd h (by simp),Nat.zero_le _,by simp;omega,by omega,hbw5⟩⟩
              case measure=>simp[intOf];omega
       · have hd8:decide ((c:Int)<8)=false:=by simp;omega
         have hd9:decide ((8:Int)<=(c:Int))=true:=by simp;omega
         have HC8:Hid (¬ c<8):=hc8
         have HLo:Hid (Um.wrs wd p (xs.drop i)=Um.flush wd p++(Um.uv (2*c)++Um.lit xs[i].toNat ((wd+7) / 8))++Um.wrs wd [] (xs.drop (i+c))):=by
          show _=_
          rw[Um.wrs_long wd p (xs.drop i) (by rw[HLe.out];exact hc8),HLe.out,List.drop_drop]
          rw[List.drop_eq_getElem_cons hlt]
          rfl
         have HTot:Hid (bs++Um.wrs wd p (xs.drop i)=Um.wrs wd [] xs):=HR.out.tot
         have hxr:=HRm.out i hlt
         have hx4:xs[i]<4294967296:=by have:=hxr.2;have:=shl_le wd hwd;omega
         have hciX:(World.drew wr).cell? ⟨b,o+i,none⟩=some (.int .i64 xs[i]):=by simpa using hci
         clear hc8
         have HW2:Hid (IntKind.u64.wrap (IntKind.i64.wrap (2*(c:Int)))=((2*c:Nat):Int)):=wrap_even c (by omega)
         obtain⟨z,HZ⟩:∃z,Hid (z=(wd+7) / 8):=⟨_,rfl⟩
         have hz4:z<=4:=by rw[HZ.out];omega
         obtain⟨xn,HXN⟩:∃xn:Nat,Hid (xn=xs[i].toNat):=⟨xs[i].toNat,Eq.refl _⟩
         have hxn:xn<18446744073709551616:=by rw[HXN.out];omega
         have HWx:Hid (IntKind.u64.wrap xs[i]=(xn:Int)):=by show _=_;have h1:=hxr.1;rw[HXN.out,IntKind.wrap_u64];omega
         have HWz:Hid (IntKind.i64.wrap ((IntKind.i64.wrap ((wd:Int)+7)).tdiv 8)=(z:Int)):=by show _=_;rw[HZ.out];exact wrap_eights wd hwd
         rw[←HZ.out,←HXN.out] at HLo
         have huv:=Um.uv_ten (n:=2*c) (by omega)
         by_cases hp0:p.length=0
         · obtain rfl:p=[]:=List.eq_nil_of_length_eq_zero hp0
           clear hp0
           have hcat1:=cat_go bs (Um.uv (2*c)) (by omega)
           have hcat2:=cat_go (bs++Um.uv (2*c)) (Um.lit xn z) (by rw[Um.lit_len,List.length_append];omega)
           have hnl1:¬ 9223372036854775807<bs.length+(Um.uv (2*c)).length:=by omega
           go_wp2_with fail
           go_region
           all_goals (try go_wp2_with fail)
           go_region_law (first|(rw[if_pos (by kernel_rfl)];go_simp;rw[HW2.out];refine (seven_any (2*c) _ (by omega)).mono ?_;rintro e w3 ⟨rfl,hb3⟩;have hc3:=(hb3.cell (World.block_lt_of_cell? _ _ hciX)).trans hciX)|(rw[if_pos (by kernel_rfl)];go_simp;rw[HWx.out,HWz.out];refine (little_any xn z _ hxn (by omega)).mono ?_;rintro e w4 ⟨rfl,hb4⟩))
           all_goals
            go_wp2_with fail
            go_roundw
            case rel=>exact⟨bs++(Um.uv (2*c)++Um.lit xn z),[],i+c,⟨rfl,by go_num,own_stay (own_stay (show (World.drew (World.drew wr)).ownsRow w.heap.size 3 1 (.slice a6 0 c6) 0 (i64s []) from HOX.out) hb3) hb4,by rw[←HTot.out,HLo.out];simp[Um.flush],rfl,fun _=>rfl,fun j h=>absurd h (by simp),Nat.zero_le _,by have:=HC8.out;simp[Um.lit_len];omega,by have:=HM.out;omega,(hbX.drew.trans (hb3.mono hbX.drew.size)).trans (hb4.mono (hbX.drew.trans (hb3.mono hbX.drew.size)).size)⟩⟩
            case measure=>simp[intOf];omega
         · have hd11:decide ((0:Int)<(p.length:Int))=true:=decide_eq_true (by omega)
           have HFull:Hid (p.length % 8=0):=HR.out.full
           have HRoomP:Hid (∀j (h:j<p.length),Room wd p[j]):=HR.out.room
           obtain⟨L,HLn⟩:∃L,Hid (L=p.length):=⟨_,rfl⟩
           have hLb:L<=1000:=by rw[HLn.out];omega
           have hL0:0<L:=by rw[HLn.out];omega
           obtain⟨gg,HGg⟩:∃gg,Hid (gg=L / 8*2+1):=⟨_,rfl⟩
           have hgg:(L:Int) / 8*2+1=(gg:Int):=by rw[HGg.out];omega
           have hgl:gg<=1100:=by rw[HGg.out];omega
           have huv2:=Um.uv_ten (n:=gg) (by omega)
           obtain⟨q,HQ⟩:∃q,Hid (q=(wd*L+7) / 8):=⟨_,rfl⟩
           have hql:q<=4100:=by have:=Nat.mul_le_mul hwd hLb;rw[HQ.out];omega
           have HFl:Hid (Um.flush wd p=Um.uv gg++Um.lit (Um.num wd (nats p)) q):=by
            show _=_
            rw[flush_full (by rw[←HLn.out];exact hL0) HFull.out,←HLn.out,←HGg.out,←HQ.out]
           have hlit:(Um.lit (Um.num wd (nats p)) q).length=q:=Um.lit_len _ _
           obtain⟨aL,cL,hvL,hlL⟩:=lies_own HOX.out
           injection hvL with hv1 hv2 hv3
           subst hv1 hv3
           have HLL:Hid (Lies (World.drew wr) a6 (i64s p)):=hlL
           clear hv2 hlL hp0
           rw[←HLn.out] at hd11
           have hpL:p.length=L:=HLn.out.symm
           obtain⟨bsA,HbA⟩:∃bsA,Hid (bsA=bs++Um.uv gg):=⟨_,rfl⟩
           have hs1:(⟨bs.toArray⟩:ByteArray)++⟨(Um.uv gg).toArray⟩=⟨bsA.toArray⟩:=by rw[HbA.out,str_cat]
           have hbAl:bsA.length<=bs.length+10:=by rw[HbA.out,List.length_append];omega
           obtain⟨lt,HLt⟩:∃lt,Hid (lt=Um.lit (Um.num wd (nats p)) q):=⟨_,rfl⟩
           have hltl:lt.length<=4100:=by rw[HLt.out,Um.lit_len];exact hql
           obtain⟨bs1,Hb1⟩:∃bs1,Hid (bs1=bsA++lt):=⟨_,rfl⟩
           have hs2:(⟨bsA.toArray⟩:ByteArray)++⟨lt.toArray⟩=⟨bs1.toArray⟩:=by rw[Hb1.out,str_cat]
           have hb1l:bs1.length<=bs.length+4110:=by rw[Hb1.out,List.length_append];omega
           have hcat1:=cat_go bs1 (Um.uv (2*c)) (by omega)
           have hcat2:=cat_go (bs1++Um.uv (2*c)) (Um.lit xn z) (by rw[Um.lit_len,List.length_append];omega)
           have hnl1:¬ 9223372036854775807<bs1.length+(Um.uv (2*c)).length:=by omega
           have HEnd:Hid (bs1++(Um.uv (2*c)++Um.lit xn z)++Um.wrs wd [] (xs.drop (i+c))=Um.wrs wd [] xs):=by
            show _=_
            rw[←HTot.out,HLo.out,HFl.out,Hb1.out,HbA.out,HLt.out]
            simp only[List.append_assoc]
           clear hlit
           go_wp2_with fail
           go_region
           all_goals (try go_wp2_with fail)
           refine (seven_any gg _ (by omega)).mono ?_
           rintro e w3 ⟨rfl,hb3⟩
           have hbw3:=hbX.trans (hb3.mono hbX.size)
           have hwide:=wide_any a6 c6 p w3 (by omega) (HLL.out.keep hb3) (fun j h=>⟨(HRoomP.out j h).1,by
            have:=(HRoomP.out j h).2
            have hp2:=(shl_le wd hwd)
            omega⟩)
           rw[←HLn.out] at hwide
           go_wp2_with fail
           refine hwide.mono ?_
           rintro e w4 ⟨⟨a4,c4,rfl,hl4⟩,hb4⟩
           have hbw4:=hbw3.trans (hb4.mono hbw3.size)
           have hpk:=packOf_any a4 c4 (nats p) wd w4 (by rw[nats_len];omega) (by omega) (nats_lt HRoomP.out) hl4
           rw[nats_len,←HLn.out,←HQ.out,←HLt.out] at hpk
           clear hwide hl4
           go_wp2_with fail
           refine hpk.mono ?_
           rintro e w5 ⟨rfl,hb5⟩
           have hbw5:=hbw4.trans (hb5.mono hbw4.size)
           have hci5:=(hbw5.cell (World.block_lt_of_cell? w _ (HCs.out i hlt))).trans (HCs.out i hlt)
           have hci6:(World.drew w5).cell? ⟨b,o+i,none⟩=some (.int .i64 xs[i]):=by simpa using hci5
           clear hpk
           go_wp2_with fail
           go_region_law (first|(rw[if_pos (by kernel_rfl)];go_simp;rw[HW2.out];refine (seven_any (2*c) _ (by omega)).mono ?_;rintro e w7 ⟨rfl,hb7⟩;have hc7:=(hb7.cell (World.block_lt_of_cell? _ _ hci6)).trans hci6)|(rw[if_pos (by kernel_rfl)];go_simp;rw[HWx.out,HWz.out];refine (little_any xn z _ hxn (by omega)).mono ?_;rintro e w8 ⟨rfl,hb8⟩))
           all_goals
            go_wp2_with fail
            go_roundw
            case rel=>exact⟨bs1++(Um.uv (2*c)++Um.lit xn z),[],i+c,⟨rfl,by go_num,World.ownsRow_nil _ w.heap.size 3 1,HEnd.out,rfl,fun _=>rfl,fun j h=>absurd h (by simp),Nat.zero_le _,by have:=HC8.out;simp[Um.lit_len];omega,by have:=HM.out;omega,(hbw5.drew.trans (hb7.mono hbw5.drew.size)).trans (hb8.mono (hbw5.drew.trans (hb7.mono hbw5.drew.size)).size)⟩⟩
            case measure=>simp[intOf];omega
  · have HT : Hid (bs = Um.wrs wd [] xs) := by
      have h1:=HR.out.tot
      have h2:=HR.out.done (by omega)
      show _=_
      rw[h2,List.drop_of_length_le (by omega),Um.wrs_nil] at h1
      rw[←h1]
      simp[Um.flush]
    go_wp2_with fail
    go_ret
    exact⟨ret_str (by rw[HT.out]),hb⟩
end Go.Proofs.YtoeiahdjamkdgaaGreatDoor
