/-
  A leaf of a schema as it is told.
  schema.leafOf: what is told of a leaf.
  shred's columns: bounds, levels, how many.
  shred's columns: how many values, how many records; the first wrong value.
  shred's columns: the first wrong value; fits; check.
  shred.fits, where a level of Rep is outside.
  shred.fits, where no level of Rep is outside.
  shred.fits.
-/
import Derived.Test.YtoeiahdjamkdgaaGreatDoorWBOpenNode
import Derived.Test.YtoeiahdjamkdgaaGreatDoorWBPack
import Derived.Deep.RegionHeld3
set_option maxRecDepth 100000
set_option maxHeartbeats 8000000
namespace Go.Proofs.YtoeiahdjamkdgaaGreatDoor
open Go.RowKit
def lvR (l:List Tr):Nat:=(l.filter fun t=>decide (t.rep=3)).length
def lvD (l:List Tr):Nat:=(l.filter fun t=>decide (t.rep≠1)).length
theorem own_type {W:World}{N e s n:Nat}{v:Value}{xs:List Value}(h:W.ownsRow N e s v n xs){k:Nat}{cs:Array Value}{e':TypeId}{z:Nat × Nat}(hk:W.heap[k]? = some (.cells cs e' z))(hne:e≠e'):some k≠v.ownBlock:=fun e2=>by
 obtain⟨_,_,cs',h3⟩:=own_block h e2.symm
 rw[h3] at hk
 injection hk with hk
 injection hk with _ hk _
 exact hne hk
structure LfI (N g:Nat) (w1:World) (t:Tr) (l:List Tr) (wr:World) (pv:Value):Prop where
 os:wr.os=w1.os
 tape:wr.tape=w1.tape
 output:wr.output=w1.output
 size:w1.heap.size<=wr.heap.size
 old:∀k,k<N->k≠g->wr.heap[k]? = w1.heap[k]?
 leaf:wr.heap[g]? = some (.cells #[.int .i64 t.id,.int .i64 t.kind,.int .i64 (lvR l:Nat),.int .i64 (lvD l:Nat),pv] 39 (0,0))
 row:wr.ownsRow N 3 1 pv l.length (i64s (l.map Tr.id))
theorem LfI.alloc {N g:Nat}{w1:World}{t:Tr}{l:List Tr}{wr:World}{pv:Value}(h:LfI N g w1 t l wr pv)(hN:N<=w1.heap.size)(o:Obj):LfI N g w1 t l (wr.alloc o) pv:=by
 have hs:=h.size
 exact⟨h.os,h.tape,h.output,by simp;omega,fun k hk hne=>by rw[heap_alloc_old wr o (by omega)];exact h.old k hk hne,blk_alloc h.leaf,h.row.alloc o⟩
theorem LfI.put {N g:Nat}{w1:World}{t:Tr}{l:List Tr}{w2 w3:World}{x:Tr}{pv2:Value}{mr md:Int}(hg:g<N)(hold:∀k,k<N->k≠g->w2.heap[k]? = w1.heap[k]?)(ho:w2.os=w1.os/\w2.tape=w1.tape/\w2.output=w1.output/\w1.heap.size<=w2.heap.size)
    (hown:w2.ownsRow N 3 1 pv2 (l.length+1) (i64s (l.map Tr.id)++[.int .i64 x.id])) (h3:∀k,k≠g->w3.heap[k]? = w2.heap[k]?) (h4:w3.os=w2.os/\w3.tape=w2.tape/\w3.output=w2.output/\w3.heap.size=w2.heap.size)
    (hl:w3.heap[g]? = some (.cells #[.int .i64 t.id,.int .i64 t.kind,.int .i64 mr,.int .i64 md,pv2] 39 (0,0))) (hmr:mr=(lvR (l++[x]):Nat)) (hmd:md=(lvD (l++[x]):Nat)):LfI N g w1 t (l++[x]) w3 pv2:=by
 subst hmr hmd
 refine⟨h4.1.trans ho.1,h4.2.1.trans ho.2.1,h4.2.2.1.trans ho.2.2.1,by rw[h4.2.2.2];exact ho.2.2.2,fun k hk hne=>(h3 k hne).trans (hold k hk hne),hl,?_⟩
 rw[List.length_append]
 have e:i64s ((l++[x]).map Tr.id)=i64s (l.map Tr.id)++[.int .i64 x.id]:=by simp[i64s]
 rw[e]
 exact own_same hown fun k hk=>h3 k (fun e=>by have:=(own_block hown hk).1;omega)
def btw (a n b:Int):Bool:=decide (a<=n/\n<=b)
theorem between_any (a n b:Int)(W:World):Calls Tryz.prog 125 #[.int .i64 a,.int .i64 n,.int .i64 b] W fun e w'=>e=.returned (.bool (btw a n b))/\w'=W:=by
 by_cases h1:a<=n
 all_goals
  by_cases h2:n<=b
  all_goals
   have HE:Hid (btw a n b=decide (a<=n/\n<=b)):=rfl
   go_enter Tryz.func125,Tryz.ntmps125
   go_wp2
   all_goals go_ret
   all_goals (rw[HE.out];simp[h1,h2])
abbrev leafV (id kind mr md:Int) (pa:Option Addr) (pn pc:Nat):Value:=.agg #[.int .i64 id,.int .i64 kind,.int .i64 mr,.int .i64 md,.slice pa pn pc]
def isLfB (kind mr md:Int):Bool:=btw 1 kind 5 && btw 0 mr 40 && btw 0 md 40
theorem sIsLeaf_any (id kind mr md:Int)(pa:Option Addr)(pn pc:Nat)(W:World):Calls Tryz.prog 86 #[leafV id kind mr md pa pn pc] W fun e w'=>e=.returned (.bool (isLfB kind mr md))/\Below W.heap.size W w':=by
 have HB:Hid (Below W.heap.size W (W.alloc (.cells #[.int .i64 id,.int .i64 kind,.int .i64 mr,.int .i64 md,.slice pa pn pc] 39))):=(Below.refl _ _).alloc (Nat.le_refl _) _
 obtain⟨b1,H1⟩:∃b1,Hid (btw 1 kind 5=b1):=⟨_,rfl⟩
 obtain⟨b2,H2⟩:∃b2,Hid (btw 0 mr 40=b2):=⟨_,rfl⟩
 obtain⟨b3,H3⟩:∃b3,Hid (btw 0 md 40=b3):=⟨_,rfl⟩
 have HE:Hid (isLfB kind mr md=(b1 && b2 && b3)):=(by show _=_;rw[isLfB,H1.out,H2.out,H3.out])
 unfold leafV
 go_enter Tryz.func86,Tryz.ntmps86
 go_wp2_with fail
 refine (between_any 1 kind 5 _).mono ?_
 rw[H1.out]
 rintro e w1 ⟨rfl,rfl⟩
 cases b1 with
 | false =>
  go_wp2
  go_ret
  exact⟨by rw[HE.out];rfl,HB.out⟩
 | true =>
  go_wp2_with fail
  refine (between_any 0 mr 40 _).mono ?_
  rw[H2.out]
  rintro e w1 ⟨rfl,rfl⟩
  cases b2 with
  | false =>
   go_wp2
   go_ret
   exact⟨by rw[HE.out];rfl,HB.out⟩
  | true =>
   go_wp2_with fail
   refine (between_any 0 md 40 _).mono ?_
   rw[H3.out]
   rintro e w1 ⟨rfl,rfl⟩
   go_wp2
   go_ret
   exact⟨by rw[HE.out];simp,HB.out⟩
theorem outside_any (most:Int)(W:World):Calls Tryz.prog 126 #[.int .i64 most] W fun e w'=>e=.returned (.func (.func 127) #[] #[.pointer (some ⟨W.heap.size,0,none⟩)])/\w'=W.alloc (.cells #[.int .i64 most] 3):=by
 have hmf:∀(fn:Fn) (first cap:Array Value) (W:World),(Instr.makeFunc fn first cap).run Tryz.prog W=.ok (.func fn first cap) W:=fun _ _ _ _=>rfl
 go_enter Tryz.func126,Tryz.ntmps126
 go_wp2
 go_ret
 exact⟨rfl,rfl⟩
theorem out1_any (lv most:Int)(g:Nat)(W:World)(hg:W.heap[g]? = some (.cells #[.int .i64 most] 3 (0,0))):Calls Tryz.prog 127 #[.int .i64 lv,.pointer (some ⟨g,0,none⟩)] W fun e w'=>e=.returned (.bool (!(btw 0 lv most)))/\w'=W:=by
 obtain⟨c0,_⟩:=row_one hg
 clear hg
 go_enter Tryz.func127,Tryz.ntmps127
 go_wp2_with fail
 refine (between_any 0 lv most _).mono ?_
 rintro e w1 ⟨rfl,rfl⟩
 go_wp2
 go_ret
 exact⟨rfl,rfl⟩
theorem idxO_any (most:Int)(g:Nat)(a:Option Addr)(c:Nat)(xs:List Int)(hn:xs.length<=1048576)(W:World)(hg:W.heap[g]? = some (.cells #[.int .i64 most] 3 (0,0)))(hl:Lies W a (i64s xs)) :
    Calls Tryz.prog (91) #[.slice a xs.length c,.func (.func 127) #[] #[.pointer (some ⟨g,0,none⟩)]] W fun e w'=>(∃r,e=.returned (.int .i64 r)/\Idx (fun x=>!(btw 0 x most)) xs r)/\w'=W:=by
 have HL:Hid (Lies W a (i64s xs)):=hl
 have HG:Hid (W.heap[g]? = some (.cells #[.int .i64 most] 3 (0,0))):=hg
 clear hl hg
 go_enter Tryz.func91,Tryz.ntmps91
 go_wp2
 go_loop [8] (fun x=>∃i:Nat,i<=xs.length/\x=.int .i64 i/\Hid (∀j (h:j<xs.length),j<i->(!(btw 0 xs[j] most))=false)) (fun x=>xs.length-(intOf x).toNat)
 case atStart=>exact⟨0,Nat.zero_le _,rfl,fun j _ h=>absurd h (Nat.not_lt_zero _)⟩
 case round =>
  obtain⟨i,hi,rfl,HA⟩:=hrel
  by_cases hlt:i<xs.length
  · obtain⟨b,o,rfl,hc⟩:=HL.out i (by simpa [i64s] using hlt)
    have hc':W.cell? ⟨b,o+i,none⟩=some (.int .i64 xs[i]):=by rw[hc];simp[i64s]
    clear hc
    go_wp2_with fail
    refine (out1_any xs[i] most g W HG.out).mono ?_
    rintro e w1 ⟨rfl,rfl⟩
    cases hq:(!(btw 0 xs[i] most)) with
    | true =>
     have HQ:Hid _:=hq
     clear hq
     go_wp2
     go_ret
     exact⟨⟨(i:Int),rfl,.inr ⟨i,hlt,rfl,HQ.out,fun j h=>HA.out j (by omega) h⟩⟩,rfl⟩
    | false =>
     have HN:Hid (∀j (h:j<xs.length),j<i+1->(!(btw 0 xs[j] most))=false):=fun j h hj=>by
      by_cases e:j=i
      · subst e;exact hq
      · exact HA.out j h (by omega)
     clear hq
     go_wp2
     go_round
     case rel=>exact⟨i+1,by omega,by go_num,HN⟩
     case measure=>simp[intOf];omega
  · obtain rfl:i=xs.length:=by omega
    go_wp2
    go_ret
    exact⟨⟨-1,rfl,.inl ⟨rfl,fun j h=>HA.out j h h⟩⟩,rfl⟩
theorem containsO_any (most:Int)(g:Nat)(a:Option Addr)(c:Nat)(xs:List Int)(hn:xs.length<=1048576)(W:World)(hg:W.heap[g]? = some (.cells #[.int .i64 most] 3 (0,0)))(hl:Lies W a (i64s xs)) :
    Calls Tryz.prog (128) #[.slice a xs.length c,.func (.func 127) #[] #[.pointer (some ⟨g,0,none⟩)]] W fun e w'=>e=.returned (.bool (xs.any fun x=>!(btw 0 x most)))/\w'=W:=by
 have HC:Hid _:=idxO_any most g a c xs hn W hg hl
 clear hg hl
 go_enter Tryz.func128,Tryz.ntmps128
 go_wp2_with fail
 refine Calls.mono HC.out ?_
 rintro e w1 ⟨⟨r,rfl,hr⟩,rfl⟩
 have HR:Hid _:=hr.any
 clear hr
 go_wp2
 go_ret
 exact⟨by rw[←HR.out];rfl,rfl⟩
theorem isMd_any (lv md:Int)(g:Nat)(x0 x1 x2 x4:Value)(W:World)(hg:W.heap[g]? = some (.cells #[x0,x1,x2,.int .i64 md,x4] 39 (0,0))):Calls Tryz.prog 93 #[.int .i64 lv,.pointer (some ⟨g,0,none⟩)] W fun e w'=>e=.returned (.bool (lv == md))/\w'=W:=by
 obtain⟨⟨c0,c1,c2,c3,c4⟩,_⟩:=row_five hg
 clear hg
 go_enter Tryz.func93,Tryz.ntmps93
 go_wp2
 go_ret
 exact⟨rfl,rfl⟩
theorem isZero_any (lv:Int)(W:World):Calls Tryz.prog 53 #[.int .i64 lv] W fun e w'=>e=.returned (.bool (lv == 0))/\w'=W:=by
 go_enter Tryz.func53,Tryz.ntmps53
 go_wp2
 go_ret
 exact⟨rfl,rfl⟩
theorem howManyV_any (md:Int)(g:Nat)(x0 x1 x2 x4:Value)(a:Option Addr)(c:Nat)(xs:List Int)(hn:xs.length<=1048576)(W:World)(hg:W.heap[g]? = some (.cells #[x0,x1,x2,.int .i64 md,x4] 39 (0,0)))(hl:Lies W a (i64s xs)) :
    Calls Tryz.prog 52 #[.slice a xs.length c,.func (.func 93) #[] #[.pointer (some ⟨g,0,none⟩)]] W fun e w'=>e=.returned (.int .i64 ((xs.filter (fun x=>x == md)).length:Nat))/\w'=W:=by
 have HL:Hid (Lies W a (i64s xs)):=hl
 clear hl
 go_enter Tryz.func52,Tryz.ntmps52
 go_wp2
 go_loop [5,10] (fun y x=>∃i:Nat,i<=xs.length/\x=.int .i64 i/\y=.int .i64 (((xs.take i).filter (fun x=>x == md)).length:Nat)) (fun _ x=>xs.length-(intOf x).toNat)
 case atStart=>exact⟨0,Nat.zero_le _,rfl,rfl⟩
 case round =>
  obtain⟨i,hi,rfl,rfl⟩:=hrel
  have hcl:((xs.take i).filter (fun x=>x == md)).length<=i:=Nat.le_trans (List.length_filter_le _ _) (by simp;omega)
  obtain⟨k,hk⟩:∃k,((xs.take i).filter (fun x=>x == md)).length=k:=⟨_,rfl⟩
  by_cases hlt:i<xs.length
  · have HS : Hid (((xs.take (i + 1)).filter (fun x => x == md)).length = k + if (xs[i] == md) = true then 1 else 0) := (by
      show _=_
      rw[List.take_succ_eq_append_getElem hlt,List.filter_append,List.length_append,hk]
      congr 1
      cases h:(xs[i] == md)<;>simp[List.filter,h])
    rw[hk] at hcl ⊢
    obtain⟨b,o,rfl,hc⟩:=HL.out i (by simpa [i64s] using hlt)
    have hc':W.cell? ⟨b,o+i,none⟩=some (.int .i64 xs[i]):=by rw[hc];simp[i64s]
    clear hc hk
    go_wp2_with fail
    refine (isMd_any xs[i] md g x0 x1 x2 x4 W hg).mono ?_
    rintro e w1 ⟨rfl,rfl⟩
    cases hq:(xs[i] == md) with
    | true =>
     have HN:Hid (((xs.take (i+1)).filter (fun x=>x == md)).length=k+1):=(by show _=_;rw[HS.out,hq];rfl)
     clear hq
     go_wp2
     go_round
     case rel=>exact⟨i+1,by omega,by go_num,by rw[HN.out];go_num⟩
     case measure=>simp[intOf];omega
    | false =>
     have HN:Hid (((xs.take (i+1)).filter (fun x=>x == md)).length=k):=(by show _=_;rw[HS.out,hq];rfl)
     clear hq
     go_wp2
     go_round
     case rel=>exact⟨i+1,by omega,by go_num,by rw[HN.out]⟩
     case measure=>simp[intOf];omega
  · obtain rfl:i=xs.length:=by omega
    rw[List.take_length] at *
    go_wp2
    go_ret
    exact⟨rfl,rfl⟩
theorem howManyC_any (a:Option Addr)(c:Nat)(xs:List Int)(hn:xs.length<=1048576)(W:World)(hl:Lies W a (i64s xs)) :
    Calls Tryz.prog 52 #[.slice a xs.length c,.func (.func 53) #[] #[]] W fun e w'=>e=.returned (.int .i64 ((xs.filter (fun x=>x == 0)).length:Nat))/\w'=W:=by
 have HL:Hid (Lies W a (i64s xs)):=hl
 clear hl
 go_enter Tryz.func52,Tryz.ntmps52
 go_wp2
 go_loop [5,10] (fun y x=>∃i:Nat,i<=xs.length/\x=.int .i64 i/\y=.int .i64 (((xs.take i).filter (fun x=>x == 0)).length:Nat)) (fun _ x=>xs.length-(intOf x).toNat)
 case atStart=>exact⟨0,Nat.zero_le _,rfl,rfl⟩
 case round =>
  obtain⟨i,hi,rfl,rfl⟩:=hrel
  have hcl:((xs.take i).filter (fun x=>x == 0)).length<=i:=Nat.le_trans (List.length_filter_le _ _) (by simp;omega)
  obtain⟨k,hk⟩:∃k,((xs.take i).filter (fun x=>x == 0)).length=k:=⟨_,rfl⟩
  by_cases hlt:i<xs.length
  · have HS : Hid (((xs.take (i + 1)).filter (fun x => x == 0)).length = k + if (xs[i] == 0) = true then 1 else 0) := (by
      show _=_
      rw[List.take_succ_eq_append_getElem hlt,List.filter_append,List.length_append,hk]
      congr 1
      cases h:(xs[i] == 0)<;>simp[List.filter,h])
    rw[hk] at hcl ⊢
    obtain⟨b,o,rfl,hc⟩:=HL.out i (by simpa [i64s] using hlt)
    have hc':W.cell? ⟨b,o+i,none⟩=some (.int .i64 xs[i]):=by rw[hc];simp[i64s]
    clear hc hk
    go_wp2_with fail
    refine (isZero_any xs[i] W).mono ?_
    rintro e w1 ⟨rfl,rfl⟩
    cases hq:(xs[i] == 0) with
    | true =>
     have HN:Hid (((xs.take (i+1)).filter (fun x=>x == 0)).length=k+1):=(by show _=_;rw[HS.out,hq];rfl)
     clear hq
     go_wp2
     go_round
     case rel=>exact⟨i+1,by omega,by go_num,by rw[HN.out];go_num⟩
     case measure=>simp[intOf];omega
    | false =>
     have HN:Hid (((xs.take (i+1)).filter (fun x=>x == 0)).length=k):=(by show _=_;rw[HS.out,hq];rfl)
     clear hq
     go_wp2
     go_round
     case rel=>exact⟨i+1,by omega,by go_num,by rw[HN.out]⟩
     case measure=>simp[intOf];omega
  · obtain rfl:i=xs.length:=by omega
    rw[List.take_length] at *
    go_wp2
    go_ret
    exact⟨rfl,rfl⟩
def cntE (md:Int)(xs:List Int):Nat:=(xs.filter (fun x=>x == md)).length
theorem valuesOf_any (id kind mr md:Int)(pa:Option Addr)(pn pc:Nat)(a:Option Addr)(c:Nat)(xs:List Int)(hn:xs.length<=1048576)(W:World)(hl:Lies W a (i64s xs)) :
    Calls Tryz.prog 56 #[leafV id kind mr md pa pn pc,.slice a xs.length c] W fun e w'=>e=.returned (.int .i64 (cntE md xs:Nat))/\Below W.heap.size W w':=by
 have hb:Below W.heap.size W (W.alloc (.cells #[.int .i64 id,.int .i64 kind,.int .i64 mr,.int .i64 md,.slice pa pn pc] 39)):=(Below.refl _ _).alloc (Nat.le_refl _) _
 have HC:Hid _:=howManyV_any md W.heap.size _ _ _ _ a c xs hn _ (heap_alloc_new W (.cells #[.int .i64 id,.int .i64 kind,.int .i64 mr,.int .i64 md,.slice pa pn pc] 39)) (hl.keep hb)
 have HB:Hid _:=hb
 have hmf:∀(fn:Fn) (first cap:Array Value) (W:World),(Instr.makeFunc fn first cap).run Tryz.prog W=.ok (.func fn first cap) W:=fun _ _ _ _=>rfl
 clear hl hb
 unfold leafV
 go_enter Tryz.func56,Tryz.ntmps56
 go_wp2_with fail
 refine Calls.mono HC.out ?_
 rintro e w1 ⟨rfl,rfl⟩
 go_wp2
 go_ret
 exact⟨rfl,HB.out⟩
abbrev colV (id:Int) (ra:Option Addr) (rn rc:Nat) (da:Option Addr) (dn dc:Nat) (va:Option Addr) (vn vc:Nat):Value:=.agg #[.int .i64 id,.slice ra rn rc,.slice da dn dc,.slice va vn vc]
theorem count_any (id:Int)(ra:Option Addr)(rs:List Int)(rc:Nat)(da:Option Addr)(dn dc:Nat)(va:Option Addr)(vn vc:Nat)(hn:rs.length<=1048576)(W:World)(hl:Lies W ra (i64s rs)) :
    Calls Tryz.prog 32 #[colV id ra rs.length rc da dn dc va vn vc] W fun e w'=>e=.returned (.int .i64 (cntE 0 rs:Nat))/\Below W.heap.size W w':=by
 have hb:Below W.heap.size W (W.alloc (.cells #[.int .i64 id,.slice ra rs.length rc,.slice da dn dc,.slice va vn vc] 27)):=(Below.refl _ _).alloc (Nat.le_refl _) _
 have HC:Hid _:=howManyC_any ra rc rs hn _ (hl.keep hb)
 have HB:Hid _:=hb
 clear hl hb
 unfold colV
 go_enter Tryz.func32,Tryz.ntmps32
 go_wp2_with fail
 refine Calls.mono HC.out ?_
 rintro e w1 ⟨rfl,rfl⟩
 go_wp2
 go_ret
 exact⟨rfl,HB.out⟩
def badV (kind:Int)(v:Vl):Bool:=!(v.k == kind) || !(okV v.k v.k v.n v.s.size)
theorem badV_any (kind k n:Int)(s:ByteArray)(g:Nat)(x0 x2 x3 x4:Value)(W:World)(hg:W.heap[g]? = some (.cells #[x0,.int .i64 kind,x2,x3,x4] 39 (0,0))) :
    Calls Tryz.prog 89 #[.agg #[.int .i64 k,.int .i64 n,.string s],.pointer (some ⟨g,0,none⟩)] W fun e w'=>e=.returned (.bool (badV kind ⟨k,n,s⟩))/\Below W.heap.size W w':=by
 have HB:Hid (Below W.heap.size W (W.alloc (.cells #[.int .i64 k,.int .i64 n,.string s] 46))):=(Below.refl _ _).alloc (Nat.le_refl _) _
 obtain⟨⟨p0,p1,p2,p3,p4⟩,_⟩:=row_five (blk_alloc (o':=.cells #[.int .i64 k,.int .i64 n,.string s] 46) hg)
 obtain⟨b3,H3⟩:∃b3,Hid (okV k k n s.size=b3):=⟨_,rfl⟩
 clear hg
 by_cases hk:k=kind
 · subst hk
   have HE:Hid (badV k ⟨k,n,s⟩=!b3):=(by show _=_;rw[badV,H3.out];simp)
   go_enter Tryz.func89,Tryz.ntmps89
   go_wp2_with fail
   refine (isValue_any k n s _).mono ?_
   rw[H3.out]
   rintro e w1 ⟨rfl,hb1⟩
   have HB1:Hid (Below W.heap.size W w1):=HB.out.trans (hb1.mono HB.out.size)
   clear hb1
   go_wp2
   go_ret
   exact⟨by rw[HE.out];rfl,HB1.out⟩
 · have q1:(k == kind)=false:=by simp[hk]
   have HE:Hid (badV kind ⟨k,n,s⟩=true):=(by show _=_;rw[badV];simp[hk])
   clear hk
   go_enter Tryz.func89,Tryz.ntmps89
   go_wp2
   go_ret
   exact⟨by rw[HE.out];rfl,HB.out⟩
theorem idxV_any (kind:Int)(g:Nat)(x0 x2 x3 x4:Value)(a:Option Addr)(c:Nat)(vs:List Vl)(hn:vs.length<=1048576)(W:World)(hg:W.heap[g]? = some (.cells #[x0,.int .i64 kind,x2,x3,x4] 39 (0,0)))(hl:LiesV W a vs) :
    Calls Tryz.prog (88) #[.slice a vs.length c,.func (.func 89) #[] #[.pointer (some ⟨g,0,none⟩)]] W fun e w'=>(∃r,e=.returned (.int .i64 r)/\Idx (badV kind) vs r)/\Below W.heap.size W w':=by
 have HL:Hid (LiesV W a vs):=hl
 have HG:Hid (W.heap[g]? = some (.cells #[x0,.int .i64 kind,x2,x3,x4] 39 (0,0))):=hg
 clear hl hg
 go_enter Tryz.func88,Tryz.ntmps88
 go_wp2
 go_loopw [8] (fun x wr=>∃i:Nat,i<=vs.length/\x=.int .i64 i/\Hid (∀j (h:j<vs.length),j<i->badV kind vs[j]=false)/\Below W.heap.size W wr) (fun x _=>vs.length-(intOf x).toNat)
 case atStart=>exact⟨0,Nat.zero_le _,rfl,fun j _ h=>absurd h (Nat.not_lt_zero _),Below.refl _ _⟩
 case round =>
  obtain⟨i,hi,rfl,HA,hb⟩:=hrel
  have HB:Hid (Below W.heap.size W wr):=hb
  by_cases hlt:i<vs.length
  · obtain⟨b,o,rfl,d0,d1,d2⟩:=(HL.out.keep hb) i hlt
    have HGr:Hid (wr.heap[g]? = some (.cells #[x0,.int .i64 kind,x2,x3,x4] 39 (0,0))):=blk_keep hb HG.out
    clear hb
    go_wp2_with fail
    refine (badV_any kind vs[i].k vs[i].n vs[i].s g x0 x2 x3 x4 wr HGr.out).mono ?_
    rintro e w1 ⟨rfl,hb1⟩
    have HB1:Hid (Below W.heap.size W w1):=HB.out.trans (hb1.mono HB.out.size)
    clear hb1
    cases hq:(badV kind ⟨vs[i].k,vs[i].n,vs[i].s⟩) with
    | true =>
     have HQ:Hid (badV kind vs[i]=true):=hq
     clear hq
     go_wp2
     go_ret
     exact⟨⟨(i:Int),rfl,.inr ⟨i,hlt,rfl,HQ.out,fun j h=>HA.out j (by omega) h⟩⟩,HB1.out⟩
    | false =>
     have HN:Hid (∀j (h:j<vs.length),j<i+1->badV kind vs[j]=false):=fun j h hj=>by
      by_cases e:j=i
      · subst e;exact hq
      · exact HA.out j h (by omega)
     clear hq
     go_wp2
     go_roundw
     case rel=>exact⟨i+1,by omega,by go_num,HN,HB1⟩
     case measure=>simp[intOf];omega
  · obtain rfl:i=vs.length:=by omega
    go_wp2
    go_ret
    exact⟨⟨-1,rfl,.inl ⟨rfl,fun j h=>HA.out j h h⟩⟩,hb⟩
def headB:List Int->Bool
 | []=>false
 | r :: _=>!(r == 0)
def fitB (lid mr md cid:Int)(rs ds:List Int)(nv:Nat):Bool :=
 if cid≠lid\/rs.length≠ds.length then false
 else if headB rs=true then false
 else if (rs.any fun x=>!(btw 0 x mr))=true\/(ds.any fun x=>!(btw 0 x md))=true then false
 else decide (nv=cntE md ds)
theorem headB_at (rs:List Int)(h:0<rs.length):headB rs=!(rs[0] == 0):=by
 cases rs with
 | nil=>simp at h
 | cons r rest=>rfl
theorem sfits_t (lid kind mr md:Int)(pa:Option Addr)(pn pc:Nat)(cid:Int)(ra:Option Addr)(rs:List Int)(rc:Nat)(da:Option Addr)(ds:List Int)(dc:Nat)(va:Option Addr)(nv vc:Nat)(hr:rs.length<=1048576)(hd:ds.length<=1048576)(W:World)(hlr:Lies W ra (i64s rs))(hld:Lies W da (i64s ds))(HT:Hid ((rs.any fun x=>!(btw 0 x mr))=true)) :
    Calls Tryz.prog 87 #[leafV lid kind mr md pa pn pc,colV cid ra rs.length rc da ds.length dc va nv vc] W fun e w'=>e=.returned (.bool (fitB lid mr md cid rs ds nv))/\Below W.heap.size W w':=by
 have hb2:Below W.heap.size W ((W.alloc (.cells #[.int .i64 lid,.int .i64 kind,.int .i64 mr,.int .i64 md,.slice pa pn pc] 39)).alloc (.cells #[.int .i64 cid,.slice ra rs.length rc,.slice da ds.length dc,.slice va nv vc] 27)):=((Below.refl _ _).alloc (Nat.le_refl _) _).alloc (by simp) _
 have HB:Hid (Below W.heap.size W ((W.alloc (.cells #[.int .i64 lid,.int .i64 kind,.int .i64 mr,.int .i64 md,.slice pa pn pc] 39)).alloc (.cells #[.int .i64 cid,.slice ra rs.length rc,.slice da ds.length dc,.slice va nv vc] 27))):=hb2
 have HX:Hid (((W.alloc (.cells #[.int .i64 lid,.int .i64 kind,.int .i64 mr,.int .i64 md,.slice pa pn pc] 39)).alloc (.cells #[.int .i64 cid,.slice ra rs.length rc,.slice da ds.length dc,.slice va nv vc] 27)).heap[W.heap.size]? = some (.cells #[.int .i64 lid,.int .i64 kind,.int .i64 mr,.int .i64 md,.slice pa pn pc] 39 (0,0))):=blk_alloc (heap_alloc_new W _)
 have HY:Hid (((W.alloc (.cells #[.int .i64 lid,.int .i64 kind,.int .i64 mr,.int .i64 md,.slice pa pn pc] 39)).alloc (.cells #[.int .i64 cid,.slice ra rs.length rc,.slice da ds.length dc,.slice va nv vc] 27)).heap[W.heap.size+1]? = some (.cells #[.int .i64 cid,.slice ra rs.length rc,.slice da ds.length dc,.slice va nv vc] 27 (0,0))):=(by
  have h:=heap_alloc_new (W.alloc (.cells #[.int .i64 lid,.int .i64 kind,.int .i64 mr,.int .i64 md,.slice pa pn pc] 39)) (.cells #[.int .i64 cid,.slice ra rs.length rc,.slice da ds.length dc,.slice va nv vc] 27)
  rwa [show (W.alloc (.cells #[.int .i64 lid,.int .i64 kind,.int .i64 mr,.int .i64 md,.slice pa pn pc] 39)).heap.size=W.heap.size+1 by simp] at h)
 have HLr:Hid (Lies ((W.alloc (.cells #[.int .i64 lid,.int .i64 kind,.int .i64 mr,.int .i64 md,.slice pa pn pc] 39)).alloc (.cells #[.int .i64 cid,.slice ra rs.length rc,.slice da ds.length dc,.slice va nv vc] 27)) ra (i64s rs)):=hlr.keep hb2
 have HLd:Hid (Lies ((W.alloc (.cells #[.int .i64 lid,.int .i64 kind,.int .i64 mr,.int .i64 md,.slice pa pn pc] 39)).alloc (.cells #[.int .i64 cid,.slice ra rs.length rc,.slice da ds.length dc,.slice va nv vc] 27)) da (i64s ds)):=hld.keep hb2
 clear hlr hld hb2
 unfold leafV colV
 by_cases h1:cid=lid
 · by_cases h2:rs.length=ds.length
   · subst h1
     have HE0:Hid (fitB cid mr md cid rs ds nv=if headB rs=true then false else if (rs.any fun x=>!(btw 0 x mr))=true\/(ds.any fun x=>!(btw 0 x md))=true then false else decide (nv=cntE md ds)):=(by show _=_;unfold fitB;rw[if_neg (by simp[h2])])
     have q2:((rs.length:Int) == (ds.length:Int))=true:=by simp[h2]
     have H2:Hid (rs.length=ds.length):=h2
     clear h2
     obtain⟨b1,H1⟩:∃b1,Hid ((rs.any fun x=>!(btw 0 x mr))=b1):=⟨_,rfl⟩
     obtain⟨b2,Hb2⟩:∃b2,Hid ((ds.any fun x=>!(btw 0 x md))=b2):=⟨_,rfl⟩
     have b0:Below ((W.alloc (.cells #[.int .i64 cid,.int .i64 kind,.int .i64 mr,.int .i64 md,.slice pa pn pc] 39)).alloc (.cells #[.int .i64 cid,.slice ra rs.length rc,.slice da ds.length dc,.slice va nv vc] 27)).heap.size ((W.alloc (.cells #[.int .i64 cid,.int .i64 kind,.int .i64 mr,.int .i64 md,.slice pa pn pc] 39)).alloc (.cells #[.int .i64 cid,.slice ra rs.length rc,.slice da ds.length dc,.slice va nv vc] 27)) ((W.alloc (.cells #[.int .i64 cid,.int .i64 kind,.int .i64 mr,.int .i64 md,.slice pa pn pc] 39)).alloc (.cells #[.int .i64 cid,.slice ra rs.length rc,.slice da ds.length dc,.slice va nv vc] 27)):=Below.refl _ _
     have HN:Hid (∀X,Below ((W.alloc (.cells #[.int .i64 cid,.int .i64 kind,.int .i64 mr,.int .i64 md,.slice pa pn pc] 39)).alloc (.cells #[.int .i64 cid,.slice ra rs.length rc,.slice da ds.length dc,.slice va nv vc] 27)).heap.size ((W.alloc (.cells #[.int .i64 cid,.int .i64 kind,.int .i64 mr,.int .i64 md,.slice pa pn pc] 39)).alloc (.cells #[.int .i64 cid,.slice ra rs.length rc,.slice da ds.length dc,.slice va nv vc] 27)) X->X.cell? ⟨W.heap.size,0,none⟩=some (.int .i64 cid)/\X.cell? ⟨W.heap.size,1,none⟩=some (.int .i64 kind)/\X.cell? ⟨W.heap.size,2,none⟩=some (.int .i64 mr)/\X.cell? ⟨W.heap.size,3,none⟩=some (.int .i64 md)/\X.cell? ⟨W.heap.size,4,none⟩=some (.slice pa pn pc)/\X.cell? ⟨W.heap.size+1,0,none⟩=some (.int .i64 cid)/\X.cell? ⟨W.heap.size+1,1,none⟩=some (.slice ra rs.length rc)/\X.cell? ⟨W.heap.size+1,2,none⟩=some (.slice da ds.length dc)/\X.cell? ⟨W.heap.size+1,3,none⟩=some (.slice va nv vc)/\Below ((W.alloc (.cells #[.int .i64 cid,.int .i64 kind,.int .i64 mr,.int .i64 md,.slice pa pn pc] 39)).alloc (.cells #[.int .i64 cid,.slice ra rs.length rc,.slice da ds.length dc,.slice va nv vc] 27)).heap.size ((W.alloc (.cells #[.int .i64 cid,.int .i64 kind,.int .i64 mr,.int .i64 md,.slice pa pn pc] 39)).alloc (.cells #[.int .i64 cid,.slice ra rs.length rc,.slice da ds.length dc,.slice va nv vc] 27)) X):=fun X hX=>by
      obtain⟨⟨n0,n1,n2,n3,n4⟩,_⟩:=row_five (blk_keep hX HX.out)
      obtain⟨l0,l1,l2,l3⟩:=row_four (blk_keep hX HY.out)
      exact⟨n0,n1,n2,n3,n4,l0,l1,l2,l3,hX⟩
     have HC1:=containsO_any mr (W.heap.size+1+1) ra rc rs hr ((((W.alloc (.cells #[.int .i64 cid,.int .i64 kind,.int .i64 mr,.int .i64 md,.slice pa pn pc] 39)).alloc (.cells #[.int .i64 cid,.slice ra rs.length rc,.slice da ds.length dc,.slice va nv vc] 27)).alloc (.cells #[.int .i64 mr] 3)).drew) (by
      have h:=heap_alloc_new ((W.alloc (.cells #[.int .i64 cid,.int .i64 kind,.int .i64 mr,.int .i64 md,.slice pa pn pc] 39)).alloc (.cells #[.int .i64 cid,.slice ra rs.length rc,.slice da ds.length dc,.slice va nv vc] 27)) (.cells #[.int .i64 mr] 3)
      rw[show ((W.alloc (.cells #[.int .i64 cid,.int .i64 kind,.int .i64 mr,.int .i64 md,.slice pa pn pc] 39)).alloc (.cells #[.int .i64 cid,.slice ra rs.length rc,.slice da ds.length dc,.slice va nv vc] 27)).heap.size=W.heap.size+1+1 by simp] at h
      exact h) (HLr.out.keep (b0.alloc (Nat.le_refl _) _).drew)
     have HC2:=containsO_any md (W.heap.size+1+1+1) da dc ds hd (((((W.alloc (.cells #[.int .i64 cid,.int .i64 kind,.int .i64 mr,.int .i64 md,.slice pa pn pc] 39)).alloc (.cells #[.int .i64 cid,.slice ra rs.length rc,.slice da ds.length dc,.slice va nv vc] 27)).alloc (.cells #[.int .i64 mr] 3)).alloc (.cells #[.int .i64 md] 3)).drew) (by
      have h:=heap_alloc_new (((W.alloc (.cells #[.int .i64 cid,.int .i64 kind,.int .i64 mr,.int .i64 md,.slice pa pn pc] 39)).alloc (.cells #[.int .i64 cid,.slice ra rs.length rc,.slice da ds.length dc,.slice va nv vc] 27)).alloc (.cells #[.int .i64 mr] 3)) (.cells #[.int .i64 md] 3)
      rw[show (((W.alloc (.cells #[.int .i64 cid,.int .i64 kind,.int .i64 mr,.int .i64 md,.slice pa pn pc] 39)).alloc (.cells #[.int .i64 cid,.slice ra rs.length rc,.slice da ds.length dc,.slice va nv vc] 27)).alloc (.cells #[.int .i64 mr] 3)).heap.size=W.heap.size+1+1+1 by simp] at h
      exact h) (HLd.out.keep ((b0.alloc (Nat.le_refl _) _).alloc (by simp) _).drew)
     rw[H1.out] at HC1
     rw[Hb2.out] at HC2
     have HC1:Hid _:=HC1
     have HC2:Hid _:=HC2
     have HBx1:Hid (Below W.heap.size W (((W.alloc (.cells #[.int .i64 cid,.int .i64 kind,.int .i64 mr,.int .i64 md,.slice pa pn pc] 39)).alloc (.cells #[.int .i64 cid,.slice ra rs.length rc,.slice da ds.length dc,.slice va nv vc] 27)).alloc (.cells #[.int .i64 mr] 3)).drew):=(HB.out.alloc (by simp;omega) _).drew
     have HBx2:Hid (Below W.heap.size W ((((W.alloc (.cells #[.int .i64 cid,.int .i64 kind,.int .i64 mr,.int .i64 md,.slice pa pn pc] 39)).alloc (.cells #[.int .i64 cid,.slice ra rs.length rc,.slice da ds.length dc,.slice va nv vc] 27)).alloc (.cells #[.int .i64 mr] 3)).alloc (.cells #[.int .i64 md] 3)).drew):=((HB.out.alloc (by simp;omega) _).alloc (by simp;omega) _).drew
     have HEg:Hid (headB rs=false->fitB cid mr md cid rs ds nv=if b1=true\/b2=true then false else decide (nv=cntE md ds)):=fun hh=>by
      rw[HE0.out,H1.out,Hb2.out,hh]
      rfl
     cases b1 with
     | true =>
      by_cases hl0:rs.length=0
      · have HE:Hid _:=HEg.out (by rw[List.eq_nil_of_length_eq_zero hl0];rfl)
        have q0:decide ((0:Int)<(rs.length:Int))=false:=by rw[decide_eq_false_iff_not];omega
        have hnp:¬ 0<rs.length:=by omega
        clear HE0 hl0 HEg
        go_enter Tryz.func87,Tryz.ntmps87
        go_wp2
        refine wp_region_held_drew (S:=(fun X=>X.cell? ⟨W.heap.size,0,none⟩=some (.int .i64 cid)/\X.cell? ⟨W.heap.size,1,none⟩=some (.int .i64 kind)/\X.cell? ⟨W.heap.size,2,none⟩=some (.int .i64 mr)/\X.cell? ⟨W.heap.size,3,none⟩=some (.int .i64 md)/\X.cell? ⟨W.heap.size,4,none⟩=some (.slice pa pn pc)/\X.cell? ⟨W.heap.size+1,0,none⟩=some (.int .i64 cid)/\X.cell? ⟨W.heap.size+1,1,none⟩=some (.slice ra rs.length rc)/\X.cell? ⟨W.heap.size+1,2,none⟩=some (.slice da ds.length dc)/\X.cell? ⟨W.heap.size+1,3,none⟩=some (.slice va nv vc)/\Below ((W.alloc (.cells #[.int .i64 cid,.int .i64 kind,.int .i64 mr,.int .i64 md,.slice pa pn pc] 39)).alloc (.cells #[.int .i64 cid,.slice ra rs.length rc,.slice da ds.length dc,.slice va nv vc] 27)).heap.size ((W.alloc (.cells #[.int .i64 cid,.int .i64 kind,.int .i64 mr,.int .i64 md,.slice pa pn pc] 39)).alloc (.cells #[.int .i64 cid,.slice ra rs.length rc,.slice da ds.length dc,.slice va nv vc] 27)) X)) (by kernel_rfl) (HN.out _ b0.drew) (fun hHeld=>?_)
        refine wpAnyH_take (i:=0) (oi:={ dst:=some 31,op:=Op.fieldAddr 27 (Operand.tmp 3) 1,type:=0,pos := "column.go:89",after:=#[],guard:=none }) (v:=?v0x10) rfl (by kernel_rfl) (by kernel_rfl) (by kernel_rfl) (fun _ _ _ h=>h) (Or.inl ⟨by rfl,?hy0x10⟩) hHeld ?_
        case hy0x10=>(intro w hSw;(try dsimp only at hSw);go_simp;(first|done|with_reducible rfl))
        (try simp only[Act.put,List.setIfInBounds_toArray,List.set_cons_zero,List.set_cons_succ])
        refine wpAnyH_take (i:=1) (oi:={ dst:=some 32,op:=Op.load 22 (Operand.tmp 31),type:=22,pos := "column.go:89",after:=#[{ on:=0,ground:=Ground.data }],guard:=none }) (v:=?v1x10) rfl (by kernel_rfl) (by kernel_rfl) (by kernel_rfl) (fun _ _ _ h=>h) (Or.inl ⟨by rfl,?hy1x10⟩) hHeld ?_
        case hy1x10=>(intro w hSw;(try dsimp only at hSw);go_simp;(first|done|with_reducible rfl))
        (try simp only[Act.put,List.setIfInBounds_toArray,List.set_cons_zero,List.set_cons_succ])
        refine wpAnyH_take (i:=2) (oi:={ dst:=some 33,op:=Op.move (Operand.tmp 5),type:=194,pos := "column.go:89",after:=#[],guard:=none }) (v:=?v2x10) rfl (by kernel_rfl) (by kernel_rfl) (by kernel_rfl) (fun _ _ _ h=>h) (Or.inl ⟨by rfl,?hy2x10⟩) hHeld ?_
        case hy2x10=>(intro w hSw;(try dsimp only at hSw);go_simp;(first|done|with_reducible rfl))
        (try simp only[Act.put,List.setIfInBounds_toArray,List.set_cons_zero,List.set_cons_succ])
        refine wpAnyH_take (i:=3) (oi:={ dst:=some 34,op:=Op.fieldAddr 39 (Operand.tmp 2) 2,type:=0,pos := "column.go:89",after:=#[],guard:=none }) (v:=?v3x10) rfl (by kernel_rfl) (by kernel_rfl) (by kernel_rfl) (fun _ _ _ h=>h) (Or.inl ⟨by rfl,?hy3x10⟩) hHeld ?_
        case hy3x10=>(intro w hSw;(try dsimp only at hSw);go_simp;(first|done|with_reducible rfl))
        (try simp only[Act.put,List.setIfInBounds_toArray,List.set_cons_zero,List.set_cons_succ])
        refine wpAnyH_take (i:=4) (oi:={ dst:=some 35,op:=Op.load 3 (Operand.tmp 34),type:=3,pos := "column.go:89",after:=#[{ on:=3,ground:=Ground.data }],guard:=none }) (v:=?v4x10) rfl (by kernel_rfl) (by kernel_rfl) (by kernel_rfl) (fun _ _ _ h=>h) (Or.inl ⟨by rfl,?hy4x10⟩) hHeld ?_
        case hy4x10=>(intro w hSw;(try dsimp only at hSw);go_simp;(first|done|with_reducible rfl))
        (try simp only[Act.put,List.setIfInBounds_toArray,List.set_cons_zero,List.set_cons_succ])
        refine wpAnyH_ready (rs:=[5]) (by kernel_rfl) (by simp) ?_
        refine AllReadyH.cons (o:={ dst:=some 36,op:=Op.call { callee:=Callee.value (Operand.tmp 33),args:=#[Operand.tmp 35],argTypes:=#[3] },type:=108,pos := "column.go:89",after:=#[{ on:=2,ground:=Ground.data },{ on:=4,ground:=Ground.data }],guard:=none }) rfl (fun K hK=>?_) AllReadyH.nil
        go_simp
        (go_at_call 126;(with_reducible refine Calls.mono (outside_any mr _) ?_);rintro e w' ⟨rfl,hw'⟩;subst hw')
        go_wp2_with fail
        refine hK.out _ _ (HN.out _ ((b0.alloc (Nat.le_refl _) _).drew)) (fun hH2=>?_)
        (try simp only[Act.put,List.setIfInBounds_toArray,List.set_cons_zero,List.set_cons_succ])
        refine wpAnyH_ready (rs:=[6]) (by kernel_rfl) (by simp) ?_
        refine AllReadyH.cons (o:={ dst:=some 37,op:=Op.call { callee:=Callee.value (Operand.func 128),args:=#[Operand.tmp 32,Operand.tmp 36],argTypes:=#[22,108] },type:=4,pos := "column.go:89",after:=#[{ on:=1,ground:=Ground.data },{ on:=5,ground:=Ground.data },{ on:=5,ground:=Ground.chain }],guard:=none }) rfl (fun K hK=>?_) AllReadyH.nil
        go_simp
        (go_at_call 128;refine Calls.mono HC1.out ?_;rintro e w' ⟨rfl,hw'⟩;subst hw')
        go_wp2_with fail
        refine hK.out _ _ (HN.out _ ((b0.alloc (Nat.le_refl _) _).drew)) (fun hH3=>?_)
        (try simp only[Act.put,List.setIfInBounds_toArray,List.set_cons_zero,List.set_cons_succ])
        refine wpAnyH_take (i:=7) (oi:={ dst:=some 38,op:=Op.move (Operand.tmp 37),type:=4,pos := "column.go:89",after:=#[{ on:=6,ground:=Ground.data },{ on:=6,ground:=Ground.chain }],guard:=none }) (v:=?v7x10) rfl (by kernel_rfl) (by kernel_rfl) (by kernel_rfl) (fun _ _ _ h=>h) (Or.inl ⟨by rfl,?hy7x10⟩) hH3 ?_
        case hy7x10=>(intro w hSw;(try dsimp only at hSw);go_simp;(first|done|with_reducible rfl))
        (try simp only[Act.put,List.setIfInBounds_toArray,List.set_cons_zero,List.set_cons_succ])
        refine wpAnyH_take (i:=8) (oi:={ dst:=some 39,op:=Op.fieldAddr 27 (Operand.tmp 3) 2,type:=0,pos := "column.go:89",after:=#[{ on:=7,ground:=Ground.guard }],guard:=some (7,false) }) (v:=undef) rfl (by kernel_rfl) (by kernel_rfl) (by kernel_rfl) (fun _ _ _ h=>h) (Or.inr ⟨by rfl,rfl⟩) hH3 ?_
        (try simp only[Act.put,List.setIfInBounds_toArray,List.set_cons_zero,List.set_cons_succ])
        refine wpAnyH_take (i:=9) (oi:={ dst:=some 40,op:=Op.load 22 (Operand.tmp 39),type:=22,pos := "column.go:89",after:=#[{ on:=8,ground:=Ground.data },{ on:=7,ground:=Ground.guard }],guard:=some (7,false) }) (v:=undef) rfl (by kernel_rfl) (by kernel_rfl) (by kernel_rfl) (fun _ _ _ h=>h) (Or.inr ⟨by rfl,rfl⟩) hH3 ?_
        (try simp only[Act.put,List.setIfInBounds_toArray,List.set_cons_zero,List.set_cons_succ])
        refine wpAnyH_take (i:=10) (oi:={ dst:=some 41,op:=Op.move (Operand.tmp 5),type:=194,pos := "column.go:89",after:=#[{ on:=7,ground:=Ground.guard }],guard:=some (7,false) }) (v:=undef) rfl (by kernel_rfl) (by kernel_rfl) (by kernel_rfl) (fun _ _ _ h=>h) (Or.inr ⟨by rfl,rfl⟩) hH3 ?_
        (try simp only[Act.put,List.setIfInBounds_toArray,List.set_cons_zero,List.set_cons_succ])
        refine wpAnyH_take (i:=11) (oi:={ dst:=some 42,op:=Op.fieldAddr 39 (Operand.tmp 2) 3,type:=0,pos := "column.go:89",after:=#[{ on:=7,ground:=Ground.guard }],guard:=some (7,false) }) (v:=undef) rfl (by kernel_rfl) (by kernel_rfl) (by kernel_rfl) (fun _ _ _ h=>h) (Or.inr ⟨by rfl,rfl⟩) hH3 ?_
        (try simp only[Act.put,List.setIfInBounds_toArray,List.set_cons_zero,List.set_cons_succ])
        refine wpAnyH_take (i:=12) (oi:={ dst:=some 43,op:=Op.load 3 (Operand.tmp 42),type:=3,pos := "column.go:89",after:=#[{ on:=11,ground:=Ground.data },{ on:=7,ground:=Ground.guard }],guard:=some (7,false) }) (v:=undef) rfl (by kernel_rfl) (by kernel_rfl) (by kernel_rfl) (fun _ _ _ h=>h) (Or.inr ⟨by rfl,rfl⟩) hH3 ?_
        (try simp only[Act.put,List.setIfInBounds_toArray,List.set_cons_zero,List.set_cons_succ])
        refine wpAnyH_take (i:=13) (oi:={ dst:=some 44,op:=Op.call { callee:=Callee.value (Operand.tmp 41),args:=#[Operand.tmp 43],argTypes:=#[3] },type:=108,pos := "column.go:89",after:=#[{ on:=10,ground:=Ground.data },{ on:=12,ground:=Ground.data },{ on:=7,ground:=Ground.chain },{ on:=7,ground:=Ground.guard }],guard:=some (7,false) }) (v:=undef) rfl (by kernel_rfl) (by kernel_rfl) (by kernel_rfl) (fun _ _ _ h=>h) (Or.inr ⟨by rfl,rfl⟩) hH3 ?_
        (try simp only[Act.put,List.setIfInBounds_toArray,List.set_cons_zero,List.set_cons_succ])
        refine wpAnyH_take (i:=14) (oi:={ dst:=some 45,op:=Op.call { callee:=Callee.value (Operand.func 128),args:=#[Operand.tmp 40,Operand.tmp 44],argTypes:=#[22,108] },type:=4,pos := "column.go:89",after:=#[{ on:=9,ground:=Ground.data },{ on:=13,ground:=Ground.data },{ on:=13,ground:=Ground.chain },{ on:=7,ground:=Ground.guard }],guard:=some (7,false) }) (v:=undef) rfl (by kernel_rfl) (by kernel_rfl) (by kernel_rfl) (fun _ _ _ h=>h) (Or.inr ⟨by rfl,rfl⟩) hH3 ?_
        (try simp only[Act.put,List.setIfInBounds_toArray,List.set_cons_zero,List.set_cons_succ])
        refine wpAnyH_take (i:=15) (oi:={ dst:=some 46,op:=Op.pick (Operand.tmp 38) (Operand.const (Value.bool true)) (Operand.tmp 45),type:=4,pos := "column.go:89",after:=#[{ on:=7,ground:=Ground.data },{ on:=14,ground:=Ground.data }],guard:=none }) (v:=?v15x10) rfl (by kernel_rfl) (by kernel_rfl) (by kernel_rfl) (fun _ _ _ h=>h) (Or.inl ⟨by rfl,?hy15x10⟩) hH3 ?_
        case hy15x10=>(intro w hSw;(try dsimp only at hSw);go_simp;(first|done|with_reducible rfl))
        (try simp only[Act.put,List.setIfInBounds_toArray,List.set_cons_zero,List.set_cons_succ])
        refine wpAnyH_done (by kernel_rfl) ?_ _
        all_goals
         go_wp2
         go_ret
         exact⟨by rw[HE.out];rfl,HBx1.out⟩
      · have hpos:0<rs.length:=by omega
        have q0:decide ((0:Int)<(rs.length:Int))=true:=by rw[decide_eq_true_iff];omega
        obtain⟨rb,ro,era,hcell⟩:=HLr.out 0 (by simpa [i64s] using hpos)
        subst era
        obtain⟨r,hr0⟩:∃r,r=rs[0]:=⟨_,rfl⟩
        have hh:=headB_at rs hpos
        rw[←hr0] at hh
        simp only[Nat.add_zero] at hcell
        rw[show (i64s rs)[0]'(by simpa [i64s] using hpos)=.int .i64 rs[0] by simp[i64s],←hr0] at hcell
        have HH:Hid (headB rs=!(r == 0)):=hh
        clear hl0 hh hr0
        by_cases hz:r=0
        · subst hz
          have HE:Hid _:=HEg.out (by rw[HH.out];rfl)
          clear HE0 HEg HH
          go_enter Tryz.func87,Tryz.ntmps87
          go_wp2
          refine wp_region_held_drew (S:=(fun X=>X.cell? ⟨W.heap.size,0,none⟩=some (.int .i64 cid)/\X.cell? ⟨W.heap.size,1,none⟩=some (.int .i64 kind)/\X.cell? ⟨W.heap.size,2,none⟩=some (.int .i64 mr)/\X.cell? ⟨W.heap.size,3,none⟩=some (.int .i64 md)/\X.cell? ⟨W.heap.size,4,none⟩=some (.slice pa pn pc)/\X.cell? ⟨W.heap.size+1,0,none⟩=some (.int .i64 cid)/\X.cell? ⟨W.heap.size+1,1,none⟩=some (.slice (some ⟨rb,ro,none⟩) rs.length rc)/\X.cell? ⟨W.heap.size+1,2,none⟩=some (.slice da ds.length dc)/\X.cell? ⟨W.heap.size+1,3,none⟩=some (.slice va nv vc)/\Below ((W.alloc (.cells #[.int .i64 cid,.int .i64 kind,.int .i64 mr,.int .i64 md,.slice pa pn pc] 39)).alloc (.cells #[.int .i64 cid,.slice (some ⟨rb,ro,none⟩) rs.length rc,.slice da ds.length dc,.slice va nv vc] 27)).heap.size ((W.alloc (.cells #[.int .i64 cid,.int .i64 kind,.int .i64 mr,.int .i64 md,.slice pa pn pc] 39)).alloc (.cells #[.int .i64 cid,.slice (some ⟨rb,ro,none⟩) rs.length rc,.slice da ds.length dc,.slice va nv vc] 27)) X)) (by kernel_rfl) (HN.out _ b0.drew) (fun hHeld=>?_)
          refine wpAnyH_take (i:=0) (oi:={ dst:=some 31,op:=Op.fieldAddr 27 (Operand.tmp 3) 1,type:=0,pos := "column.go:89",after:=#[],guard:=none }) (v:=?v0x12) rfl (by kernel_rfl) (by kernel_rfl) (by kernel_rfl) (fun _ _ _ h=>h) (Or.inl ⟨by rfl,?hy0x12⟩) hHeld ?_
          case hy0x12=>(intro w hSw;(try dsimp only at hSw);go_simp;(first|done|with_reducible rfl))
          (try simp only[Act.put,List.setIfInBounds_toArray,List.set_cons_zero,List.set_cons_succ])
          refine wpAnyH_take (i:=1) (oi:={ dst:=some 32,op:=Op.load 22 (Operand.tmp 31),type:=22,pos := "column.go:89",after:=#[{ on:=0,ground:=Ground.data }],guard:=none }) (v:=?v1x12) rfl (by kernel_rfl) (by kernel_rfl) (by kernel_rfl) (fun _ _ _ h=>h) (Or.inl ⟨by rfl,?hy1x12⟩) hHeld ?_
          case hy1x12=>(intro w hSw;(try dsimp only at hSw);go_simp;(first|done|with_reducible rfl))
          (try simp only[Act.put,List.setIfInBounds_toArray,List.set_cons_zero,List.set_cons_succ])
          refine wpAnyH_take (i:=2) (oi:={ dst:=some 33,op:=Op.move (Operand.tmp 5),type:=194,pos := "column.go:89",after:=#[],guard:=none }) (v:=?v2x12) rfl (by kernel_rfl) (by kernel_rfl) (by kernel_rfl) (fun _ _ _ h=>h) (Or.inl ⟨by rfl,?hy2x12⟩) hHeld ?_
          case hy2x12=>(intro w hSw;(try dsimp only at hSw);go_simp;(first|done|with_reducible rfl))
          (try simp only[Act.put,List.setIfInBounds_toArray,List.set_cons_zero,List.set_cons_succ])
          refine wpAnyH_take (i:=3) (oi:={ dst:=some 34,op:=Op.fieldAddr 39 (Operand.tmp 2) 2,type:=0,pos := "column.go:89",after:=#[],guard:=none }) (v:=?v3x12) rfl (by kernel_rfl) (by kernel_rfl) (by kernel_rfl) (fun _ _ _ h=>h) (Or.inl ⟨by rfl,?hy3x12⟩) hHeld ?_
          case hy3x12=>(intro w hSw;(try dsimp only at hSw);go_simp;(first|done|with_reducible rfl))
          (try simp only[Act.put,List.setIfInBounds_toArray,List.set_cons_zero,List.set_cons_succ])
          refine wpAnyH_take (i:=4) (oi:={ dst:=some 35,op:=Op.load 3 (Operand.tmp 34),type:=3,pos := "column.go:89",after:=#[{ on:=3,ground:=Ground.data }],guard:=none }) (v:=?v4x12) rfl (by kernel_rfl) (by kernel_rfl) (by kernel_rfl) (fun _ _ _ h=>h) (Or.inl ⟨by rfl,?hy4x12⟩) hHeld ?_
          case hy4x12=>(intro w hSw;(try dsimp only at hSw);go_simp;(first|done|with_reducible rfl))
          (try simp only[Act.put,List.setIfInBounds_toArray,List.set_cons_zero,List.set_cons_succ])
          refine wpAnyH_ready (rs:=[5]) (by kernel_rfl) (by simp) ?_
          refine AllReadyH.cons (o:={ dst:=some 36,op:=Op.call { callee:=Callee.value (Operand.tmp 33),args:=#[Operand.tmp 35],argTypes:=#[3] },type:=108,pos := "column.go:89",after:=#[{ on:=2,ground:=Ground.data },{ on:=4,ground:=Ground.data }],guard:=none }) rfl (fun K hK=>?_) AllReadyH.nil
          go_simp
          (go_at_call 126;(with_reducible refine Calls.mono (outside_any mr _) ?_);rintro e w' ⟨rfl,hw'⟩;subst hw')
          go_wp2_with fail
          refine hK.out _ _ (HN.out _ ((b0.alloc (Nat.le_refl _) _).drew)) (fun hH2=>?_)
          (try simp only[Act.put,List.setIfInBounds_toArray,List.set_cons_zero,List.set_cons_succ])
          refine wpAnyH_ready (rs:=[6]) (by kernel_rfl) (by simp) ?_
          refine AllReadyH.cons (o:={ dst:=some 37,op:=Op.call { callee:=Callee.value (Operand.func 128),args:=#[Operand.tmp 32,Operand.tmp 36],argTypes:=#[22,108] },type:=4,pos := "column.go:89",after:=#[{ on:=1,ground:=Ground.data },{ on:=5,ground:=Ground.data },{ on:=5,ground:=Ground.chain }],guard:=none }) rfl (fun K hK=>?_) AllReadyH.nil
          go_simp
          (go_at_call 128;refine Calls.mono HC1.out ?_;rintro e w' ⟨rfl,hw'⟩;subst hw')
          go_wp2_with fail
          refine hK.out _ _ (HN.out _ ((b0.alloc (Nat.le_refl _) _).drew)) (fun hH3=>?_)
          (try simp only[Act.put,List.setIfInBounds_toArray,List.set_cons_zero,List.set_cons_succ])
          refine wpAnyH_take (i:=7) (oi:={ dst:=some 38,op:=Op.move (Operand.tmp 37),type:=4,pos := "column.go:89",after:=#[{ on:=6,ground:=Ground.data },{ on:=6,ground:=Ground.chain }],guard:=none }) (v:=?v7x12) rfl (by kernel_rfl) (by kernel_rfl) (by kernel_rfl) (fun _ _ _ h=>h) (Or.inl ⟨by rfl,?hy7x12⟩) hH3 ?_
          case hy7x12=>(intro w hSw;(try dsimp only at hSw);go_simp;(first|done|with_reducible rfl))
          (try simp only[Act.put,List.setIfInBounds_toArray,List.set_cons_zero,List.set_cons_succ])
          refine wpAnyH_take (i:=8) (oi:={ dst:=some 39,op:=Op.fieldAddr 27 (Operand.tmp 3) 2,type:=0,pos := "column.go:89",after:=#[{ on:=7,ground:=Ground.guard }],guard:=some (7,false) }) (v:=undef) rfl (by kernel_rfl) (by kernel_rfl) (by kernel_rfl) (fun _ _ _ h=>h) (Or.inr ⟨by rfl,rfl⟩) hH3 ?_
          (try simp only[Act.put,List.setIfInBounds_toArray,List.set_cons_zero,List.set_cons_succ])
          refine wpAnyH_take (i:=9) (oi:={ dst:=some 40,op:=Op.load 22 (Operand.tmp 39),type:=22,pos := "column.go:89",after:=#[{ on:=8,ground:=Ground.data },{ on:=7,ground:=Ground.guard }],guard:=some (7,false) }) (v:=undef) rfl (by kernel_rfl) (by kernel_rfl) (by kernel_rfl) (fun _ _ _ h=>h) (Or.inr ⟨by rfl,rfl⟩) hH3 ?_
          (try simp only[Act.put,List.setIfInBounds_toArray,List.set_cons_zero,List.set_cons_succ])
          refine wpAnyH_take (i:=10) (oi:={ dst:=some 41,op:=Op.move (Operand.tmp 5),type:=194,pos := "column.go:89",after:=#[{ on:=7,ground:=Ground.guard }],guard:=some (7,false) }) (v:=undef) rfl (by kernel_rfl) (by kernel_rfl) (by kernel_rfl) (fun _ _ _ h=>h) (Or.inr ⟨by rfl,rfl⟩) hH3 ?_
          (try simp only[Act.put,List.setIfInBounds_toArray,List.set_cons_zero,List.set_cons_succ])
          refine wpAnyH_take (i:=11) (oi:={ dst:=some 42,op:=Op.fieldAddr 39 (Operand.tmp 2) 3,type:=0,pos := "column.go:89",after:=#[{ on:=7,ground:=Ground.guard }],guard:=some (7,false) }) (v:=undef) rfl (by kernel_rfl) (by kernel_rfl) (by kernel_rfl) (fun _ _ _ h=>h) (Or.inr ⟨by rfl,rfl⟩) hH3 ?_
          (try simp only[Act.put,List.setIfInBounds_toArray,List.set_cons_zero,List.set_cons_succ])
          refine wpAnyH_take (i:=12) (oi:={ dst:=some 43,op:=Op.load 3 (Operand.tmp 42),type:=3,pos := "column.go:89",after:=#[{ on:=11,ground:=Ground.data },{ on:=7,ground:=Ground.guard }],guard:=some (7,false) }) (v:=undef) rfl (by kernel_rfl) (by kernel_rfl) (by kernel_rfl) (fun _ _ _ h=>h) (Or.inr ⟨by rfl,rfl⟩) hH3 ?_
          (try simp only[Act.put,List.setIfInBounds_toArray,List.set_cons_zero,List.set_cons_succ])
          refine wpAnyH_take (i:=13) (oi:={ dst:=some 44,op:=Op.call { callee:=Callee.value (Operand.tmp 41),args:=#[Operand.tmp 43],argTypes:=#[3] },type:=108,pos := "column.go:89",after:=#[{ on:=10,ground:=Ground.data },{ on:=12,ground:=Ground.data },{ on:=7,ground:=Ground.chain },{ on:=7,ground:=Ground.guard }],guard:=some (7,false) }) (v:=undef) rfl (by kernel_rfl) (by kernel_rfl) (by kernel_rfl) (fun _ _ _ h=>h) (Or.inr ⟨by rfl,rfl⟩) hH3 ?_
          (try simp only[Act.put,List.setIfInBounds_toArray,List.set_cons_zero,List.set_cons_succ])
          refine wpAnyH_take (i:=14) (oi:={ dst:=some 45,op:=Op.call { callee:=Callee.value (Operand.func 128),args:=#[Operand.tmp 40,Operand.tmp 44],argTypes:=#[22,108] },type:=4,pos := "column.go:89",after:=#[{ on:=9,ground:=Ground.data },{ on:=13,ground:=Ground.data },{ on:=13,ground:=Ground.chain },{ on:=7,ground:=Ground.guard }],guard:=some (7,false) }) (v:=undef) rfl (by kernel_rfl) (by kernel_rfl) (by kernel_rfl) (fun _ _ _ h=>h) (Or.inr ⟨by rfl,rfl⟩) hH3 ?_
          (try simp only[Act.put,List.setIfInBounds_toArray,List.set_cons_zero,List.set_cons_succ])
          refine wpAnyH_take (i:=15) (oi:={ dst:=some 46,op:=Op.pick (Operand.tmp 38) (Operand.const (Value.bool true)) (Operand.tmp 45),type:=4,pos := "column.go:89",after:=#[{ on:=7,ground:=Ground.data },{ on:=14,ground:=Ground.data }],guard:=none }) (v:=?v15x12) rfl (by kernel_rfl) (by kernel_rfl) (by kernel_rfl) (fun _ _ _ h=>h) (Or.inl ⟨by rfl,?hy15x12⟩) hH3 ?_
          case hy15x12=>(intro w hSw;(try dsimp only at hSw);go_simp;(first|done|with_reducible rfl))
          (try simp only[Act.put,List.setIfInBounds_toArray,List.set_cons_zero,List.set_cons_succ])
          refine wpAnyH_done (by kernel_rfl) ?_ _
          all_goals
           go_wp2
           go_ret
           exact⟨by rw[HE.out];rfl,HBx1.out⟩
        · have qr:(r == 0)=false:=by simp[hz]
          have HF:Hid (fitB cid mr md cid rs ds nv=false):=(by show _=_;rw[HE0.out,HH.out,qr];rfl)
          clear hz HE0 HEg
          go_enter Tryz.func87,Tryz.ntmps87
          go_wp2
          go_ret
          exact⟨by rw[HF.out];rfl,HB.out⟩
     | false=>have h:=H1.out;rw[HT.out] at h;cases h
   · have HE:Hid (fitB lid mr md cid rs ds nv=false):=(by show _=_;unfold fitB;rw[if_pos (.inr h2)])
     subst h1
     have q2:((rs.length:Int) == (ds.length:Int))=false:=by rw[beq_eq_false_iff_ne];omega
     clear h2
     go_enter Tryz.func87,Tryz.ntmps87
     go_wp2
     go_ret
     exact⟨by rw[HE.out];rfl,HB.out⟩
 · have HE:Hid (fitB lid mr md cid rs ds nv=false):=(by show _=_;unfold fitB;rw[if_pos (.inl h1)])
   have q1:(cid == lid)=false:=by simp[h1]
   clear h1
   go_enter Tryz.func87,Tryz.ntmps87
   go_wp2
   go_ret
   exact⟨by rw[HE.out];rfl,HB.out⟩
theorem sfits_f (lid kind mr md:Int)(pa:Option Addr)(pn pc:Nat)(cid:Int)(ra:Option Addr)(rs:List Int)(rc:Nat)(da:Option Addr)(ds:List Int)(dc:Nat)(va:Option Addr)(nv vc:Nat)(hr:rs.length<=1048576)(hd:ds.length<=1048576)(W:World)(hlr:Lies W ra (i64s rs))(hld:Lies W da (i64s ds))(HT:Hid ((rs.any fun x=>!(btw 0 x mr))=false)) :
    Calls Tryz.prog 87 #[leafV lid kind mr md pa pn pc,colV cid ra rs.length rc da ds.length dc va nv vc] W fun e w'=>e=.returned (.bool (fitB lid mr md cid rs ds nv))/\Below W.heap.size W w':=by
 have hb2:Below W.heap.size W ((W.alloc (.cells #[.int .i64 lid,.int .i64 kind,.int .i64 mr,.int .i64 md,.slice pa pn pc] 39)).alloc (.cells #[.int .i64 cid,.slice ra rs.length rc,.slice da ds.length dc,.slice va nv vc] 27)):=((Below.refl _ _).alloc (Nat.le_refl _) _).alloc (by simp) _
 have HB:Hid (Below W.heap.size W ((W.alloc (.cells #[.int .i64 lid,.int .i64 kind,.int .i64 mr,.int .i64 md,.slice pa pn pc] 39)).alloc (.cells #[.int .i64 cid,.slice ra rs.length rc,.slice da ds.length dc,.slice va nv vc] 27))):=hb2
 have HX:Hid (((W.alloc (.cells #[.int .i64 lid,.int .i64 kind,.int .i64 mr,.int .i64 md,.slice pa pn pc] 39)).alloc (.cells #[.int .i64 cid,.slice ra rs.length rc,.slice da ds.length dc,.slice va nv vc] 27)).heap[W.heap.size]? = some (.cells #[.int .i64 lid,.int .i64 kind,.int .i64 mr,.int .i64 md,.slice pa pn pc] 39 (0,0))):=blk_alloc (heap_alloc_new W _)
 have HY:Hid (((W.alloc (.cells #[.int .i64 lid,.int .i64 kind,.int .i64 mr,.int .i64 md,.slice pa pn pc] 39)).alloc (.cells #[.int .i64 cid,.slice ra rs.length rc,.slice da ds.length dc,.slice va nv vc] 27)).heap[W.heap.size+1]? = some (.cells #[.int .i64 cid,.slice ra rs.length rc,.slice da ds.length dc,.slice va nv vc] 27 (0,0))):=(by
  have h:=heap_alloc_new (W.alloc (.cells #[.int .i64 lid,.int .i64 kind,.int .i64 mr,.int .i64 md,.slice pa pn pc] 39)) (.cells #[.int .i64 cid,.slice ra rs.length rc,.slice da ds.length dc,.slice va nv vc] 27)
  rwa [show (W.alloc (.cells #[.int .i64 lid,.int .i64 kind,.int .i64 mr,.int .i64 md,.slice pa pn pc] 39)).heap.size=W.heap.size+1 by simp] at h)
 have HLr:Hid (Lies ((W.alloc (.cells #[.int .i64 lid,.int .i64 kind,.int .i64 mr,.int .i64 md,.slice pa pn pc] 39)).alloc (.cells #[.int .i64 cid,.slice ra rs.length rc,.slice da ds.length dc,.slice va nv vc] 27)) ra (i64s rs)):=hlr.keep hb2
 have HLd:Hid (Lies ((W.alloc (.cells #[.int .i64 lid,.int .i64 kind,.int .i64 mr,.int .i64 md,.slice pa pn pc] 39)).alloc (.cells #[.int .i64 cid,.slice ra rs.length rc,.slice da ds.length dc,.slice va nv vc] 27)) da (i64s ds)):=hld.keep hb2
 clear hlr hld hb2
 unfold leafV colV
 by_cases h1:cid=lid
 · by_cases h2:rs.length=ds.length
   · subst h1
     have HE0:Hid (fitB cid mr md cid rs ds nv=if headB rs=true then false else if (rs.any fun x=>!(btw 0 x mr))=true\/(ds.any fun x=>!(btw 0 x md))=true then false else decide (nv=cntE md ds)):=(by show _=_;unfold fitB;rw[if_neg (by simp[h2])])
     have q2:((rs.length:Int) == (ds.length:Int))=true:=by simp[h2]
     have H2:Hid (rs.length=ds.length):=h2
     clear h2
     obtain⟨b1,H1⟩:∃b1,Hid ((rs.any fun x=>!(btw 0 x mr))=b1):=⟨_,rfl⟩
     obtain⟨b2,Hb2⟩:∃b2,Hid ((ds.any fun x=>!(btw 0 x md))=b2):=⟨_,rfl⟩
     have b0:Below ((W.alloc (.cells #[.int .i64 cid,.int .i64 kind,.int .i64 mr,.int .i64 md,.slice pa pn pc] 39)).alloc (.cells #[.int .i64 cid,.slice ra rs.length rc,.slice da ds.length dc,.slice va nv vc] 27)).heap.size ((W.alloc (.cells #[.int .i64 cid,.int .i64 kind,.int .i64 mr,.int .i64 md,.slice pa pn pc] 39)).alloc (.cells #[.int .i64 cid,.slice ra rs.length rc,.slice da ds.length dc,.slice va nv vc] 27)) ((W.alloc (.cells #[.int .i64 cid,.int .i64 kind,.int .i64 mr,.int .i64 md,.slice pa pn pc] 39)).alloc (.cells #[.int .i64 cid,.slice ra rs.length rc,.slice da ds.length dc,.slice va nv vc] 27)):=Below.refl _ _
     have HN:Hid (∀X,Below ((W.alloc (.cells #[.int .i64 cid,.int .i64 kind,.int .i64 mr,.int .i64 md,.slice pa pn pc] 39)).alloc (.cells #[.int .i64 cid,.slice ra rs.length rc,.slice da ds.length dc,.slice va nv vc] 27)).heap.size ((W.alloc (.cells #[.int .i64 cid,.int .i64 kind,.int .i64 mr,.int .i64 md,.slice pa pn pc] 39)).alloc (.cells #[.int .i64 cid,.slice ra rs.length rc,.slice da ds.length dc,.slice va nv vc] 27)) X->X.cell? ⟨W.heap.size,0,none⟩=some (.int .i64 cid)/\X.cell? ⟨W.heap.size,1,none⟩=some (.int .i64 kind)/\X.cell? ⟨W.heap.size,2,none⟩=some (.int .i64 mr)/\X.cell? ⟨W.heap.size,3,none⟩=some (.int .i64 md)/\X.cell? ⟨W.heap.size,4,none⟩=some (.slice pa pn pc)/\X.cell? ⟨W.heap.size+1,0,none⟩=some (.int .i64 cid)/\X.cell? ⟨W.heap.size+1,1,none⟩=some (.slice ra rs.length rc)/\X.cell? ⟨W.heap.size+1,2,none⟩=some (.slice da ds.length dc)/\X.cell? ⟨W.heap.size+1,3,none⟩=some (.slice va nv vc)/\Below ((W.alloc (.cells #[.int .i64 cid,.int .i64 kind,.int .i64 mr,.int .i64 md,.slice pa pn pc] 39)).alloc (.cells #[.int .i64 cid,.slice ra rs.length rc,.slice da ds.length dc,.slice va nv vc] 27)).heap.size ((W.alloc (.cells #[.int .i64 cid,.int .i64 kind,.int .i64 mr,.int .i64 md,.slice pa pn pc] 39)).alloc (.cells #[.int .i64 cid,.slice ra rs.length rc,.slice da ds.length dc,.slice va nv vc] 27)) X):=fun X hX=>by
      obtain⟨⟨n0,n1,n2,n3,n4⟩,_⟩:=row_five (blk_keep hX HX.out)
      obtain⟨l0,l1,l2,l3⟩:=row_four (blk_keep hX HY.out)
      exact⟨n0,n1,n2,n3,n4,l0,l1,l2,l3,hX⟩
     have HC1:=containsO_any mr (W.heap.size+1+1) ra rc rs hr ((((W.alloc (.cells #[.int .i64 cid,.int .i64 kind,.int .i64 mr,.int .i64 md,.slice pa pn pc] 39)).alloc (.cells #[.int .i64 cid,.slice ra rs.length rc,.slice da ds.length dc,.slice va nv vc] 27)).alloc (.cells #[.int .i64 mr] 3)).drew) (by
      have h:=heap_alloc_new ((W.alloc (.cells #[.int .i64 cid,.int .i64 kind,.int .i64 mr,.int .i64 md,.slice pa pn pc] 39)).alloc (.cells #[.int .i64 cid,.slice ra rs.length rc,.slice da ds.length dc,.slice va nv vc] 27)) (.cells #[.int .i64 mr] 3)
      rw[show ((W.alloc (.cells #[.int .i64 cid,.int .i64 kind,.int .i64 mr,.int .i64 md,.slice pa pn pc] 39)).alloc (.cells #[.int .i64 cid,.slice ra rs.length rc,.slice da ds.length dc,.slice va nv vc] 27)).heap.size=W.heap.size+1+1 by simp] at h
      exact h) (HLr.out.keep (b0.alloc (Nat.le_refl _) _).drew)
     have HC2:=containsO_any md (W.heap.size+1+1+1) da dc ds hd (((((W.alloc (.cells #[.int .i64 cid,.int .i64 kind,.int .i64 mr,.int .i64 md,.slice pa pn pc] 39)).alloc (.cells #[.int .i64 cid,.slice ra rs.length rc,.slice da ds.length dc,.slice va nv vc] 27)).alloc (.cells #[.int .i64 mr] 3)).alloc (.cells #[.int .i64 md] 3)).drew) (by
      have h:=heap_alloc_new (((W.alloc (.cells #[.int .i64 cid,.int .i64 kind,.int .i64 mr,.int .i64 md,.slice pa pn pc] 39)).alloc (.cells #[.int .i64 cid,.slice ra rs.length rc,.slice da ds.length dc,.slice va nv vc] 27)).alloc (.cells #[.int .i64 mr] 3)) (.cells #[.int .i64 md] 3)
      rw[show (((W.alloc (.cells #[.int .i64 cid,.int .i64 kind,.int .i64 mr,.int .i64 md,.slice pa pn pc] 39)).alloc (.cells #[.int .i64 cid,.slice ra rs.length rc,.slice da ds.length dc,.slice va nv vc] 27)).alloc (.cells #[.int .i64 mr] 3)).heap.size=W.heap.size+1+1+1 by simp] at h
      exact h) (HLd.out.keep ((b0.alloc (Nat.le_refl _) _).alloc (by simp) _).drew)
     rw[H1.out] at HC1
     rw[Hb2.out] at HC2
     have HC1:Hid _:=HC1
     have HC2:Hid _:=HC2
     have HBx1:Hid (Below W.heap.size W (((W.alloc (.cells #[.int .i64 cid,.int .i64 kind,.int .i64 mr,.int .i64 md,.slice pa pn pc] 39)).alloc (.cells #[.int .i64 cid,.slice ra rs.length rc,.slice da ds.length dc,.slice va nv vc] 27)).alloc (.cells #[.int .i64 mr] 3)).drew):=(HB.out.alloc (by simp;omega) _).drew
     have HBx2:Hid (Below W.heap.size W ((((W.alloc (.cells #[.int .i64 cid,.int .i64 kind,.int .i64 mr,.int .i64 md,.slice pa pn pc] 39)).alloc (.cells #[.int .i64 cid,.slice ra rs.length rc,.slice da ds.length dc,.slice va nv vc] 27)).alloc (.cells #[.int .i64 mr] 3)).alloc (.cells #[.int .i64 md] 3)).drew):=((HB.out.alloc (by simp;omega) _).alloc (by simp;omega) _).drew
     have HEg:Hid (headB rs=false->fitB cid mr md cid rs ds nv=if b1=true\/b2=true then false else decide (nv=cntE md ds)):=fun hh=>by
      rw[HE0.out,H1.out,Hb2.out,hh]
      rfl
     cases b1 with
     | true=>have h:=H1.out;rw[HT.out] at h;cases h
     | false =>
      cases b2
      all_goals
       by_cases hl0:rs.length=0
       · have HE:Hid _:=HEg.out (by rw[List.eq_nil_of_length_eq_zero hl0];rfl)
         have q0:decide ((0:Int)<(rs.length:Int))=false:=by rw[decide_eq_false_iff_not];omega
         have hnp:¬ 0<rs.length:=by omega
         clear HE0 hl0 HEg
         go_enter Tryz.func87,Tryz.ntmps87
         go_wp2
         go_region_held3 (fun X=>X.cell? ⟨W.heap.size,0,none⟩=some (.int .i64 cid)/\X.cell? ⟨W.heap.size,1,none⟩=some (.int .i64 kind)/\X.cell? ⟨W.heap.size,2,none⟩=some (.int .i64 mr)/\X.cell? ⟨W.heap.size,3,none⟩=some (.int .i64 md)/\X.cell? ⟨W.heap.size,4,none⟩=some (.slice pa pn pc)/\X.cell? ⟨W.heap.size+1,0,none⟩=some (.int .i64 cid)/\X.cell? ⟨W.heap.size+1,1,none⟩=some (.slice ra rs.length rc)/\X.cell? ⟨W.heap.size+1,2,none⟩=some (.slice da ds.length dc)/\X.cell? ⟨W.heap.size+1,3,none⟩=some (.slice va nv vc)/\Below ((W.alloc (.cells #[.int .i64 cid,.int .i64 kind,.int .i64 mr,.int .i64 md,.slice pa pn pc] 39)).alloc (.cells #[.int .i64 cid,.slice ra rs.length rc,.slice da ds.length dc,.slice va nv vc] 27)).heap.size ((W.alloc (.cells #[.int .i64 cid,.int .i64 kind,.int .i64 mr,.int .i64 md,.slice pa pn pc] 39)).alloc (.cells #[.int .i64 cid,.slice ra rs.length rc,.slice da ds.length dc,.slice va nv vc] 27)) X) (first|(with_reducible refine HN.out _ ?_;repeat' (first|with_reducible assumption|with_reducible exact b0.drew|with_reducible exact b0|with_reducible exact (b0.alloc (Nat.le_refl _) _).drew|with_reducible exact ((b0.alloc (Nat.le_refl _) _).alloc (by simp) _).drew|with_reducible refine Below.alloc ?_ ?_ _|with_reducible exact Below.size (by assumption)|(simp;done)|(simp;omega)|omega))) (first|(go_at_call 126;with_reducible refine Calls.mono (outside_any mr _) ?_;rintro e w' ⟨rfl,hw'⟩;subst hw')|(go_at_call 126;with_reducible refine Calls.mono (outside_any md _) ?_;rintro e w' ⟨rfl,hw'⟩;subst hw')|(go_at_call 128;refine Calls.mono HC1.out ?_;rintro e w' ⟨rfl,hw'⟩;subst hw')|(go_at_call 128;refine Calls.mono HC2.out ?_;rintro e w' ⟨rfl,hw'⟩;subst hw'))
         all_goals first
          | (go_wp2;go_ret;exact⟨by rw[HE.out];rfl,HBx2.out⟩)
          | skip
         all_goals
          have hbl:Below ((W.alloc (.cells #[.int .i64 cid,.int .i64 kind,.int .i64 mr,.int .i64 md,.slice pa pn pc] 39)).alloc (.cells #[.int .i64 cid,.slice ra rs.length rc,.slice da ds.length dc,.slice va nv vc] 27)).heap.size ((W.alloc (.cells #[.int .i64 cid,.int .i64 kind,.int .i64 mr,.int .i64 md,.slice pa pn pc] 39)).alloc (.cells #[.int .i64 cid,.slice ra rs.length rc,.slice da ds.length dc,.slice va nv vc] 27)) ((((W.alloc (.cells #[.int .i64 cid,.int .i64 kind,.int .i64 mr,.int .i64 md,.slice pa pn pc] 39)).alloc (.cells #[.int .i64 cid,.slice ra rs.length rc,.slice da ds.length dc,.slice va nv vc] 27)).alloc (.cells #[.int .i64 mr] 3)).alloc (.cells #[.int .i64 md] 3)).drew:=(((Below.refl _ _).alloc (Nat.le_refl _) _).alloc (by simp) _).drew
          have HX4:Hid (((((W.alloc (.cells #[.int .i64 cid,.int .i64 kind,.int .i64 mr,.int .i64 md,.slice pa pn pc] 39)).alloc (.cells #[.int .i64 cid,.slice ra rs.length rc,.slice da ds.length dc,.slice va nv vc] 27)).alloc (.cells #[.int .i64 mr] 3)).alloc (.cells #[.int .i64 md] 3)).drew.heap[W.heap.size]? = some (.cells #[.int .i64 cid,.int .i64 kind,.int .i64 mr,.int .i64 md,.slice pa pn pc] 39 (0,0))):=blk_keep hbl HX.out
          have HY4:Hid (((((W.alloc (.cells #[.int .i64 cid,.int .i64 kind,.int .i64 mr,.int .i64 md,.slice pa pn pc] 39)).alloc (.cells #[.int .i64 cid,.slice ra rs.length rc,.slice da ds.length dc,.slice va nv vc] 27)).alloc (.cells #[.int .i64 mr] 3)).alloc (.cells #[.int .i64 md] 3)).drew.heap[W.heap.size+1]? = some (.cells #[.int .i64 cid,.slice ra rs.length rc,.slice da ds.length dc,.slice va nv vc] 27 (0,0))):=blk_keep hbl HY.out
          have HLd4:Hid (Lies ((((W.alloc (.cells #[.int .i64 cid,.int .i64 kind,.int .i64 mr,.int .i64 md,.slice pa pn pc] 39)).alloc (.cells #[.int .i64 cid,.slice ra rs.length rc,.slice da ds.length dc,.slice va nv vc] 27)).alloc (.cells #[.int .i64 mr] 3)).alloc (.cells #[.int .i64 md] 3)).drew da (i64s ds)):=HLd.out.keep hbl
          have HBx:Hid (Below W.heap.size W ((((W.alloc (.cells #[.int .i64 cid,.int .i64 kind,.int .i64 mr,.int .i64 md,.slice pa pn pc] 39)).alloc (.cells #[.int .i64 cid,.slice ra rs.length rc,.slice da ds.length dc,.slice va nv vc] 27)).alloc (.cells #[.int .i64 mr] 3)).alloc (.cells #[.int .i64 md] 3)).drew):=HBx2.out
          go_wp2
          clear hbl HBx1 HBx2 HX HY HLd HB HC1 HC2 HN b0
          generalize ((((W.alloc (.cells #[.int .i64 cid,.int .i64 kind,.int .i64 mr,.int .i64 md,.slice pa pn pc] 39)).alloc (.cells #[.int .i64 cid,.slice ra rs.length rc,.slice da ds.length dc,.slice va nv vc] 27)).alloc (.cells #[.int .i64 mr] 3)).alloc (.cells #[.int .i64 md] 3)).drew=w4 at *
          have b40:Below w4.heap.size w4 w4:=Below.refl _ _
          have HN4:Hid (∀X,Below w4.heap.size w4 X->(X.cell? ⟨W.heap.size,0,none⟩=some (.int .i64 cid)/\X.cell? ⟨W.heap.size,1,none⟩=some (.int .i64 kind)/\X.cell? ⟨W.heap.size,2,none⟩=some (.int .i64 mr)/\X.cell? ⟨W.heap.size,3,none⟩=some (.int .i64 md)/\X.cell? ⟨W.heap.size,4,none⟩=some (.slice pa pn pc))/\(X.cell? ⟨W.heap.size+1,0,none⟩=some (.int .i64 cid)/\X.cell? ⟨W.heap.size+1,1,none⟩=some (.slice ra rs.length rc)/\X.cell? ⟨W.heap.size+1,2,none⟩=some (.slice da ds.length dc)/\X.cell? ⟨W.heap.size+1,3,none⟩=some (.slice va nv vc))/\Below w4.heap.size w4 X):=fun X hX=>⟨(row_five (blk_keep hX HX4.out)).1,row_four (blk_keep hX HY4.out),hX⟩
          obtain⟨⟨l0,l1,l2,l3,l4⟩,⟨k0,k1,k2,k3⟩,_⟩:=HN4.out w4 b40
          go_region_held3 (fun X=>(X.cell? ⟨W.heap.size,0,none⟩=some (.int .i64 cid)/\X.cell? ⟨W.heap.size,1,none⟩=some (.int .i64 kind)/\X.cell? ⟨W.heap.size,2,none⟩=some (.int .i64 mr)/\X.cell? ⟨W.heap.size,3,none⟩=some (.int .i64 md)/\X.cell? ⟨W.heap.size,4,none⟩=some (.slice pa pn pc))/\(X.cell? ⟨W.heap.size+1,0,none⟩=some (.int .i64 cid)/\X.cell? ⟨W.heap.size+1,1,none⟩=some (.slice ra rs.length rc)/\X.cell? ⟨W.heap.size+1,2,none⟩=some (.slice da ds.length dc)/\X.cell? ⟨W.heap.size+1,3,none⟩=some (.slice va nv vc))/\Below w4.heap.size w4 X) (first|(with_reducible refine HN4.out _ ?_;repeat' (first|with_reducible assumption|with_reducible exact b40.drew|with_reducible exact b40|with_reducible exact HBV.out))) (first|(go_at_call 56;refine (valuesOf_any cid kind mr md pa pn pc da dc ds hd _ (HLd4.out.keep b40.drew)).mono ?_;rintro e w5 ⟨rfl,hb5⟩;have HBV:Hid (Below w4.heap.size w4 w5):=b40.drew.trans hb5;clear hb5))
          all_goals
           go_wp2
           go_ret
           refine⟨ret_b ?_,HBx.out.trans (HBV.out.mono HBx.out.size)⟩
           rw[HE.out,Bool.eq_iff_iff]
           simp
           try omega
       · have hpos:0<rs.length:=by omega
         have q0:decide ((0:Int)<(rs.length:Int))=true:=by rw[decide_eq_true_iff];omega
         obtain⟨rb,ro,era,hcell⟩:=HLr.out 0 (by simpa [i64s] using hpos)
         subst era
         obtain⟨r,hr0⟩:∃r,r=rs[0]:=⟨_,rfl⟩
         have hh:=headB_at rs hpos
         rw[←hr0] at hh
         simp only[Nat.add_zero] at hcell
         rw[show (i64s rs)[0]'(by simpa [i64s] using hpos)=.int .i64 rs[0] by simp[i64s],←hr0] at hcell
         have HH:Hid (headB rs=!(r == 0)):=hh
         clear hl0 hh hr0
         by_cases hz:r=0
         · subst hz
           have HE:Hid _:=HEg.out (by rw[HH.out];rfl)
           clear HE0 HEg HH
           go_enter Tryz.func87,Tryz.ntmps87
           go_wp2
           go_region_held3 (fun X=>X.cell? ⟨W.heap.size,0,none⟩=some (.int .i64 cid)/\X.cell? ⟨W.heap.size,1,none⟩=some (.int .i64 kind)/\X.cell? ⟨W.heap.size,2,none⟩=some (.int .i64 mr)/\X.cell? ⟨W.heap.size,3,none⟩=some (.int .i64 md)/\X.cell? ⟨W.heap.size,4,none⟩=some (.slice pa pn pc)/\X.cell? ⟨W.heap.size+1,0,none⟩=some (.int .i64 cid)/\X.cell? ⟨W.heap.size+1,1,none⟩=some (.slice (some ⟨rb,ro,none⟩) rs.length rc)/\X.cell? ⟨W.heap.size+1,2,none⟩=some (.slice da ds.length dc)/\X.cell? ⟨W.heap.size+1,3,none⟩=some (.slice va nv vc)/\Below ((W.alloc (.cells #[.int .i64 cid,.int .i64 kind,.int .i64 mr,.int .i64 md,.slice pa pn pc] 39)).alloc (.cells #[.int .i64 cid,.slice (some ⟨rb,ro,none⟩) rs.length rc,.slice da ds.length dc,.slice va nv vc] 27)).heap.size ((W.alloc (.cells #[.int .i64 cid,.int .i64 kind,.int .i64 mr,.int .i64 md,.slice pa pn pc] 39)).alloc (.cells #[.int .i64 cid,.slice (some ⟨rb,ro,none⟩) rs.length rc,.slice da ds.length dc,.slice va nv vc] 27)) X) (first|(with_reducible refine HN.out _ ?_;repeat' (first|with_reducible assumption|with_reducible exact b0.drew|with_reducible exact b0|with_reducible exact (b0.alloc (Nat.le_refl _) _).drew|with_reducible exact ((b0.alloc (Nat.le_refl _) _).alloc (by simp) _).drew|with_reducible refine Below.alloc ?_ ?_ _|with_reducible exact Below.size (by assumption)|(simp;done)|(simp;omega)|omega))) (first|(go_at_call 126;with_reducible refine Calls.mono (outside_any mr _) ?_;rintro e w' ⟨rfl,hw'⟩;subst hw')|(go_at_call 126;with_reducible refine Calls.mono (outside_any md _) ?_;rintro e w' ⟨rfl,hw'⟩;subst hw')|(go_at_call 128;refine Calls.mono HC1.out ?_;rintro e w' ⟨rfl,hw'⟩;subst hw')|(go_at_call 128;refine Calls.mono HC2.out ?_;rintro e w' ⟨rfl,hw'⟩;subst hw'))
           all_goals first
            | (go_wp2;go_ret;exact⟨by rw[HE.out];rfl,HBx2.out⟩)
            | skip
           all_goals
            have hbl:Below ((W.alloc (.cells #[.int .i64 cid,.int .i64 kind,.int .i64 mr,.int .i64 md,.slice pa pn pc] 39)).alloc (.cells #[.int .i64 cid,.slice (some ⟨rb,ro,none⟩) rs.length rc,.slice da ds.length dc,.slice va nv vc] 27)).heap.size ((W.alloc (.cells #[.int .i64 cid,.int .i64 kind,.int .i64 mr,.int .i64 md,.slice pa pn pc] 39)).alloc (.cells #[.int .i64 cid,.slice (some ⟨rb,ro,none⟩) rs.length rc,.slice da ds.length dc,.slice va nv vc] 27)) ((((W.alloc (.cells #[.int .i64 cid,.int .i64 kind,.int .i64 mr,.int .i64 md,.slice pa pn pc] 39)).alloc (.cells #[.int .i64 cid,.slice (some ⟨rb,ro,none⟩) rs.length rc,.slice da ds.length dc,.slice va nv vc] 27)).alloc (.cells #[.int .i64 mr] 3)).alloc (.cells #[.int .i64 md] 3)).drew:=(((Below.refl _ _).alloc (Nat.le_refl _) _).alloc (by simp) _).drew
            have HX4:Hid (((((W.alloc (.cells #[.int .i64 cid,.int .i64 kind,.int .i64 mr,.int .i64 md,.slice pa pn pc] 39)).alloc (.cells #[.int .i64 cid,.slice (some ⟨rb,ro,none⟩) rs.length rc,.slice da ds.length dc,.slice va nv vc] 27)).alloc (.cells #[.int .i64 mr] 3)).alloc (.cells #[.int .i64 md] 3)).drew.heap[W.heap.size]? = some (.cells #[.int .i64 cid,.int .i64 kind,.int .i64 mr,.int .i64 md,.slice pa pn pc] 39 (0,0))):=blk_keep hbl HX.out
            have HY4:Hid (((((W.alloc (.cells #[.int .i64 cid,.int .i64 kind,.int .i64 mr,.int .i64 md,.slice pa pn pc] 39)).alloc (.cells #[.int .i64 cid,.slice (some ⟨rb,ro,none⟩) rs.length rc,.slice da ds.length dc,.slice va nv vc] 27)).alloc (.cells #[.int .i64 mr] 3)).alloc (.cells #[.int .i64 md] 3)).drew.heap[W.heap.size+1]? = some (.cells #[.int .i64 cid,.slice (some ⟨rb,ro,none⟩) rs.length rc,.slice da ds.length dc,.slice va nv vc] 27 (0,0))):=blk_keep hbl HY.out
            have HLd4:Hid (Lies ((((W.alloc (.cells #[.int .i64 cid,.int .i64 kind,.int .i64 mr,.int .i64 md,.slice pa pn pc] 39)).alloc (.cells #[.int .i64 cid,.slice (some ⟨rb,ro,none⟩) rs.length rc,.slice da ds.length dc,.slice va nv vc] 27)).alloc (.cells #[.int .i64 mr] 3)).alloc (.cells #[.int .i64 md] 3)).drew da (i64s ds)):=HLd.out.keep hbl
            have HBx:Hid (Below W.heap.size W ((((W.alloc (.cells #[.int .i64 cid,.int .i64 kind,.int .i64 mr,.int .i64 md,.slice pa pn pc] 39)).alloc (.cells #[.int .i64 cid,.slice (some ⟨rb,ro,none⟩) rs.length rc,.slice da ds.length dc,.slice va nv vc] 27)).alloc (.cells #[.int .i64 mr] 3)).alloc (.cells #[.int .i64 md] 3)).drew):=HBx2.out
            go_wp2
            clear hbl HBx1 HBx2 HX HY HLd HB HC1 HC2 HN b0
            generalize ((((W.alloc (.cells #[.int .i64 cid,.int .i64 kind,.int .i64 mr,.int .i64 md,.slice pa pn pc] 39)).alloc (.cells #[.int .i64 cid,.slice (some ⟨rb,ro,none⟩) rs.length rc,.slice da ds.length dc,.slice va nv vc] 27)).alloc (.cells #[.int .i64 mr] 3)).alloc (.cells #[.int .i64 md] 3)).drew=w4 at *
            have b40:Below w4.heap.size w4 w4:=Below.refl _ _
            have HN4:Hid (∀X,Below w4.heap.size w4 X->(X.cell? ⟨W.heap.size,0,none⟩=some (.int .i64 cid)/\X.cell? ⟨W.heap.size,1,none⟩=some (.int .i64 kind)/\X.cell? ⟨W.heap.size,2,none⟩=some (.int .i64 mr)/\X.cell? ⟨W.heap.size,3,none⟩=some (.int .i64 md)/\X.cell? ⟨W.heap.size,4,none⟩=some (.slice pa pn pc))/\(X.cell? ⟨W.heap.size+1,0,none⟩=some (.int .i64 cid)/\X.cell? ⟨W.heap.size+1,1,none⟩=some (.slice (some ⟨rb,ro,none⟩) rs.length rc)/\X.cell? ⟨W.heap.size+1,2,none⟩=some (.slice da ds.length dc)/\X.cell? ⟨W.heap.size+1,3,none⟩=some (.slice va nv vc))/\Below w4.heap.size w4 X):=fun X hX=>⟨(row_five (blk_keep hX HX4.out)).1,row_four (blk_keep hX HY4.out),hX⟩
            obtain⟨⟨l0,l1,l2,l3,l4⟩,⟨k0,k1,k2,k3⟩,_⟩:=HN4.out w4 b40
            go_region_held3 (fun X=>(X.cell? ⟨W.heap.size,0,none⟩=some (.int .i64 cid)/\X.cell? ⟨W.heap.size,1,none⟩=some (.int .i64 kind)/\X.cell? ⟨W.heap.size,2,none⟩=some (.int .i64 mr)/\X.cell? ⟨W.heap.size,3,none⟩=some (.int .i64 md)/\X.cell? ⟨W.heap.size,4,none⟩=some (.slice pa pn pc))/\(X.cell? ⟨W.heap.size+1,0,none⟩=some (.int .i64 cid)/\X.cell? ⟨W.heap.size+1,1,none⟩=some (.slice (some ⟨rb,ro,none⟩) rs.length rc)/\X.cell? ⟨W.heap.size+1,2,none⟩=some (.slice da ds.length dc)/\X.cell? ⟨W.heap.size+1,3,none⟩=some (.slice va nv vc))/\Below w4.heap.size w4 X) (first|(with_reducible refine HN4.out _ ?_;repeat' (first|with_reducible assumption|with_reducible exact b40.drew|with_reducible exact b40|with_reducible exact HBV.out))) (first|(go_at_call 56;refine (valuesOf_any cid kind mr md pa pn pc da dc ds hd _ (HLd4.out.keep b40.drew)).mono ?_;rintro e w5 ⟨rfl,hb5⟩;have HBV:Hid (Below w4.heap.size w4 w5):=b40.drew.trans hb5;clear hb5))
            all_goals
             go_wp2
             go_ret
             refine⟨ret_b ?_,HBx.out.trans (HBV.out.mono HBx.out.size)⟩
             rw[HE.out,Bool.eq_iff_iff]
             simp
             try omega
         · have qr:(r == 0)=false:=by simp[hz]
           have HF:Hid (fitB cid mr md cid rs ds nv=false):=(by show _=_;rw[HE0.out,HH.out,qr];rfl)
           clear hz HE0 HEg
           go_enter Tryz.func87,Tryz.ntmps87
           go_wp2
           go_ret
           exact⟨by rw[HF.out];rfl,HB.out⟩
   · have HE:Hid (fitB lid mr md cid rs ds nv=false):=(by show _=_;unfold fitB;rw[if_pos (.inr h2)])
     subst h1
     have q2:((rs.length:Int) == (ds.length:Int))=false:=by rw[beq_eq_false_iff_ne];omega
     clear h2
     go_enter Tryz.func87,Tryz.ntmps87
     go_wp2
     go_ret
     exact⟨by rw[HE.out];rfl,HB.out⟩
 · have HE:Hid (fitB lid mr md cid rs ds nv=false):=(by show _=_;unfold fitB;rw[if_pos (.inl h1)])
   have q1:(cid == lid)=false:=by simp[h1]
   clear h1
   go_enter Tryz.func87,Tryz.ntmps87
   go_wp2
   go_ret
   exact⟨by rw[HE.out];rfl,HB.out⟩
theorem sfits_any (lid kind mr md:Int)(pa:Option Addr)(pn pc:Nat)(cid:Int)(ra:Option Addr)(rs:List Int)(rc:Nat)(da:Option Addr)(ds:List Int)(dc:Nat)(va:Option Addr)(nv vc:Nat)(hr:rs.length<=1048576)(hd:ds.length<=1048576)(W:World)(hlr:Lies W ra (i64s rs))(hld:Lies W da (i64s ds)) :
    Calls Tryz.prog 87 #[leafV lid kind mr md pa pn pc,colV cid ra rs.length rc da ds.length dc va nv vc] W fun e w'=>e=.returned (.bool (fitB lid mr md cid rs ds nv))/\Below W.heap.size W w':=by
 cases hb:(rs.any fun x=>!(btw 0 x mr))
 · exact sfits_f lid kind mr md pa pn pc cid ra rs rc da ds dc va nv vc hr hd W hlr hld hb
 · exact sfits_t lid kind mr md pa pn pc cid ra rs rc da ds dc va nv vc hr hd W hlr hld hb
end Go.Proofs.YtoeiahdjamkdgaaGreatDoor
