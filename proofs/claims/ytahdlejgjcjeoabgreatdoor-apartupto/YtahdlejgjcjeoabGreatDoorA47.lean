/- The card of the law Apart in its second form is proved: for all settings and scripts of bulk at most 1048576 in all the law answers true (two apart, worked at by turns, are each as if alone) and the arguments read as before. Conditions: that bulk, the tables of the package state laid. -/
import Derived.Test.YtahdlejgjcjeoabGreatDoorA45
import Derived.Test.YtahdlejgjcjeoabGreatDoorA46
import Derived.Test.YtahdlejgjcjeoabGreatDoorA09
import Derived.Conc.Holds
import Derived.Deep.DeepHandedRow
import Derived.JoinedCond
import Derived.Below
import Derived.SevenTiedAt
import Derived.Test.YtahdlejgjcjeoabGreatDoorCards
import Derived.Test.YtahdlejgjcjeoabGreatDoorTie
import Derived.Test.YtahdlejgjcjeoabGreatDoorA11
import Derived.WalkKit
import Derived.ProofKit
import Derived.OpenShut
import Derived.Carry
import Derived.LaidLaws
namespace Go.Proofs.YtahdlejgjcjeoabGreatDoor
open Go.RowKit
structure Gn where
 W:Nat
 x:Nat
 y:Nat
 B:Nat
def Gmg (Z:Snap)(w:World)(a:Gn)(M:Nat)(c:Clu):Prop:=Gm Z w a.W a.x a.y a.B M c
theorem GSt.over {Z Z' : Snap}{w w' : World}{col col' : Col}{W x y B M:Nat}{KR:RefC}{KP:PrK}{cR cP:Clu}(h:GSt Z w col W x y B M KR KP cR cP)(hf:FrC (fun κ=>κ.1=0) col col' w w')(ho:Old Z' w' col')(hT:Tab w' col'):GSt Z' w' col' W x y B M KR KP cR cP:=by
 obtain ⟨va,es,hk⟩:=h.bk
 obtain ⟨h1,h2⟩:=h.wK hf (fun κ e (e' : κ.1=0)=>by omega)
 exact ⟨ho,hT,h.ref.kept hf (fun k (e' : (1:Nat)=0)=>by cases e'),h.prg.kept hf (fun k (e' : (2:Nat)=0)=>by cases e'),h1,h2,va,es,hk.kept hf (fun κ e (e' : κ.1=0)=>by omega)⟩
def Duo (Z w:World)(a:Gn)(M:Nat)(c:Clu)(b:Gn)(M' : Nat)(c' : Clu):Prop :=
 ∃ col KR KP col' KR' KP',GSt (Snap.all Z) w col a.W a.x a.y a.B M KR KP c c∧GSt (Snap.all Z) w col' b.W b.x b.y b.B M' KR' KP' c' c' ∧ ∀ q,q<w.heap.size→(col q).1=0∨(col' q).1=0
section
variable {Z w w' : World} {a b:Gn} {M M' : Nat} {c c' : Clu}
theorem Duo.swap (h:Duo Z w a M c b M' c'):Duo Z w b M' c' a M c:=by
 obtain ⟨col,KR,KP,col',KR',KP',h1,h2,h3⟩:=h
 exact ⟨col',KR',KP',col,KR,KP,h2,h1,fun q hq=>(h3 q hq).symm⟩
theorem Duo.bel (h:Duo Z w a M c b M' c'):Below Z.heap.size Z w:=by
 obtain ⟨col,KR,KP,col',KR',KP',h1,h2,h3⟩:=h
 exact h1.old.below
theorem Duo.left (h:Duo Z w a M c b M' c'):∃ S,Gmg S w a M c∧∀ w' M2 c2,Gmg S w' a M2 c2→Duo Z w' a M2 c2 b M' c' := by
 obtain ⟨col,KR,KP,col',KR',KP',h1,h2,h3⟩:=h
 have hz:Z.heap.size≤w.heap.size:=h1.old.bel.size
 refine ⟨⟨w,fun q=>q<Z.heap.size∨(col' q).1 ≠ 0⟩,⟨col,KR,KP,?_⟩,fun w' M2 c2 hg => ?_⟩
 ·exact { h1 with old:=⟨Fr.refl _ _,fun q hq hp=>by
   rcases hp with hp | hp
   ·exact h1.old.col q hp trivial
   ·exact (h3 q hq).resolve_right hp⟩ }
 ·obtain ⟨col2,KR2,KP2,g⟩:=hg
  have hF:FrC (fun κ=>κ.1=0) col' (paint col' w.heap.size (0,0)) w w' := ⟨⟨g.old.bel.os,g.old.bel.tape,g.old.bel.output,g.old.bel.size,fun k hk hx=>g.old.bel.block k hk (fun e=>e (.inr hx))⟩,fun q hq=>zin col' _ hq⟩
  have hBel:Below Z.heap.size Z w' := by
   have hb:=h1.old.below
   refine ⟨g.old.bel.os.trans hb.os,g.old.bel.tape.trans hb.tape,g.old.bel.output.trans hb.output,Nat.le_trans hz g.old.bel.size,fun k hk => ?_⟩
   exact (g.old.bel.block k (Nat.lt_of_lt_of_le hk hz) (fun e=>e (.inl hk))).trans (hb.block k hk)
  have hO2:Old (Snap.all Z) w' col2:=zhq hBel fun q hq=>g.old.col q (Nat.lt_of_lt_of_le hq hz) (.inl hq)
  have hOB:Old (Snap.all Z) w' (paint col' w.heap.size (0,0)):=zhq hBel fun q hq=>by
   rw [zin col' _ (Nat.lt_of_lt_of_le hq hz)]
   exact h2.old.col q hq trivial
  have hTB:Tab w' (paint col' w.heap.size (0,0)):=⟨g.tab.rules,g.tab.steps,by rw [zin col' _ h2.tab.rules.1];exact h2.tab.c0,by rw [zin col' _ h2.tab.steps.1];exact h2.tab.c1⟩
  refine ⟨col2,KR2,KP2,_,KR',KP',{ g with old:=hO2 },h2.over hF hOB hTB,fun q hq => ?_⟩
  by_cases hql:q<w.heap.size
  ·by_cases hx:(col' q).1=0
   ·right;rw [zin col' _ hql];exact hx
   ·left;exact g.old.col q hql (.inr hx)
  ·right;rw [zim col' _ (by omega)]
theorem Duo.same (h:Duo Z w a M c b M' c')(hb:Below w.heap.size w w'):Duo Z w' a M c b M' c' := by
 obtain ⟨col,KR,KP,col',KR',KP',h1,h2,h3⟩:=h
 refine ⟨_,KR,KP,_,KR',KP',h1.anew hb (0,0),h2.anew hb (0,0),fun q hq => ?_⟩
 by_cases hql:q<w.heap.size
 ·rw [zin col _ hql,zin col' _ hql];exact h3 q hql
 ·left;rw [zim col _ (by omega)]
theorem Duo.mono {M2 M3:Nat}(h:Duo Z w a M c b M' c')(h1:M≤M2)(h2:M' ≤ M3):Duo Z w a M2 c b M3 c' := by
 obtain ⟨S,g,back⟩:=h.left
 obtain ⟨S',g',back'⟩:=(back _ _ _ (Gm.mono g h1)).swap.left
 exact (back' _ _ _ (Gm.mono g' h2)).swap
theorem zcz {w1:World}(ha:Gmg (Snap.all Z) w1 a M c)(hb:Below w1.heap.size w1 w)(hg:Gmg (Snap.all w1) w b M' c'):Duo Z w a M c b M' c' := by
 obtain ⟨col,KR,KP,h1⟩:=ha
 obtain ⟨col',KR',KP',h2⟩:=hg
 have hz:Z.heap.size≤w1.heap.size:=h1.old.bel.size
 have hB:=h1.old.below.trans (hb.mono hz)
 refine ⟨_,KR,KP,col',KR',KP',h1.anew hb (0,0),{ h2 with old:=zhq hB fun q hq=>h2.old.col q (Nat.lt_of_lt_of_le hq hz) trivial },fun q hq => ?_⟩
 by_cases hql:q<w1.heap.size
 ·right;exact h2.old.col q hql trivial
 ·left;rw [zim col _ (by omega)]
theorem Duo.cell2 (h:Duo Z w a M c b M' c'):w.cell? ⟨a.W,2,none⟩=some (.pointer (some ⟨a.B,0,none⟩))∧w.cell? ⟨b.W,2,none⟩=some (.pointer (some ⟨b.B,0,none⟩)):=by
 obtain ⟨S,g,-⟩:=h.left
 obtain ⟨S',g',-⟩:=h.swap.left
 exact ⟨Gm.cell2 g,Gm.cell2 g'⟩
end
end Go.Proofs.YtahdlejgjcjeoabGreatDoor
namespace Go.Proofs.YtahdlejgjcjeoabGreatDoor
open Go.RowKit
structure DuoN (Z w:World)(a b:Gn)(i:Nat)(c c' : Clu):Prop where
 duo:Duo Z w a (36*i) c b (36*i) c'
 far:c.far
 far' : c'.far
 ok:∃ U,U.length≤i∧c.ok U (20*i)
 ok' : ∃ U,U.length≤i∧c'.ok U (20*i)
set_option maxRecDepth 100000 in
theorem zau (v1 v2 vs vo:Value)(es1 es2:List (Int × Int))(l m:List ActV)(reps1 room1 reps2 room2:Int)(bp1 rr1 bp2 rr2:Bool)(w:World)(hr:RulesAt w)(hst:StepsAt w)(he1:EdgesOf w v1 es1)(hlen1:es1.length≤1048576)(he2:EdgesOf w v2 es2)(hlen2:es2.length≤1048576)(hs:ActsOf w vs l)(hll:l.length≤87381)(hfit:∀ a∈l,a.fit)(ho:ActsOf w vo m)(hlm:m.length≤87381)(hfitm:∀ a∈m,a.fit) :
  Calls Tryz.prog 3 #[.agg #[.int .i64 reps1,v1,.bool bp1,.bool rr1,.int .i64 room1],.agg #[.int .i64 reps2,v2,.bool bp2,.bool rr2,.int .i64 room2],vs,vo] w fun e w' => e = .returned (.bool true)∧Below w.heap.size w w' := by
 have HR:=Hid.mk hr
 have HST:=Hid.mk hst
 have HV1:=Hid.mk he1
 have HV2:=Hid.mk he2
 have HS:=Hid.mk hs
 have HO:=Hid.mk ho
 have HF:=Hid.mk hfit
 have HFM:=Hid.mk hfitm
 obtain ⟨ad1,cap1,rfl,-⟩:=he1
 obtain ⟨ad2,cap2,rfl,-⟩:=he2
 obtain ⟨adS,capS,rfl,-⟩:=hs
 obtain ⟨adO,capO,rfl,-⟩:=ho
 obtain ⟨n,HLN⟩:∃ n,Hid (l.length=n):=⟨_,rfl⟩
 obtain ⟨k,HLMM⟩:∃ k,Hid (m.length=k):=⟨_,rfl⟩
 rw [HLN.out] at hll HS ⊢
 rw [HLMM.out] at hlm HO ⊢
 clear hr hst hfit hfitm
 have HB0:=Hid.mk (zaO (zaO (Below.refl _ w) (.cells #[.int .i64 reps1,.slice ad1 es1.length cap1,.bool bp1,.bool rr1,.int .i64 room1] 24)) (.cells #[.int .i64 reps2,.slice ad2 es2.length cap2,.bool bp2,.bool rr2,.int .i64 room2] 24))
 obtain ⟨b2,b1⟩:=zm0 w (.cells #[.int .i64 reps1,.slice ad1 es1.length cap1,.bool bp1,.bool rr1,.int .i64 room1] 24) (.cells #[.int .i64 reps2,.slice ad2 es2.length cap2,.bool bp2,.bool rr2,.int .i64 room2] 24)
 have HK2:=Hid.mk b2
 clear b1 b2
 go_enter Tryz.func3,Tryz.ntmps3
 go_wp2_with fail
 refine (zgf _ es1 reps1 room1 bp1 rr1 _ (HR.out.below HB0.out HR.out.1) (HST.out.block (HB0.out.block 0 HST.out.1) HB0.out.size) (HV1.out.below HB0.out) hlen1).mono ?_
 generalize (w.alloc (.cells #[.int .i64 reps1,.slice ad1 es1.length cap1,.bool bp1,.bool rr1,.int .i64 room1] 24)).alloc (.cells #[.int .i64 reps2,.slice ad2 es2.length cap2,.bool bp2,.bool rr2,.int .i64 room2] 24)=Z at *
 have HSZ:=Hid.mk (HS.out.below HB0.out)
 have HOZ:=Hid.mk (HO.out.below HB0.out)
 have HRZ:=Hid.mk (HR.out.below HB0.out HR.out.1)
 have HSTZ:=Hid.mk (HST.out.block (HB0.out.block 0 HST.out.1) HB0.out.size)
 have HVZ:=Hid.mk (HV2.out.below HB0.out)
 rintro e w1 ⟨hb1,hcase1⟩
 have HB1:=Hid.mk hb1
 have HC1:=Hid.mk hcase1
 have hk2:=(hb1.block _ (zaY HK2.out)).trans HK2.out
 have k20:=zaX hk2 0
 have k21:=zaX hk2 1
 have k22:=zaX hk2 2
 have k23:=zaX hk2 3
 have k24:=zaX hk2 4
 simp at k20 k21 k22 k23 k24
 have HRW:=Hid.mk (HRZ.out.below hb1 HRZ.out.1)
 have HSTW:=Hid.mk (HSTZ.out.block (hb1.block 0 HSTZ.out.1) hb1.size)
 have HVW:=Hid.mk (HVZ.out.below hb1)
 clear hb1 hcase1 HS HO HV1 HV2 HR HST HK2 hk2 HRZ HSTZ HVZ
 obtain ⟨p1,rfl,HP1⟩:∃ p:Option Addr,e = .returned (.tuple #[.pointer p,.bool true])∧Hid (p=none∨∃ (a:Gn) (c:Clu),p=some ⟨a.W,0,none⟩∧Gmg (Snap.all Z) w1 a 0 c∧c.ok [] 0∧c.far):=by
  rcases HC1.out with rfl | ⟨W,x,y,B,c,rfl,h1,h2,-,h4⟩
  ·exact ⟨none,rfl,.inl rfl⟩
  ·exact ⟨_,rfl,.inr ⟨⟨W,x,y,B⟩,c,rfl,h1,h2,h4⟩⟩
 clear HC1
 go_wp2_with fail
 refine (zgf _ es2 reps2 room2 bp2 rr2 _ HRW.out HSTW.out HVW.out hlen2).mono ?_
 rintro e w2 ⟨hb2,hcase2⟩
 have HB2:=Hid.mk hb2
 have HC2:=Hid.mk hcase2
 have HBB:=Hid.mk (HB0.out.trans ((HB1.out.trans (hb2.mono HB1.out.size)).mono HB0.out.size))
 clear hb2 hcase2 HRW HSTW HVW
 obtain ⟨p2,rfl,HP2⟩:∃ p:Option Addr,e = .returned (.tuple #[.pointer p,.bool true])∧Hid (p=none∨∃ (a:Gn) (c:Clu),p=some ⟨a.W,0,none⟩∧Gmg (Snap.all w1) w2 a 0 c∧c.ok [] 0∧c.far):=by
  rcases HC2.out with rfl | ⟨W,x,y,B,c,rfl,h1,h2,-,h4⟩
  ·exact ⟨none,rfl,.inl rfl⟩
  ·exact ⟨_,rfl,.inr ⟨⟨W,x,y,B⟩,c,rfl,h1,h2,h4⟩⟩
 clear HC2
 rcases HP1.out with rfl | ⟨a,c,rfl,g1,ok1,far1⟩
 ·clear HP1 HP2
  go_wp2
  go_ret
  exact ⟨rfl,HBB.out⟩
 rcases HP2.out with rfl | ⟨b,c',rfl,g2,ok2,far2⟩
 ·clear HP1 HP2 g1 ok1 far1
  go_wp2
  go_ret
  exact ⟨rfl,HBB.out⟩
 have HP:Hid (DuoN Z w2 a b 0 c c'):=⟨zcz g1 HB2.out g2,far1,far2,⟨[],Nat.le_refl _,ok1⟩,⟨[],Nat.le_refl _,ok2⟩⟩
 clear HP1 HP2 g1 g2 ok1 ok2 far1 far2 k20 k21 k22 k23 k24 HB2 HB1 HBB
 obtain ⟨aW,ax,ay,aB⟩:=a
 obtain ⟨bW,bx,byy,bB⟩:=b
 go_wp2
 go_loopw [10,13] (fun t s wr=>∃ (i:Nat) (c c' : Clu),i≤87381∧(i≤n∨i≤k)∧t = .bool true∧s = .int .i64 i∧Hid (DuoN Z wr ⟨aW,ax,ay,aB⟩ ⟨bW,bx,byy,bB⟩ i c c')) (fun _ s _=>max n k - (intOf s).toNat)
 case atStart=>exact ⟨0,c,c',by omega,.inl (Nat.zero_le _),rfl,rfl,HP⟩
 case round =>
  clear HP
  obtain ⟨i,c,c',hi0,hi,rfl,rfl,hp⟩:=hrel
  obtain ⟨U,hU,hok⟩:=hp.out.ok
  obtain ⟨U',hU',hok'⟩:=hp.out.ok'
  have HLM:Hid (Lim U (20*i)):=⟨by omega,by omega⟩
  have HLM2:Hid (Lim U (20*i+20)):=⟨by omega,by omega⟩
  have HLN' : Hid (Lim U' (20*i)):=⟨by omega,by omega⟩
  have HLN2:Hid (Lim U' (20*i+20)):=⟨by omega,by omega⟩
  have HK:=Hid.mk hok
  have HK' := Hid.mk hok'
  have HD:=Hid.mk hp.out.duo
  have HF1:=Hid.mk hp.out.far
  have HF2:=Hid.mk hp.out.far'
  clear hok hok' hp
  have q2:(0:Int)≤(i:Int):=by omega
  by_cases hn:i<n
  ·have q1:(i:Int)<(n:Int):=by omega
   have hil:i<l.length:=by rw [HLN.out];exact hn
   obtain ⟨bb,off,cp,hv0,hbl,e0,e1,e2,e3,e4,e5,e6,e7,e8,e9⟩:=(HSZ.out.below HD.out.bel).nth i hil
   cases hv0
   have ha:=HF.out _ (List.getElem_mem hil)
   obtain ⟨S,gS,back⟩:=HD.out.left
   have HA:=Hid.mk (Gm.lActAll gS HK.out HLM2.out HF1.out (by omega) l[i] ha)
   have HBK:=Hid.mk back
   generalize l[i]=act at *
   obtain ⟨ak,ar,aq,an,⟨ty,ky,sd,el,on⟩,key⟩:=act
   unfold ActV.val at HA
   simp only at HA e0 e1 e2 e3 e4 e5 e6 e7 e8 e9
   clear ha gS back HD
   go_wp2_with fail
   refine HA.out.mono ?_
   rintro e w3 ⟨rfl,c3,U3,h3,hU3,hok3,hfar3⟩
   have HD3:=Hid.mk (HBK.out _ _ _ h3)
   have HK3:=Hid.mk hok3
   have HF3:=Hid.mk hfar3
   clear h3 hok3 hfar3 HA HBK e0 e1 e2 e3 e4 e5 e6 e7 e8 e9 HK
   by_cases hk:i<k
   ·have q3:(i:Int)<(k:Int):=by omega
    have hil:i<m.length:=by rw [HLMM.out];exact hk
    obtain ⟨bb',off',cp',hv0',hbl',e0',e1',e2',e3',e4',e5',e6',e7',e8',e9'⟩:=(HOZ.out.below HD3.out.bel).nth i hil
    cases hv0'
    have ha:=HFM.out _ (List.getElem_mem hil)
    obtain ⟨S',gS',back'⟩:=HD3.out.swap.left
    have HA' := Hid.mk (Gm.lActAll gS' HK'.out HLN2.out HF2.out (by omega) m[i] ha)
    have HBK' := Hid.mk back'
    generalize m[i]=act at *
    obtain ⟨ak,ar,aq,an,⟨ty,ky,sd,el,on⟩,key⟩:=act
    unfold ActV.val at HA'
    simp only at HA' e0' e1' e2' e3' e4' e5' e6' e7' e8' e9'
    clear ha gS' back' HD3
    go_wp2_with fail
    refine HA'.out.mono ?_
    rintro e w4 ⟨rfl,c4,U4,h4,hU4,hok4,hfar4⟩
    have HD4:=Hid.mk (HBK'.out _ _ _ h4).swap
    have HK4:=Hid.mk hok4
    have HF4:=Hid.mk hfar4
    clear h4 hok4 hfar4 HA' HBK' e0' e1' e2' e3' e4' e5' e6' e7' e8' e9' HK'
    obtain ⟨ca2,cb2⟩:=HD4.out.cell2
    obtain ⟨SA,gA,-⟩:=HD4.out.left
    have HLA:=Hid.mk (Gm.looks gA (by omega))
    clear gA
    simp only at ca2 cb2
    go_wp2_with fail
    refine HLA.out.mono ?_
    rintro e w6 ⟨rfl,hb6⟩
    have HD6:=Hid.mk (HD4.out.same hb6)
    obtain ⟨ca2',cb2'⟩:=HD6.out.cell2
    obtain ⟨SB,gB,-⟩:=HD6.out.swap.left
    have HLB:=Hid.mk (Gm.looks gB (by omega))
    clear gB hb6 HLA ca2 cb2 HD4
    simp only at ca2' cb2'
    go_wp2_with fail
    refine HLB.out.mono ?_
    rintro e w7 ⟨rfl,hb7⟩
    have HD7:=Hid.mk (HD6.out.same hb7)
    have HP7:Hid (DuoN Z w7 ⟨aW,ax,ay,aB⟩ ⟨bW,bx,byy,bB⟩ (i+1) _ _):=⟨HD7.out.mono (by omega) (by omega),HF3.out,HF4.out,⟨U3,by omega,HK3.out.later (by omega)⟩,⟨U4,by omega,HK4.out.later (by omega)⟩⟩
    clear HD6 HD7 hb7 HLB ca2' cb2'
    go_wp2
    exact ⟨⟨i+1,_,_,by omega,by omega,rfl,by go_num,HP7⟩,by simp [intOf];omega⟩
   ·have q3:¬ (i:Int)<(k:Int):=by omega
    obtain ⟨ca2,cb2⟩:=HD3.out.cell2
    obtain ⟨SA,gA,-⟩:=HD3.out.left
    have HLA:=Hid.mk (Gm.looks gA (by omega))
    clear gA
    simp only at ca2 cb2
    go_wp2_with fail
    refine HLA.out.mono ?_
    rintro e w6 ⟨rfl,hb6⟩
    have HD6:=Hid.mk (HD3.out.same hb6)
    obtain ⟨ca2',cb2'⟩:=HD6.out.cell2
    obtain ⟨SB,gB,-⟩:=HD6.out.swap.left
    have HLB:=Hid.mk (Gm.looks gB (by omega))
    clear gB hb6 HLA ca2 cb2 HD3
    simp only at ca2' cb2'
    go_wp2_with fail
    refine HLB.out.mono ?_
    rintro e w7 ⟨rfl,hb7⟩
    have HD7:=Hid.mk (HD6.out.same hb7)
    have HP7:Hid (DuoN Z w7 ⟨aW,ax,ay,aB⟩ ⟨bW,bx,byy,bB⟩ (i+1) _ _):=⟨HD7.out.mono (by omega) (by omega),HF3.out,HF2.out,⟨U3,by omega,HK3.out.later (by omega)⟩,⟨U',by omega,HK'.out.later (by omega)⟩⟩
    clear HD6 HD7 hb7 HLB ca2' cb2'
    go_wp2
    exact ⟨⟨i+1,_,_,by omega,by omega,rfl,by go_num,HP7⟩,by simp [intOf];omega⟩
  ·have q1:¬ (i:Int)<(n:Int):=by omega
   by_cases hk:i<k
   ·have q3:(i:Int)<(k:Int):=by omega
    have hil:i<m.length:=by rw [HLMM.out];exact hk
    obtain ⟨bb',off',cp',hv0',hbl',e0',e1',e2',e3',e4',e5',e6',e7',e8',e9'⟩:=(HOZ.out.below HD.out.bel).nth i hil
    cases hv0'
    have ha:=HFM.out _ (List.getElem_mem hil)
    obtain ⟨S',gS',back'⟩:=HD.out.swap.left
    have HA' := Hid.mk (Gm.lActAll gS' HK'.out HLN2.out HF2.out (by omega) m[i] ha)
    have HBK' := Hid.mk back'
    generalize m[i]=act at *
    obtain ⟨ak,ar,aq,an,⟨ty,ky,sd,el,on⟩,key⟩:=act
    unfold ActV.val at HA'
    simp only at HA' e0' e1' e2' e3' e4' e5' e6' e7' e8' e9'
    clear ha gS' back' HD
    go_wp2_with fail
    refine HA'.out.mono ?_
    rintro e w4 ⟨rfl,c4,U4,h4,hU4,hok4,hfar4⟩
    have HD4:=Hid.mk (HBK'.out _ _ _ h4).swap
    have HK4:=Hid.mk hok4
    have HF4:=Hid.mk hfar4
    clear h4 hok4 hfar4 HA' HBK' e0' e1' e2' e3' e4' e5' e6' e7' e8' e9' HK'
    obtain ⟨ca2,cb2⟩:=HD4.out.cell2
    obtain ⟨SA,gA,-⟩:=HD4.out.left
    have HLA:=Hid.mk (Gm.looks gA (by omega))
    clear gA
    simp only at ca2 cb2
    go_wp2_with fail
    refine HLA.out.mono ?_
    rintro e w6 ⟨rfl,hb6⟩
    have HD6:=Hid.mk (HD4.out.same hb6)
    obtain ⟨ca2',cb2'⟩:=HD6.out.cell2
    obtain ⟨SB,gB,-⟩:=HD6.out.swap.left
    have HLB:=Hid.mk (Gm.looks gB (by omega))
    clear gB hb6 HLA ca2 cb2 HD4
    simp only at ca2' cb2'
    go_wp2_with fail
    refine HLB.out.mono ?_
    rintro e w7 ⟨rfl,hb7⟩
    have HD7:=Hid.mk (HD6.out.same hb7)
    have HP7:Hid (DuoN Z w7 ⟨aW,ax,ay,aB⟩ ⟨bW,bx,byy,bB⟩ (i+1) _ _):=⟨HD7.out.mono (by omega) (by omega),HF1.out,HF4.out,⟨U,by omega,HK.out.later (by omega)⟩,⟨U4,by omega,HK4.out.later (by omega)⟩⟩
    clear HD6 HD7 hb7 HLB ca2' cb2'
    go_wp2
    exact ⟨⟨i+1,_,_,by omega,by omega,rfl,by go_num,HP7⟩,by simp [intOf];omega⟩
   ·have q3:¬ (i:Int)<(k:Int):=by omega
    obtain ⟨SA,gA,back⟩:=HD.out.left
    have HLA:=Hid.mk (Gm.lLastN gA HK.out HLM.out (by omega))
    have HBK:=Hid.mk back
    clear gA back HD
    go_wp2_with fail
    refine HLA.out.mono ?_
    rintro e w6 ⟨rfl,c6,h6⟩
    have HD6:=Hid.mk (HBK.out _ _ _ h6)
    obtain ⟨SB,gB,back⟩:=HD6.out.swap.left
    have HLB:=Hid.mk (Gm.lLastN gB HK'.out HLN'.out (by omega))
    have HBK2:=Hid.mk back
    clear gB back h6 HLA HBK HD6
    go_wp2_with fail
    refine HLB.out.mono ?_
    rintro e w7 ⟨rfl,c7,h7⟩
    have HB7:=Hid.mk (HB0.out.trans ((HBK2.out _ _ _ h7).bel.mono HB0.out.size))
    clear h7 HLB HBK2
    go_wp2
    go_ret
    exact ⟨rfl,HB7.out⟩
end Go.Proofs.YtahdlejgjcjeoabGreatDoor
namespace Go.Proofs.YtahdlejgjcjeoabGreatDoor
theorem ziG {H:Type}{enc:TypeId × Value→H}{P:Program}{f:Func}{s:ChangeSpec}{apart fresh handsOn again:Bool}{W W' : World}{args:Array Value}{v:Value}{ds gs:List (DataW H)}{before pa pv:List MemPlace}
  (hW:DataW.Whole enc P f.params.toList s.vars apart W args.toList ds gs before)
  (hres:∀ (b:Nat) (sp:Nat→Bool) (hd:Bool),DataW.TrodAll enc P W' b sp hd f.resultTypes.toList (v.resultList f.resultTypes.size) (s.fn H (ds ++ gs)).results [])
  (hargs:∀ sp:Nat→Bool,(∀ p∈before,sp p.block=true)→DataW.TrodAll enc P W' 0 sp true f.params.toList args.toList (s.fn H (ds ++ gs)).args pa)
  (hvars:∀ sp:Nat→Bool,(∀ p∈before,sp p.block=true)→DataW.TrodVars enc P W' sp s.vars (s.fn H (ds ++ gs)).vars pv)
  (hps:before=pa ++ pv) (hb:RowKit.Below W.heap.size W W')
  (hok:∀ (j:Nat) (t:TypeId) (r:Value),f.resultTypes[j]? = some t→(v.resultList f.resultTypes.size)[j]? = some r→Value.okWide P W' .any 0 t r) :
  s.post enc P f apart fresh handsOn again W args v W' := by
 have hlt:∀ p∈before,p.block<W.heap.size:=fun p hp=>hW.lt p hp
 have hold:∀ p∈before,(fun b=>decide (b<W.heap.size)) p.block=true:=fun p hp=>by simpa using hlt p hp
 refine ⟨ds,gs,before,[],pa,pv,hW,hres _ _ _,hargs _ hold,hvars _ hold,hb.frame _,fun _ => ?_⟩
 obtain ⟨_,_,_,_,_,hz,hn⟩:=hW
 refine ⟨hok,_,_,([] ++ pa) ++ pv,⟨[] ++ pa,pv,ChangeShapes.trodAll_append (hargs _ (fun _ _=>rfl)) (hres _ _ _),hvars _ (fun _ _=>rfl),rfl,?_,?_⟩,?_⟩
 ·intro b off hp
  have hp' : MemPlace.cell b off∈before:=by rw [hps];simpa using hp
  rw [hb.frozen (hlt _ hp')]
  exact hz b off hp'
 ·intro ha
  have:=hn ha
  rw [hps] at this
  simpa using this
 ·intro p hp _
  rw [hps]
  simpa using hp
end Go.Proofs.YtahdlejgjcjeoabGreatDoor
namespace Go.Proofs.YtahdlejgjcjeoabGreatDoor.apartCardP
open Go.ChangeShapes Go.WideShapes Go.ChangeAt Go.RowKit
theorem own:ownKnob Tryz.prog.godebug=none:=by kernel_rfl
theorem lays:laidOutB Tryz.prog=true:=by kernel_rfl
theorem readC:Tryz.prog.readableRec 24=true:=by kernel_rfl
theorem readS:Tryz.prog.readableRec 25=true:=by kernel_rfl
theorem rowS:25<Tryz.prog.types.size:=of_decide_eq_true (by kernel_rfl)
theorem rowC:24<Tryz.prog.types.size:=of_decide_eq_true (by kernel_rfl)
set_option maxRecDepth 100000 in
theorem contract (H:Type)(en:TypeId × Value→H)(W:World)(base:Nat)(args:Array Value)(ds gs:List (DataW H))(before:List MemPlace)
  (hval:∀ (j:Nat) t v,Tryz.f3.params[j]? = some t→args[j]? = some v→Value.okWide Tryz.prog W .any base t v)
  (hW:DataW.Whole en Tryz.prog Tryz.f3.params.toList Rows.apartSpec.vars false W args.toList ds gs before) (hk:Rows.uptoSmall H (ds ++ gs)=true) (hL:laidMetH Tryz.prog Rows.apartUptoRow.laid W) :
  Calls Tryz.prog 3 args W fun e W' => ∃ v,e = .returned v∧Rows.apartSpec.post en Tryz.prog Tryz.f3 false true false false W args v W' := by
 have hW' := hW
 obtain ⟨p,q,hA0,hV,rfl,hfz,hnd⟩:=hW
 have hA:DataW.TrodAll en Tryz.prog W 0 (fun _=>true) true Tryz.f3.params.toList args.toList ds p:=hA0
 rw [Tryz.params3] at hA hval
 obtain ⟨v0,v1,v2,v3,d0,d1,d2,d3,p0,p1,p2,p3,rfl,rfl,rfl,h0,h1,h2,h3⟩:=trodAll_four hA
 obtain ⟨rfl,rfl⟩:=trodVars_none hV
 clear hA0
 have hb:Rows.uptoBulk d0+(Rows.uptoBulk d1+(Rows.uptoBulk d2+(Rows.uptoBulk d3+0)))≤1048576:=by simpa [Rows.uptoSmall,Rows.uptoBulkAll] using hk
 obtain ⟨reps,room,bp,rr,vE,es,rfl,hed,hel⟩:=zhB (hval 0 _ v0 rfl rfl) h0 (by omega)
 obtain ⟨reps',room',bp',rr',vE',es',rfl,hed',hel'⟩:=zhB (hval 1 _ v1 rfl rfl) h1 (by omega)
 obtain ⟨l,hs,hll,hfit⟩:=zhG (hval 2 _ v2 rfl rfl) h2 (by omega)
 obtain ⟨m,hs',hll',hfit'⟩:=zhG (hval 3 _ v3 rfl rfl) h3 (by omega)
 have hr:=zkV hL
 have hst:=zl0 hL
 refine (zau vE vE' v2 v3 es es' l m reps room reps' room' bp rr bp' rr' W hr hst hed hel hed' hel' hs hll hfit hs' hll' hfit').mono fun e W' ⟨he,hbel⟩ => ?_
 subst he
 have hlt:∀ x∈p0 ++ p1 ++ p2 ++ p3,x.block<W.heap.size:=fun x hx=>hW'.lt x (by simpa using hx)
 refine ⟨_,rfl,ziG (pa:=p0 ++ p1 ++ p2 ++ p3) (pv := []) hW' (fun _ _ _=>trodAll_cons_mk (shut_bool Tryz.underlying4 _) trodAll_mk0) (fun sp hsp => ?_) (fun _ _=>rfl) rfl hbel (ok_one (by kernel_rfl) rfl (okWide_bool_mk Tryz.underlying4 _))⟩
 rw [Tryz.params3]
 have k0:DataW.Trod en Tryz.prog W' 0 sp true 24 (.agg #[.int .i64 reps,vE,.bool bp,.bool rr,.int .i64 room]) d0 p0:=WideElems.Trod_stays lays readC rowC h0 (fun x hx=>hbel.same (hlt x (by simp [hx]))) (fun x hx=>hsp x (by simp [hx]))
 have k1:DataW.Trod en Tryz.prog W' 0 sp true 24 (.agg #[.int .i64 reps',vE',.bool bp',.bool rr',.int .i64 room']) d1 p1:=WideElems.Trod_stays lays readC rowC h1 (fun x hx=>hbel.same (hlt x (by simp [hx]))) (fun x hx=>hsp x (by simp [hx]))
 have k2:DataW.Trod en Tryz.prog W' 0 sp true 25 v2 d2 p2:=WideElems.Trod_stays lays readS rowS h2 (fun x hx=>hbel.same (hlt x (by simp [hx]))) (fun x hx=>hsp x (by simp [hx]))
 have k3:DataW.Trod en Tryz.prog W' 0 sp true 25 v3 d3 p3:=WideElems.Trod_stays lays readS rowS h3 (fun x hx=>hbel.same (hlt x (by simp [hx]))) (fun x hx=>hsp x (by simp [hx]))
 rw [show p0 ++ p1 ++ p2 ++ p3=p0 ++ (p1 ++ (p2 ++ p3)) by simp]
 exact trodAll_mk4 k0 k1 k2 k3
def layCells (cs:Array Value):Obj→Obj
 | .cells _ t frozen => .cells cs t frozen
 | o=>o
def laidWorld (P:Program)(os:Os):World :=
 { World.holding P os ⟨#[],#[],[]⟩ with heap:=((World.holding P os ⟨#[],#[],[]⟩).heap.modify 1 (layCells #[.int .i64 0,.int .i64 5,.int .i64 1,.int .i64 2147483647,.int .i64 0,.bool false,.int .i64 1,.int .i64 5,.int .i64 1,.int .i64 2147483647,.int .i64 0,.bool false,.int .i64 0,.int .i64 0,.int .i64 0,.int .i64 0,.int .i64 8,.bool false,.int .i64 1,.int .i64 0,.int .i64 0,.int .i64 0,.int .i64 8,.bool false,.int .i64 0,.int .i64 5,.int .i64 1,.int .i64 2147483647,.int .i64 8,.bool true])).modify 0 (layCells #[.int .i64 0,.int .i64 1,.int .i64 1000,.int .i64 0,.bool false,.int .i64 0,.int .i64 (-1000),.int .i64 1000,.int .i64 0,.bool true,.int .i64 0,.int .i64 0,.int .i64 0,.int .i64 8,.bool false,.int .i64 1,.int .i64 0,.int .i64 0,.int .i64 8,.bool false,.int .i64 0,.int .i64 0,.int .i64 0,.int .i64 8,.bool false]) }
theorem zfE (os:Os):laidMet Tryz.prog Rows.apartUptoRow.laid ((laidWorld Tryz.prog os).forCall (fun _ _=>0) ⟨#[],#[.agg #[.int .i64 0,.slice none 0 0,.bool false,.bool false,.int .i64 0],.agg #[.int .i64 0,.slice none 0 0,.bool false,.bool false,.int .i64 0],.slice none 0 0,.slice none 0 0],[]⟩).memory :=
 laidMet_of_run' 8 (by kernel_rfl) (by kernel_rfl)
theorem zjP (os:Os){H:Type}(en:TypeId × Value→H):∃ places,DataW.whole en Tryz.prog ((laidWorld Tryz.prog os).forCall (fun _ _=>0) ⟨#[],#[.agg #[.int .i64 0,.slice none 0 0,.bool false,.bool false,.int .i64 0],.agg #[.int .i64 0,.slice none 0 0,.bool false,.bool false,.int .i64 0],.slice none 0 0,.slice none 0 0],[]⟩).memory Tryz.f3.params.toList Rows.apartSpec.vars false #[Value.agg #[.int .i64 0,.slice none 0 0,.bool false,.bool false,.int .i64 0],.agg #[.int .i64 0,.slice none 0 0,.bool false,.bool false,.int .i64 0],.slice none 0 0,.slice none 0 0].toList 8=some ([.agg [.lit (.int .i64 0),.nil,.lit (.bool false),.lit (.bool false),.lit (.int .i64 0)],.agg [.lit (.int .i64 0),.nil,.lit (.bool false),.lit (.bool false),.lit (.int .i64 0)],.nil,.nil],[],places) :=
 ⟨[],by kernel_rfl⟩
set_option maxRecDepth 100000 in
theorem liftedUpto (os:Os)(started:os.Started)(H:Type)(en:TypeId × Value→H)(F:Stop.Interp) :
  ReturnsInHanded {} Tryz.checked os 3 .any ((Rows.OpenSpec.upto Rows.apartSpec).preRow en Tryz.prog Tryz.f3 Rows.apartUptoRow.domain false Rows.apartUptoRow.laid) (((Rows.OpenSpec.upto Rows.apartSpec).at F).post en Tryz.prog Tryz.f3 false true false false):=by
 obtain ⟨places,hx⟩:=zjP os en
 refine returnsInHanded_of_row (C:=Tryz.checked) (s:=Rows.OpenSpec.upto Rows.apartSpec) own started (by kernel_rfl) Tryz.func3
  (witness_row_at (enc:=en) (C:=Tryz.checked) false (laidWorld Tryz.prog os) #[.agg #[.int .i64 0,.slice none 0 0,.bool false,.bool false,.int .i64 0],.agg #[.int .i64 0,.slice none 0 0,.bool false,.bool false,.int .i64 0],.slice none 0 0,.slice none 0 0] rfl (by kernel_rfl) (by kernel_rfl) (by kernel_rfl)
   (OpenSpec.preRow_of_cond 8 hx (by kernel_rfl) (fun k hk=>by cases hk;kernel_rfl) (by kernel_rfl) (zfE os))) ?_
 intro W base args ds gs before hval hW _ hcond _ hL _ _
 exact contract H en W base args ds gs before hval hW (hcond _ rfl) hL
theorem saidUpto:Rows.ApartUptoSaid :=
 OpenClaim.holds_of_cond 3 Tryz.f3 rfl rfl rfl rfl rfl rfl rfl ⟨rfl,rfl,rfl,rfl,rfl⟩ rfl rfl rfl rfl rfl (by kernel_rfl) Tryz.func3 (by kernel_rfl)
  (of_decide_eq_true (by kernel_rfl)) (by unfold Func.isWrapper;first | (rw [if_pos (by decide +kernel)];kernel_rfl) | (rw [if_neg (by decide +kernel)];exact ⟨rfl,rfl⟩))
  (fun os started H en _ F=>by rw [OpenClaim.pre_eq_preRow];exact liftedUpto os started H en F)
theorem plain (f : FuncId) (fn : Func) (hf : Tryz.pinned.checked.prog.funcNamed "ripple/ripplelaw.Apart" = some f) (hfn : Tryz.pinned.checked.prog.funcs[f]? = some fn) :
  false=Tryz.pinned.checked.prog.looks []∧∀ (j:Nat) t,fn.params[j]? = some t→Tryz.pinned.checked.prog.wantsStandIn t=false:=by
 obtain rfl : f = 3 := Option.some.inj ((show Tryz.prog.funcNamed "ripple/ripplelaw.Apart" = some 3 by kernel_rfl).symm.trans hf) |>.symm
 obtain rfl:fn=Tryz.f3:=(Option.some.inj (Tryz.func3.symm.trans hfn)).symm
 refine ⟨by kernel_rfl,fun j t ht => ?_⟩
 rw [Tryz.params3] at ht
 have hm:t=24∨t=25:=by simpa using Array.mem_of_getElem? ht
 rcases hm with rfl | rfl
 ·exact (show Tryz.prog.wantsStandIn 24=false by kernel_rfl)
 ·exact (show Tryz.prog.wantsStandIn 25=false by kernel_rfl)
theorem cardUpto:Rows.ApartUptoCardSaid :=
 Claim7.holds_tied_plain_at .later [] _ _ _ _ saidUpto (fun _ h=>by cases h) (by kernel_rfl) (fun _ h=>by cases h) apartUpto_row_tie rfl ⟨rfl,rfl⟩ (by kernel_rfl) rfl plain (by kernel_rfl)
end Go.Proofs.YtahdlejgjcjeoabGreatDoor.apartCardP
namespace Go.Proofs.YtahdlejgjcjeoabGreatDoor
theorem apartUpto_holds:Rows.ApartUptoCardSaid:=apartCardP.cardUpto
end Go.Proofs.YtahdlejgjcjeoabGreatDoor
