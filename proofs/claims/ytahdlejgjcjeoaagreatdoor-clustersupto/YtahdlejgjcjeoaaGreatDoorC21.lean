/- Walk of the program's check sum. -/
import Derived.Test.YtahdlejgjcjeoaaGreatDoorC20
import Derived.Test.YtahdlejgjcjeoaaGreatDoorC14
import Derived.Test.YtahdlejgjcjeoaaGreatDoorC16
import Derived.Test.YtahdlejgjcjeoaaGreatDoorC19
import Derived.Test.YtahdlejgjcjeoaaGreatDoorC15
import Derived.Test.YtahdlejgjcjeoaaGreatDoorC17
import Derived.Test.YtahdlejgjcjeoaaGreatDoorC06
import Derived.Test.YtahdlejgjcjeoaaGreatDoorC12
import Derived.Test.YtahdlejgjcjeoaaGreatDoorC05
import Derived.Test.YtahdlejgjcjeoaaGreatDoorC03
namespace Go.Proofs.YtahdlejgjcjeoaaGreatDoor
set_option maxHeartbeats 8000000
open Go.RowKit
theorem zfi:(Tryz.prog.info? 89).map (fun i=>(i.zero,i.size,i.bytes))=some (some (.agg #[.slice none 0 0,.int .i64 0]),2,32):=by kernel_rfl
theorem zfh:(Tryz.prog.info? 9).map (fun i=>(i.zero,i.size,i.bytes))=some (some (.string ⟨#[]⟩),1,16):=by kernel_rfl
set_option maxRecDepth 100000 in
theorem zhY (B:Nat)(va:Nat→Value)(vl:Value)(es:Nat→List (Value × Int))(baseL n:Nat)(L:List Value)(w:World)
  (hI:Bk w B va es) (hL:w.ownsRow baseL 9 1 vl n L) (hbase:baseL≤w.heap.size)
  (hsep:∀ q,vl.ownBlock=some q→q<w.heap.size∧q ≠ B∧(∀ j,j<4→some q ≠ (va j).ownBlock)∧∀ j,j<4→∀ p∈es j,p.1.ownBlock ≠ some q)
  (hlen:n≤8388608) (hes:(es 2).length≤16000000) :
  Calls Tryz.prog 127 #[.pointer (some ⟨B,0,none⟩),vl] w fun e w' => e = .returned (.tuple #[])∧∃ vf ef,Hid (Bk w' B (updF va 2 vf) (updF es 2 ef))∧ef.length=(es 2).length+4∧Hid ((∀ p∈ef,p∈es 2∨∀ q,p.1.ownBlock=some q→w.heap.size≤q∨some q=vl.ownBlock)∧NewOr (fun q=>q=B∨some q=vl.ownBlock∨some q=(va 2).ownBlock) w vf)∧Hid (Fr (fun q=>q=B∨some q=vl.ownBlock∨some q=(va 2).ownBlock) w w'):=by
 obtain ⟨X,hX⟩:∃ X:Nat→Prop,X=fun q=>q=B∨some q=vl.ownBlock∨some q=(va 2).ownBlock:=⟨_,rfl⟩
 rw [← hX]
 have HXB:Hid (X B):=by rw [hX];exact .inl rfl
 have HXV:Hid (∀ q,vl.ownBlock=some q→X q):=by rw [hX];exact fun q hq => .inr (.inl hq.symm)
 have HXA:Hid (∀ q,(va 2).ownBlock=some q→X q):=by rw [hX];exact fun q hq => .inr (.inr hq.symm)
 clear hX
 obtain ⟨adL,capL,rfl⟩:=zh0 hL
 obtain ⟨adA,capA,hva⟩:=zh0 (hI.row 2 (by decide))
 have c2:=hI.c 2 (by decide)
 rw [hva] at c2
 have HVA:Hid (va 2 = .slice adA (es 2).length capA):=hva
 have HI:Hid (Bk w B va es):=hI
 have HL:Hid (w.ownsRow baseL 9 1 (.slice adL n capL) n L):=hL
 have HSEP:Hid (∀ q,(Value.slice adL n capL).ownBlock=some q→q<w.heap.size∧q ≠ B∧(∀ j,j<4→some q ≠ (va j).ownBlock)∧∀ j,j<4→∀ p∈es j,p.1.ownBlock ≠ some q):=hsep
 have hn:L.length=n:=by have:=hL.1;omega
 clear hI hL hsep hva
 obtain ⟨i0,hi,hz0,hz1,hz2⟩:=info_parts zfh
 obtain ⟨i1,hi1,hy0,hy1,hy2⟩:=info_parts zfi
 obtain ⟨K,HK⟩:∃ K,Hid (K=(es 2).length):=⟨_,rfl⟩
 rw [← HK.out] at c2 hes
 have hm:∀ W,Calls Tryz.prog 39 #[.int .i64 K] W fun e w' => e = .returned (.string (markT K))∧Below W.heap.size W w' := fun W=>zms K W (by omega)
 obtain ⟨T,HT⟩:∃ T,Hid (markT K=T):=⟨_,rfl⟩
 rw [HT.out] at hm
 have HTX:Hid (∀ W,Calls Tryz.prog 39 #[.int .i64 K] W fun e w' => e = .returned (.string T)∧Below W.heap.size W w'):=hm
 clear hm
 go_enter Tryz.func127,Tryz.ntmps127
 go_wp2
 go_loopw [5] (fun i wr=>∃ (j:Nat) (L' : List Value),j≤n∧i = .int .i64 j∧L'.length=n∧Hid (wr.ownsRow baseL 9 1 (.slice adL n capL) n L')∧Hid (∀ t,t<j→L'[t]? = some (.string T))∧Hid (Bk wr B va es)∧Hid (Fr X w wr)) (fun i _=>n - (intOf i).toNat)
 case atStart=>exact ⟨0,L,Nat.zero_le _,rfl,hn,HL,fun t ht=>by omega,HI,Fr.refl _ _⟩
 case round =>
  clear c2
  obtain ⟨j,L',hj,rfl,hlL,hown,hmk,hinv,hfr⟩:=hrel
  by_cases hl:j<n
  ·obtain ⟨g,rfl⟩:∃ g,adL=some ⟨g,0,none⟩:=by
    rcases hown.out.2 with ⟨_,h0⟩ | ⟨g,cap,cur,hv,_⟩
    ·omega
    ·cases hv;exact ⟨g,rfl⟩
   have hsg:=HSEP.out g rfl
   have q1:(j:Int)<(n:Int):=by omega
   go_wp2_with fail
   refine (HTX.out _).mono ?_
   rintro e w3 ⟨rfl,hb3⟩
   have hown3:=zh4 hown.out hb3
   have hinv3:=hinv.out.below hb3
   have hfr3:=hfr.out.below hb3
   obtain ⟨⟨u,d0,-⟩,f0⟩:=zh5 hown3 j (by omega)
   have hst:=zig hown3 j (by omega) (.string T)
   have hgr:=zes w3 ⟨g,j,none⟩ (.string T)
   have HI3:Hid (Bk (w3.setCell ⟨g,j,none⟩ (.string T)) B va es):=hinv3.kept hgr (fun e=>hsg.2.1 (by cases e;rfl)) (fun t ht q hq e=>hsg.2.2.1 t ht (by rw [hq,e])) (fun t ht p hp q hq e=>hsg.2.2.2 t ht p hp (by rw [hq,e]))
   have HF3:Hid (Fr X w (w3.setCell ⟨g,j,none⟩ (.string T))):=hfr3.step hgr (fun q hq=>by cases hq;exact .inr (HXV.out g rfl))
   have HM3:Hid (∀ t,t<j+1→(L'.set j (.string T))[t]? = some (.string T)):=by
    intro t ht
    by_cases e:t=j
    ·subst e;simp [show t<L'.length by omega]
    ·have:=hmk.out t (by omega)
     simpa [Ne.symm e] using this
   have HST:Hid ((w3.setCell ⟨g,j,none⟩ (.string T)).ownsRow baseL 9 1 (.slice (some ⟨g,0,none⟩) n capL) n (L'.set j (.string T))):=hst
   have HLL:Hid ((L'.set j (.string T)).length=n):=by rw [Hid];simpa using hlL
   clear hst hgr hown hb3 hown3 hinv3 hfr3 hinv hfr hmk hsg
   go_wp2
   exact ⟨⟨j+1,_,by omega,by go_num,HLL,HST,HM3,HI3,HF3⟩,by simp [intOf];omega⟩
  ·have hjn:j=n:=by omega
   subst hjn
   have hLm:=zar hlL hmk.out
   have hown' := hown.out
   rw [hLm] at hown'
   have hkc:mkC 2 (K:Int) = [.string T]:=by show [Value.string (markT (K:Int).toNat)]=_;rw [Int.toNat_natCast,HT.out]
   rw [← hkc] at hown'
   have hst:OwnS w X (Value.slice adL j capL).ownBlock va es B baseL 2 K j wr (.slice adL j capL) (.slice adA K capA) (es 2):=⟨by rw [HK.out,← HVA.out,znf,znf];exact hinv.out,hown',fun q hq=>⟨Nat.lt_of_lt_of_le (HSEP.out q hq).1 hfr.out.size,(HSEP.out q hq).2.1,by rw [HK.out,← HVA.out,znf];exact (HSEP.out q hq).2.2.1⟩,fun p hp q h1 h2=>absurd h1 ((HSEP.out q h2).2.2.2 2 (by decide) p hp),fun t ht _ p hp q hq=>(HSEP.out q hq).2.2.2 t ht p hp,hfr.out,fun q hq => .inr ⟨HXV.out q hq,hq.symm⟩,fun p hp => .inl hp,fun q hq => .inr (HXA.out q (by rw [HVA.out,← HK.out];exact hq)),Nat.le_trans hbase hfr.out.size,⟨by omega,by omega⟩,by omega,by decide⟩
   have hinvr:=hst.inv
   have cr:=hinvr.c 2 (by decide)
   have hlt:=hinvr.lt
   have hrowr:=hinvr.row 2 (by decide)
   rw [zne] at cr
   rw [zne,zne] at hrowr
   have HEL:Hid ((es 2).length=K):=HK.out.symm
   rw [HEL.out] at hrowr
   clear hown hown' hmk hinv hfr hLm HSEP HI HL hlL hkc
   have HST:Hid (OwnS w X (Value.slice adL j capL).ownBlock va es B baseL 2 K j wr (.slice adL j capL) (.slice adA K capA) (es 2)):=hst
   clear hst hinvr
   have hrow2:wr.ownsRow (B+1) 89 2 (.slice adA K capA) K (flatE (es 2)):=hrowr
   clear hrowr
   go_wp2_with (at_builtin;refine znH _ rfl _ _ 67 rfl (B+1) 89 i1 _ 2 32 Tryz.underlying67 hi1 hy0 hy1 hy2 rfl (by decide) _ K _ rfl (hrow2.alloc _) ⟨wr.heap.size,0,none⟩ 1 1 [.slice adL j capL,.int .i64 K] rfl rfl (zg1 wr _ _ _) (zin rfl _) (by decide) (by unfold maxLen;omega) (by omega) (by simp;omega) ?_;intro gA capA' wA hownA hcaseA;obtain ⟨ca,fa⟩:=HST.out.inv.after (f:=2) (by decide) _ (by rw [zne];exact hcaseA);rw [zne] at ca)
   have HS1:=HST.out.push HXB.out _ (by rw [HEL.out];exact hownA) hcaseA
   rw [HEL.out] at HS1
   clear HST cr hrow2 hownA hcaseA ca fa hlt
   go_loopw [1,6] (fun s1 s6 wr=>∃ (r:Nat) (vf:Value) (ef:List (Value × Int)),r≤3∧s6 = .int .i64 r∧ef.length=K+1+r∧Hid (OwnS w X (Value.slice adL j capL).ownBlock va es B baseL 2 K (j+r) wr s1 vf ef)) (fun _ s6 _=>3 - (intOf s6).toNat)
   case atStart=>exact ⟨0,_,_,by omega,rfl,by rw [List.length_append,HEL.out];rfl,HS1⟩
   case round =>
    clear HS1
    obtain ⟨r,vf,ef,hr,rfl,hes',hst⟩:=hrel
    have HES:Hid (ef.length=K+1+r):=hes'
    have hesle:ef.length≤16000004:=by omega
    clear hes'
    by_cases hr3:r<3
    ·obtain ⟨ad1,cap1,hv1⟩:=zh0 hst.out.own
     subst hv1
     go_wp2_with fail
     refine (HTX.out _).mono ?_
     rintro e w3 ⟨rfl,hb3⟩
     have hst3:=hst.out.below hb3
     have hkc:mkC 2 (K:Int) = [.string T]:=by show [Value.string (markT (K:Int).toNat)]=_;rw [Int.toNat_natCast,HT.out]
     have hown3:w3.ownsRow baseL 9 1 (.slice ad1 (j+r) cap1) (j+r) (reps (j+r) [.string T]):=by rw [← hkc];exact hst3.own
     have HKC:Hid (mkC 2 (K:Int) = [.string T]):=hkc
     have hbase3:=hst3.base
     have HS3:Hid (OwnS w X (Value.slice adL j capL).ownBlock va es B baseL 2 K (j+r) w3 (.slice ad1 (j+r) cap1) vf ef):=hst3
     clear hst hst3 hb3 hkc
     go_wp2_with (first | (at_builtin;have _t:=hown3;refine znH _ rfl _ _ 87 rfl baseL 9 i0 _ 1 16 Tryz.underlying87 hi hz0 hz1 hz2 rfl (by decide) _ (j+r) _ rfl (hown3.alloc _) ⟨w3.heap.size,0,none⟩ 1 1 [.string T] rfl rfl (World.news_of_block (heap_alloc_new w3 _)) (by simp [Value.oneCell']) (by decide) (by unfold maxLen;omega) (by omega) (by simp;omega) ?_;intro gL capN wN hownN hcaseN;have HSN:Hid (OwnS w X (Value.slice adL j capL).ownBlock va es B baseL 2 K (j+r+1) wN (.slice (some ⟨gL,0,none⟩) (j+r+1) capN) vf ef):=HS3.out.append (by omega) _ (by rw [HKC.out];exact hownN) hcaseN;have cN:=HSN.out.inv.c 2 (by decide);have hltN:=HSN.out.inv.lt;have hrowN:=HSN.out.inv.row 2 (by decide);rw [zne] at cN;rw [zne,zne] at hrowN;obtain ⟨adF,capF,hvF⟩:=zh0 hrowN;subst hvF;have hrowM:wN.ownsRow (B+1) 89 2 (.slice adF ef.length capF) ef.length (flatE ef):=hrowN;clear hownN hcaseN hown3 HS3 hrowN) | (at_builtin;refine znH _ rfl _ _ 67 rfl (B+1) 89 i1 _ 2 32 Tryz.underlying67 hi1 hy0 hy1 hy2 rfl (by decide) _ ef.length _ rfl (hrowM.alloc _) ⟨wN.heap.size,0,none⟩ 1 1 [.slice (some ⟨gL,0,none⟩) (j+r+1) capN,.int .i64 K] rfl rfl (zg1 wN _ _ _) (zin rfl _) (by decide) (by unfold maxLen;omega) (by omega) (by simp;omega) ?_;intro gA capA' wA hownA hcaseA;obtain ⟨ca,fa⟩:=HSN.out.inv.after (f:=2) (by decide) _ (by rw [zne];exact hcaseA);rw [zne] at ca))
     have HS4:=HSN.out.push HXB.out _ hownA hcaseA
     clear HSN cN hrowM hownA hcaseA ca fa hltN
     exact ⟨⟨r+1,_,_,by omega,by go_num,by have:=HES.out;rw [List.length_append];show ef.length+1=_;omega,HS4⟩,by simp [intOf];omega⟩
    ·go_wp2
     go_end0
     exact ⟨rfl,vf,ef,hst.out.inv,by have:=HES.out;have:=HEL.out;omega,⟨hst.out.ent,hst.out.xa⟩,hst.out.fr⟩
theorem zdn (es:List (Value × Int))(i:Nat)(h:i<es.length):(flatE es)[i*2]? = some es[i].1∧(flatE es)[i*2+1]? = some (.int .i64 es[i].2):=by
 induction es generalizing i with
 | nil=>simp at h
 | cons p es ih =>
  cases i with
  | zero=>exact ⟨rfl,rfl⟩
  | succ i =>
   have:=ih i (by simpa using h)
   have e:flatE (p :: es)=p.1 :: .int .i64 p.2 :: flatE es:=rfl
   rw [e,show (i+1)*2=i*2+1+1 by omega]
   exact this
theorem zcW {w:World}{B f:Nat}{va:Nat→Value}{es:Nat→List (Value × Int)}(h:Bk w B va es)(hf:f<4)(i:Nat)(hi:i<(es f).length) :
  ∃ g cap,va f = .slice (some ⟨g,0,none⟩) (es f).length cap∧g<w.heap.size∧w.cell? ⟨g,i*2,none⟩=some (es f)[i].1∧w.cell? ⟨g,i*2+1,none⟩=some (.int .i64 (es f)[i].2):=by
 rcases (h.row f hf).2 with ⟨_,h0⟩ | ⟨g,cap,cur,hv,_,hh,h1,h2,h3,h4⟩
 ·omega
 ·refine ⟨g,cap,hv,(Array.getElem?_eq_some_iff.1 hh).1,?_,?_⟩
  ·have:=(zdn (es f) i hi).1
   rw [← h4,List.getElem?_take,if_pos (by omega),Array.getElem?_toList] at this
   simp [World.cell?,hh,this]
  ·have:=(zdn (es f) i hi).2
   rw [← h4,List.getElem?_take,if_pos (by omega),Array.getElem?_toList] at this
   simp [World.cell?,hh,this]
set_option maxRecDepth 100000 in
theorem zgc (B:Nat)(va:Nat→Value)(es:Nat→List (Value × Int))(w:World)(hI:Bk w B va es)(hes:∀ f,f<4→(es f).length≤16000000) :
  Calls Tryz.prog 14 #[.pointer (some ⟨B,0,none⟩)] w fun e w' => e = .returned (.bool true)∧Below w.heap.size w w' := by
 obtain ⟨ad0,cap0,e0⟩:=zh0 (hI.row 0 (by decide))
 obtain ⟨ad1,cap1,e1⟩:=zh0 (hI.row 1 (by decide))
 obtain ⟨ad2,cap2,e2⟩:=zh0 (hI.row 2 (by decide))
 obtain ⟨ad3,cap3,e3⟩:=zh0 (hI.row 3 (by decide))
 have HI:Hid (Bk w B va es):=hI
 have HV0:Hid (va 0 = .slice ad0 (es 0).length cap0):=e0
 have HV1:Hid (va 1 = .slice ad1 (es 1).length cap1):=e1
 have HV2:Hid (va 2 = .slice ad2 (es 2).length cap2):=e2
 have HV3:Hid (va 3 = .slice ad3 (es 3).length cap3):=e3
 have l0:=hes 0 (by decide)
 have l1:=hes 1 (by decide)
 have l2:=hes 2 (by decide)
 have l3:=hes 3 (by decide)
 clear hI e0 e1 e2 e3 hes
 go_enter Tryz.func14,Tryz.ntmps14
 go_wp2
 go_loopw [3] (fun s wr=>∃ j:Nat,j≤(es 0).length∧s = .int .i64 j∧Below w.heap.size w wr) (fun i _=>(es 0).length - (intOf i).toNat)
 case atStart=>exact ⟨0,Nat.zero_le _,rfl,Below.refl _ _⟩
 case round =>
  obtain ⟨j,hj,rfl,hbw⟩:=hrel
  have hI:=HI.out.below hbw
  have hc:=hI.c 0 (by decide)
  rw [HV0.out] at hc
  by_cases hl:j<(es 0).length
  ·obtain ⟨gA,capA',hvA,hgA,e0,e1⟩:=zcW hI (f:=0) (by decide) j hl
   obtain ⟨m,hmb,hgood⟩:=hI.good 0 (by decide) _ (List.getElem_mem hl)
   have hbnd:=hI.bnd 0 (by decide) _ (List.getElem_mem hl)
   rw [HV0.out] at hvA
   cases hvA
   generalize (es 0)[j]=p at *
   obtain ⟨s,k⟩:=p
   obtain ⟨ad,cap,hs,hcap,H⟩:=hgood
   simp only at hs e0 e1 hbnd H hcap
   subst hs
   have hsz:=hbw.size
   obtain ⟨wi,rfl⟩:∃ wi:World,wi=wr:=⟨_,rfl⟩
   have q0:(j:Int)<((es 0).length:Int):=by omega
   clear hI
   have HR:Hid (0<m→∃ b off,ad=some ⟨b,off,none⟩∧b<wi.heap.size∧∀ i,i<m→cellsAt wi b (off+i*6) (mark k)):=fun h=>by
    obtain ⟨b,off,h1,h2,h3⟩:=H h
    exact ⟨b,off,h1,h2,fun i hi=>⟨h3 i hi 0 _ rfl,h3 i hi 1 _ rfl,h3 i hi 2 _ rfl,h3 i hi 3 _ rfl,h3 i hi 4 _ rfl,h3 i hi 5 _ rfl⟩⟩
   clear H
   go_wp2
   obtain ⟨box,hbox⟩:∃ box:Obj,box = .cells #[.slice ad m cap,.int .i64 k] 75:=⟨_,rfl⟩
   have HBX:Hid (box = .cells #[.slice ad m cap,.int .i64 k] 75):=hbox
   rw [← hbox]
   clear hbox e0 e1 hc
   go_loopw [5] (fun s5 wr=>∃ t:Nat,t≤m∧s5 = .int .i64 t∧Below (wi.alloc box).heap.size (wi.alloc box) wr) (fun s5 _=>m - (intOf s5).toNat)
   case atStart=>exact ⟨0,Nat.zero_le _,rfl,Below.refl _ _⟩
   case round =>
    obtain ⟨t,ht,rfl,hbi⟩:=hrel
    have b0:wr.cell? ⟨wi.heap.size,0,none⟩=some (.slice ad m cap):=by
     rw [hbi.cell (p:=⟨wi.heap.size,0,none⟩) (by simp)]
     exact World.news_of_block (heap_alloc_new wi box |>.trans (by rw [HBX.out])) 0 _ rfl
    have b1:wr.cell? ⟨wi.heap.size,1,none⟩=some (.int .i64 k):=by
     rw [hbi.cell (p:=⟨wi.heap.size,1,none⟩) (by simp)]
     exact World.news_of_block (heap_alloc_new wi box |>.trans (by rw [HBX.out])) 1 _ rfl
    have hbwi:Below w.heap.size w wr:=(zaN hbw box).trans (hbi.mono (by simp;omega))
    by_cases htm:t<m
    ·obtain ⟨b,off,rfl,hb,hrow⟩:=HR.out (by omega)
     have hal:Below wi.heap.size wi wr:=((Below.refl _ wi).alloc (Nat.le_refl _) box).trans (hbi.mono (by simp))
     obtain ⟨c0,c1,c2,c3,c4,c5⟩:=zbs hal hb (hrow t htm)
     clear hal
     clear hrow HR
     have hbr:b<wr.heap.size:=by have:=hbi.size;simp at this;omega
     have hbo:wi.heap.size<wr.heap.size:=by have:=hbi.size;simp at this;omega
     have hszi:=hbi.size
     have q1:(0:Int)≤(t:Int):=by omega
     have q2:(t:Int)<(m:Int):=by omega
     have hat:=fun W=>zaA k W hbnd.1 hbnd.2
     generalize mark k=x at *
     have HAT:Hid (∀ W:World,Calls Tryz.prog 38 #[.int .i64 k] W fun e w' => e = .returned (.agg #[.int .i64 x.ty,.string x.key,.int .i64 x.side,.int .i64 x.who,.string x.elem,.int .i64 x.n])∧Below W.heap.size W w'):=hat
     clear hat
     go_wp2
     go_region_held3 (fun w' => w'.cell? ⟨wi.heap.size,0,none⟩=some (.slice (some ⟨b,off,none⟩) m cap)∧w'.cell? ⟨wi.heap.size,1,none⟩=some (.int .i64 k)∧w'.cell? ⟨b,off+t*6,none⟩=some (.int .i64 x.ty)∧w'.cell? ⟨b,off+t*6+1,none⟩=some (.string x.key)∧w'.cell? ⟨b,off+t*6+2,none⟩=some (.int .i64 x.side)∧w'.cell? ⟨b,off+t*6+3,none⟩=some (.int .i64 x.who)∧w'.cell? ⟨b,off+t*6+4,none⟩=some (.string x.elem)∧w'.cell? ⟨b,off+t*6+5,none⟩=some (.int .i64 x.n)) (first | go_keep | (go_split_ands;refine ⟨?_,?_,?_,?_,?_,?_,?_,?_⟩ <;> (first | (rw [hb1.cell (p:=⟨b,_,none⟩) (by simpa using hbr)];assumption) | (rw [hb1.cell (p:=⟨wi.heap.size,_,none⟩) (by simpa using hbo)];assumption)))) (first | (go_at_call 38;refine (HAT.out _).mono ?_;rintro e w1 ⟨rfl,hb1⟩))
     go_wp2
     exact ⟨⟨t+1,by omega,by go_num,hbi.drew.trans (hb1.mono hszi)⟩,by simp [intOf];omega⟩
    ·have q2:¬ (t:Int)<(m:Int):=by omega
     clear HR
     go_wp2
     exact ⟨⟨j+1,by omega,by go_num,hbwi⟩,by simp [intOf];omega⟩
  ·have q0:¬ (j:Int)<((es 0).length:Int):=by omega
   have hk:=hI.c 1 (by decide)
   rw [HV1.out] at hk
   clear hI
   go_wp2
   clear hk hc
   go_loopw [6] (fun s wr=>∃ j:Nat,j≤(es 1).length∧s = .int .i64 j∧Below w.heap.size w wr) (fun i _=>(es 1).length - (intOf i).toNat)
   case atStart=>exact ⟨0,Nat.zero_le _,rfl,hbw⟩
   case round =>
    obtain ⟨j,hj,rfl,hbw⟩:=hrel
    have hI:=HI.out.below hbw
    have hc:=hI.c 1 (by decide)
    rw [HV1.out] at hc
    by_cases hl:j<(es 1).length
    ·obtain ⟨gA,capA',hvA,hgA,e0,e1⟩:=zcW hI (f:=1) (by decide) j hl
     obtain ⟨m,hmb,hgood⟩:=hI.good 1 (by decide) _ (List.getElem_mem hl)
     have hbnd:=hI.bnd 1 (by decide) _ (List.getElem_mem hl)
     rw [HV1.out] at hvA
     cases hvA
     generalize (es 1)[j]=p at *
     obtain ⟨s,k⟩:=p
     obtain ⟨ad,cap,hs,hcap,H⟩:=hgood
     simp only at hs e0 e1 hbnd H hcap
     subst hs
     have hsz:=hbw.size
     obtain ⟨wi,rfl⟩:∃ wi:World,wi=wr:=⟨_,rfl⟩
     have q0:(j:Int)<((es 1).length:Int):=by omega
     clear hI
     have HR:Hid (0<m→∃ b off,ad=some ⟨b,off,none⟩∧b<wi.heap.size∧∀ i,i<m→wi.cell? ⟨b,off+i,none⟩=some (.int .i64 (-1 - k))):=fun h=>by
      obtain ⟨b,off,h1,h2,h3⟩:=H h
      exact ⟨b,off,h1,h2,fun i hi=>by have:=h3 i hi 0 _ rfl;simpa [szC] using this⟩
     clear H
     go_wp2
     obtain ⟨box,hbox⟩:∃ box:Obj,box = .cells #[.slice ad m cap,.int .i64 k] 81:=⟨_,rfl⟩
     have HBX:Hid (box = .cells #[.slice ad m cap,.int .i64 k] 81):=hbox
     rw [← hbox]
     clear hbox e0 e1 hc
     go_loopw [8] (fun s5 wr=>∃ t:Nat,t≤m∧s5 = .int .i64 t∧Below (wi.alloc box).heap.size (wi.alloc box) wr) (fun s5 _=>m - (intOf s5).toNat)
     case atStart=>exact ⟨0,Nat.zero_le _,rfl,Below.refl _ _⟩
     case round =>
      obtain ⟨t,ht,rfl,hbi⟩:=hrel
      have b0:wr.cell? ⟨wi.heap.size,0,none⟩=some (.slice ad m cap):=by
       rw [hbi.cell (p:=⟨wi.heap.size,0,none⟩) (by simp)]
       exact World.news_of_block (heap_alloc_new wi box |>.trans (by rw [HBX.out])) 0 _ rfl
      have b1:wr.cell? ⟨wi.heap.size,1,none⟩=some (.int .i64 k):=by
       rw [hbi.cell (p:=⟨wi.heap.size,1,none⟩) (by simp)]
       exact World.news_of_block (heap_alloc_new wi box |>.trans (by rw [HBX.out])) 1 _ rfl
      have hbwi:Below w.heap.size w wr:=(zaN hbw box).trans (hbi.mono (by simp;omega))
      by_cases htm:t<m
      ·obtain ⟨b,off,rfl,hb,hrow⟩:=HR.out (by omega)
       have hal:Below wi.heap.size wi wr:=((Below.refl _ wi).alloc (Nat.le_refl _) box).trans (hbi.mono (by simp))
       have c0:=(hal.cell (p:=⟨b,off+t,none⟩) hb).trans (hrow t htm)
       clear hal
       clear hrow HR
       have hbr:b<wr.heap.size:=by have:=hbi.size;simp at this;omega
       have hbo:wi.heap.size<wr.heap.size:=by have:=hbi.size;simp at this;omega
       have hszi:=hbi.size
       have q1:(0:Int)≤(t:Int):=by omega
       have q2:(t:Int)<(m:Int):=by omega
       go_wp2
       go_quiet (fail)
       go_wp2
       exact ⟨⟨t+1,by omega,by go_num,below_drewN hbi _⟩,by simp [intOf];omega⟩
      ·have q2:¬ (t:Int)<(m:Int):=by omega
       clear HR
       go_wp2
       exact ⟨⟨j+1,by omega,by go_num,hbwi⟩,by simp [intOf];omega⟩
    ·have q0:¬ (j:Int)<((es 1).length:Int):=by omega
     have hk:=hI.c 3 (by decide)
     rw [HV3.out] at hk
     clear hI
     go_wp2
     clear hk hc
     go_loopw [9] (fun s wr=>∃ j:Nat,j≤(es 3).length∧s = .int .i64 j∧Below w.heap.size w wr) (fun i _=>(es 3).length - (intOf i).toNat)
     case atStart=>exact ⟨0,Nat.zero_le _,rfl,hbw⟩
     case round =>
      obtain ⟨j,hj,rfl,hbw⟩:=hrel
      have hI:=HI.out.below hbw
      have hc:=hI.c 3 (by decide)
      rw [HV3.out] at hc
      by_cases hl:j<(es 3).length
      ·obtain ⟨gA,capA',hvA,hgA,e0,e1⟩:=zcW hI (f:=3) (by decide) j hl
       obtain ⟨m,hmb,hgood⟩:=hI.good 3 (by decide) _ (List.getElem_mem hl)
       have hbnd:=hI.bnd 3 (by decide) _ (List.getElem_mem hl)
       rw [HV3.out] at hvA
       cases hvA
       generalize (es 3)[j]=p at *
       obtain ⟨s,k⟩:=p
       obtain ⟨ad,cap,hs,hcap,H⟩:=hgood
       simp only at hs e0 e1 hbnd H hcap
       subst hs
       have hsz:=hbw.size
       obtain ⟨wi,rfl⟩:∃ wi:World,wi=wr:=⟨_,rfl⟩
       have q0:(j:Int)<((es 3).length:Int):=by omega
       clear hI
       have HR:Hid (0<m→∃ b off,ad=some ⟨b,off,none⟩∧b<wi.heap.size∧∀ i,i<m→wi.cell? ⟨b,off+i*3,none⟩=some (.int .i64 (-1 - k))∧wi.cell? ⟨b,off+i*3+1,none⟩=some (.int .i64 0)∧wi.cell? ⟨b,off+i*3+2,none⟩=some (.slice none 0 0)):=fun h=>by
        obtain ⟨b,off,h1,h2,h3⟩:=H h
        exact ⟨b,off,h1,h2,fun i hi=>⟨h3 i hi 0 _ rfl,h3 i hi 1 _ rfl,h3 i hi 2 _ rfl⟩⟩
       clear H
       go_wp2
       obtain ⟨box,hbox⟩:∃ box:Obj,box = .cells #[.slice ad m cap,.int .i64 k] 84:=⟨_,rfl⟩
       have HBX:Hid (box = .cells #[.slice ad m cap,.int .i64 k] 84):=hbox
       rw [← hbox]
       clear hbox e0 e1 hc
       go_loopw [11] (fun s5 wr=>∃ t:Nat,t≤m∧s5 = .int .i64 t∧Below (wi.alloc box).heap.size (wi.alloc box) wr) (fun s5 _=>m - (intOf s5).toNat)
       case atStart=>exact ⟨0,Nat.zero_le _,rfl,Below.refl _ _⟩
       case round =>
        obtain ⟨t,ht,rfl,hbi⟩:=hrel
        have b0:wr.cell? ⟨wi.heap.size,0,none⟩=some (.slice ad m cap):=by
         rw [hbi.cell (p:=⟨wi.heap.size,0,none⟩) (by simp)]
         exact World.news_of_block (heap_alloc_new wi box |>.trans (by rw [HBX.out])) 0 _ rfl
        have b1:wr.cell? ⟨wi.heap.size,1,none⟩=some (.int .i64 k):=by
         rw [hbi.cell (p:=⟨wi.heap.size,1,none⟩) (by simp)]
         exact World.news_of_block (heap_alloc_new wi box |>.trans (by rw [HBX.out])) 1 _ rfl
        have hbwi:Below w.heap.size w wr:=(zaN hbw box).trans (hbi.mono (by simp;omega))
        by_cases htm:t<m
        ·obtain ⟨b,off,rfl,hb,hrow⟩:=HR.out (by omega)
         have hal:Below wi.heap.size wi wr:=((Below.refl _ wi).alloc (Nat.le_refl _) box).trans (hbi.mono (by simp))
         obtain ⟨r0,r1,r2⟩:=hrow t htm
         have c0:=(hal.cell (p:=⟨b,off+t*3,none⟩) hb).trans r0
         have c1:=(hal.cell (p:=⟨b,off+t*3+1,none⟩) hb).trans r1
         have c2:=(hal.cell (p:=⟨b,off+t*3+2,none⟩) hb).trans r2
         clear hal r0 r1 r2
         clear hrow HR
         have hbr:b<wr.heap.size:=by have:=hbi.size;simp at this;omega
         have hbo:wi.heap.size<wr.heap.size:=by have:=hbi.size;simp at this;omega
         have hszi:=hbi.size
         have q1:(0:Int)≤(t:Int):=by omega
         have q2:(t:Int)<(m:Int):=by omega
         go_wp2
         go_quiet (fail)
         go_wp2
         exact ⟨⟨t+1,by omega,by go_num,below_drewN hbi _⟩,by simp [intOf];omega⟩
        ·have q2:¬ (t:Int)<(m:Int):=by omega
         clear HR
         go_wp2
         exact ⟨⟨j+1,by omega,by go_num,hbwi⟩,by simp [intOf];omega⟩
      ·have q0:¬ (j:Int)<((es 3).length:Int):=by omega
       have hk:=hI.c 2 (by decide)
       rw [HV2.out] at hk
       clear hI
       go_wp2
       clear hk hc
       go_loopw [12] (fun s wr=>∃ j:Nat,j≤(es 2).length∧s = .int .i64 j∧Below w.heap.size w wr) (fun i _=>(es 2).length - (intOf i).toNat)
       case atStart=>exact ⟨0,Nat.zero_le _,rfl,hbw⟩
       case round =>
        obtain ⟨j,hj,rfl,hbw⟩:=hrel
        have hI:=HI.out.below hbw
        have hc:=hI.c 2 (by decide)
        rw [HV2.out] at hc
        by_cases hl:j<(es 2).length
        ·obtain ⟨gA,capA',hvA,hgA,e0,e1⟩:=zcW hI (f:=2) (by decide) j hl
         obtain ⟨m,hmb,hgood⟩:=hI.good 2 (by decide) _ (List.getElem_mem hl)
         have hbnd:=hI.bnd 2 (by decide) _ (List.getElem_mem hl)
         rw [HV2.out] at hvA
         cases hvA
         generalize (es 2)[j]=p at *
         obtain ⟨s,k⟩:=p
         obtain ⟨ad,cap,hs,hcap,H⟩:=hgood
         simp only at hs e0 e1 hbnd H hcap
         subst hs
         have hsz:=hbw.size
         obtain ⟨wi,rfl⟩:∃ wi:World,wi=wr:=⟨_,rfl⟩
         have q0:(j:Int)<((es 2).length:Int):=by omega
         clear hI
         obtain ⟨K,rfl⟩:∃ K:Nat,k=K:=⟨k.toNat,by omega⟩
         have HX:=fun W=>zms K W (by omega)
         have HR:Hid (0<m→∃ b off,ad=some ⟨b,off,none⟩∧b<wi.heap.size∧∀ i,i<m→wi.cell? ⟨b,off+i,none⟩=some (.string (markT K))):=fun h=>by
          obtain ⟨b,off,h1,h2,h3⟩:=H h
          exact ⟨b,off,h1,h2,fun i hi=>by have:=h3 i hi 0 _ rfl;simpa [szC,mkC] using this⟩
         clear H
         generalize markT K=T at *
         have HTX:Hid (∀ W,Calls Tryz.prog 39 #[.int .i64 K] W fun e w' => e = .returned (.string T)∧Below W.heap.size W w'):=HX
         clear HX
         go_wp2_with fail
         refine (HTX.out _).mono ?_
         rintro e w1 ⟨rfl,hb1⟩
         have hbx:=heap_alloc_new wi (.cells #[.slice ad m cap,.int .i64 K] 89)
         have x0:w1.cell? ⟨wi.heap.size,0,none⟩=some (.slice ad m cap):=by
          rw [hb1.cell (p:=⟨wi.heap.size,0,none⟩) (by simp)]
          exact World.news_of_block hbx 0 _ rfl
         have hx1:wi.heap.size<w1.heap.size:=by have:=hb1.size;simp at this;omega
         have hbw1:Below w.heap.size w w1:=(zaN hbw _).trans (hb1.mono (by simp;omega))
         have HR1:Hid (0<m→∃ b off,ad=some ⟨b,off,none⟩∧b<w1.heap.size∧∀ i,i<m→w1.cell? ⟨b,off+i,none⟩=some (.string T)):=fun h=>by
          obtain ⟨b,off,r1,r2,r3⟩:=HR.out h
          refine ⟨b,off,r1,by omega,fun i hi => ?_⟩
          rw [hb1.cell (p:=⟨b,off+i,none⟩) (by simp;omega),(zaN (Below.refl _ wi) _).cell (p:=⟨b,off+i,none⟩) r2]
          exact r3 i hi
         clear HR hb1 hbx e0 e1 hc HTX
         go_wp2
         go_loopw [15] (fun s wr=>∃ t:Nat,t≤m∧s = .int .i64 t∧wr=w1) (fun s _=>m - (intOf s).toNat)
         case atStart=>exact ⟨0,Nat.zero_le _,rfl,rfl⟩
         case round =>
          obtain ⟨t,ht,rfl,rfl⟩:=hrel
          by_cases htm:t<m
          ·obtain ⟨b,off,rfl,hb,hrow⟩:=HR1.out (by omega)
           have c0:=hrow t htm
           clear hrow HR1
           have q1:(0:Int)≤(t:Int):=by omega
           have q2:(t:Int)<(m:Int):=by omega
           go_wp2
           exact ⟨⟨t+1,by omega,by go_num,trivial⟩,by simp [intOf];omega⟩
          ·have q2:¬ (t:Int)<(m:Int):=by omega
           clear HR1
           go_wp2
           exact ⟨⟨j+1,by omega,by go_num,hbw1⟩,by simp [intOf];omega⟩
        ·have q0:¬ (j:Int)<((es 2).length:Int):=by omega
         clear hI
         go_wp2
         go_ret
         exact ⟨rfl,hbw⟩
section
variable {w0 w:World} {B0 W x y R n B rm M:Nat} {bp rr:Bool} {f:Nat→Nat→Bool} {col:Col} {K:RefC}
end
theorem Bk.sepNew {w w' : World}{B:Nat}{va:Nat→Value}{es:Nat→List (Value × Int)}(h:Bk w B va es)(_hb:Below w.heap.size w w'){e:TypeId}{s n:Nat}{v:Value}{xs:List Value}(hv:w'.ownsRow w.heap.size e s v n xs) :
  ∀ q,v.ownBlock=some q→q<w'.heap.size∧q ≠ B∧(∀ j,j<4→some q ≠ (va j).ownBlock)∧∀ j,j<4→∀ p∈es j,p.1.ownBlock ≠ some q:=by
 intro q hq
 have h1:=zh3 hv q hq
 have h2:=zh2 hv q hq
 have h3:=h.lt
 refine ⟨h2,by omega,fun j hj e => ?_,fun j hj p hp e => ?_⟩
 ·have:=zh2 (h.row j hj) q e.symm
  omega
 ·have:=(h.sep j hj p hp q e).1
  omega
theorem znc {es:Nat→List (Value × Int)}{k:Nat}{ef:List (Value × Int)}{M:Nat}(h:∀ f,f<4→(es f).length≤M)(hk:k<4)(he:ef.length=(es k).length+4):∀ f,f<4→(updF es k ef f).length≤M+4:=by
 intro f hf
 by_cases e:f=k
 ·subst e
  rw [zne,he]
  have:=h f hf
  omega
 ·rw [znd _ _ e]
  exact Nat.le_trans (h f hf) (by omega)
section
variable {w0 w w1:World} {B0 W x y R n B rm M:Nat} {bp rr:Bool} {f:Nat→Nat→Bool} {col:Col} {K:RefC}
end
structure Snap where
 w:World
 P:Nat→Prop
def Snap.all (w:World):Snap:=⟨w,fun _=>True⟩
structure Old (Z:Snap)(w:World)(col:Col):Prop where
 bel:Fr (fun q=>¬ Z.P q) Z.w w
 col:∀ q,q<Z.w.heap.size→Z.P q→(col q).1=0
theorem Old.kept {Z:Snap}{w w' : World}{col col' : Col}{S:Nat × Nat→Prop}(h:Old Z w col)(hf:FrC S col col' w w')(hS:∀ κ:Nat × Nat,κ.1=0→¬ S κ):Old Z w' col' where
 bel:=⟨hf.fr.os.trans h.bel.os,hf.fr.tape.trans h.bel.tape,hf.fr.output.trans h.bel.output,Nat.le_trans h.bel.size hf.size,fun k hk hp=>(hf.fr.block k (Nat.lt_of_lt_of_le hk h.bel.size) (hS _ (h.col k hk (Classical.not_not.1 hp)))).trans (h.bel.block k hk hp)⟩
 col:=fun q hq hp=>by rw [hf.col q (Nat.lt_of_lt_of_le hq h.bel.size)];exact h.col q hq hp
theorem Old.same {Z:Snap}{w w' : World}{col:Col}(h:Old Z w col)(hb:Below w.heap.size w w'):Old Z w' col:=h.kept (S:=fun _=>False) (zdI hb) (fun _ _=>id)
theorem Old.below {Z w:World}{col:Col}(h:Old (Snap.all Z) w col):Below Z.heap.size Z w:=⟨h.bel.os,h.bel.tape,h.bel.output,h.bel.size,fun k hk=>h.bel.block k hk (fun e=>e trivial)⟩
theorem zhp {Z w:World}{col:Col}(h:Below Z.heap.size Z w)(hc:∀ q,q<Z.heap.size→(col q).1=0):Old (Snap.all Z) w col:=⟨⟨h.os,h.tape,h.output,h.size,fun k hk _=>h.block k hk⟩,fun q hq _=>hc q hq⟩
theorem zgt {H:Type}(x y:Lit × DataW H):∀ l:List (Lit × DataW H),y∈DataW.insert x l ↔ y=x∨y∈l
 | []=>by simp [DataW.insert]
 | z :: r=>by
  unfold DataW.insert
  split
  ·simp
  ·rw [List.mem_cons,zgt x y r,List.mem_cons]
   constructor
   ·rintro (h | h | h)
    ·exact .inr (.inl h)
    ·exact .inl h
    ·exact .inr (.inr h)
   ·rintro (h | h | h)
    ·exact .inr (.inl h)
    ·exact .inl h
    ·exact .inr (.inr h)
theorem zgw {H:Type}(y:Lit × DataW H):∀ l:List (Lit × DataW H),y∈l→y∈l.foldr DataW.insert []
 | x :: r,h=>by
  rw [List.foldr_cons,zgt]
  rcases List.mem_cons.1 h with h | h
  ·exact .inl h
  ·exact .inr (zgw y r h)
theorem StMap.shrink {w:World}{b n:Nat}{M:Sl→Option Gr}(h:StMap w b n M)(L:List Sl)(hL:∀ s g,M s=some g→s∈L):StMap w b L.length M:=by
 obtain ⟨D,⟨es,clock,h1,F,hs,hD⟩,h2,h3⟩:=h
 refine ⟨D,⟨es,clock,h1,F,?_,hD⟩,h2,h3⟩
 have hlen:(es.toList.map (·.key)).length≤(L.map Sl.val).length:=by
  refine zfW F.stamped.2.2 ?_
  intro key hk
  obtain ⟨x,hx,rfl⟩:=List.mem_map.1 hk
  obtain ⟨y,hy⟩:=F.reads x hx
  have hkey:=Go.WideElems.rd_key hy
  obtain ⟨s,hsv⟩:=zlH _ _ hkey
  rw [hsv] at hkey ⊢
  obtain ⟨hok,hlit⟩:=zlJ s _ hkey
  refine List.mem_map.2 ⟨s,?_,rfl⟩
  cases hM:M s with
  | some g=>exact hL s g hM
  | none =>
   exfalso
   have hf:=h2 s hok hM
   have:Maps.has D s.lit=true:=by
    rw [hD,Maps.has_eq,List.any_eq_true]
    refine ⟨y,zgw y _ (List.mem_map.2 ⟨x,hx,Go.WideElems.rg_of hy⟩),?_⟩
    rw [hlit]
    simp [Lit.sameKey,Sl.lit]
   rw [hf] at this
   cases this
 simpa using hlen
theorem StMap.shrinkU {w:World}{b n:Nat}{l U:List At}(h:StMap w b n (addTo (fun _=>none) l))(hs:∀ a∈l,a∈U):StMap w b U.length (addTo (fun _=>none) l):=by
 have:=h.shrink (U.map slot) fun s g hM=>by
  obtain ⟨a,ha,h1,_⟩:=(zeU l).only s g hM
  exact List.mem_map.2 ⟨a,hs a ha,h1⟩
 rwa [List.length_map] at this
def BytesAt (w:World)(v:Value)(l:List UInt8):Prop :=
 ∃ ad cap,v = .slice ad l.length cap∧l.length≤cap∧(0<l.length→∃ b,ad=some ⟨b,0,none⟩∧∀ k (h:k<l.length),w.cell? ⟨b,k,none⟩=some (.int .u8 (l[k].toNat:Int)))
theorem zbf {w:World}{base n:Nat}{v:Value}{l:List UInt8}(hn:n=l.length)(h:w.ownsRow base 5 1 v n (bcells l)):BytesAt w v l:=by
 subst hn
 rcases h.2 with ⟨rfl,h0⟩ | ⟨g,cap,cur,rfl,hg,hb,h1,h2,h3,h4⟩
 ·exact ⟨none,0,by rw [h0],by omega,fun h=>by omega⟩
 ·refine ⟨_,cap,rfl,h1,fun _=>⟨g,rfl,fun k hk => ?_⟩⟩
  have:=h.cells (g:=g) rfl k (.int .u8 (l[k].toNat:Int)) (by simp [bcells,hk])
  rw [Addr.add_lit,Nat.zero_add] at this
  exact this
set_option maxRecDepth 100000 in
theorem prgSum (v:Value)(l:List UInt8)(w:World)(hv:BytesAt w v l)(hl:l.length≤17592186044416) :
  Calls Tryz.prog 169 #[v] w fun e w' => e = .returned (.int .u32 (adler l))∧Below w.heap.size w w' := by
 obtain ⟨ad,cap,rfl,hcap,H⟩:=hv
 have HR:Hid (0<l.length→∃ b,ad=some ⟨b,0,none⟩∧∀ k (h:k<l.length),w.cell? ⟨b,k,none⟩=some (.int .u8 (l[k].toNat:Int))):=H
 clear H
 go_enter Tryz.func169,Tryz.ntmps169
 go_wp2
 go_loopw [3,4,9] (fun a b i wr=>∃ k:Nat,k≤l.length∧a = .int .u32 (adA (l.take k)).1∧b = .int .u32 (adA (l.take k)).2∧i = .int .i64 k∧Below w.heap.size w wr∧Hid (BytesAt wr (.slice ad l.length cap) l)) (fun _ _ i _=>l.length - (intOf i).toNat)
 case atStart=>exact ⟨0,Nat.zero_le _,rfl,rfl,rfl,Below.refl _ _,⟨ad,cap,rfl,hcap,HR.out⟩⟩
 case round =>
  obtain ⟨k,hk,rfl,rfl,rfl,hbw,hby⟩:=hrel
  obtain ⟨ha,hb⟩:=zaj (l.take k)
  by_cases hlt:k<l.length
  ·have HS:Hid (adA (l.take (k+1))=(((adA (l.take k)).1+l[k].toNat) % 65521,(((adA (l.take k)).1+l[k].toNat) % 65521+(adA (l.take k)).2) % 65521)):=by rw [Hid,List.take_succ_eq_append_getElem hlt,zak]
   have hc:=l[k].toNat_lt
   obtain ⟨ad',cap',e',_,H⟩:=hby.out
   cases e'
   obtain ⟨bb,rfl,hcell⟩:=H (by omega)
   have c0:=hcell k hlt
   clear H hcell HR
   generalize (adA (l.take k)).1=a at *
   generalize (adA (l.take k)).2=b at *
   generalize l[k]=c at *
   have q1:(k:Int)<(l.length:Int):=by omega
   have t1:((a:Int)+(c.toNat:Int)).tmod 65521=((a+c.toNat) % 65521:Nat):=by rw [Int.tmod_eq_emod_of_nonneg (by omega)];omega
   have t2:((b:Int)+((a+c.toNat) % 65521:Nat)).tmod 65521=(((a+c.toNat) % 65521+b) % 65521:Nat):=by rw [Int.tmod_eq_emod_of_nonneg (by omega)];omega
   go_wp2
   refine ⟨⟨k+1,by omega,?_,?_,by go_num,hbw,hby⟩,by simp [intOf];omega⟩
   ·rw [HS.out];go_num
   ·rw [HS.out];go_num
  ·have hkl:k=l.length:=by omega
   subst hkl
   rw [List.take_of_length_le (Nat.le_refl _)] at *
   go_wp2
   go_ret
   refine ⟨zkM ?_,hbw⟩
   unfold adler
   omega
end Go.Proofs.YtahdlejgjcjeoaaGreatDoor
