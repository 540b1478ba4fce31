/- A game: entries handed over, and the law's buffer. -/
import Derived.Test.YtahdlejgjcjeoabGreatDoorA31
import Derived.Test.YtahdlejgjcjeoabGreatDoorA32
namespace Go.Proofs.YtahdlejgjcjeoabGreatDoor
set_option maxHeartbeats 8000000
open Go.RowKit
section
variable {Z:Snap} {w w1:World} {col:Col} {W x y B M N:Nat} {U:List At} {KR:RefC} {KP:PrK} {c cR cP:Clu}
theorem GSt.ownE (h:GSt Z w col W x y B M KR KP cR cP)(hM:M≤15000000)(hb:Below w.heap.size w w1){v:Value}{ds:List Pe}(he:EntsOwn w1 w.heap.size v ds)(hn:ds.length≤8)(hdl:∀ e∈ds,e.d.length≤8388608) :
  Calls Tryz.prog 131 #[.pointer (some ⟨B,0,none⟩),v] w1 fun e w' => e = .returned (.tuple #[])∧GSt Z w' (paint col w.heap.size (3,9)) W x y B (M+36) KR KP cR cP:=by
 obtain ⟨va,es,hk⟩:=h.bk
 have hlt:=hk.bk.lt
 refine (zhX B w.heap.size va es v ds w1 (hk.bk.below hb) he hb.size hlt (fun q hq=>⟨by omega,fun j hj e => ?_,fun j hj p hp e => ?_⟩) (by omega) hdl (by have:=hk.len 0 (by decide);omega) (by have:=hk.len 3 (by decide);omega)).mono ?_
 ·have:=zh3 (hk.bk.row j hj) q e.symm;omega
 ·have:=(hk.bk.sep j hj p hp q e).1;omega
 rintro e w' ⟨rfl,va',es',hr,hl⟩
 have hr:=hr.out
 have hl:=hl.out
 have hX:∀ q,q<w.heap.size→XB B w.heap.size va q→(col q).1=3:=fun q hq hX=>by
  rcases hX with rfl | hX | ⟨f,hf,hX⟩
  ·exact hk.cB
  ·omega
  ·exact hk.cv f hf q hX
 have hF:FrC (ofOwn 3) col (paint col w.heap.size (3,9)) w w' := ⟨((Fr.refl _ w).below hb).trans hr.fr (fun q hq hx=>hX q hq hx),fun q hq=>zin col _ hq⟩
 refine ⟨rfl,h.book hF ⟨hr.bk,fun f hf => ?_,?_,fun f hf q hq => ?_,fun f hf p hp q hq => ?_⟩⟩
 ·have:=hk.len f hf
  rcases (show f=0∨f=1∨f=2∨f=3 by omega) with rfl | rfl | rfl | rfl <;> omega
 ·rw [zin col _ hlt];exact hk.cB
 ·by_cases hq' : q<w.heap.size
  ·rw [zin col _ hq']
   exact (hr.xa f hf q hq).elim (fun h=>by omega) (hX q hq')
  ·rw [zim col _ (by omega)]
 ·by_cases hq' : q<w.heap.size
  ·rw [zin col _ hq']
   rcases hr.ent f hf p hp with h1 | h1
   ·exact hk.ce f hf p h1 q hq
   ·have:=h1 q hq;omega
  ·rw [zim col _ (by omega)]
theorem ok_buf (hok:c.ok U N)(hL:Lim U N){r:Int}:(if c.works r=0 then (c.rep r.toNat).buf else []).length≤8∧∀ e∈(if c.works r=0 then (c.rep r.toNat).buf else []),e.d.length≤131072:=by
 by_cases hw:c.works r=0
 ·rw [if_pos hw]
  rcases znx c r with ⟨h5,_⟩ | ⟨i,rfl,hi,_⟩
  ·rw [h5] at hw;cases hw
  have hrep:=hok.rep hi
  refine ⟨Nat.le_trans hrep.bufL hok.room8,fun e he => ?_⟩
  have hb:=hrep.buf e he
  exact Nat.le_trans (zfX (zlR hb.1.1.sorted) hb.2.1) hL.2
 ·rw [if_neg hw]
  exact ⟨Nat.zero_le _,fun e he=>by cases he⟩
set_option maxRecDepth 100000 in
theorem GSt.lBuffer (h:GSt Z w col W x y B M KR KP c c)(hok:c.ok U N)(hL:Lim U N)(hM:M≤15000000)(r:Int) :
  Calls Tryz.prog 88 #[.pointer (some ⟨W,0,none⟩),.int .i64 r] w fun e w' => e = .returned (.bool true)∧∃ col',GSt Z w' col' W x y B (M+36) KR KP c c:=by
 have c0:=zaX h.wb 0
 simp at c0
 have HN:=Hid.mk h
 have hE:=zny c r
 have HB8:=Hid.mk (ok_buf (c:=c) hok hL (r:=r))
 have HP:=Hid.mk (ziP h.prg.at_ h.prg.is hok hL r)
 have HD:=Hid.mk (fun W' (h' : GSt Z W' col W x y B M KR KP c c)=>zjY h'.ref hok hL r)
 clear h hok hL
 generalize (if c.works r=0 then (c.rep r.toNat).buf else [])=T at *
 generalize c.works r=E at *
 go_enter Tryz.func88,Tryz.ntmps88
 go_wp2_with fail
 refine HP.out.mono ?_
 rintro e w1 ⟨v1,ds,rfl,ho1,he1,hv1,hb1⟩
 have HN1:=Hid.mk (HN.out.same hb1)
 have c1:=zaX HN1.out.wb 1
 simp at c1
 obtain ⟨ad1,cp1,hf1⟩:=zh1 ho1.out.row
 subst hf1
 go_wp2_with fail
 refine (HD.out _ HN1.out).mono ?_
 rintro e w2 ⟨v2,ns,col2,rfl,hr2,hh2,he2,hb2⟩
 have HN2:=Hid.mk (HN1.out.same hb2)
 obtain ⟨ad2,cp2,hf2,hc2,hel2⟩:=RowC.elem en_len hr2.out
 subst hf2
 have e12:ns.length=ds.length:=by have:=congrArg List.length (he2.out.trans he1.out.symm);simpa using this
 have hn8:ds.length≤8:=by have:=HB8.out.1;rw [← he1.out] at this;simpa using this
 have HDL:Hid (∀ e∈ds,e.d.length≤131072):=fun e he=>HB8.out.2 e.ent (by rw [← he1.out];exact List.mem_map_of_mem he)
 have HO:=Hid.mk (show EntsOwn w2 w.heap.size (.slice ad1 ds.length cp1) ds from ⟨zh5 ho1.out.row hb2,fun e he=>zh5 (ho1.out.own e he) hb2,ho1.out.off,ho1.out.far⟩)
 have HB:=Hid.mk (hb1.trans (hb2.mono hb1.size))
 have HEN:Hid (∀ k (h1:k<ds.length) (h2:k<ns.length),(ns[k]).e=(ds[k]).ent):=fun k h1 h2=>by
  have:(ns.map En.e)[k]? = (ds.map Pe.ent)[k]? := by rw [he2.out,he1.out]
  simpa [h1,h2] using this
 have HEL:=Hid.mk hel2
 have HHD:=hh2
 rw [e12]
 have HLN:=Hid.mk e12
 clear hr2 hh2 he1 he2 hb1 hb2 ho1 HP HD HB8 hel2 e12 hc2 HN1 c0 c1
 have c2:=zaX HN2.out.wb 2
 simp at c2
 have HC:=Hid.mk (fun W' (hW:Below w2.heap.size w2 W')=>HN.out.ownE hM (HB.out.trans (hW.mono HB.out.size)) (v := .slice ad1 ds.length cp1) (ds:=ds) ⟨zh5 HO.out.row hW,fun e he=>zh5 (HO.out.own e he) hW,HO.out.off,HO.out.far⟩ hn8 (fun e he=>Nat.le_trans (HDL.out e he) (by decide)))
 have HSM:Hid (∀ k (h1:k<ds.length) (h2:k<ns.length) W',Below w2.heap.size w2 W' → Calls Tryz.prog 17 #[(ds[k]).v,(ns[k]).v] W' fun e w' => e = .returned (.bool true)∧Below W'.heap.size W' w'):=fun k h1 h2 W' hW=>zkY _ _ (ds[k]).d W' (zlD rfl (zh5 (HO.out.own _ (List.getElem_mem h1)) hW)) (by
  have h3:=HHD.out _ (List.getElem_mem h2)
  rw [HEN.out k h1 h2] at h3
  exact h3.slice.below hW) (by have:=HDL.out _ (List.getElem_mem h1);omega)
 clear HB HN
 rcases hE with rfl | rfl | rfl
 ·clear hv1
  go_wp2
  go_loopw [9] (fun s wr=>∃ k:Nat,k≤ds.length∧s = .int .i64 k∧Below w2.heap.size w2 wr) (fun s _=>ds.length - (intOf s).toNat)
  case atStart=>exact ⟨0,Nat.zero_le _,rfl,Below.refl _ _⟩
  case round =>
   clear c2
   obtain ⟨k,hk,rfl,hbw⟩:=hrel
   by_cases hl:k<ds.length
   ·have hl2:k<ns.length:=by rw [HLN.out];exact hl
    obtain ⟨g1,rfl,hg1,a0,a1,a2⟩:=zcV HO.out.row hl
    obtain ⟨g2,rfl,hg2,-,-,hb⟩:=HEL.out (by omega)
    have b0:=hb k hl2 0 _ rfl
    have b1:=hb k hl2 1 _ rfl
    have b2:=hb k hl2 2 _ rfl
    rw [HEN.out k hl hl2] at b0 b1
    have HS:=Hid.mk (HSM.out k hl hl2)
    have a2' := (hbw.cell (p:=⟨g1,k*3+2,none⟩) hg1).trans a2
    have b2' := (hbw.cell (p:=⟨g2,k*3+2,none⟩) hg2).trans b2
    have HA0:=Hid.mk a0
    have HA1:=Hid.mk a1
    have HB0:=Hid.mk b0
    have HB1:=Hid.mk b1
    obtain ⟨ad3,cp3,hv3⟩:=zh1 (HO.out.own _ (List.getElem_mem hl))
    obtain ⟨ad4,cp4,hv4,-⟩:=HHD.out _ (List.getElem_mem hl2)
    rw [hv3] at a2' HS
    rw [hv4] at b2' HS
    generalize ((ns[k]).e.d.length)=m4 at *
    generalize ((ds[k]).d.length)=m3 at *
    clear a0 a1 a2 b0 b1 b2 hb hv3 hv4
    have q1:(0:Int)≤(k:Int):=by omega
    have q2:(k:Int)<(ds.length:Int):=by omega
    have HBW:=Hid.mk hbw
    have hgl1:=Nat.lt_of_lt_of_le hg1 hbw.size
    have hgl2:=Nat.lt_of_lt_of_le hg2 hbw.size
    clear hbw
    go_wp2_with fail
    go_region_law (first | (go_simp;go_at_call 17;refine (HS.out _ (by first | exact HBW.out | exact HBW.out.drew)).mono ?_;rintro e w3 ⟨rfl,hb3⟩;have hbw3:Below w2.heap.size w2 w3:=(by first | exact HBW.out.trans (hb3.mono HBW.out.size) | exact HBW.out.drew.trans (hb3.mono HBW.out.drew.size))) | fail)
    all_goals
     have a0:=(hbw3.cell (p:=⟨g1,k*3,none⟩) hg1).trans HA0.out
     have a1:=(hbw3.cell (p:=⟨g1,k*3+1,none⟩) hg1).trans HA1.out
     have b0:=(hbw3.cell (p:=⟨g2,k*3+0,none⟩) hg2).trans HB0.out
     have b1:=(hbw3.cell (p:=⟨g2,k*3+1,none⟩) hg2).trans HB1.out
     simp only [Pe.ent] at b0 b1
     rw [Nat.add_zero] at b0
     generalize (((ds[k]).num:Nat):Int)=x0 at *
     generalize (((ds[k]).org:Nat):Int)=x1 at *
     have HB3:=Hid.mk hbw3
     clear hb3 hbw3 HA0 HA1 HB0 HB1 HS a2' b2' HSM HC
     go_wp2
     go_quiet (fail)
     go_wp2
     exact ⟨⟨k+1,by omega,by go_num,by first | exact HB3.out | exact below_drewN HB3.out _⟩,by simp [intOf];omega⟩
   ·have hk' : k=ds.length:=by omega
    subst hk'
    have HN3:=Hid.mk (HN2.out.same hbw)
    have c2:=zaX HN3.out.wb 2
    simp at c2
    have HCC:=Hid.mk (HC.out wr hbw)
    clear HC HSM hbw
    go_wp2_with fail
    refine HCC.out.mono ?_
    rintro e w4 ⟨rfl,hn4⟩
    have HR:=Hid.mk hn4
    clear HCC hn4
    go_wp2
    go_ret
    exact ⟨rfl,_,HR.out⟩
 all_goals
  have hvv:=hv1.out (by decide)
  obtain ⟨rfl,rfl,hl0⟩:ad1=none∧cp1=0∧ds.length=0:=by injection hvv with e1 e2 e3;exact ⟨e1,e3,e2⟩
  have HCC:=Hid.mk (HC.out w2 (Below.refl _ _))
  rw [hl0] at HCC
  simp only [hl0]
  clear hv1 hvv HC HSM HO HEL HEN HHD HLN HDL hn8 hl0
  go_wp2
  go_loopw [9] (fun s wr=>s = .int .i64 0∧wr=w2) (fun _ _=>0)
  case atStart=>exact ⟨rfl,rfl⟩
  case round =>
   obtain ⟨rfl,rfl⟩:=hrel
   go_wp2_with fail
   refine HCC.out.mono ?_
   rintro e w4 ⟨rfl,hn4⟩
   have HR:=Hid.mk hn4
   clear HCC hn4
   go_wp2
   go_ret
   exact ⟨rfl,_,HR.out⟩
end
end Go.Proofs.YtahdlejgjcjeoabGreatDoor
