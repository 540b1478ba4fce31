/- Walk of the laws' ownEntries. -/
import Derived.Test.YtahdlejgjcjeoabGreatDoorA31
import Derived.Test.YtahdlejgjcjeoabGreatDoorA04
import Derived.Test.YtahdlejgjcjeoabGreatDoorA20
import Derived.Test.YtahdlejgjcjeoabGreatDoorA23
namespace Go.Proofs.YtahdlejgjcjeoabGreatDoor
set_option maxHeartbeats 8000000
open Go.RowKit
section
variable {Z:Snap} {w:World} {col:Col} {W x y B M N:Nat} {U:List At} {KR:RefC} {KP:PrK} {c:Clu}
theorem zb5 {A:List At}(hm:∀ a∈A,mayB a=true)(kind:Int):readCode (tell A) kind=readCode A kind:=by
 have h1:A.all mayB=true:=List.all_eq_true.2 hm
 have h2:(tell A).all mayB=true:=List.all_eq_true.2 fun a ha=>hm a ((zmr A).great a ha).1
 simp only [readCode,h1,h2]
theorem zlS {A:List At}(hm:∀ a∈A,mayB a=true){kind:Int}{key:ByteArray}{n:Int}{es:List ByteArray}(h:ReadSpec (tell A) kind key n es):ReadSpec A kind key n es:=by
 rcases h with ⟨h0,hm2,T,hT,rfl,rfl⟩ | ⟨h0,rfl,rfl⟩
 ·obtain rfl:=hT.unique hm2 (zmO (zmr A))
  exact .inl ⟨by rw [← zb5 hm];exact h0,hm,_,zmr A,rfl,rfl⟩
 ·exact .inr ⟨by rw [← zb5 hm];exact h0,rfl,rfl⟩
theorem zjL {r kind:Int}{key:ByteArray}{n m:Int}{es fs:List ByteArray}(h:c.readIs r kind key n es)(k:c.readIs r kind key m fs):n=m∧es=fs:=by
 rcases h with ⟨h0,h1⟩ | ⟨h0,rfl,rfl⟩
 ·rcases k with ⟨_,k1⟩ | ⟨k0,_⟩
  ·exact ReadSpec.unique h1 k1
  ·exact absurd h0 k0
 ·rcases k with ⟨k0,_⟩ | ⟨_,rfl,rfl⟩
  ·exact absurd k0 h0
  ·exact ⟨rfl,rfl⟩
theorem zkz (hok:c.ok U N)(r:Int):(c.repAt r).acked.length≤6:=by
 unfold Clu.repAt
 by_cases h:c.there r=true
 ·rw [if_pos h]
  have hi:r.toNat<c.reps.length:=by simp [Clu.there] at h;omega
  rw [(hok.rep hi).ackL]
  exact hok.n6
 ·rw [if_neg h]
  simp
theorem GSt.pRead (h:GSt Z w col W x y B M KR KP c c)(hok:c.ok U N)(hL:Lim U N)(r kind:Int)(key:ByteArray)(hk:key.size≤1099511627776) :
  Calls Tryz.prog 56 #[.pointer (some ⟨x,0,none⟩),.int .i64 r,.int .i64 kind,.string key] w fun e w' => ∃ n v es,e = .returned (.tuple #[.agg #[.int .i64 n,v],.int .i64 (c.readErr r kind)])∧w'.ownsRow w.heap.size 9 1 v es.length (es.map Value.string)∧Hid (c.readIs r kind key n es)∧es.length≤4194304∧Below w.heap.size w w' := by
 refine (zjc h.prg (by decide) h.tab hok hL r kind key hk).mono ?_
 rintro e w' ⟨n,v,es,rfl,ho,hs,hb⟩
 by_cases hw:c.works r=0
 ·have hm:∀ a∈(c.rep r.toNat).atoms,mayB a=true:=by
   rcases znx c r with ⟨h5,_⟩ | ⟨i,rfl,hi,_⟩
   ·rw [h5] at hw;cases hw
   exact fun a ha=>hok.may a ((hok.rep hi).sub a ha)
  have hs' := hs.out
  rw [if_pos hw] at hs'
  exact ⟨n,v,es,by rw [readErr,Clu.readErr,if_neg (by simp [hw]),if_pos hw,zb5 hm],ho,.inl ⟨hw,zlS hm hs'⟩,ReadSpec.length hs' (by have:=(zhp hok hL hw).2;omega),hb⟩
 ·have hs' := hs.out
  rw [if_neg hw] at hs'
  obtain ⟨rfl,rfl⟩:=hs'
  exact ⟨0,v,[],by rw [readErr,Clu.readErr,if_pos hw,if_neg hw],ho,.inr ⟨hw,rfl,rfl⟩,Nat.zero_le _,hb⟩
set_option maxRecDepth 100000 in
theorem GSt.lRead (h:GSt Z w col W x y B M KR KP c c)(hok:c.ok U N)(hL:Lim U N)(hM:M≤15000000)(r kind:Int)(key:ByteArray)(hk:key.size≤1099511627776) :
  Calls Tryz.prog 87 #[.pointer (some ⟨W,0,none⟩),.int .i64 r,.int .i64 kind,.string key] w fun e w' => e = .returned (.bool true)∧∃ col',GSt Z w' col' W x y B (M+4) KR KP c c:=by
 have c0:=zaX h.wb 0
 simp at c0
 have HP:=Hid.mk (h.pRead hok hL r kind key hk)
 have HD:=Hid.mk (fun W' (h' : GSt Z W' col W x y B M KR KP c c)=>zkf h'.ref hok hL r kind key hk)
 have HN:=Hid.mk h
 clear h hok hL
 generalize c.readErr r kind=E at *
 go_enter Tryz.func87,Tryz.ntmps87
 go_wp2_with fail
 refine HP.out.mono ?_
 rintro e w1 ⟨m,v1,es,rfl,ho1,hs1,hel,hb1⟩
 have HN1:=Hid.mk (HN.out.same hb1)
 have c1:=zaX HN1.out.wb 1
 simp at c1
 have hWl:W<w1.heap.size:=zaY HN1.out.wb
 obtain ⟨ad1,cp1,hf1⟩:=zh1 ho1
 subst hf1
 have HO1:=Hid.mk ho1
 have HB1:=Hid.mk hb1
 clear hb1 ho1
 go_wp2_with fail
 refine (HD.out _ (HN1.out.same (zaO (Below.refl _ _) _))).mono ?_
 rintro e w2 ⟨m',v2,es',rfl,ho2,hs2,hb2⟩
 obtain ⟨rfl,rfl⟩:=zjL hs1.out hs2.out
 have HN2:=Hid.mk ((HN1.out.same (zaO (Below.refl _ _) _)).same hb2)
 have hA2:=(hb2.block w1.heap.size (by simp)).trans (heap_alloc_new w1 _)
 have HA2:=Hid.mk hA2
 have a0:=zaX hA2 0
 have a1:=zaX hA2 1
 simp at a0 a1
 have hAl:w1.heap.size<w2.heap.size:=zaY hA2
 obtain ⟨ad2,cp2,hf2⟩:=zh1 ho2
 subst hf2
 have hb12:Below w1.heap.size w1 w2:=((Below.refl _ w1).alloc (Nat.le_refl _) _).trans (hb2.mono (by simp))
 have HO12:=Hid.mk (zh5 HO1.out hb12)
 have HSM:Hid (∀ W',Below w2.heap.size w2 W' → Calls Tryz.prog 58 #[.agg #[.int .i64 m,.slice ad1 es.length cp1],.agg #[.int .i64 m,.slice ad2 es.length cp2]] W' fun e w' => e = .returned (.bool true)∧Below W'.heap.size W' w'):=fun W' hW' => zk0 m _ _ es W' (zl6 (zh5 HO12.out hW')) (zl6 (zh5 ho2 hW')) (by omega)
 have HBW:=Hid.mk (HB1.out.trans (hb12.mono HB1.out.size))
 clear hb2 hA2 HD HP c0 c1 hWl ho2 hs1 hs2 hb12
 go_wp2_with fail
 refine (HSM.out _ (zaO (Below.refl _ _) _)).mono ?_
 rintro e w3 ⟨rfl,hb3⟩
 have hA3:w3.heap[w1.heap.size]? = some (.cells #[.int .i64 m,.slice ad1 es.length cp1] 129 (0,0)):=(hb3.block w1.heap.size (by simp;omega)).trans ((((Below.refl _ w2).alloc (Nat.le_refl _) _).block _ hAl).trans HA2.out)
 have HN3:=Hid.mk ((HN2.out.same (zaO (Below.refl _ _) _)).same hb3)
 have c2:=zaX HN3.out.wb 2
 simp at c2
 have hb23:Below w2.heap.size w2 w3:=((Below.refl _ w2).alloc (Nat.le_refl _) _).trans (hb3.mono (by simp))
 have HC:=Hid.mk (HN.out.ownT (w1:=w3.drew) hM ((HBW.out.trans (hb23.mono HBW.out.size)).drew) (v := .slice ad1 es.length cp1) (l:=es.map Value.string) (zh5 (zh5 HO12.out hb23) (Below.refl _ _).drew) (by omega))
 have a1:=zaX hA3 1
 simp at a1
 clear hb3 hA3 HSM a0 hb23
 go_wp2_with fail
 refine znN 6 (S:=fun w' => w'.cell? ⟨W,2,none⟩=some (.pointer (some ⟨B,0,none⟩))∧w'.cell? ⟨w1.heap.size,1,none⟩=some (.slice ad1 es.length cp1)) (by kernel_rfl) ⟨c2,a1⟩ (fun hHeld => ?_)
 refine znF (i:=0) (oi:=_) (v := ?_) rfl (by kernel_rfl) (by kernel_rfl) (by kernel_rfl) (by kernel_rfl) (fun _ _ _ h=>h) (Or.inl ⟨by rfl,?_⟩) (by assumption) ?_
 rotate_left
 ·intro w _
  go_simp <;> with_reducible rfl
 simp only [Act.put,List.setIfInBounds_toArray]
 refine znF (i:=1) (oi:=_) (v := ?_) rfl (by kernel_rfl) (by kernel_rfl) (by kernel_rfl) (by kernel_rfl) (fun _ _ _ h=>h) (Or.inl ⟨by rfl,?_⟩) (by assumption) ?_
 rotate_left
 ·intro w _
  go_simp <;> with_reducible rfl
 simp only [Act.put]
 refine znF (i:=2) (oi:=_) (v := ?_) rfl (by kernel_rfl) (by kernel_rfl) (by kernel_rfl) (by kernel_rfl) (fun _ _ _ h=>h) (Or.inl ⟨by rfl,?_⟩) (by assumption) ?_
 rotate_left
 ·intro w _
  go_simp <;> with_reducible rfl
 simp only [Act.put]
 refine znE (i:=3) (oi:=_) (v := ?_) rfl (by kernel_rfl) (by kernel_rfl) (by kernel_rfl) (by kernel_rfl) (fun _ _ _ h=>h) (Or.inl ⟨by rfl,?_⟩) (by assumption) (by kernel_rfl) ?_
 rotate_left
 ·intro w hSw
  try dsimp only at hSw
  go_simp <;> with_reducible rfl
 simp only [Act.put]
 refine znF (i:=4) (oi:=_) (v := ?_) rfl (by kernel_rfl) (by kernel_rfl) (by kernel_rfl) (by kernel_rfl) (fun _ _ _ h=>h) (Or.inl ⟨by rfl,?_⟩) (by assumption) ?_
 rotate_left
 ·intro w _
  go_simp <;> with_reducible rfl
 simp only [Act.put]
 refine znE (i:=5) (oi:=_) (v := ?_) rfl (by kernel_rfl) (by kernel_rfl) (by kernel_rfl) (by kernel_rfl) (fun _ _ _ h=>h) (Or.inl ⟨by rfl,?_⟩) (by assumption) (by kernel_rfl) ?_
 rotate_left
 ·intro w hSw
  try dsimp only at hSw
  go_simp <;> with_reducible rfl
 simp only [Act.put]
 refine znD (rs := [6]) (by kernel_rfl) (by simp) ?_
 refine AllReadyL.cons (o:=_) rfl (fun K hK => ?_) AllReadyL.nil
 go_simp
 refine HC.out.mono ?_
 rintro e w4 ⟨rfl,hn4⟩
 have HR:=Hid.mk hn4
 clear HC hn4
 go_wp2_with fail
 refine hK.out _ _ (fun h=>zg4 (by kernel_rfl) h) (fun _ => ?_)
 clear hK K
 refine znA (by kernel_rfl) ?_ _
 go_wp2
 go_ret
 exact ⟨rfl,_,HR.out⟩
set_option maxRecDepth 100000 in
theorem GSt.lReplica (h:GSt Z w col W x y B M KR KP c c)(hok:c.ok U N)(_hL:Lim U N)(hM:M≤15000000)(r:Int) :
  Calls Tryz.prog 90 #[.pointer (some ⟨W,0,none⟩),.int .i64 r] w fun e w' => e = .returned (.bool true)∧∃ col',GSt Z w' col' W x y B (M+4) KR KP c c:=by
 have c0:=zaX h.wb 0
 simp at c0
 have HP:=Hid.mk (zjd h.prg hok r)
 have HD:=Hid.mk (fun W' (h' : GSt Z W' col W x y B M KR KP c c)=>zkh h'.ref hok r)
 have hal:=zkz hok r
 have HN:=Hid.mk h
 clear h hok _hL
 generalize c.thereErr r=E at *
 generalize (c.repAt r).acked=A at *
 generalize (!(c.repAt r).down)=up at *
 generalize ((c.repAt r).num:Int)=i1 at *
 generalize ((c.repAt r).base:Int)=i2 at *
 generalize ((c.repAt r).frames:Int)=i4 at *
 generalize ((c.repAt r).weight:Int)=i5 at *
 go_enter Tryz.func90,Tryz.ntmps90
 go_wp2_with fail
 refine HP.out.mono ?_
 rintro e w1 ⟨v1,rfl,ho1,hb1⟩
 have HN1:=Hid.mk (HN.out.same hb1)
 have c1:=zaX HN1.out.wb 1
 simp at c1
 have hWl:W<w1.heap.size:=zaY HN1.out.wb
 obtain ⟨ad1,cp1,hf1⟩:=zh1 ho1
 subst hf1
 have HO1:=Hid.mk ho1
 have HB1:=Hid.mk hb1
 clear hb1 ho1
 go_wp2_with fail
 refine (HD.out _ (HN1.out.same (zaO (Below.refl _ _) _))).mono ?_
 rintro e w2 ⟨v2,rfl,ho2,hb2⟩
 have HN2:=Hid.mk ((HN1.out.same (zaO (Below.refl _ _) _)).same hb2)
 have hA2:=(hb2.block w1.heap.size (by simp)).trans (heap_alloc_new w1 _)
 have HA2:=Hid.mk hA2
 have a3:=zaX hA2 3
 simp at a3
 have hAl:w1.heap.size<w2.heap.size:=zaY hA2
 obtain ⟨ad2,cp2,hf2⟩:=zh1 ho2
 subst hf2
 have hb12:Below w1.heap.size w1 w2:=((Below.refl _ w1).alloc (Nat.le_refl _) _).trans (hb2.mono (by simp))
 have HO12:=Hid.mk (zh5 HO1.out hb12)
 have HSM:Hid (∀ W',Below w2.heap.size w2 W' → Calls Tryz.prog 60 #[.slice ad1 A.length cp1,.slice ad2 A.length cp2] W' fun e w' => e = .returned (.bool true)∧Below W'.heap.size W' w'):=fun W' hW' => zkZ _ _ A W' (zfp (zh5 HO12.out hW')) (zfp (zh5 ho2 hW')) (by omega)
 have HBW:=Hid.mk (HB1.out.trans (hb12.mono HB1.out.size))
 clear hb2 hA2 HD HP c0 c1 hWl ho2 hb12
 go_wp2_with fail
 refine (HSM.out _ (zaO (Below.refl _ _) _)).mono ?_
 rintro e w3 ⟨rfl,hb3⟩
 have hA3:w3.heap[w1.heap.size]? = some (.cells #[.bool up,.int .i64 i1,.int .i64 i2,.slice ad1 A.length cp1,.int .i64 i4,.int .i64 i5] 134 (0,0)):=(hb3.block w1.heap.size (by simp;omega)).trans ((((Below.refl _ w2).alloc (Nat.le_refl _) _).block _ hAl).trans HA2.out)
 have hB3:w3.heap[w2.heap.size]? = some (.cells #[.bool up,.int .i64 i1,.int .i64 i2,.slice ad2 A.length cp2,.int .i64 i4,.int .i64 i5] 134 (0,0)):=(hb3.block w2.heap.size (by simp)).trans (heap_alloc_new w2 _)
 have HN3:=Hid.mk ((HN2.out.same (zaO (Below.refl _ _) _)).same hb3)
 have c2:=zaX HN3.out.wb 2
 simp at c2
 have hb23:Below w2.heap.size w2 w3:=((Below.refl _ w2).alloc (Nat.le_refl _) _).trans (hb3.mono (by simp))
 have HC:=Hid.mk (HN.out.ownI (w1:=w3.drew) hM ((HBW.out.trans (hb23.mono HBW.out.size)).drew) (v := .slice ad1 A.length cp1) (l:=ints A) (zh5 (zh5 HO12.out hb23) (Below.refl _ _).drew) (by omega))
 have a0:=zaX hA3 0
 have a1:=zaX hA3 1
 have a2:=zaX hA3 2
 have a3:=zaX hA3 3
 have a4:=zaX hA3 4
 have a5:=zaX hA3 5
 have b0:=zaX hB3 0
 have b1:=zaX hB3 1
 have b2:=zaX hB3 2
 have b4:=zaX hB3 4
 have b5:=zaX hB3 5
 simp at a0 a1 a2 a3 a4 a5 b0 b1 b2 b4 b5
 clear hb3 hA3 hB3 HSM hb23
 go_wp2_with fail
 refine znN 6 (S:=fun w' => w'.cell? ⟨W,2,none⟩=some (.pointer (some ⟨B,0,none⟩))∧w'.cell? ⟨w1.heap.size,3,none⟩=some (.slice ad1 A.length cp1)) (by kernel_rfl) ⟨c2,a3⟩ (fun hHeld => ?_)
 refine znF (i:=0) (oi:=_) (v := ?_) rfl (by kernel_rfl) (by kernel_rfl) (by kernel_rfl) (by kernel_rfl) (fun _ _ _ h=>h) (Or.inl ⟨by rfl,?_⟩) (by assumption) ?_
 rotate_left
 ·intro w _
  go_simp <;> with_reducible rfl
 simp only [Act.put,List.setIfInBounds_toArray]
 refine znF (i:=1) (oi:=_) (v := ?_) rfl (by kernel_rfl) (by kernel_rfl) (by kernel_rfl) (by kernel_rfl) (fun _ _ _ h=>h) (Or.inl ⟨by rfl,?_⟩) (by assumption) ?_
 rotate_left
 ·intro w _
  go_simp <;> with_reducible rfl
 simp only [Act.put]
 refine znF (i:=2) (oi:=_) (v := ?_) rfl (by kernel_rfl) (by kernel_rfl) (by kernel_rfl) (by kernel_rfl) (fun _ _ _ h=>h) (Or.inl ⟨by rfl,?_⟩) (by assumption) ?_
 rotate_left
 ·intro w _
  go_simp <;> with_reducible rfl
 simp only [Act.put]
 refine znE (i:=3) (oi:=_) (v := ?_) rfl (by kernel_rfl) (by kernel_rfl) (by kernel_rfl) (by kernel_rfl) (fun _ _ _ h=>h) (Or.inl ⟨by rfl,?_⟩) (by assumption) (by kernel_rfl) ?_
 rotate_left
 ·intro w hSw
  try dsimp only at hSw
  go_simp <;> with_reducible rfl
 simp only [Act.put]
 refine znF (i:=4) (oi:=_) (v := ?_) rfl (by kernel_rfl) (by kernel_rfl) (by kernel_rfl) (by kernel_rfl) (fun _ _ _ h=>h) (Or.inl ⟨by rfl,?_⟩) (by assumption) ?_
 rotate_left
 ·intro w _
  go_simp <;> with_reducible rfl
 simp only [Act.put]
 refine znE (i:=5) (oi:=_) (v := ?_) rfl (by kernel_rfl) (by kernel_rfl) (by kernel_rfl) (by kernel_rfl) (fun _ _ _ h=>h) (Or.inl ⟨by rfl,?_⟩) (by assumption) (by kernel_rfl) ?_
 rotate_left
 ·intro w hSw
  try dsimp only at hSw
  go_simp <;> with_reducible rfl
 simp only [Act.put]
 refine znD (rs := [6]) (by kernel_rfl) (by simp) ?_
 refine AllReadyL.cons (o:=_) rfl (fun K hK => ?_) AllReadyL.nil
 go_simp
 refine HC.out.mono ?_
 rintro e w4 ⟨rfl,hn4⟩
 have HR:=Hid.mk hn4
 clear HC hn4
 go_wp2_with fail
 refine hK.out _ _ (fun h=>zg4 (by kernel_rfl) h) (fun _ => ?_)
 clear hK K
 refine znA (by kernel_rfl) ?_ _
 go_wp2
 go_ret
 exact ⟨rfl,_,HR.out⟩
end
def OffB (B:Nat)(va:Nat→Value)(es:Nat→List (Value × Int))(q:Nat):Prop:=q ≠ B∧(∀ j,j<4→some q ≠ (va j).ownBlock)∧∀ j,j<4→∀ p∈es j,p.1.ownBlock ≠ some q
def XB (B base:Nat)(va:Nat→Value)(q:Nat):Prop:=q=B∨base≤q∨∃ f,f<4∧(va f).ownBlock=some q
structure BkR (w0:World)(base B:Nat)(va0:Nat→Value)(es0:Nat→List (Value × Int))(w:World)(va:Nat→Value)(es:Nat→List (Value × Int)):Prop where
 bk:Bk w B va es
 fr:Fr (XB B base va0) w0 w
 ent:∀ f,f<4→∀ p∈es f,p∈es0 f∨∀ q,p.1.ownBlock=some q→base≤q
 xa:∀ f,f<4→∀ q,(va f).ownBlock=some q→base≤q∨XB B base va0 q
theorem zaW {w:World}{base B:Nat}{va:Nat→Value}{es:Nat→List (Value × Int)}(h:Bk w B va es):BkR w base B va es w va es :=
 ⟨h,Fr.refl _ _,fun _ _ _ hp => .inl hp,fun f hf _q hq => .inr (.inr (.inr ⟨f,hf,hq⟩))⟩
section
variable {w0 wr w' : World} {base B f:Nat} {va0 va:Nat→Value} {es0 es:Nat→List (Value × Int)} {vl vf:Value} {ef:List (Value × Int)}
theorem BkR.step (h:BkR w0 base B va0 es0 wr va es)(hf:f<4)(hvl:∀ q,vl.ownBlock=some q→base≤q)(hb:base≤wr.heap.size)(hk:Bk w' B (updF va f vf) (updF es f ef))
  (hin:(∀ p∈ef,p∈es f∨∀ q,p.1.ownBlock=some q→wr.heap.size≤q∨some q=vl.ownBlock)∧NewOr (fun q=>q=B∨some q=vl.ownBlock∨some q=(va f).ownBlock) wr vf)
  (hfr:Fr (fun q=>q=B∨some q=vl.ownBlock∨some q=(va f).ownBlock) wr w'):BkR w0 base B va0 es0 w' (updF va f vf) (updF es f ef) where
 bk:=hk
 fr:=h.fr.trans hfr fun q _ hX=>by
  rcases hX with rfl | hX | hX
  ·exact .inl rfl
  ·exact .inr (.inl (hvl q hX.symm))
  ·exact (h.xa f hf q hX.symm).elim (fun h => .inr (.inl h)) id
 ent j hj p hp:=by
  by_cases e:j=f
  ·subst e
   rw [zne] at hp
   rcases hin.1 p hp with h1 | h1
   ·exact h.ent j hj p h1
   ·exact .inr fun q hq=>(h1 q hq).elim (fun h=>by omega) (fun h=>hvl q h.symm)
  ·rw [znd _ _ e] at hp
   exact h.ent j hj p hp
 xa j hj q hq:=by
  by_cases e:j=f
  ·subst e
   rw [zne] at hq
   rcases hin.2 q hq with h1 | rfl | h1 | h1
   ·exact .inl (by omega)
   ·exact .inr (.inl rfl)
   ·exact .inl (hvl q h1.symm)
   ·exact h.xa j hj q h1.symm
  ·rw [znd _ _ e] at hq
   exact h.xa j hj q hq
theorem OffB.step {q:Nat}(h:OffB B va es q)(hq:q<wr.heap.size)(hvl:vl.ownBlock ≠ some q)
  (hin:(∀ p∈ef,p∈es f∨∀ q,p.1.ownBlock=some q→wr.heap.size≤q∨some q=vl.ownBlock)∧NewOr (fun q=>q=B∨some q=vl.ownBlock∨some q=(va f).ownBlock) wr vf) (hf:f<4):OffB B (updF va f vf) (updF es f ef) q:=by
 refine ⟨h.1,fun j hj e => ?_,fun j hj p hp e => ?_⟩
 ·by_cases ej:j=f
  ·subst ej
   rw [zne] at e
   rcases hin.2 q e.symm with h1 | h1 | h1 | h1
   ·omega
   ·exact h.1 h1
   ·exact hvl h1.symm
   ·exact h.2.1 j hj h1
  ·rw [znd _ _ ej] at e
   exact h.2.1 j hj e
 ·by_cases ej:j=f
  ·subst ej
   rw [zne] at hp
   rcases hin.1 p hp with h1 | h1
   ·exact h.2.2 j hj p h1 e
   ·rcases h1 q e with h2 | h2
    ·omega
    ·exact hvl h2.symm
  ·rw [znd _ _ ej] at hp
   exact h.2.2 j hj p hp e
end
theorem zil {w:World}{base g cap n s:Nat}{e:TypeId}{xs:List Value}(h:w.ownsRow base e s (.slice (some ⟨g,0,none⟩) n cap) n xs)(i:Nat)(u:Value) :
  (w.setCell ⟨g,i,none⟩ u).ownsRow base e s (.slice (some ⟨g,0,none⟩) n cap) n (xs.set i u):=by
 rcases h.2 with ⟨h0,_⟩ | ⟨g',cap',cur,hv,hg,hh,h1,h2,h3,h4⟩
 ·cases h0
 cases hv
 refine ⟨by rw [List.length_set];exact h.1,.inr ⟨g,cap,_,rfl,hg,zeK hh u,h1,h2,by simp [h3],?_⟩⟩
 rw [Array.toList_setIfInBounds,← h4,List.take_set]
theorem zij {w:World}{base g cap n:Nat}{e:TypeId}{xs:List Value}(h:w.ownsRow base e 3 (.slice (some ⟨g,0,none⟩) n cap) n xs)(i:Nat)(hi:i<n) :
  (∃ u,w.cell? ⟨g,i*3,none⟩=some u)∧(∃ u,w.cell? ⟨g,i*3+1,none⟩=some u)∧(∃ u,w.cell? ⟨g,i*3+2,none⟩=some u)∧∀ o,w.frozen? ⟨g,o,none⟩=false:=by
 rcases h.2 with ⟨h0,_⟩ | ⟨g',cap',cur,hv,hg,hh,h1,h2,h3,h4⟩
 ·cases h0
 cases hv
 have hc:∀ t,t<i*3+3→∃ u,w.cell? ⟨g,t,none⟩=some u:=fun t ht=>by
  have hlt:t<cur.size:=by rw [h3];omega
  exact ⟨cur[t],by simp [World.cell?,hh,hlt]⟩
 exact ⟨hc _ (by omega),hc _ (by omega),hc _ (by omega),fun o=>by simp [World.frozen?,hh]⟩
def set3 (xs:List Value)(i:Nat)(a b c:Value):List Value:=((xs.set (i*3) a).set (i*3+1) b).set (i*3+2) c
theorem zli (xs:List Value)(i:Nat)(a b c:Value):(set3 xs i a b c).length=xs.length:=by simp [set3]
def Upto3 (xs:List Value)(j:Nat)(c:List Value):Prop:=∀ t,t<j→∀ s,s<3→xs[t*3+s]? = c[s]?
theorem Upto3.step {xs:List Value}{j n:Nat}{a b c:Value}(h:Upto3 xs j [a,b,c])(hl:xs.length=n*3)(hj:j<n):Upto3 (set3 xs j a b c) (j+1) [a,b,c]:=by
 intro t ht s hs
 unfold set3
 by_cases e:t=j
 ·subst e
  have h1:t*3+2<xs.length:=by omega
  rcases (show s=0∨s=1∨s=2 by omega) with rfl | rfl | rfl
  ·rw [List.getElem?_set_ne (by omega),List.getElem?_set_ne (by omega),Nat.add_zero,List.getElem?_set_self (by omega)];rfl
  ·rw [List.getElem?_set_ne (by omega),List.getElem?_set_self (by simp;omega)];rfl
  ·rw [List.getElem?_set_self (by simp;omega)];rfl
 ·rw [List.getElem?_set_ne (by omega),List.getElem?_set_ne (by omega),List.getElem?_set_ne (by omega)]
  exact h t (by omega) s hs
theorem Upto3.reps {xs:List Value}{n:Nat}{a b c:Value}(h:Upto3 xs n [a,b,c])(hl:xs.length=n*3):xs=reps n [a,b,c]:=by
 apply List.ext_getElem?
 intro i
 by_cases hi:i<n*3
 ·have e:i=i / 3*3+i % 3:=by omega
  rw [e,h (i / 3) (by omega) (i % 3) (by omega)]
  rcases (show i % 3=0∨i % 3=1∨i % 3=2 by omega) with e | e | e <;> rw [e]
  ·exact (zkD (c := [a,b,c]) (j:=0) (u:=a) (by omega) rfl).symm
  ·exact (zkD (c := [a,b,c]) (j:=1) (u:=b) (by omega) rfl).symm
  ·exact (zkD (c := [a,b,c]) (j:=2) (u:=c) (by omega) rfl).symm
 ·rw [List.getElem?_eq_none (by omega),List.getElem?_eq_none (by rw [zkE];simp;omega)]
theorem zii {w:World}{base g cap n:Nat}{e:TypeId}{xs:List Value}(h:w.ownsRow base e 3 (.slice (some ⟨g,0,none⟩) n cap) n xs)(i:Nat)(a b c:Value) :
  (w.setCells g (i*3) [a,b,c]).ownsRow base e 3 (.slice (some ⟨g,0,none⟩) n cap) n (set3 xs i a b c) :=
 zil (zil (zil h _ a) _ b) _ c
structure EoS (w0:World)(base B:Nat)(va0:Nat→Value)(es0:Nat→List (Value × Int))(v:Value)(ds:List Pe)(k:Nat)(wr:World)(va:Nat→Value)(es:Nat→List (Value × Int)):Prop where
 r:BkR w0 base B va0 es0 wr va es
 row:wr.ownsRow base 85 3 v ds.length (ds.flatMap Pe.cells)
 own:∀ e∈ds.drop k,wr.ownsRow base 76 6 e.v e.d.length (flat e.d)
 offV:∀ q,v.ownBlock=some q→OffB B va es q
 offE:∀ e∈ds.drop k,∀ q,e.v.ownBlock=some q→OffB B va es q
 sep:∀ e∈ds.drop k,Apart e.v v
 far:(ds.drop k).Pairwise fun a b=>Apart a.v b.v
 len:(es 0).length=(es0 0).length+4*k
 oth:∀ f,f ≠ 0→(es f).length=(es0 f).length
theorem EoS.step {w0 wr w' : World}{base B k:Nat}{va0 va:Nat→Value}{es0 es:Nat→List (Value × Int)}{v vf:Value}{ds:List Pe}{ef:List (Value × Int)}(h:EoS w0 base B va0 es0 v ds k wr va es)(hk:k<ds.length)(hb:base≤wr.heap.size)
  (hbk:Bk w' B (updF va 0 vf) (updF es 0 ef)) (hlen:ef.length=(es 0).length+4)
  (hin:(∀ p∈ef,p∈es 0∨∀ q,p.1.ownBlock=some q→wr.heap.size≤q∨some q=(ds[k]).v.ownBlock)∧NewOr (fun q=>q=B∨some q=(ds[k]).v.ownBlock∨some q=(va 0).ownBlock) wr vf)
  (hfr:Fr (fun q=>q=B∨some q=(ds[k]).v.ownBlock∨some q=(va 0).ownBlock) wr w'):EoS w0 base B va0 es0 v ds (k+1) w' (updF va 0 vf) (updF es 0 ef):=by
 have hd:ds.drop k=ds[k] :: ds.drop (k+1):=List.drop_eq_getElem_cons hk
 have hmem:ds[k]∈ds.drop k:=by rw [hd];exact List.mem_cons_self
 have hsub:∀ e∈ds.drop (k+1),e∈ds.drop k:=fun e he=>by rw [hd];exact List.mem_cons_of_mem _ he
 have hfar:=h.far
 rw [hd,List.pairwise_cons] at hfar
 have hvk:=h.own _ hmem
 refine ⟨h.r.step (by decide) (zh4 hvk) hb hbk hin hfr,zh8 h.row hfr fun q hq hX => ?_,fun e he=>zh8 (h.own e (hsub e he)) hfr fun q hq hX => ?_,fun q hq=>(h.offV q hq).step (zh3 h.row q hq) (fun e=>h.sep _ hmem q e hq) hin (by decide),fun e he q hq=>(h.offE e (hsub e he) q hq).step (zh3 (h.own e (hsub e he)) q hq) (fun e' => hfar.1 e he q e' hq) hin (by decide),fun e he=>h.sep e (hsub e he),hfar.2,?_,fun f hf => ?_⟩
 ·have ho:=h.offV q hq
  rcases hX with hX | hX | hX
  ·exact ho.1 hX
  ·exact h.sep _ hmem q hX.symm hq
  ·exact ho.2.1 0 (by decide) hX
 ·have ho:=h.offE e (hsub e he) q hq
  rcases hX with hX | hX | hX
  ·exact ho.1 hX
  ·exact hfar.1 e he q hX.symm hq
  ·exact ho.2.1 0 (by decide) hX
 ·rw [zne,hlen,h.len];omega
 ·rw [znd _ _ hf];exact h.oth f hf
set_option maxRecDepth 100000 in
theorem zhX (B base:Nat)(va0:Nat→Value)(es0:Nat→List (Value × Int))(v:Value)(ds:List Pe)(w:World)
  (hI:Bk w B va0 es0) (hE:EntsOwn w base v ds) (hbase:base≤w.heap.size) (_hB:B<base)
  (hold:∀ q,base≤q→OffB B va0 es0 q) (hn:ds.length≤1000) (hdl:∀ e∈ds,e.d.length≤8388608) (hes0:(es0 0).length≤15990000) (hes3:(es0 3).length≤16000000) :
  Calls Tryz.prog 131 #[.pointer (some ⟨B,0,none⟩),v] w fun e w' => e = .returned (.tuple #[])∧∃ va es,Hid (BkR w base B va0 es0 w' va es)∧Hid ((es 0).length=(es0 0).length+4*ds.length∧(es 3).length=(es0 3).length+4∧(es 1).length=(es0 1).length∧(es 2).length=(es0 2).length):=by
 obtain ⟨adL,capL,rfl⟩:=zh1 hE.row
 have HS0:Hid (EoS w base B va0 es0 (.slice adL ds.length capL) ds 0 w va0 es0):=⟨zaW hI,hE.row,hE.own,fun q hq=>hold q (zh4 hE.row q hq),fun e he q hq=>hold q (zh4 (hE.own e he) q hq),hE.off,hE.far,by omega,fun _ _=>rfl⟩
 clear hI hE
 obtain ⟨n,HN⟩:∃ n,Hid (n=ds.length):=⟨_,rfl⟩
 have HDL:=Hid.mk hdl
 have HOLD:=Hid.mk hold
 clear hdl hold
 rw [← HN.out] at hn HS0 ⊢
 obtain ⟨i0,hi,hz0,hz1,hz2⟩:=info_parts ze5
 obtain ⟨i1,hi1,hy0,hy1,hy2⟩:=info_parts ze2
 go_enter Tryz.func131,Tryz.ntmps131
 go_wp2
 go_loopw [4] (fun s wr=>∃ (k:Nat) (va:Nat→Value) (es:Nat→List (Value × Int)),k≤n∧s = .int .i64 k∧base≤wr.heap.size∧Hid (EoS w base B va0 es0 (.slice adL n capL) ds k wr va es)) (fun s _=>n - (intOf s).toNat)
 case atStart=>exact ⟨0,va0,es0,by omega,rfl,hbase,HS0⟩
 case round =>
  clear HS0
  obtain ⟨k,va,es,hk,rfl,hbr,hst⟩:=hrel
  by_cases hl:k<n
  ·have hkd:k<ds.length:=by have:=HN.out;omega
   have hrow:=hst.out.row
   rw [HN.out] at hrow
   obtain ⟨g,hg,hgl,c0,c1,c2⟩:=zcV hrow hkd
   subst hg
   have hmem:ds[k]∈ds.drop k:=by rw [List.drop_eq_getElem_cons hkd];exact List.mem_cons_self
   have HC:=Hid.mk (zhW B va (ds[k]).v es base (ds[k]).d.length (ds[k]).d wr hst.out.r.bk (hst.out.own _ hmem) rfl hbr (fun q hq=>⟨zh3 (hst.out.own _ hmem) q hq,hst.out.offE _ hmem q hq⟩) (HDL.out _ (List.getElem_mem hkd)) (by rw [hst.out.len];omega))
   have HKD:=Hid.mk hkd
   have q1:(k:Int)<(n:Int):=by omega
   have q2:(0:Int)≤(k:Int):=by omega
   obtain ⟨ad2,cp2,hv2⟩:=zh1 (hst.out.own _ hmem)
   rw [hv2] at c2
   have HV2:=Hid.mk hv2
   rw [HV2.out] at HC
   clear hrow hmem hv2 c0 c1
   go_wp2_with fail
   refine HC.out.mono ?_
   rintro e w3 ⟨rfl,vf,ef,hbk,hlen,hin,hfr⟩
   rw [← HV2.out] at hin hfr
   have HS1:=Hid.mk (hst.out.step HKD.out hbr hbk.out hlen hin.out hfr.out)
   have hbr3:=Nat.le_trans hbr hfr.out.size
   clear HC hbk hin hfr hst c2
   go_wp2
   exact ⟨⟨k+1,_,_,by omega,by go_num,hbr3,HS1⟩,by simp [intOf];omega⟩
  ·have hkn:k=n:=by omega
   subst hkn
   have hrowL:=hst.out.row
   have hnn:=HN.out
   rw [← hnn] at hrowL
   obtain ⟨adA,capA,hva⟩:=zh1 (hst.out.r.bk.row 3 (by decide))
   have hoth:=hst.out.oth 3 (by decide)
   have c3:=hst.out.r.bk.c 3 (by decide)
   rw [hva] at c3
   obtain ⟨K,HK⟩:∃ K,Hid (K=(es 3).length):=⟨_,rfl⟩
   rw [← HK.out] at c3 hoth
   have HVA:Hid (va 3 = .slice adA K capA):=by show _=_;rw [HK.out];exact hva
   have hKb:K≤16000000:=by omega
   have HL:Hid (wr.ownsRow base 85 3 (.slice adL k capL) k (ds.flatMap Pe.cells)):=hrowL
   have hxl:(ds.flatMap Pe.cells).length=k*3:=hrowL.1
   have HEO:=hst
   have HI:Hid (Bk wr B va es):=hst.out.r.bk
   have HSEP:Hid (∀ q,(Value.slice adL k capL).ownBlock=some q→q<wr.heap.size∧OffB B va es q):=fun q hq=>⟨zh3 hrowL q hq,hst.out.offV q hq⟩
   obtain ⟨X,HX⟩:∃ X:Nat→Prop,Hid (X=fun q=>q=B∨some q=(Value.slice adL k capL).ownBlock∨some q=(va 3).ownBlock):=⟨_,rfl⟩
   have HXB:Hid (X B):=by show X B;rw [HX.out];exact .inl rfl
   have HXV:Hid (∀ q,(Value.slice adL k capL).ownBlock=some q→X q):=by show ∀ q,_;rw [HX.out];exact fun q hq => .inr (.inl hq.symm)
   have HXA:Hid (∀ q,(va 3).ownBlock=some q→X q):=by show ∀ q,_;rw [HX.out];exact fun q hq => .inr (.inr hq.symm)
   clear hst hrowL hva hoth hnn
   go_wp2
   obtain ⟨w1,rfl⟩:∃ w1:World,w1=wr:=⟨_,rfl⟩
   go_loopw [6] (fun s wr=>∃ (j:Nat) (xs:List Value),j≤k∧s = .int .i64 j∧xs.length=k*3∧Hid (wr.ownsRow base 85 3 (.slice adL k capL) k xs)∧Hid (Upto3 xs j [.int .i64 (-1 - (K:Int)),.int .i64 0,.slice none 0 0])∧Hid (Bk wr B va es)∧Hid (Fr X w1 wr)) (fun s _=>k - (intOf s).toNat)
   case atStart=>exact ⟨0,_,by omega,rfl,hxl,HL,fun t ht=>by omega,HI,Fr.refl _ _⟩
   case round =>
    clear c3 hxl HL HI
    obtain ⟨j,xs,hj,rfl,hxl,hown,hup,hinv,hfr⟩:=hrel
    by_cases hl2:j<k
    ·obtain ⟨g,rfl⟩:∃ g,adL=some ⟨g,0,none⟩:=by
      rcases hown.out.2 with ⟨_,h0⟩ | ⟨g,cap,cur,hv,_⟩
      ·omega
      ·cases hv;exact ⟨g,rfl⟩
     have hsg:=HSEP.out g rfl
     obtain ⟨⟨u0,d0⟩,⟨u1,d1⟩,⟨u2,d2⟩,hfz⟩:=zij hown.out j hl2
     have q1:(j:Int)<(k:Int):=by omega
     have hgr:=zeu (g:=g) [.int .i64 (-1 - (K:Int)),.int .i64 0,.slice none 0 0] (j*3) wr
     have HST:=Hid.mk (zii hown.out j (.int .i64 (-1 - (K:Int))) (.int .i64 0) (.slice none 0 0))
     have HI3:Hid (Bk (wr.setCells g (j*3) [.int .i64 (-1 - (K:Int)),.int .i64 0,.slice none 0 0]) B va es):=hinv.out.kept hgr (fun e=>hsg.2.1 (by cases e;rfl)) (fun t ht q hq e=>hsg.2.2.1 t ht (by rw [hq,e])) (fun t ht p hp q hq e=>hsg.2.2.2 t ht p hp (by rw [hq,e]))
     have HF3:Hid (Fr X w1 (wr.setCells g (j*3) [.int .i64 (-1 - (K:Int)),.int .i64 0,.slice none 0 0])):=hfr.out.step hgr (fun q hq=>by cases hq;exact .inr (HXV.out g rfl))
     have HU3:=Hid.mk (hup.out.step hxl hl2)
     have HLL:=Hid.mk ((zli xs j (.int .i64 (-1 - (K:Int))) (.int .i64 0) (.slice none 0 0)).trans hxl)
     clear hgr hown hinv hfr hup hsg
     go_wp2
     exact ⟨⟨j+1,_,by omega,by go_num,HLL.out,HST,HU3,HI3,HF3⟩,by simp [intOf];omega⟩
    ·have hjn:j=k:=by omega
     subst hjn
     have hxs:=hup.out.reps hxl
     have hown' := hown.out
     rw [hxs] at hown'
     have hst:OwnS w1 X (Value.slice adL j capL).ownBlock va es B base 3 K j wr (.slice adL j capL) (.slice adA K capA) (es 3):=⟨by rw [← HVA.out,znf,znf];exact hinv.out,hown',fun q hq=>⟨Nat.lt_of_lt_of_le (HSEP.out q hq).1 hfr.out.size,(HSEP.out q hq).2.1,by rw [← HVA.out,znf];exact (HSEP.out q hq).2.2.1⟩,fun p hp q h1 h2=>absurd h1 ((HSEP.out q h2).2.2.2 3 (by decide) p hp),fun t ht _ p hp q hq=>(HSEP.out q hq).2.2.2 t ht p hp,hfr.out,fun q hq => .inr ⟨HXV.out q hq,hq.symm⟩,fun p hp => .inl hp,fun q hq => .inr (HXA.out q (by rw [HVA.out];exact hq)),Nat.le_trans hbr hfr.out.size,⟨by omega,by omega⟩,by omega,by decide⟩
     have hinvr:=hst.inv
     have cr:=hinvr.c 3 (by decide)
     have hlt:=hinvr.lt
     have hrowr:=hinvr.row 3 (by decide)
     rw [zne] at cr
     rw [zne,zne] at hrowr
     have HEL:Hid ((es 3).length=K):=HK.out.symm
     rw [HEL.out] at hrowr
     have HST:Hid (OwnS w1 X (Value.slice adL j capL).ownBlock va es B base 3 K j wr (.slice adL j capL) (.slice adA K capA) (es 3)):=hst
     have hrow2:wr.ownsRow (B+1) 83 2 (.slice adA K capA) K (flatE (es 3)):=hrowr
     clear hst hinvr hrowr hown hown' hup hinv hfr hxs hxl
     go_wp2_with (at_builtin;refine znH _ rfl _ _ 67 rfl (B+1) 83 i1 _ 2 32 Tryz.underlying67 hi1 hy0 hy1 hy2 rfl (by decide) _ K _ rfl (hrow2.alloc _) ⟨wr.heap.size,0,none⟩ 1 1 [.slice adL j capL,.int .i64 K] rfl rfl (zg2 wr _ _ _) (zio rfl _) (by decide) (by unfold maxLen;omega) (by omega) (by simp;omega) ?_;intro gA capA' wA hownA hcaseA;obtain ⟨ca,fa⟩:=HST.out.inv.after (f:=3) (by decide) _ (by rw [zne];exact hcaseA);rw [zne] at ca)
     have HS1:=HST.out.push HXB.out _ (by rw [HEL.out];exact hownA) hcaseA
     rw [HEL.out] at HS1
     clear HST cr hrow2 hownA hcaseA ca fa hlt
     go_loopw [1,7] (fun s1 s7 wr=>∃ (r:Nat) (vf:Value) (ef:List (Value × Int)),r≤3∧s7 = .int .i64 r∧ef.length=K+1+r∧Hid (OwnS w1 X (Value.slice adL j capL).ownBlock va es B base 3 K (j+r) wr s1 vf ef)) (fun _ s7 _=>3 - (intOf s7).toNat)
     case atStart=>exact ⟨0,_,_,by omega,rfl,by rw [List.length_append,HEL.out];rfl,HS1⟩
     case round =>
      clear HS1
      obtain ⟨r,vf,ef,hr,rfl,hes',hst⟩:=hrel
      have HES:Hid (ef.length=K+1+r):=hes'
      have hesle:ef.length≤16000004:=by omega
      clear hes'
      by_cases hr3:r<3
      ·obtain ⟨ad1,cap1,hv1⟩:=zh1 hst.out.own
       subst hv1
       obtain ⟨w3,rfl⟩:∃ w3:World,w3=wr:=⟨_,rfl⟩
       have hst3:=hst.out
       have hown3:w3.ownsRow base 85 3 (.slice ad1 (j+r) cap1) (j+r) (reps (j+r) [.int .i64 (-1 - (K:Int)),.int .i64 0,.slice none 0 0]):=hst3.own
       have hbase3:=hst3.base
       have HS3:Hid (OwnS w1 X (Value.slice adL j capL).ownBlock va es B base 3 K (j+r) w3 (.slice ad1 (j+r) cap1) vf ef):=hst3
       clear hst hst3
       go_wp2_with (first | (at_builtin;have _t:=hown3;refine znH _ rfl _ _ 81 rfl base 85 i0 _ 3 40 Tryz.underlying81 hi hz0 hz1 hz2 rfl (by decide) _ (j+r) _ rfl (hown3.alloc _) ⟨w3.heap.size,0,none⟩ 1 1 [.int .i64 (-1 - (K:Int)),.int .i64 0,.slice none 0 0] rfl rfl (World.news_of_block (heap_alloc_new w3 _)) (zmG rfl) (by decide) (by unfold maxLen;omega) (by omega) (by simp;omega) ?_;intro gL capN wN hownN hcaseN;have HSN:Hid (OwnS w1 X (Value.slice adL j capL).ownBlock va es B base 3 K (j+r+1) wN (.slice (some ⟨gL,0,none⟩) (j+r+1) capN) vf ef):=HS3.out.append (by omega) _ hownN hcaseN;have cN:=HSN.out.inv.c 3 (by decide);have hltN:=HSN.out.inv.lt;have hrowN:=HSN.out.inv.row 3 (by decide);rw [zne] at cN;rw [zne,zne] at hrowN;obtain ⟨adF,capF,hvF⟩:=zh1 hrowN;subst hvF;have hrowM:wN.ownsRow (B+1) 83 2 (.slice adF ef.length capF) ef.length (flatE ef):=hrowN;clear hownN hcaseN hown3 HS3 hrowN) | (at_builtin;refine znH _ rfl _ _ 67 rfl (B+1) 83 i1 _ 2 32 Tryz.underlying67 hi1 hy0 hy1 hy2 rfl (by decide) _ ef.length _ rfl (hrowM.alloc _) ⟨wN.heap.size,0,none⟩ 1 1 [.slice (some ⟨gL,0,none⟩) (j+r+1) capN,.int .i64 K] rfl rfl (zg2 wN _ _ _) (zio rfl _) (by decide) (by unfold maxLen;omega) (by omega) (by simp;omega) ?_;intro gA capA' wA hownA hcaseA;obtain ⟨ca,fa⟩:=HSN.out.inv.after (f:=3) (by decide) _ (by rw [zne];exact hcaseA);rw [zne] at ca))
       have HS4:=HSN.out.push HXB.out _ hownA hcaseA
       clear HSN cN hrowM hownA hcaseA ca fa hltN
       exact ⟨⟨r+1,_,_,by omega,by go_num,by have:=HES.out;rw [List.length_append];show ef.length+1=_;omega,HS4⟩,by simp [intOf];omega⟩
      ·go_wp2
       go_end0
       have hfin:=hst.out
       have hfr:=hfin.fr
       have hxa:=hfin.xa
       rw [HX.out] at hfr
       have hxa' : NewOr (fun q=>q=B∨some q=(Value.slice adL j capL).ownBlock∨some q=(va 3).ownBlock) w1 vf:=by rw [← HX.out];exact hxa
       refine ⟨rfl,updF va 3 vf,updF es 3 ef,HEO.out.r.step (vl := .slice adL j capL) (by decide) (fun q hq=>zh4 HEO.out.row q hq) hbr hfin.inv ⟨hfin.ent,hxa'⟩ hfr,?_⟩
       have e0:=HEO.out.len
       have e1:=HEO.out.oth 1 (by decide)
       have e2:=HEO.out.oth 2 (by decide)
       have e3:=HEO.out.oth 3 (by decide)
       have:=HES.out
       have:=HEL.out
       show _∧_∧_∧_
       rw [znd _ _ (show (0:Nat) ≠ 3 by decide),znd _ _ (show (1:Nat) ≠ 3 by decide),znd _ _ (show (2:Nat) ≠ 3 by decide),zne]
       exact ⟨e0,by omega,e1,e2⟩
end Go.Proofs.YtahdlejgjcjeoabGreatDoor
