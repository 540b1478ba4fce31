/- strings.Clone: the numbers of the shelf's contract laid at this dump. -/
import Derived.Test.YtahdlejgjcjeoabGreatDoorA22
import Derived.Test.YtahdlejgjcjeoabGreatDoorA10
import Derived.Test.YtahdlejgjcjeoabGreatDoorA08
import Derived.Test.YtahdlejgjcjeoabGreatDoorA21
import Derived.Shelf.Strconv.Clone
import Derived.Test.YtahdlejgjcjeoabGreatDoorProg
namespace Go.Proofs.YtahdlejgjcjeoabGreatDoor
set_option maxHeartbeats 8000000
open Go.RowKit Go.MuLone
def Apart (u v:Value):Prop:=∀ q,u.ownBlock=some q→v.ownBlock ≠ some q
structure EntsOwn (w:World)(B:Nat)(v:Value)(es:List Pe):Prop where
 row:w.ownsRow B 85 3 v es.length (es.flatMap Pe.cells)
 own:∀ e∈es,w.ownsRow B 76 6 e.v e.d.length (flat e.d)
 off:∀ e∈es,Apart e.v v
 far:es.Pairwise fun a b=>Apart a.v b.v
theorem EntsOwn.step {wr w3 w4:World}{B num org g cap:Nat}{v v1:Value}{es:List Pe}{d:List At}(h:EntsOwn wr B v es)(hB:B≤wr.heap.size)(hb:Below wr.heap.size wr w3)(ho:w3.ownsRow (wr.heap.size+1) 76 6 v1 d.length (flat d))
  (hw:w4.ownsRow B 85 3 (.slice (some ⟨g,0,none⟩) (es.length+1) cap) (es.length+1) (es.flatMap Pe.cells ++ [.int .i64 num,.int .i64 org,v1])) (hg:w3.grownBy w4 v.ownBlock) (hat:v.ownBlock=some g∨g=w3.heap.size) :
  EntsOwn w4 B (.slice (some ⟨g,0,none⟩) (es.length+1) cap) (es ++ [⟨num,org,v1,d⟩]):=by
 have hlv:∀ q,v.ownBlock=some q→q<wr.heap.size:=zh3 h.row
 have hl1:=zh3 ho
 have hg1:=zh4 ho
 have hle:∀ e∈es,∀ q,e.v.ownBlock=some q→q<wr.heap.size:=fun e he=>zh3 (h.own e he)
 have hsz:=hb.size
 refine ⟨by simpa [Pe.cells] using hw,fun e he => ?_,fun e he => ?_,?_⟩
 ·rw [List.mem_append,List.mem_singleton] at he
  rcases he with he | rfl
  ·exact zia (zh5 (h.own e he) hb) hg fun q hq e' => h.off e he q hq e'.symm
  ·exact zia (zic ho (by omega)) hg fun q hq e' => by
    have a1:=hg1 q hq
    have a2:=hlv q e'.symm
    omega
 ·intro q hq e'
  have:=zh2 e'
  subst this
  rw [List.mem_append,List.mem_singleton] at he
  rcases he with he | rfl
  ·have a1:=hle e he _ hq
   rcases hat with h1 | h1
   ·exact h.off e he _ hq h1
   ·omega
  ·have a1:=hg1 _ hq
   have a2:=hl1 _ hq
   rcases hat with h1 | h1
   ·have:=hlv _ h1;omega
   ·omega
 ·refine List.pairwise_append.2 ⟨h.far,by simp,fun a ha b hb' => ?_⟩
  rw [List.mem_singleton] at hb'
  subst hb'
  intro q hq e'
  have a1:=hle a ha q hq
  have a2:=hg1 q e'
  omega
theorem zg3 (w:World)(a b c:Value)(e:TypeId):∀ j u,[a,b,c][j]? = some u→(w.alloc (.cells #[a,b,c] e)).cell? ((⟨w.heap.size,0,none⟩:Addr).add j)=some u:=by
 intro j u hj
 match j,hj with
 | 0,hj=>simp at hj;subst hj;simp [Addr.add]
 | 1,hj=>simp at hj;subst hj;simp [Addr.add]
 | 2,hj=>simp at hj;subst hj;simp [Addr.add]
 | (j+3),hj=>simp at hj
theorem zcV {w:World}{base cap:Nat}{ad:Option Addr}{ds:List Pe}(h:w.ownsRow base 85 3 (.slice ad ds.length cap) ds.length (ds.flatMap Pe.cells)){k:Nat}(hk:k<ds.length) :
  ∃ g,ad=some ⟨g,0,none⟩∧g<w.heap.size∧w.cell? ⟨g,k*3,none⟩=some (.int .i64 (ds[k]).num)∧w.cell? ⟨g,k*3+1,none⟩=some (.int .i64 (ds[k]).org)∧w.cell? ⟨g,k*3+2,none⟩=some (ds[k]).v:=by
 rcases h.2 with ⟨_,h0⟩ | ⟨g,cap',cur,hv,hg,hb,h1,h2,h3,h4⟩
 ·omega
 ·cases hv
  have hc:∀ j u,(ds.flatMap Pe.cells)[j]? = some u→w.cell? ⟨g,j,none⟩=some u:=fun j u hu=>by
   have:=h.cells (g:=g) rfl j u hu
   rwa [Addr.add_lit,Nat.zero_add] at this
  refine ⟨g,rfl,(Array.getElem?_eq_some_iff.1 hb).1,hc _ _ ?_,hc _ _ ?_,hc _ _ ?_⟩
  ·exact (zds Pe.cells 3 Pe.cells_length ds k 0 hk (by omega)).trans rfl
  ·exact (zds Pe.cells 3 Pe.cells_length ds k 1 hk (by omega)).trans rfl
  ·exact (zds Pe.cells 3 Pe.cells_length ds k 2 hk (by omega)).trans rfl
set_option maxRecDepth 100000 in
theorem zcW (R i:Nat)(D:PrD)(w:World)(c4:w.cell? ⟨R,i*14+4,none⟩=some D.vb)(hrow:w.ownsRow 0 85 3 D.vb D.es.length (D.es.flatMap Pe.cells))(hd:∀ e∈D.es,SliceOf w e.v e.d)(hl:∀ e∈D.es,e.d.length≤16777216)(hn:D.es.length≤1048576) :
  Calls Tryz.prog 173 #[.pointer (some ⟨R,i*14,none⟩)] w fun e w' => ∃ v es,e = .returned v∧Hid (EntsOwn w' w.heap.size v es)∧es.map Pe.ent=D.es.map Pe.ent∧Below w.heap.size w w' := by
 obtain ⟨i0,hi,hz0,hz1,hz2⟩:=info_parts ze4
 have HD:Hid (∀ e∈D.es,SliceOf w e.v e.d):=hd
 have HL:Hid (∀ e∈D.es,e.d.length≤16777216):=hl
 have HROW:Hid (w.ownsRow 0 85 3 D.vb D.es.length (D.es.flatMap Pe.cells)):=hrow
 clear hd hl
 generalize D.es=ds at *
 generalize D.vb=vb at *
 obtain ⟨ad,cap,rfl⟩:=zh1 hrow
 clear hrow
 go_enter Tryz.func173,Tryz.ntmps173
 go_wp2
 go_loopw [3,11] (fun v s wr=>∃ (k:Nat) (es:List Pe),k≤ds.length∧s = .int .i64 k∧Hid (EntsOwn wr w.heap.size v es)∧es.map Pe.ent=(ds.take k).map Pe.ent∧Below w.heap.size w wr) (fun _ s _=>ds.length - (intOf s).toNat)
 case atStart=>exact ⟨0,[],Nat.zero_le _,rfl,⟨World.ownsRow_nil _ _ _ _,(fun e he=>by cases he),(fun e he=>by cases he),.nil⟩,by simp,Below.refl _ _⟩
 case round =>
  obtain ⟨k,es,hk,rfl,hes,hen,hbw⟩:=hrel
  by_cases hlt:k<ds.length
  ·obtain ⟨g,rfl,hg,d0,d1,d2⟩:=zcV HROW.out hlt
   have hmem:=List.getElem_mem hlt
   have hsl:=HD.out _ hmem
   have hll:=HL.out _ hmem
   have HT:Hid (ds.take (k+1)=ds.take k ++ [ds[k]]):=List.take_succ_eq_append_getElem hlt
   generalize ds[k]=e0 at *
   clear hmem
   obtain ⟨ade,cape,hve,hce,H⟩:=id hsl
   have HSL:Hid (SliceOf w e0.v e0.d):=hsl
   rw [hve] at d2 HSL
   have e1:wr.cell? ⟨g,k*3,none⟩=some (.int .i64 e0.num):=(hbw.cell (p:=⟨g,k*3,none⟩) hg).trans d0
   have e2:wr.cell? ⟨g,k*3+1,none⟩=some (.int .i64 e0.org):=(hbw.cell (p:=⟨g,k*3+1,none⟩) hg).trans d1
   have e3:wr.cell? ⟨g,k*3+2,none⟩=some (.slice ade e0.d.length cape):=(hbw.cell (p:=⟨g,k*3+2,none⟩) hg).trans d2
   clear d0 d1 d2 H hsl
   go_wp2_with fail
   have hb0:Below wr.heap.size wr (wr.alloc (.cells #[.int .i64 e0.num,.int .i64 e0.org,.slice ade e0.d.length cape] 85)):=zaO (Below.refl _ _) _
   have hbW0:Below w.heap.size w (wr.alloc (.cells #[.int .i64 e0.num,.int .i64 e0.org,.slice ade e0.d.length cape] 85)):=zaO hbw _
   refine (zbW _ e0.d _ (HSL.out.below hbW0) hll).mono ?_
   rintro e w1 ⟨v1,rfl,hown1,hb1⟩
   have hz:w1.heap.size ≥ wr.heap.size+1:=by have:=hb1.size;simpa using this
   have f0:w1.cell? ⟨wr.heap.size,0,none⟩=some (.int .i64 e0.num):=(hb1.cell (p:=⟨wr.heap.size,0,none⟩) (by simp)).trans (by simp)
   have f1:w1.cell? ⟨wr.heap.size,1,none⟩=some (.int .i64 e0.org):=(hb1.cell (p:=⟨wr.heap.size,1,none⟩) (by simp)).trans (by simp)
   have f2:w1.cell? ⟨wr.heap.size,2,none⟩=some (.slice ade e0.d.length cape):=(hb1.cell (p:=⟨wr.heap.size,2,none⟩) (by simp)).trans (by simp)
   have f3:∀ q,w1.frozen? ⟨wr.heap.size,q,none⟩=false:=fun q=>(hb1.frozen (p:=⟨wr.heap.size,q,none⟩) (by simp)).trans (by simp)
   have HB1:Hid (Below wr.heap.size wr w1):=hb0.trans (hb1.mono (by simp))
   have HO1:Hid (w1.ownsRow (wr.heap.size+1) 76 6 v1 e0.d.length (flat e0.d)):=by rw [World.size_alloc] at hown1;exact hown1
   obtain ⟨ad1,cap1,rfl⟩:=zh1 hown1
   clear hown1 hb1 hb0 e1 e2 e3
   have HW2:Hid (Below wr.heap.size wr (w1.setCell ⟨wr.heap.size,2,none⟩ (.slice ad1 e0.d.length cap1))):=HB1.out.setCell (Nat.le_refl _) _
   have HO2:Hid ((w1.setCell ⟨wr.heap.size,2,none⟩ (.slice ad1 e0.d.length cap1)).ownsRow (wr.heap.size+1) 76 6 (.slice ad1 e0.d.length cap1) e0.d.length (flat e0.d)):=zie HO1.out (Nat.lt_succ_self _)
   have hrw:=zh5 hes.out.row HW2.out
   have hbsz:=hbw.size
   have hel:es.length=k:=by have:=congrArg List.length hen;simp at this;omega
   have hnw:=zg3 (w1.setCell ⟨wr.heap.size,2,none⟩ (.slice ad1 e0.d.length cap1)) (.int .i64 e0.num) (.int .i64 e0.org) (.slice ad1 e0.d.length cap1) 85
   rw [World.size_setCell] at hnw
   have HNW:=zeT hnw
   clear hnw
   go_wp2_with (at_builtin;refine wpList_append_lies _ rfl _ _ 81 rfl w.heap.size 85 i0 _ 3 40 Tryz.underlying81 hi hz0 hz1 hz2 rfl (by decide) _ es.length _ rfl (hrw.alloc _) ⟨w1.heap.size,0,none⟩ 1 1 [.int .i64 e0.num,.int .i64 e0.org,.slice ad1 e0.d.length cap1] rfl rfl HNW.out zmH (by decide) (by unfold maxLen;omega) (by omega) (by simp;omega) (w1.heap.size+1) (by simp) ?_;intro gg capn w4 hown4 hgrow4 hat4 hlt4)
   go_roundw
   case rel =>
    refine ⟨k+1,es ++ [⟨e0.num,e0.org,.slice ad1 e0.d.length cap1,e0.d⟩],by omega,by go_num,?_,?_,(HW2.out.mono hbsz |> hbw.trans |> fun h=>zaO h _).grown hgrow4 (by simp;omega) (fun q hq=>zh4 hes.out.row q hq)⟩
    ·have hst:=hes.out.step hbsz (zaO HW2.out _) (HO2.out.alloc _) hown4 hgrow4 (by rcases hat4 with h | h;exact .inl h;exact .inr (by simpa using h))
     rw [hel] at hst
     exact hst
    ·rw [HT.out,List.map_append,List.map_append,hen]
     rfl
   case measure=>simp [intOf];omega
  ·have hkl:k=ds.length:=by omega
   subst hkl
   rw [List.take_length] at hen
   have HEN:Hid (es.map Pe.ent=ds.map Pe.ent):=hen
   clear hen
   go_wp2
   go_ret
   exact ⟨_,es,rfl,hes,HEN.out,hbw⟩
theorem EntsOwn.put {w:World}{B x k:Nat}{v u:Value}{es:List Pe}(h:EntsOwn w B v es)(hx:x<B):EntsOwn (w.setCell ⟨x,k,none⟩ u) B v es :=
 ⟨zie h.row hx,fun e he=>zie (h.own e he) hx,h.off,h.far⟩
theorem zcY (w:World)(B:Nat):EntsOwn w B (.slice none 0 0) []:=⟨World.ownsRow_nil _ _ _ _,(fun e he=>by cases he),(fun e he=>by cases he),.nil⟩
theorem PrD.is.lens {D:PrD}{p:Rep}{U:List At}{N n room:Nat}(h:D.is p)(hp:p.ok U N n room)(hL:Lim U N):∀ e∈D.es,e.d.length≤131072:=fun e he=>by
 have hm:Pe.ent e∈p.buf:=by rw [← h.buf];exact List.mem_map_of_mem he
 obtain ⟨h1,h2,_⟩:=hp.buf _ hm
 exact Nat.le_trans (h1.length h2) hL.2
theorem znx (c:Clu)(r:Int):(c.works r=5∧¬ (0≤r∧r<c.reps.length))∨(∃ i:Nat,r=i∧i<c.reps.length∧((c.works r=8∧(c.rep i).down=true)∨(c.works r=0∧(c.rep i).down=false))):=by
 by_cases h:0≤r∧r<c.reps.length
 ·refine .inr ⟨r.toNat,by omega,by omega,?_⟩
  have ht:c.there r=true:=by simp [Clu.there,h]
  unfold Clu.works
  rw [if_neg (by simp [ht])]
  cases hd:(c.rep r.toNat).down
  ·exact .inr ⟨by simp,rfl⟩
  ·exact .inl ⟨by simp,rfl⟩
 ·have ht:c.there r=false:=by simp [Clu.there];omega
  exact .inl ⟨by simp [Clu.works,ht],h⟩
set_option maxRecDepth 100000 in
theorem ziP {w:World}{col:Col}{o x N:Nat}{U:List At}{K:PrK}{c:Clu}(h:PrAt w col o x K)(hk:K.is c)(hok:c.ok U N)(hL:Lim U N)(r:Int) :
  Calls Tryz.prog 129 #[.pointer (some ⟨x,0,none⟩),.int .i64 r] w fun e w' => ∃ v es,e = .returned (.tuple #[v,.int .i64 (c.works r)])∧Hid (EntsOwn w' w.heap.size v es)∧Hid (es.map Pe.ent=if c.works r=0 then (c.rep r.toNat).buf else [])∧Hid (c.works r ≠ 0→v = .slice none 0 0)∧Below w.heap.size w w' := by
 have hcl:=h.clAt hk.lk
 have k41:=hcl.l41
 rcases znx c r with ⟨hw,hr⟩ | ⟨i,rfl,hi,⟨hw,hd⟩ | ⟨hw,hd⟩⟩
 ·rw [hw]
  go_enter_defers Tryz.func129,Tryz.ntmps129
  go_wp2_with (go_at_call 44;refine (lock_free zgD ⟨x,0,none⟩ _ hcl.c0 hcl.f0).mono ?_;rintro e w' ⟨rfl,rfl⟩)
  refine (zna x r _ _ _ _ k41 (by rw [hk.len];exact hr)).mono ?_
  rintro e w1 ⟨rfl,rfl⟩
  go_wp2
  refine leaves_cons (f:=45) (args:=#[.pointer (some ⟨x,0,none⟩)]) (by simp) (by simp [go_sem]) ?_
  obtain ⟨u0,u1,u2⟩:=hcl.unlock (w2:=_) (Below.refl _ _)
  refine (unlock_deferred zgD ⟨x,0,none⟩ .returning _ u0 u1).mono ?_
  rintro e u' w'' ⟨rfl,rfl,rfl⟩
  exact ⟨_,results_tmp2 rfl _ _ _,_,rfl,[],zcY _ _,rfl,rfl,u2⟩
 ·have hi' : i<K.Ds.length:=by rw [hk.len];exact hi
  have kup:=hcl.lR (h.cells hi').c0
  rw [hk.down hi',hd] at kup
  rw [hw]
  go_enter_defers Tryz.func129,Tryz.ntmps129
  go_wp2_with (go_at_call 44;refine (lock_free zgD ⟨x,0,none⟩ _ hcl.c0 hcl.f0).mono ?_;rintro e w' ⟨rfl,rfl⟩)
  refine (znb x K.R i K.Ds.length K.Ds.length false _ k41 hi' kup).mono ?_
  rintro e w1 ⟨rfl,rfl⟩
  go_wp2
  refine leaves_cons (f:=45) (args:=#[.pointer (some ⟨x,0,none⟩)]) (by simp) (by simp [go_sem]) ?_
  obtain ⟨u0,u1,u2⟩:=hcl.unlock (w2:=_) (Below.refl _ _)
  refine (unlock_deferred zgD ⟨x,0,none⟩ .returning _ u0 u1).mono ?_
  rintro e u' w'' ⟨rfl,rfl,rfl⟩
  exact ⟨_,results_tmp2 rfl _ _ _,_,rfl,[],zcY _ _,rfl,rfl,u2⟩
 ·have hi' : i<K.Ds.length:=by rw [hk.len];exact hi
  have kup:=hcl.lR (h.cells hi').c0
  rw [hk.down hi',hd] at kup
  obtain ⟨hl,hlf⟩:=h.lock 1
  obtain ⟨ho,hp⟩:=PrB.open hl (i:=i) hi'
  have hD:=hk.reps i hi'
  have hlen:=hD.lens (hok.rep hi) hL
  have hbl:(K.Ds[i]).es.length≤1048576:=by
   have h1:=(hok.rep hi).bufL
   rw [← hD.buf,List.length_map] at h1
   have:=hok.room8
   omega
  have hent:=zcW K.R i (K.Ds[i]) (w.setCell ⟨x,0,none⟩ (.int .i32 1)) (hl.cells hi').c4 hp.buf.own (fun e he=>(hp.ed e he).slice) (fun e he=>Nat.le_trans (hlen e he) (by decide)) hbl
  rw [zgb,hD.buf] at hent
  have HIF:Hid ((c.rep i).buf=if c.works (i:Int)=0 then (c.rep (i:Int).toNat).buf else []):=by rw [Hid,if_pos hw];rfl
  rw [hw] at HIF ⊢
  clear hl hlf ho hp hlen hbl hw hd hD
  generalize (c.rep i).buf=bf at *
  go_enter_defers Tryz.func129,Tryz.ntmps129
  go_wp2_with (go_at_call 44;refine (lock_free zgD ⟨x,0,none⟩ _ hcl.c0 hcl.f0).mono ?_;rintro e w' ⟨rfl,rfl⟩)
  refine (znb x K.R i K.Ds.length K.Ds.length true _ k41 hi' kup).mono ?_
  rintro e w1 ⟨rfl,rfl⟩
  go_wp2_with fail
  refine hent.mono ?_
  rintro e w2 ⟨v,es,rfl,hes,hen,hb⟩
  obtain ⟨ad,cp,rfl⟩:=zh1 hes.out.row
  have HEN:Hid (es.map Pe.ent=bf):=hen
  clear hen hent
  go_wp2
  refine leaves_cons (f:=45) (args:=#[.pointer (some ⟨x,0,none⟩)]) (by simp) (by simp [go_sem]) ?_
  obtain ⟨u0,u1,u2⟩:=hcl.unlock (w2:=_) hb
  refine (unlock_deferred zgD ⟨x,0,none⟩ .returning _ u0 u1).mono ?_
  rintro e u' w'' ⟨rfl,rfl,rfl⟩
  exact ⟨_,results_tmp2 rfl _ _ _,_,rfl,es,hes.out.put hcl.lt,HEN.out.trans HIF.out,trivial,u2⟩
open Go.RowKit
structure PrgAt (w:World)(col:Col)(o x:Nat)(K:PrK)(c:Clu):Prop where
 at_:PrAt w col o x K
 is:K.is c
 n:∀ i (h:i<K.Ds.length),(K.Ds[i]).n≤4194304
theorem PrgAt.kept {w w' : World}{col col' : Col}{S:Nat × Nat→Prop}{o x:Nat}{K:PrK}{c:Clu}(h:PrgAt w col o x K c)(hf:FrC S col col' w w')(hS:∀ k,¬ S (o,k)):PrgAt w' col' o x K c:=⟨h.at_.far hf hS,h.is,h.n⟩
theorem PrgAt.same {w w' : World}{col:Col}{o x:Nat}{K:PrK}{c:Clu}(h:PrgAt w col o x K c)(hb:Below w.heap.size w w'):PrgAt w' col o x K c:=⟨h.at_.same hb,h.is,h.n⟩
theorem PrI.norm {w:World}{col:Col}{o x i:Nat}{K:PrK}{D:PrD}{l V:List At}(h:PrI w col o x i K D)(hM:D.M=addTo (fun _=>none) l)(hs:∀ a∈l,a∈V):PrI w col o x i K { D with n:=V.length }:=by
 have hb:=h.b.as { D with n:=V.length } (fun hi=>by rw [K.setD_at];rfl)
 rw [K.setD_setD] at hb
 refine ⟨hb,⟨?_,h.p.cb,h.p.buf,h.p.ed,h.p.log⟩,h.h6,h.hi⟩
 have:=h.p.st
 show StMap w D.b V.length D.M
 rw [hM] at this ⊢
 exact this.shrinkU hs
theorem PrI.done {w:World}{col:Col}{o x i:Nat}{K:PrK}{D:PrD}{c:Clu}{p:Rep}{V:List At}(h:PrI w col o x i K D)(hk:K.is c)(hn:∀ j (h:j<K.Ds.length),(K.Ds[j]).n≤4194304)(hD:D.is p)(hs:∀ a∈p.atoms,a∈V)(hV:V.length≤4194304):∃ K',PrgAt w col o x K' (c.setRep i p)∧K'.R=K.R:=by
 refine ⟨K.setD i { D with n:=V.length },⟨(h.norm hD.M hs).close,hk.set (by rw [← hk.len];exact h.hi) ⟨hD.up,hD.num,hD.base,hD.M,hD.buf,hD.ak,hD.bytes,hD.frames,hD.weight⟩,fun j hj => ?_⟩,rfl⟩
 by_cases e:j=i
 ·subst e
  rw [K.setD_at]
  exact hV
 ·have hj' : j<K.Ds.length:=by rw [← K.setD_len i { D with n:=V.length }];exact hj
  have h1:(K.setD i { D with n:=V.length }).Ds[j]=K.Ds[j]:=List.getElem_set_ne (fun e' => e e'.symm) _
  rw [h1]
  exact hn j _
theorem zjX {l:List Rec}{m:Nat}(h:∀ r∈l,(recBytes r).length≤m):((l.map recBytes).flatten).length≤l.length*m:=by
 induction l with
 | nil=>simp
 | cons r l ih =>
  have h1:=h r (by simp)
  have h2:=ih fun x hx=>h x (by simp [hx])
  rw [List.map_cons,List.flatten_cons,List.length_append,List.length_cons,Nat.add_mul]
  omega
theorem ToldMay.may {d:List At}(h:ToldMay d):∀ a∈d,mayB a=true:=h.2
theorem zgc {U:List At}{N n room:Nat}{p:Rep}(h:p.ok U N n room)(hL:Lim U N):(logBytes p).length≤8796093022208:=by
 have hr:∀ r:Rec,ToldMay r.d→(∀ a∈r.d,a∈U)→(recBytes r).length≤2752541:=fun r h1 h2=>by
  have:=zjR r.kind r.num r.d h1.may
  have h3:=h1.length h2
  have h4:=hL.2
  have e:recBytes (⟨r.kind,r.num,r.d⟩:Rec)=recBytes r:=rfl
  rw [e] at this
  omega
 have h1:=zjX (l:=p.log) (m:=2752541) fun r hm=>hr r (h.log r hm).1 (h.log r hm).2.1
 have h2:p.torn.length≤2752541:=by
  rcases h.torn with e | ⟨_,r,k,a1,a2,_,_,a3,e⟩
  ·rw [e];simp
  ·rw [e,List.length_take]
   have:=hr r a1 a2
   omega
 have h3:p.log.length*2752541≤2097153*2752541:=Nat.mul_le_mul_right _ (by have:=h.logL;have:=hL.1;omega)
 unfold logBytes
 rw [List.length_append]
 omega
theorem ziu (D:PrD)(org:Nat)(v:Value)(l:List At):(D.es ++ [(⟨D.num+1,org,v,l⟩:Pe)]).map Pe.ent=D.es.map Pe.ent ++ [⟨D.num+1,org,l⟩]:=by simp [Pe.ent]
theorem PrD.is.take {D:PrD}{p:Rep}{U:List At}{N n room:Nat}(h:D.is p)(hp:p.ok U N n room)(hr:1≤room)(hup:p.torn = [])(v:Value)(l:List At)(org:Nat)(vb vl:Value):(D.take room v l org vb vl).is (p.take room l org):=by
 have hl:D.es.length=p.buf.length:=by rw [← h.buf,List.length_map]
 rw [hp.take_eq l org hr]
 have hM:addTo D.M l=addTo (fun _=>none) (p.atoms ++ l):=by rw [zal,h.M]
 have hB:D.bytes ++ recBytes ⟨1,D.num+1,l⟩=((p.log ++ [(⟨1,p.num+1,l⟩:Rec)]).map recBytes).flatten ++ p.torn:=by
  rw [h.bytes,h.num,logBytes,hup]
  simp
 by_cases hlt:room<p.buf.length+1
 ·rw [if_pos hlt]
  have hlt' : room<D.es.length+1:=by omega
  refine ⟨h.up,by show D.num+1=p.num+1;rw [h.num],?_,hM,?_,h.ak,hB,h.frames,h.weight⟩
  ·show (if room<D.es.length+1 then _ else _)=_
   rw [if_pos hlt',← h.buf]
   cases hes:D.es with
   | nil=>rw [hes] at hlt';simp at hlt';omega
   | cons e es=>rfl
  ·show (if room<D.es.length+1 then _ else _:List Pe).map Pe.ent=_
   rw [if_pos hlt',List.map_drop,ziu,h.buf,h.num,List.drop_one]
 ·rw [if_neg hlt]
  have hlt' : ¬ room<D.es.length+1:=by omega
  refine ⟨h.up,by show D.num+1=p.num+1;rw [h.num],?_,hM,?_,h.ak,hB,h.frames,h.weight⟩
  ·show (if room<D.es.length+1 then _ else _)=_
   rw [if_neg hlt']
   exact h.base
  ·show (if room<D.es.length+1 then _ else _:List Pe).map Pe.ent=_
   rw [if_neg hlt',ziu,h.buf,h.num]
   rfl
open Go.Shelf
def cloneText_ren:Go.Shelf.Ren:=⟨fun | 316=>216 | n=>n,fun | 9=>9 | 3=>3 | 4=>4 | 37=>124 | 0=>0 | 127=>291 | 5=>5 | n=>n,fun | n=>n⟩
theorem zbY:Go.Proofs.LaysM.n316 Tryz.prog cloneText_ren:={
 mixed:=by kernel_rfl,
 f316:=Tryz.func216.trans (congrArg some (by kernel_rfl)),
 t0:=Tryz.underlying0,
 a0:=Tryz.isAgg0,
 z0:=Tryz.sizeOf0,
 v0:=Tryz.zeroValue0,
 t3:=Tryz.underlying3,
 a3:=Tryz.isAgg3,
 z3:=Tryz.sizeOf3,
 v3:=Tryz.zeroValue3,
 t4:=Tryz.underlying4,
 a4:=Tryz.isAgg4,
 z4:=Tryz.sizeOf4,
 v4:=Tryz.zeroValue4,
 t9:=Tryz.underlying9,
 a9:=Tryz.isAgg9,
 z9:=Tryz.sizeOf9,
 v9:=Tryz.zeroValue9,
 t37:=Tryz.underlying124,
 a37:=Tryz.isAgg124,
 z37:=Tryz.sizeOf124,
 v37:=Tryz.zeroValue124,
 t127:=Tryz.underlying291,
 a127:=Tryz.isAgg291,
 z127:=Tryz.sizeOf291,
 v127:=Tryz.zeroValue291,
 t5:=Tryz.underlying5,
 a5:=Tryz.isAgg5,
 z5:=Tryz.sizeOf5,
 v5:=Tryz.zeroValue5,
 i0:=by kernel_rfl,
 i3:=by kernel_rfl,
 i4:=by kernel_rfl,
 i5:=by kernel_rfl,
 i9:=by kernel_rfl,
 i37:=by kernel_rfl,
 i127:=by kernel_rfl }
end Go.Proofs.YtahdlejgjcjeoabGreatDoor
