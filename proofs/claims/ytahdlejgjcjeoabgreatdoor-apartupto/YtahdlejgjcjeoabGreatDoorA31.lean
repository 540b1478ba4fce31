/- Walks of the law's questions at a new cluster: read, replica. -/
import Derived.Test.YtahdlejgjcjeoabGreatDoorA30
import Derived.Test.YtahdlejgjcjeoabGreatDoorA09
import Derived.Test.YtahdlejgjcjeoabGreatDoorA21
import Derived.Test.YtahdlejgjcjeoabGreatDoorA27
import Derived.Test.YtahdlejgjcjeoabGreatDoorA29
import Derived.Test.YtahdlejgjcjeoabGreatDoorA28
import Derived.Test.YtahdlejgjcjeoabGreatDoorA08
import Derived.Test.YtahdlejgjcjeoabGreatDoorA05
import Derived.Test.YtahdlejgjcjeoabGreatDoorA23
import Derived.Test.YtahdlejgjcjeoabGreatDoorA12
import Derived.Test.YtahdlejgjcjeoabGreatDoorA01
import Derived.Test.YtahdlejgjcjeoabGreatDoorA15
namespace Go.Proofs.YtahdlejgjcjeoabGreatDoor
set_option maxHeartbeats 8000000
open Go.RowKit
def hadTo (l:List At)(a:At)(k:Nat):Int:=hadN (l.take k) a
theorem zeD (l:List At)(a:At)(k:Nat)(h:k<l.length):hadTo l a (k+1)=if plc l[k] a=0∧hadTo l a k<l[k].n then l[k].n else hadTo l a k:=by
 unfold hadTo hadN
 rw [List.take_succ_eq_append_getElem h,List.foldl_append]
 rfl
theorem zey {l:List At}{a:At}{m:Int}(h:∀ x∈l,x.n≤m)(hm:0≤m):hadN l a≤m:=by
 unfold hadN
 suffices ∀ (l:List At) (z:Int),(∀ x∈l,x.n≤m)→z≤m→l.foldl (fun n x=>if plc x a=0∧n<x.n then x.n else n) z≤m from this l 0 h hm
 intro l
 induction l with
 | nil=>intro z _ hz;exact hz
 | cons x l ih =>
  intro z hl hz
  rw [List.foldl_cons]
  refine ih _ (fun y hy=>hl y (List.mem_cons_of_mem _ hy)) ?_
  split
  ·exact hl x (by simp)
  ·exact hz
theorem zgq {a:At}(h:mayB a=true):a.n≤2147483647∧0≤a.n:=by
 simp only [mayB,decide_eq_true_eq] at h
 omega
theorem keepB {wr W W' : World}{P:World→Prop}(hks:∀ W,Below wr.heap.size wr W→Below wr.heap.size wr W∧P W)(h:Below wr.heap.size wr W∧P W)(hb:Below W.heap.size W W'):Below wr.heap.size wr W' ∧ P W' := hks _ (h.1.trans (hb.mono h.1.size))
theorem zbx {w w' : World}{b o:Nat}{a:At}(h:cellsAt w b o a)(hb:b<w.heap.size)(hw:Below w.heap.size w w'):cellsAt w' b o a:=zbt hw hb h
theorem zbv {w:World}{q:Nat}{a:At}{e:TypeId}{fz:Nat × Nat}(h:w.heap[q]? = some (.cells #[.int .i64 a.ty,.string a.key,.int .i64 a.side,.int .i64 a.who,.string a.elem,.int .i64 a.n] e fz)):cellsAt w q 0 a:=⟨zaX h 0,zaX h 1,zaX h 2,zaX h 3,zaX h 4,zaX h 5⟩
set_option maxRecDepth 100000 in
theorem refHad {w:World}{col:Col}{o i:Nat}{near:List Bool}{D:RefD}{p:Rep}(h:RefRep w col o i near D p)(hm:∀ x∈p.atoms,mayB x=true)(hl:p.atoms.length≤274878038016)(a:At)(ha:fits a) :
  Calls Tryz.prog 113 #[.pointer (some ⟨D.ρ,0,none⟩),a.val] w fun e w' => e = .returned (.int .i64 (hadN p.atoms a))∧Below w.heap.size w w' := by
 have d1:=h.cells.2.1
 have hρ:=zaY h.blk
 have HA:Hid (SliceOf w D.va p.atoms):=h.atoms.slice
 obtain ⟨ad,cp,hva,_⟩:=h.atoms
 rw [hva] at d1 HA
 have HM:Hid (∀ x∈p.atoms,mayB x=true):=hm
 clear h hm hva
 generalize D.ρ=ρ at *
 generalize p.atoms=l at *
 have HPL:Hid (∀ x,fits x→∀ W,Calls Tryz.prog 122 #[x.val,a.val] W fun e w' => e = .returned (.int .i64 (plc x a))∧Below W.heap.size W w'):=fun x hx W=>ziw x a W hx ha
 obtain ⟨at0,at1,at2,at3,at4,at5⟩:=a
 obtain ⟨A,hA⟩:∃ A:At,A=⟨at0,at1,at2,at3,at4,at5⟩:=⟨_,rfl⟩
 have HAV:Hid (A.val = .agg #[.int .i64 at0,.string at1,.int .i64 at2,.int .i64 at3,.string at4,.int .i64 at5]):=by rw [hA];rfl
 rw [← hA] at HPL ⊢
 rw [HAV.out] at HPL ⊢
 go_enter Tryz.func113,Tryz.ntmps113
 go_wp2
 go_loopw [5,6] (fun n j wr=>∃ k:Nat,k≤l.length∧j = .int .i64 k∧n = .int .i64 (hadTo l A k)∧Hid (wr.heap[w.heap.size]? = some (.cells #[.int .i64 at0,.string at1,.int .i64 at2,.int .i64 at3,.string at4,.int .i64 at5] 76 (0,0)))∧Below w.heap.size w wr) (fun _ j _=>l.length - (intOf j).toNat)
 case atStart=>exact ⟨0,Nat.zero_le _,rfl,rfl,heap_alloc_new w _,zaO (Below.refl _ _) _⟩
 case round =>
  obtain ⟨k,hk,rfl,rfl,hblk,hbw⟩:=hrel
  have d1r:wr.cell? ⟨ρ,1,none⟩=some (.slice ad l.length cp):=by rw [hbw.cell (p:=⟨ρ,1,none⟩) hρ];exact d1
  by_cases hkl:k<l.length
  ·obtain ⟨ad',cp',e',-,HS⟩:=HA.out.below hbw
   cases e'
   obtain ⟨b,off,rfl,hb,hrow⟩:=HS (by omega)
   have hmx:=HM.out _ (List.getElem_mem hkl)
   have hn:=zgq hmx
   have HSC:=zeD l A k hkl
   have hHl:hadTo l A k≤2147483647:=zey (fun x hx=>(zgq (HM.out x (List.mem_of_mem_take hx))).1) (by decide)
   have hH0:0≤hadTo l A k:=zez _ _
   have HCON:=Hid.mk (HPL.out _ (zdj hmx))
   have hcx:=hrow k hkl
   have hwq:=zaY hblk.out
   have hca:cellsAt wr w.heap.size 0 ⟨at0,at1,at2,at3,at4,at5⟩:=zbv (a:=⟨at0,at1,at2,at3,at4,at5⟩) hblk.out
   have hρr:ρ<wr.heap.size:=Nat.lt_of_lt_of_le hρ hbw.size
   generalize l[k]=x at *
   have HKS:∀ W,Below wr.heap.size wr W→Below wr.heap.size wr W∧(W.cell? ⟨ρ,1,none⟩=some (.slice (some ⟨b,off,none⟩) l.length cp)∧(cellsAt W b (off+k*6) x∧cellsAt W w.heap.size 0 ⟨at0,at1,at2,at3,at4,at5⟩)):=fun W hW=>⟨hW,by rw [hW.cell (p:=⟨ρ,1,none⟩) hρr];exact d1r,zbx hcx hb hW,zbx hca hwq hW⟩
   simp only [cellsAt,Nat.zero_add] at HKS
   have HS2:=Hid.mk HSC
   have HPL2:Hid (plc x A=plc x A):=rfl
   generalize plc x A=pv at *
   clear HSC hrow HS HM HPL hcx hca
   have q1:(k:Int)<(l.length:Int):=by omega
   go_wp2
   go_region_held3 (fun w' => Below wr.heap.size wr w' ∧ (w'.cell? ⟨ρ,1,none⟩=some (.slice (some ⟨b,off,none⟩) l.length cp)∧((w'.cell? ⟨b,off+k*6,none⟩=some (.int .i64 x.ty)∧w'.cell? ⟨b,off+k*6+1,none⟩=some (.string x.key)∧w'.cell? ⟨b,off+k*6+2,none⟩=some (.int .i64 x.side)∧w'.cell? ⟨b,off+k*6+3,none⟩=some (.int .i64 x.who)∧w'.cell? ⟨b,off+k*6+4,none⟩=some (.string x.elem)∧w'.cell? ⟨b,off+k*6+5,none⟩=some (.int .i64 x.n))∧(w'.cell? ⟨w.heap.size,0,none⟩=some (.int .i64 at0)∧w'.cell? ⟨w.heap.size,1,none⟩=some (.string at1)∧w'.cell? ⟨w.heap.size,2,none⟩=some (.int .i64 at2)∧w'.cell? ⟨w.heap.size,3,none⟩=some (.int .i64 at3)∧w'.cell? ⟨w.heap.size,4,none⟩=some (.string at4)∧w'.cell? ⟨w.heap.size,5,none⟩=some (.int .i64 at5))))) (first | exact HKS _ (Below.refl _ _).drew | exact keepB HKS (by assumption) hbN | go_keep) (first | (go_at_call 122;refine (HCON.out _).mono ?_;rintro e wN ⟨rfl,hbN⟩) | fail)
   obtain ⟨hbN2,m1,⟨x0,x1,x2,x3,x4,x5⟩,y0,y1,y2,y3,y4,y5⟩:=HKS wN ((Below.refl _ wr).drew.trans hbN)
   have hbf:=hbw.trans (hbN2.mono hbw.size)
   have hblk2:Hid (wN.heap[w.heap.size]? = some (.cells #[.int .i64 at0,.string at1,.int .i64 at2,.int .i64 at3,.string at4,.int .i64 at5] 76 (0,0))):=(hbN2.block _ hwq).trans hblk.out
   clear HKS x0 x1 x2 x3 x4 y0 y1 y2 y3 y4 y5 hblk d1r hbN2
   rw [← hA]
   generalize hadTo l A k=hd at *
   by_cases hp0:pv=0
   ·subst hp0
    by_cases hlt:hd<x.n
    ·go_wp2
     exact ⟨⟨k+1,by omega,by go_num,by rw [HS2.out,if_pos ⟨rfl,hlt⟩],hblk2,hbf⟩,by simp [intOf];omega⟩
    ·have hlt' : x.n≤hd:=by omega
     go_wp2
     exact ⟨⟨k+1,by omega,by go_num,by rw [HS2.out,if_neg (fun hh=>hlt hh.2)],hblk2,hbf⟩,by simp [intOf];omega⟩
   ·go_wp2
    exact ⟨⟨k+1,by omega,by go_num,by rw [HS2.out,if_neg (fun hh=>hp0 hh.1)],hblk2,hbf⟩,by simp [intOf];omega⟩
  ·have hkk:k=l.length:=by omega
   subst hkk
   go_wp2
   go_ret
   exact ⟨zkM (by unfold hadTo;rw [List.take_of_length_le (Nat.le_refl _)]),hbw⟩
def ofOwner (o:Nat):Nat × Nat→Prop:=fun κ=>κ.1=o
theorem zhm {o i:Nat}:∀ x,ofRep o i x→ofOwner o x:=fun _ h=>h.1
theorem zcy {K:RefC}{i:Nat}{D:RefD}(h:K.Ds[i]? = some D):∀ h' : i<K.Ds.length,(K.Ds[i]).ρ=D.ρ:=fun h' => by
 rw [List.getElem?_eq_getElem h'] at h
 rw [Option.some.inj h]
set_option maxRecDepth 100000 in
theorem zj2 {w:World}{col:Col}{o x N:Nat}{U:List At}{K:RefC}{c:Clu}(h:RefAt w col o x K c)(hok:c.ok U N)(r:Int) :
  Calls Tryz.prog 27 #[.pointer (some ⟨x,0,none⟩),.int .i64 r] w fun e w' => e = .returned (.int .i64 (c.works r))∧∃ K' col',Hid (RefAt w' col' o x K' (c.crash r))∧Hid (FrC (ofOwner o) col col' w w'):=by
 have HW:=zkv h hok.n6 r
 by_cases hw:c.works r=0
 ·obtain ⟨⟨h0,hr⟩,hd⟩:=znz hw
  obtain ⟨n,rfl⟩:∃ n:Nat,r=n:=⟨r.toNat,by omega⟩
  simp only [Int.toNat_natCast] at hr hd
  obtain ⟨g,cap,D,hv,hc,hD,hp,hR⟩:=h.ptr hr
  have c5:=h.cells.2.2.2.2.2.1
  rw [hv] at c5
  have hn6:=hok.n6
  have HC:Hid (c.crash n=c.setRep n (c.rep n).fall):=by unfold Hid Clu.crash;rw [if_pos hw,Int.toNat_natCast]
  have hdn:=zj4 hR.toB (by omega) (by have:=(hok.rep hr).ackL;omega)
  have HFIN:Hid (∀ w' D' col',D'.ρ=D.ρ→RefRep w' col' o n (nearRow c n) D' (c.rep n).fall→FrC (ofRep o n) col col' w w' → RefAt w' col' o x { K with Ds:=K.Ds.set n D' } (c.setRep n (c.rep n).fall)):=fun w' D' col' h1 h2 h3=>h.setRep hn6 hr h3 (fun h' => by rw [zcy hD h'];exact h1) h2
  rw [hw] at HW ⊢
  clear h hok hR hw hD hv
  generalize D.ρ=ρ at *
  generalize hLL:c.reps.length=L at *
  have q1:(n:Int)<(L:Int):=by omega
  clear hLL
  go_enter Tryz.func27,Tryz.ntmps27
  go_wp2_with fail
  refine HW.mono ?_
  rintro e w' ⟨rfl,rfl⟩
  go_wp2_with fail
  refine hdn.mono ?_
  rintro e w2 ⟨rfl,D2,col2,hρ2,hR2,hF2⟩
  go_wp2
  go_ret
  exact ⟨rfl,_,col2,by rw [HC.out];exact HFIN.out _ _ _ hρ2 hR2 hF2,hF2.out.mono zhm⟩
 ·have HC:Hid (c.crash r=c):=by unfold Hid Clu.crash;rw [if_neg hw]
  generalize c.works r=cd at *
  go_enter Tryz.func27,Tryz.ntmps27
  go_wp2_with fail
  refine HW.mono ?_
  rintro e w' ⟨rfl,rfl⟩
  go_wp2
  go_ret
  exact ⟨rfl,K,col,by rw [HC.out];exact h,FrC.refl _ _ _⟩
structure BkC (w:World)(col:Col)(B M:Nat)(va:Nat→Value)(es:Nat→List (Value × Int)):Prop where
 bk:Bk w B va es
 len:∀ f,f<4→(es f).length≤M
 cB:(col B).1=3
 cv:∀ f,f<4→∀ q,(va f).ownBlock=some q→(col q).1=3
 ce:∀ f,f<4→∀ p∈es f,∀ q,p.1.ownBlock=some q→(col q).1=3
structure GSt (Z:Snap)(w:World)(col:Col)(W x y B M:Nat)(KR:RefC)(KP:PrK)(cR cP:Clu):Prop where
 old:Old Z w col
 tab:Tab w col
 ref:RefAt w col 1 y KR cR
 prg:PrgAt w col 2 x KP cP
 wb:w.heap[W]? = some (.cells #[.pointer (some ⟨x,0,none⟩),.pointer (some ⟨y,0,none⟩),.pointer (some ⟨B,0,none⟩)] 38 (0,0))
 cW:(col W).1=4
 bk:∃ va es,BkC w col B M va es
theorem MarkRow.fr {w w' : World}{X:Nat→Prop}{v:Value}{s n:Nat}{c:List Value}(h:MarkRow w v s n c)(hf:Fr X w w')(hx:∀ q,v.ownBlock=some q→¬ X q):MarkRow w' v s n c:=by
 obtain ⟨ad,cap,rfl,hcap,H⟩:=h
 refine ⟨ad,cap,rfl,hcap,fun h0 => ?_⟩
 obtain ⟨b,off,rfl,hlt,hrow⟩:=H h0
 refine ⟨b,off,rfl,Nat.lt_of_lt_of_le hlt hf.size,fun i hi j u hu => ?_⟩
 rw [World.cell?_of_block (w:=w) (hf.block b hlt (hx b rfl))]
 exact hrow i hi j u hu
theorem BkC.kept {w w' : World}{col col' : Col}{S:Nat × Nat→Prop}{B M:Nat}{va:Nat→Value}{es:Nat→List (Value × Int)}(h:BkC w col B M va es)(hf:FrC S col col' w w')(hS:∀ κ,κ.1=3→¬ S κ):BkC w' col' B M va es where
 bk:={
  c:=fun f hf' => by rw [World.cell?_of_block (w:=w) (a:=⟨B,f,none⟩) (hf.fr.block B h.bk.lt (hS _ h.cB))];exact h.bk.c f hf'
  fz:=fun o=>by rw [World.frozen?_of_block (w:=w) (a:=⟨B,o,none⟩) (hf.fr.block B h.bk.lt (hS _ h.cB))];exact h.bk.fz o
  row:=fun f hf' => zh8 (h.bk.row f hf') hf.fr fun q hq=>hS _ (h.cv f hf' q hq)
  good:=fun f hf' p hp=>by
   obtain ⟨n,hn,hm⟩:=h.bk.good f hf' p hp
   exact ⟨n,hn,hm.fr hf.fr fun q hq=>hS _ (h.ce f hf' p hp q hq)⟩
  bnd:=h.bk.bnd
  sep:=fun f hf' p hp q hq=>⟨Nat.lt_of_lt_of_le (h.bk.sep f hf' p hp q hq).1 hf.size,(h.bk.sep f hf' p hp q hq).2⟩
  apart:=h.bk.apart
  cross:=h.bk.cross }
 len:=h.len
 cB:=by rw [hf.col B h.bk.lt];exact h.cB
 cv:=fun f hf' q hq=>by rw [hf.col q (zh3 (h.bk.row f hf') q hq)];exact h.cv f hf' q hq
 ce:=fun f hf' p hp q hq=>by rw [hf.col q (h.bk.sep f hf' p hp q hq).1];exact h.ce f hf' p hp q hq
section
variable {Z:Snap} {w w1 w' : World} {col col' : Col} {W x y B M:Nat} {KR:RefC} {KP:PrK} {cR cP:Clu}
theorem GSt.same (h:GSt Z w col W x y B M KR KP cR cP)(hb:Below w.heap.size w w'):GSt Z w' col W x y B M KR KP cR cP:=by
 obtain ⟨va,es,hk⟩:=h.bk
 exact ⟨h.old.same hb,h.tab.below hb,h.ref.same hb,h.prg.same hb,(hb.block W (zaY h.wb)).trans h.wb,h.cW,va,es,hk.kept (S:=fun _=>False) (zdJ hb) (fun _ _=>id)⟩
theorem GSt.wK (h:GSt Z w col W x y B M KR KP cR cP){S:Nat × Nat→Prop}(hf:FrC S col col' w w')(hS:∀ κ,κ.1=4→¬ S κ):w'.heap[W]? = some (.cells #[.pointer (some ⟨x,0,none⟩),.pointer (some ⟨y,0,none⟩),.pointer (some ⟨B,0,none⟩)] 38 (0,0))∧(col' W).1=4 :=
 ⟨hf.block h.wb (hS _ h.cW),by rw [hf.colB h.wb];exact h.cW⟩
theorem GSt.byPrg (h:GSt Z w col W x y B M KR KP cR cP){KP' : PrK}{cP' : Clu}(hf:FrC (ofOwn 2) col col' w w')(hp:PrgAt w' col' 2 x KP' cP'):GSt Z w' col' W x y B M KR KP' cR cP' := by
 obtain ⟨va,es,hk⟩:=h.bk
 have hn:∀ κ:Nat × Nat,κ.1 ≠ 2→¬ ofOwn 2 κ:=fun κ e e' => e e'
 obtain ⟨h1,h2⟩:=h.wK hf (fun κ e=>hn κ (by omega))
 exact ⟨h.old.kept hf (fun κ e=>hn κ (by omega)),h.tab.kept hf (hn _ (by decide)),h.ref.kept hf (fun k=>hn _ (by show (1:Nat) ≠ 2;decide)),hp,h1,h2,va,es,hk.kept hf (fun κ e=>hn κ (by omega))⟩
theorem GSt.byRef (h:GSt Z w col W x y B M KR KP cR cP){KR' : RefC}{cR' : Clu}(hf:FrC (ofOwner 1) col col' w w')(hp:RefAt w' col' 1 y KR' cR'):GSt Z w' col' W x y B M KR' KP cR' cP:=by
 obtain ⟨va,es,hk⟩:=h.bk
 have hn:∀ κ:Nat × Nat,κ.1 ≠ 1→¬ ofOwner 1 κ:=fun κ e e' => e e'
 obtain ⟨h1,h2⟩:=h.wK hf (fun κ e=>hn κ (by omega))
 exact ⟨h.old.kept hf (fun κ e=>hn κ (by omega)),h.tab.kept hf (hn _ (by decide)),hp,h.prg.kept hf (fun k=>hn _ (by show (2:Nat) ≠ 1;decide)),h1,h2,va,es,hk.kept hf (fun κ e=>hn κ (by omega))⟩
theorem GSt.book (h:GSt Z w col W x y B M KR KP cR cP){M' : Nat}{va:Nat→Value}{es:Nat→List (Value × Int)}(hf:FrC (ofOwn 3) col col' w w')(hk:BkC w' col' B M' va es):GSt Z w' col' W x y B M' KR KP cR cP:=by
 have hn:∀ κ:Nat × Nat,κ.1 ≠ 3→¬ ofOwn 3 κ:=fun κ e e' => e e'
 obtain ⟨h1,h2⟩:=h.wK hf (fun κ e=>hn κ (by omega))
 exact ⟨h.old.kept hf (fun κ e=>hn κ (by omega)),h.tab.kept hf (hn _ (by decide)),h.ref.kept hf (fun k=>hn _ (by show (1:Nat) ≠ 3;decide)),h.prg.kept hf (fun k=>hn _ (by show (2:Nat) ≠ 3;decide)),h1,h2,va,es,hk⟩
theorem GSt.looks (h:GSt Z w col W x y B M KR KP cR cP)(hM:M≤15000000) :
  Calls Tryz.prog 8 #[.pointer (some ⟨B,0,none⟩)] w fun e w' => e = .returned (.bool true)∧Below w.heap.size w w' := by
 obtain ⟨va,es,hk⟩:=h.bk
 exact zgd B va es w hk.bk (fun f hf=>by have:=hk.len f hf;omega)
end
section
variable {Z:Snap} {w w1:World} {col:Col} {W x y B M:Nat} {KR:RefC} {KP:PrK} {cR cP:Clu}
theorem GSt.ownA (h:GSt Z w col W x y B M KR KP cR cP)(hM:M≤15000000)(hb:Below w.heap.size w w1){v:Value}{l:List At}(hv:w1.ownsRow w.heap.size 76 6 v l.length (flat l))(hl:l.length≤8388608) :
  Calls Tryz.prog 93 #[.pointer (some ⟨B,0,none⟩),v] w1 fun e w' => e = .returned (.tuple #[])∧GSt Z w' (paint col w.heap.size (3,9)) W x y B (M+4) KR KP cR cP:=by
 obtain ⟨va,es,hk⟩:=h.bk
 have hs:=hk.bk.sepNew hb hv
 refine (zhW B va v es w.heap.size l.length l w1 (hk.bk.below hb) hv rfl hb.size hs hl (by have:=hk.len 0 (by decide);omega)).mono ?_
 rintro e w' ⟨rfl,vf,ef,hk',hlen,hin,hfr⟩
 have hF:FrC (ofOwn 3) col (paint col w.heap.size (3,9)) w w' := ⟨((Fr.refl _ w).below hb).trans hfr.out (fun q hq hX=>by
  rcases hX with rfl | hX | hX
  ·exact hk.cB
  ·have:=zh4 hv q hX.symm;omega
  ·exact hk.cv 0 (by decide) q hX.symm),fun q hq=>zin col _ hq⟩
 refine ⟨rfl,h.book hF ⟨hk'.out,znc hk.len (by decide) hlen,?_,fun f hf q hq => ?_,fun f hf p hp q hq => ?_⟩⟩
 ·rw [zin col _ hk.bk.lt];exact hk.cB
 ·by_cases hl:q<w.heap.size
  ·rw [zin col _ hl]
   by_cases ef' : f=0
   ·subst ef'
    rw [zne] at hq
    rcases hin.out.2 q hq with h2 | hX | hX | hX
    ·have:=hb.size;omega
    ·rw [hX];exact hk.cB
    ·have:=zh4 hv q hX.symm;omega
    ·exact hk.cv 0 (by decide) q hX.symm
   ·rw [znd _ _ ef'] at hq
    exact hk.cv f hf q hq
  ·rw [zim col _ (by omega)]
 ·by_cases hl:q<w.heap.size
  ·rw [zin col _ hl]
   by_cases ef' : f=0
   ·subst ef'
    rw [zne] at hp
    rcases hin.out.1 p hp with h1 | h1
    ·exact hk.ce 0 (by decide) p h1 q hq
    ·rcases h1 q hq with h2 | h2
     ·have:=hb.size;omega
     ·have:=zh4 hv q h2.symm;omega
   ·rw [znd _ _ ef'] at hp
    exact hk.ce f hf p hp q hq
  ·rw [zim col _ (by omega)]
theorem GSt.ownI (h:GSt Z w col W x y B M KR KP cR cP)(hM:M≤15000000)(hb:Below w.heap.size w w1){v:Value}{m:Nat}{l:List Value}(hv:w1.ownsRow w.heap.size 3 1 v m l)(hl:m≤8388608) :
  Calls Tryz.prog 135 #[.pointer (some ⟨B,0,none⟩),v] w1 fun e w' => e = .returned (.tuple #[])∧GSt Z w' (paint col w.heap.size (3,9)) W x y B (M+4) KR KP cR cP:=by
 obtain ⟨va,es,hk⟩:=h.bk
 have hs:=hk.bk.sepNew hb hv
 refine (zhY B va v es w.heap.size m l w1 (hk.bk.below hb) hv hb.size hs hl (by have:=hk.len 1 (by decide);omega)).mono ?_
 rintro e w' ⟨rfl,vf,ef,hk',hlen,hin,hfr⟩
 have hF:FrC (ofOwn 3) col (paint col w.heap.size (3,9)) w w' := ⟨((Fr.refl _ w).below hb).trans hfr.out (fun q hq hX=>by
  rcases hX with rfl | hX | hX
  ·exact hk.cB
  ·have:=zh4 hv q hX.symm;omega
  ·exact hk.cv 1 (by decide) q hX.symm),fun q hq=>zin col _ hq⟩
 refine ⟨rfl,h.book hF ⟨hk'.out,znc hk.len (by decide) hlen,?_,fun f hf q hq => ?_,fun f hf p hp q hq => ?_⟩⟩
 ·rw [zin col _ hk.bk.lt];exact hk.cB
 ·by_cases hl:q<w.heap.size
  ·rw [zin col _ hl]
   by_cases ef' : f=1
   ·subst ef'
    rw [zne] at hq
    rcases hin.out.2 q hq with h2 | hX | hX | hX
    ·have:=hb.size;omega
    ·rw [hX];exact hk.cB
    ·have:=zh4 hv q hX.symm;omega
    ·exact hk.cv 1 (by decide) q hX.symm
   ·rw [znd _ _ ef'] at hq
    exact hk.cv f hf q hq
  ·rw [zim col _ (by omega)]
 ·by_cases hl:q<w.heap.size
  ·rw [zin col _ hl]
   by_cases ef' : f=1
   ·subst ef'
    rw [zne] at hp
    rcases hin.out.1 p hp with h1 | h1
    ·exact hk.ce 1 (by decide) p h1 q hq
    ·rcases h1 q hq with h2 | h2
     ·have:=hb.size;omega
     ·have:=zh4 hv q h2.symm;omega
   ·rw [znd _ _ ef'] at hp
    exact hk.ce f hf p hp q hq
  ·rw [zim col _ (by omega)]
theorem GSt.ownT (h:GSt Z w col W x y B M KR KP cR cP)(hM:M≤15000000)(hb:Below w.heap.size w w1){v:Value}{m:Nat}{l:List Value}(hv:w1.ownsRow w.heap.size 9 1 v m l)(hl:m≤8388608) :
  Calls Tryz.prog 128 #[.pointer (some ⟨B,0,none⟩),v] w1 fun e w' => e = .returned (.tuple #[])∧GSt Z w' (paint col w.heap.size (3,9)) W x y B (M+4) KR KP cR cP:=by
 obtain ⟨va,es,hk⟩:=h.bk
 have hs:=hk.bk.sepNew hb hv
 refine (zhZ B va v es w.heap.size m l w1 (hk.bk.below hb) hv hb.size hs hl (by have:=hk.len 2 (by decide);omega)).mono ?_
 rintro e w' ⟨rfl,vf,ef,hk',hlen,hin,hfr⟩
 have hF:FrC (ofOwn 3) col (paint col w.heap.size (3,9)) w w' := ⟨((Fr.refl _ w).below hb).trans hfr.out (fun q hq hX=>by
  rcases hX with rfl | hX | hX
  ·exact hk.cB
  ·have:=zh4 hv q hX.symm;omega
  ·exact hk.cv 2 (by decide) q hX.symm),fun q hq=>zin col _ hq⟩
 refine ⟨rfl,h.book hF ⟨hk'.out,znc hk.len (by decide) hlen,?_,fun f hf q hq => ?_,fun f hf p hp q hq => ?_⟩⟩
 ·rw [zin col _ hk.bk.lt];exact hk.cB
 ·by_cases hl:q<w.heap.size
  ·rw [zin col _ hl]
   by_cases ef' : f=2
   ·subst ef'
    rw [zne] at hq
    rcases hin.out.2 q hq with h2 | hX | hX | hX
    ·have:=hb.size;omega
    ·rw [hX];exact hk.cB
    ·have:=zh4 hv q hX.symm;omega
    ·exact hk.cv 2 (by decide) q hX.symm
   ·rw [znd _ _ ef'] at hq
    exact hk.cv f hf q hq
  ·rw [zim col _ (by omega)]
 ·by_cases hl:q<w.heap.size
  ·rw [zin col _ hl]
   by_cases ef' : f=2
   ·subst ef'
    rw [zne] at hp
    rcases hin.out.1 p hp with h1 | h1
    ·exact hk.ce 2 (by decide) p h1 q hq
    ·rcases h1 q hq with h2 | h2
     ·have:=hb.size;omega
     ·have:=zh4 hv q h2.symm;omega
   ·rw [znd _ _ ef'] at hp
    exact hk.ce f hf p hp q hq
  ·rw [zim col _ (by omega)]
end
def Clu.far (c:Clu):Prop:=∀ i j,c.reps.length≤j→c.near i j=false
theorem zc9 {c c' : Clu}(h:c.far)(h1:c'.near=c.near)(h2:c'.reps.length=c.reps.length):c'.far:=fun i j hj=>by rw [h1];exact h i j (by omega)
theorem zlp (c:Clu)(i:Nat)(p:Rep):(c.setRep i p).reps.length=c.reps.length:=by simp [Clu.setRep]
theorem zjz (c:Clu)(f:Frm):(c.put f).near=c.near∧(c.put f).reps.length=c.reps.length:=by
 unfold Clu.put
 split <;> exact ⟨rfl,rfl⟩
theorem zda {c:Clu}(h:c.far)(r q:Int):(c.send r q).far:=by
 unfold Clu.send
 split
 ·unfold Clu.sent
  obtain ⟨h1,h2⟩:=zjz (c.setRep r.toNat { c.rep r.toNat with frames:=(c.rep r.toNat).frames+1,weight:=(c.rep r.toNat).weight+((c.rep r.toNat).frame c.bp r.toNat q.toNat).d.length }) ((c.rep r.toNat).frame c.bp r.toNat q.toNat)
  exact zc9 h (h1.trans rfl) (h2.trans (zlp _ _ _))
 ·exact h
theorem zc8 {c:Clu}(h:c.far)(k:Int):(c.dropF k).far:=by
 unfold Clu.dropF
 split
 ·exact zc9 h rfl rfl
 ·exact h
theorem zc6 {c:Clu}(h:c.far)(k:Int):(c.copyF k).far:=by
 unfold Clu.copyF
 split
 ·obtain ⟨h1,h2⟩:=zjz c (c.frm k.toNat)
  exact zc9 h h1 h2
 ·exact h
theorem zc5 {c:Clu}(h:c.far)(f:Frm):(c.arrived f).far:=by
 unfold Clu.arrived
 split
 ·exact h
 ·split
  ·exact zc9 h rfl (zlp _ _ _)
  ·obtain ⟨h1,h2⟩:=zjz (c.setRep f.dst ((c.rep f.dst).arrive c.room c.rr f.d f.src)) ⟨3,f.dst,f.src,f.upto,[]⟩
   exact zc9 h (h1.trans rfl) (h2.trans (zlp _ _ _))
theorem zc7 {c:Clu}(h:c.far)(k:Int):(c.deliver k).far:=by
 unfold Clu.deliver
 split
 ·exact zc5 (c:=c.out k.toNat) (zc9 h rfl rfl) _
 ·exact h
section
variable {N:Nat} {U:List At} {c:Clu}
theorem zhp (hok:c.ok U N)(hL:Lim U N){r:Int}(hw:c.works r=0):(∀ a∈tell (c.rep r.toNat).atoms,short a)∧(tell (c.rep r.toNat).atoms).length≤131072:=by
 rcases znx c r with ⟨h5,_⟩ | ⟨i,rfl,hi,_⟩
 ·rw [h5] at hw;cases hw
 have hrep:=hok.rep hi
 have htt:=zmr (c.rep i).atoms
 exact ⟨fun a ha=>zlt (hok.may a (hrep.sub a (htt.great a ha).1)),Nat.le_trans (zfX (zlR htt.sorted) (fun a ha=>hrep.sub a (htt.great a ha).1)) hL.2⟩
theorem zny (c:Clu)(r:Int):c.works r=0∨c.works r=5∨c.works r=8:=by
 rcases znx c r with ⟨h,_⟩ | ⟨i,rfl,hi,⟨h,_⟩ | ⟨h,_⟩⟩ <;> simp [h]
end
section
variable {Z:Snap} {w:World} {col:Col} {W x y B M N:Nat} {U:List At} {KR:RefC} {KP:PrK} {c:Clu}
set_option maxRecDepth 100000 in
theorem GSt.lState (h:GSt Z w col W x y B M KR KP c c)(hok:c.ok U N)(hL:Lim U N)(hM:M≤15000000)(r:Int) :
  Calls Tryz.prog 86 #[.pointer (some ⟨W,0,none⟩),.int .i64 r] w fun e w' => e = .returned (.bool true)∧∃ col',GSt Z w' col' W x y B (M+4) KR KP c c:=by
 have c0:=zaX h.wb 0
 simp at c0
 have HN:=Hid.mk h
 have hE:=zny c r
 have HLEN:Hid ((if c.works r=0 then tell (c.rep r.toNat).atoms else []).length≤131072):=by
  show _≤_
  split
  ·rename_i hw;exact (zhp hok hL hw).2
  ·exact Nat.zero_le _
 have HP:=Hid.mk (zjn h.prg (by decide) h.tab hok r)
 have HD:=Hid.mk (fun W' (h' : GSt Z W' col W x y B M KR KP c c)=>zkn h'.ref hok hL r)
 clear h hok hL
 generalize (if c.works r=0 then tell (c.rep r.toNat).atoms else [])=T at *
 generalize c.works r=E at *
 go_enter Tryz.func86,Tryz.ntmps86
 go_wp2_with fail
 refine HP.out.mono ?_
 rintro e w1 ⟨v1,out1,rfl,ho1,he1,hv1,hb1⟩
 have HN1:=Hid.mk (HN.out.same hb1)
 have c1:=zaX HN1.out.wb 1
 simp at c1
 obtain ⟨ad1,cp1,hf1⟩:=zh1 ho1
 subst hf1
 go_wp2_with fail
 refine (HD.out _ HN1.out).mono ?_
 rintro e w2 ⟨v2,out2,rfl,ho2,he2,hb2⟩
 have HN2:=Hid.mk (HN1.out.same hb2)
 have c2:=zaX HN2.out.wb 2
 simp at c2
 obtain ⟨ad2,cp2,hf2⟩:=zh1 ho2
 subst hf2
 have e12:out2=out1:=he2.out.trans he1.out.symm
 subst e12
 have hlen:=HLEN.out
 rw [← he1.out] at hlen
 have hsame:=zkY (.slice ad1 out2.length cp1) (.slice ad2 out2.length cp2) out2 w2 (zlD rfl (zh5 ho1 hb2)) (zlD rfl ho2) (by omega)
 have HSM:=Hid.mk hsame
 have HO:=Hid.mk (zh5 ho1 hb2)
 have HB:=Hid.mk (hb1.trans (hb2.mono hb1.size))
 clear hsame ho1 ho2 hb1 hb2 c0 c1 he1 he2 HLEN
 go_wp2_with fail
 refine HSM.out.mono ?_
 rintro e w3 ⟨rfl,hb3⟩
 have HN3:=Hid.mk (HN2.out.same hb3)
 have c2' := zaX HN3.out.wb 2
 simp at c2'
 have hbw:Below w.heap.size w w3:=HB.out.trans (hb3.mono HB.out.size)
 have HC:=Hid.mk (HN.out.ownA hM hbw (v := .slice ad1 out2.length cp1) (l:=out2) (zh5 HO.out hb3) (by omega))
 clear hb3 hbw c2 HP HD HSM HO HB HN HN1 HN2
 rcases hE with rfl | rfl | rfl
 ·clear hv1
  go_wp2_with fail
  refine HC.out.mono ?_
  rintro e w4 ⟨rfl,hn4⟩
  have HR:=Hid.mk hn4
  clear HC hn4
  go_wp2
  go_ret
  exact ⟨rfl,_,HR.out⟩
 all_goals
  have hvv:=hv1.out (by decide)
  obtain ⟨rfl,rfl,hl0⟩:ad1=none∧cp1=0∧out2.length=0:=by injection hvv with e1 e2 e3;exact ⟨e1,e3,e2⟩
  rw [hl0] at HC ⊢
  clear hv1 hvv
  go_wp2_with fail
  refine HC.out.mono ?_
  rintro e w4 ⟨rfl,hn4⟩
  have HR:=Hid.mk hn4
  clear HC hn4
  go_wp2
  go_ret
  exact ⟨rfl,_,HR.out⟩
set_option maxRecDepth 100000 in
theorem GSt.lLog (h:GSt Z w col W x y B M KR KP c c)(hok:c.ok U N)(hL:Lim U N)(r:Int) :
  Calls Tryz.prog 89 #[.pointer (some ⟨W,0,none⟩),.int .i64 r] w fun e w' => e = .returned (.bool true)∧GSt Z w' col W x y B M KR KP c c:=by
 have c0:=zaX h.wb 0
 simp at c0
 have HP:=Hid.mk (prgLog h.prg r)
 have HD:=Hid.mk (fun W' (h' : GSt Z W' col W x y B M KR KP c c)=>refLog h'.ref hok hL r)
 have HN:=Hid.mk h
 clear h hok hL
 generalize c.thereErr r=E at *
 generalize bstr (logBytes (c.repAt r))=T at *
 go_enter Tryz.func89,Tryz.ntmps89
 go_wp2_with fail
 refine HP.out.mono ?_
 rintro e w1 ⟨rfl,hb1⟩
 have HN1:=Hid.mk (HN.out.same hb1)
 have c1:=zaX HN1.out.wb 1
 simp at c1
 clear hb1
 go_wp2_with fail
 refine (HD.out _ HN1.out).mono ?_
 rintro e w2 ⟨rfl,hb2⟩
 have HN2:=Hid.mk (HN1.out.same hb2)
 clear hb2
 go_wp2
 go_ret
 exact ⟨by simp,HN2.out⟩
set_option maxRecDepth 100000 in
theorem GSt.lFlight (h:GSt Z w col W x y B M KR KP c c) :
  Calls Tryz.prog 41 #[.pointer (some ⟨W,0,none⟩)] w fun e w' => e = .returned (.bool true)∧GSt Z w' col W x y B M KR KP c c:=by
 have c0:=zaX h.wb 0
 simp at c0
 have HP:=Hid.mk (zi2 h.prg)
 have HN:=Hid.mk h
 clear h
 go_enter Tryz.func41,Tryz.ntmps41
 go_wp2_with fail
 refine HP.out.mono ?_
 rintro e w1 ⟨rfl,hb1⟩
 have HN1:=Hid.mk (HN.out.same hb1)
 have c1:=zaX HN1.out.wb 1
 simp at c1
 have HD:=Hid.mk (zj8 HN1.out.ref)
 clear hb1
 go_wp2_with fail
 refine HD.out.mono ?_
 rintro e w2 ⟨rfl,rfl⟩
 go_wp2
 go_ret
 exact ⟨by simp,HN1.out⟩
end
def StrsOf (w:World)(v:Value)(l:List ByteArray):Prop :=
 ∃ ad cap,v = .slice ad l.length cap∧(0<l.length→∃ b off,ad=some ⟨b,off,none⟩∧b<w.heap.size∧∀ i (h:i<l.length),w.cell? ⟨b,off+i,none⟩=some (.string l[i]))
theorem zl6 {w:World}{base:Nat}{e:TypeId}{v:Value}{l:List ByteArray}(h:w.ownsRow base e 1 v l.length (l.map Value.string)):StrsOf w v l:=by
 rcases h.2 with ⟨rfl,h0⟩ | ⟨g,cap,cur,rfl,hg,hb,h1,h2,h3,h4⟩
 ·exact ⟨none,0,by rw [h0],fun h=>by omega⟩
 ·refine ⟨_,cap,rfl,fun _=>⟨g,0,rfl,(Array.getElem?_eq_some_iff.1 hb).1,fun i hi => ?_⟩⟩
  have hx:(l.map Value.string)[i]? = some (.string l[i]):=by simp [hi]
  rw [← h4,List.getElem?_take,if_pos (by omega),Array.getElem?_toList] at hx
  rw [Nat.zero_add]
  simp [World.cell?,hb,hx]
set_option maxRecDepth 100000 in
theorem zk0 (n:Int)(v1 v2:Value)(l:List ByteArray)(w:World)(h1:StrsOf w v1 l)(h2:StrsOf w v2 l)(hlen:l.length≤281474976710656) :
  Calls Tryz.prog 58 #[.agg #[.int .i64 n,v1],.agg #[.int .i64 n,v2]] w fun e w' => e = .returned (.bool true)∧Below w.heap.size w w' := by
 obtain ⟨ad1,cap1,rfl,H1⟩:=h1
 obtain ⟨ad2,cap2,rfl,H2⟩:=h2
 have HR1:Hid (0<l.length→∃ b off,ad1=some ⟨b,off,none⟩∧b<w.heap.size∧∀ i (h:i<l.length),w.cell? ⟨b,off+i,none⟩=some (.string l[i])):=H1
 have HR2:Hid (0<l.length→∃ b off,ad2=some ⟨b,off,none⟩∧b<w.heap.size∧∀ i (h:i<l.length),w.cell? ⟨b,off+i,none⟩=some (.string l[i])):=H2
 clear H1 H2
 go_enter Tryz.func58,Tryz.ntmps58
 go_wp2
 have hb0:=zaO (zaO (Below.refl _ w) (.cells #[.int .i64 n,.slice ad1 l.length cap1] 129)) (.cells #[.int .i64 n,.slice ad2 l.length cap2] 129)
 have k1:((w.alloc (.cells #[.int .i64 n,.slice ad1 l.length cap1] 129)).alloc (.cells #[.int .i64 n,.slice ad2 l.length cap2] 129)).cell? ⟨w.heap.size,1,none⟩=some (.slice ad1 l.length cap1):=by simp
 have k2:((w.alloc (.cells #[.int .i64 n,.slice ad1 l.length cap1] 129)).alloc (.cells #[.int .i64 n,.slice ad2 l.length cap2] 129)).cell? ⟨w.heap.size+1,1,none⟩=some (.slice ad2 l.length cap2):=by simp
 have hz:((w.alloc (.cells #[.int .i64 n,.slice ad1 l.length cap1] 129)).alloc (.cells #[.int .i64 n,.slice ad2 l.length cap2] 129)).heap.size=w.heap.size+1+1:=by simp
 generalize (w.alloc (.cells #[.int .i64 n,.slice ad1 l.length cap1] 129)).alloc (.cells #[.int .i64 n,.slice ad2 l.length cap2] 129)=w0 at *
 have HK1:Hid (w0.cell? ⟨w.heap.size,1,none⟩=some (.slice ad1 l.length cap1)):=k1
 have HK2:Hid (w0.cell? ⟨w.heap.size+1,1,none⟩=some (.slice ad2 l.length cap2)):=k2
 clear k1 k2
 go_loopw [5] (fun j wr=>∃ k:Nat,k≤l.length∧j = .int .i64 k∧Below w0.heap.size w0 wr) (fun j _=>l.length - (intOf j).toNat)
 case atStart=>exact ⟨0,Nat.zero_le _,rfl,Below.refl _ _⟩
 case round =>
  obtain ⟨k,hk,rfl,hbw⟩:=hrel
  have k1:wr.cell? ⟨w.heap.size,1,none⟩=some (.slice ad1 l.length cap1):=by rw [hbw.cell (p:=⟨w.heap.size,1,none⟩) (by simp only;omega)];exact HK1.out
  have k2:wr.cell? ⟨w.heap.size+1,1,none⟩=some (.slice ad2 l.length cap2):=by rw [hbw.cell (p:=⟨w.heap.size+1,1,none⟩) (by simp only;omega)];exact HK2.out
  have hbb:Below w.heap.size w wr:=hb0.trans (hbw.mono hb0.size)
  by_cases hl:k<l.length
  ·obtain ⟨b1,off1,rfl,hb1,hrow1⟩:=HR1.out (by omega)
   obtain ⟨b2,off2,rfl,hb2,hrow2⟩:=HR2.out (by omega)
   have c0:wr.cell? ⟨b1,off1+k,none⟩=some (.string l[k]):=by rw [hbb.cell (p:=⟨b1,off1+k,none⟩) hb1];exact hrow1 k hl
   have d0:wr.cell? ⟨b2,off2+k,none⟩=some (.string l[k]):=by rw [hbb.cell (p:=⟨b2,off2+k,none⟩) hb2];exact hrow2 k hl
   clear hrow1 hrow2 HR1 HR2 HK1 HK2
   generalize l[k]=x at *
   have q1:(0:Int)≤(k:Int):=by omega
   have q2:(k:Int)<(l.length:Int):=by omega
   go_wp2
   go_quiet (fail)
   go_wp2
   exact ⟨⟨k+1,by omega,by go_num,below_drewN hbw _⟩,by simp [intOf];omega⟩
  ·go_wp2
   go_ret
   exact ⟨rfl,hbb⟩
theorem ReadSpec.length {l:List At}{kind:Int}{key:ByteArray}{n:Int}{es:List ByteArray}(h:ReadSpec l kind key n es)(hlen:l.length≤4194304):es.length≤4194304:=by
 rcases h with ⟨_,_,T,hT,_,rfl⟩ | ⟨_,_,rfl⟩
 ·have h1:=zni T T kind key
  have h2:=zmS hT
  omega
 ·simp
def er (n:Nat)(r:Int):Int:=if 0≤r∧r<n then 0 else 5
section
variable {rm n:Nat} {bp rr:Bool} {f:Nat→Nat→Bool}
end
section
variable {w0 w:World} {B0 W x y R n B rm M:Nat} {bp rr:Bool} {f:Nat→Nat→Bool} {col:Col} {K:RefC}
end
section
variable {w0 w:World} {B0 W x y R n B rm M:Nat} {bp rr:Bool} {f:Nat→Nat→Bool} {col:Col} {K:RefC}
end
section
variable {w0 w:World} {B0 W x y R n B rm M:Nat} {bp rr:Bool} {f:Nat→Nat→Bool} {col:Col} {K:RefC}
end
def IntsOf (w:World)(v:Value)(l:List Nat):Prop :=
 ∃ ad cap,v = .slice ad l.length cap∧(0<l.length→∃ b off,ad=some ⟨b,off,none⟩∧b<w.heap.size∧∀ i (h:i<l.length),w.cell? ⟨b,off+i,none⟩=some (.int .i64 (l[i]:Nat)))
theorem zfp {w:World}{base:Nat}{e:TypeId}{v:Value}{l:List Nat}(h:w.ownsRow base e 1 v l.length (ints l)):IntsOf w v l:=by
 rcases h.2 with ⟨rfl,h0⟩ | ⟨g,cap,cur,rfl,hg,hb,h1,h2,h3,h4⟩
 ·exact ⟨none,0,by rw [h0],fun h=>by omega⟩
 ·refine ⟨_,cap,rfl,fun _=>⟨g,0,rfl,(Array.getElem?_eq_some_iff.1 hb).1,fun i hi => ?_⟩⟩
  have hx:(ints l)[i]? = some (.int .i64 (l[i]:Nat)):=by simp [ints,hi]
  rw [← h4,List.getElem?_take,if_pos (by omega),Array.getElem?_toList] at hx
  rw [Nat.zero_add]
  simp [World.cell?,hb,hx]
set_option maxRecDepth 100000 in
theorem zkZ (v1 v2:Value)(l:List Nat)(w:World)(h1:IntsOf w v1 l)(h2:IntsOf w v2 l)(hlen:l.length≤281474976710656) :
  Calls Tryz.prog 60 #[v1,v2] w fun e w' => e = .returned (.bool true)∧Below w.heap.size w w' := by
 obtain ⟨ad1,cap1,rfl,H1⟩:=h1
 obtain ⟨ad2,cap2,rfl,H2⟩:=h2
 have HR1:=Hid.mk H1
 have HR2:=Hid.mk H2
 clear H1 H2
 go_enter Tryz.func60,Tryz.ntmps60
 go_wp2
 go_loopw [5] (fun j wr=>∃ k:Nat,k≤l.length∧j = .int .i64 k∧Below w.heap.size w wr) (fun j _=>l.length - (intOf j).toNat)
 case atStart=>exact ⟨0,Nat.zero_le _,rfl,Below.refl _ _⟩
 case round =>
  obtain ⟨k,hk,rfl,hbw⟩:=hrel
  by_cases hl:k<l.length
  ·obtain ⟨b1,off1,rfl,hb1,hrow1⟩:=HR1.out (by omega)
   obtain ⟨b2,off2,rfl,hb2,hrow2⟩:=HR2.out (by omega)
   have c0:=(hbw.cell (p:=⟨b1,off1+k,none⟩) hb1).trans (hrow1 k hl)
   have d0:=(hbw.cell (p:=⟨b2,off2+k,none⟩) hb2).trans (hrow2 k hl)
   clear hrow1 hrow2 HR1 HR2
   generalize ((l[k]:Nat):Int)=x at *
   have q1:(0:Int)≤(k:Int):=by omega
   have q2:(k:Int)<(l.length:Int):=by omega
   go_wp2
   go_quiet (fail)
   go_wp2
   exact ⟨⟨k+1,by omega,by go_num,below_drewN hbw _⟩,by simp [intOf];omega⟩
  ·go_wp2
   go_ret
   exact ⟨rfl,hbw⟩
section
variable {w0 w:World} {B0 W x y R n B rm M:Nat} {bp rr:Bool} {f:Nat→Nat→Bool} {col:Col} {K:RefC}
end
end Go.Proofs.YtahdlejgjcjeoabGreatDoor
