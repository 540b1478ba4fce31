/- Walks of the document's bytes and Encode. -/
import Derived.Test.YtahdlejgjcjeoabGreatDoorA15
import Derived.Lib.BufferMore
import Derived.Test.YtahdlejgjcjeoabGreatDoorA07
import Derived.Test.YtahdlejgjcjeoabGreatDoorA03
import Derived.Test.YtahdlejgjcjeoabGreatDoorA12
import Derived.Laws.Concat
import Derived.Deep.RegionHeldLaw
import Derived.Test.YtahdlejgjcjeoabGreatDoorA14
namespace Go.Proofs.YtahdlejgjcjeoabGreatDoor
set_option maxHeartbeats 8000000
open Go.RowKit Go.MuLone
set_option maxRecDepth 100000 in
theorem zbX (b off n cap:Nat)(l:List Int)(w:World)(hn:l.length=n)(hc:∀ j (h:j<l.length),w.cell? ⟨b,off+j,none⟩=some (.int .i64 l[j]))(hlen:n≤1048576)(hpos:0<n) :
  Calls Tryz.prog 107 #[.slice (some ⟨b,off,none⟩) n cap] w fun e w' => ∃ v,e = .returned v∧w'.ownsRow w.heap.size 3 1 v n (l.map (.int .i64 ·))∧Below w.heap.size w w' := by
 obtain ⟨i0,hi,hz0,hz1,hz2⟩:=info_parts zfb
 go_enter Tryz.func107,Tryz.ntmps107
 have heq:=fun W=>Lib.run_eql_slice_some_nil (P:=Tryz.prog) W (t:=78) ⟨b,off,none⟩ n cap Tryz.underlying78
 have hown:(w.alloc (.cells #[] 3)).ownsRow w.heap.size 3 1 (.slice (some ⟨w.heap.size,0,none⟩) 0 0) 0 [] :=
  ⟨rfl,.inr ⟨w.heap.size,0,#[],rfl,Nat.le_refl _,heap_alloc_new w _,Nat.le_refl _,Nat.zero_le _,rfl,rfl⟩⟩
 have hnews:∀ j u,(l.map (Value.int .i64 ·))[j]? = some u→(w.alloc (.cells #[] 3)).cell? ((⟨b,off,none⟩:Addr).add j)=some u:=by
  intro j u hu
  have hadd:(⟨b,off,none⟩:Addr).add j=⟨b,off+j,none⟩:=by unfold Addr.add;split <;> simp_all
  have hj:j<l.length:=by have:=(List.getElem?_eq_some_iff.1 hu).1;simpa using this
  rw [hadd]
  refine zbp ((hc j hj).trans ?_) _
  simpa [hj] using hu
 have HL:Hid ((l.map (Value.int .i64 ·)).length=n*1):=by rw [Hid];simpa using hn
 have HO:Hid (∀ u∈l.map (Value.int .i64 ·),u.oneCell' = true):=by
  intro u hu
  obtain ⟨k,-,rfl⟩:=List.mem_map.1 hu
  rfl
 generalize l.map (Value.int .i64 ·)=L at *
 clear hc
 go_wp2_with (at_builtin;refine znH _ rfl _ _ 78 rfl w.heap.size 3 i0 _ 1 8 Tryz.underlying78 hi hz0 hz1 hz2 rfl (by decide) _ 0 _ rfl hown ⟨b,off,none⟩ n cap L rfl HL.out hnews HO.out hpos (by unfold maxLen;omega) (by omega) (by simp) ?_;intro gA capA wA hownA hcaseA)
 go_ret
 rw [Nat.zero_add] at hownA
 refine ⟨_,rfl,hownA,?_⟩
 have hb0:=zaO (Below.refl _ w) (.cells #[] 3)
 rcases hcaseA with ⟨h1,_⟩ | ⟨h1,h2⟩
 ·exact hb0.grown h1 (by simp) (fun k hk=>by cases hk)
 ·exact hb0.grown h2 (by simp) (fun k hk=>by cases hk;have:=zh2 h1;omega)
def zRep:List Value := [.bool false,.int .i64 0,.int .i64 0,.slice none 0 0,.int .i64 0,.int .i64 0]
structure LockA (w wl:World)(x R n cap q:Nat)(o:Obj):Prop where
 eq:wl=(w.alloc o).setCell ⟨x,0,none⟩ (.int .i32 1)
 cl:ClAt (w.alloc o) x R n cap
 c41:wl.cell? ⟨x,41,none⟩=some (.slice (some ⟨R,0,none⟩) n cap)
 blk:wl.heap[w.heap.size]? = some o
 old:∀ g k v,g ≠ x→w.cell? ⟨g,k,none⟩=some v→wl.cell? ⟨g,k,none⟩=some v
 size:wl.heap.size=w.heap.size+1
theorem zga {w wl:World}{x R n cap:Nat}{o:Obj}(h:ClAt w x R n cap)(hwl:wl=(w.alloc o).setCell ⟨x,0,none⟩ (.int .i32 1)):LockA w wl x R n cap 0 o where
 eq:=hwl
 cl:=h.below ((Below.refl _ w).alloc (Nat.le_refl _) _) h.lt
 c41:=by
  rw [hwl]
  exact (h.below ((Below.refl _ w).alloc (Nat.le_refl _) o) h.lt).l41
 blk:=by
  rw [hwl]
  have hlt:=h.lt
  exact ((zet _ ⟨x,0,none⟩ _).block _ (by simp) (fun e=>by have:w.heap.size=x:=Option.some.inj e;omega)).trans (heap_alloc_new w o)
 old g k v hg hv:=by
  rw [hwl]
  exact (World.cell?_setCell_other _ ⟨x,0,none⟩ ⟨g,k,none⟩ _ (fun e=>hg (by cases e;rfl))).trans (zbp hv o)
 size:=by rw [hwl];simp
theorem LockA.done {w wl w2:World}{x R n cap:Nat}{o:Obj}(h:LockA w wl x R n cap 0 o)(hb:Below w.heap.size wl w2)(hx:x<w.heap.size)(hs:w.heap.size<w2.heap.size):w2.cell? ⟨x,0,none⟩=some (.int .i32 1)∧w2.frozen? ⟨x,0,none⟩=false∧Below w.heap.size w (w2.setCell ⟨x,0,none⟩ (.int .i32 0))∧(w2.setCell ⟨x,0,none⟩ (.int .i32 0)).heap[w.heap.size]? = w2.heap[w.heap.size]? := by
 have h0:=h.cl.c0
 have hw:w.cell? ⟨x,0,none⟩=some (.int .i32 0):=by
  rw [← h0]
  exact (((Below.refl w.heap.size w).alloc (Nat.le_refl _) o).cell (p:=⟨x,0,none⟩) hx).symm
 have hb1:Below w.heap.size (w.setCell ⟨x,0,none⟩ (.int .i32 1)) w2:=by
  refine ⟨hb.os.trans ?_,hb.tape.trans ?_,hb.output.trans ?_,?_,fun k hk=>(hb.block k hk).trans ?_⟩
  ·rw [h.eq];rfl
  ·rw [h.eq];rfl
  ·rw [h.eq];rfl
  ·simp;omega
  ·rw [h.eq]
   by_cases hkx:k=x
   ·subst hkx
    obtain ⟨cs,e,fz,hx',_⟩:=Go.Sort.cells_of_cell? hw
    rw [zeK hx',zeK ((((Below.refl w.heap.size w).alloc (Nat.le_refl _) o).block k hk).trans hx')]
   ·rw [Below.heap_setCell _ _ _ _ hkx,Below.heap_setCell _ _ _ _ hkx]
    exact ((Below.refl w.heap.size w).alloc (Nat.le_refl _) o).block k hk
 refine ⟨?_,?_,zaQ hw hb1,Below.heap_setCell _ _ _ _ (by show w.heap.size ≠ x;omega)⟩
 ·rw [hb1.cell (p:=⟨x,0,none⟩) hx]
  exact World.cell?_setCell_same _ _ _ hw
 ·rw [hb.frozen (p:=⟨x,0,none⟩) hx,h.eq,World.frozen?_setCell]
  exact h.cl.f0
theorem zhV {W:World}{q:Nat}{t:TypeId}{l l' : List Value}(h:W.heap[q]? = some (.cells l.toArray t (0,0)))(hl:l.length=l'.length):(W.setCells q 0 l').heap[q]? = some (.cells l'.toArray t (0,0)):=by
 rw [zeL l' 0 W _ h]
 congr 2
 apply Array.ext_getElem?
 intro k
 by_cases hk:k<l.length
 ·rw [setMany_get? l.toArray _ l' 0 k rfl (by simpa using hk),if_pos ⟨Nat.zero_le _,by omega⟩]
  simp
 ·rw [Array.getElem?_eq_none (by rw [Go.Sort.size_setMany];simpa using hk),Array.getElem?_eq_none (by simp;omega)]
theorem zaS {w W:World}{l:List Value}{q:Nat}(h:Below q w W)(hq:q≤W.heap.size):Below q w (W.setCells q 0 l):=h.grown (zeu l 0 W) hq (fun k hk=>by cases hk;exact Nat.le_refl _)
theorem zkK {fn:Func}{p q:Tmp}{ty:TypeId}(h:fn.results=#[.cell p ty,.tmp q])(tmps:Array Value){W:World}{g:Nat}{cs:Array Value}{v:Value}(hp:tmps.getD p undef = .pointer (some ⟨g,0,none⟩))(hq:tmps.getD q undef=v)(hl:(loadVar ty ⟨g,0,none⟩).run Tryz.prog W = .ok (.agg cs) W) :
  (results fn tmps).run Tryz.prog W = .ok (.tuple #[.agg cs,v]) W:=by
 have hp' : tmps[p]?.getD undef = .pointer (some ⟨g,0,none⟩):=by simpa using hp
 have hq' : tmps[q]?.getD undef=v:=by simpa using hq
 simp [results,h,hp',hq',asAddr,hl]
theorem zfh:(Tryz.prog.info? 134).map (·.size)=some 6:=by kernel_rfl
set_option maxRecDepth 100000 in
theorem zjf (x R n cap:Nat)(r:Int)(w:World)(h0:ClAt w x R n cap)(hr:¬ (0≤r∧r<n)) :
  Calls Tryz.prog 59 #[.pointer (some ⟨x,0,none⟩),.int .i64 r] w fun e w' => e = .returned (.tuple #[.agg zRep.toArray,.int .i64 5])∧Below w.heap.size w w' := by
 have h:ClAt (w.alloc (.cells zRep.toArray 134)) x R n cap:=h0.below ((Below.refl _ w).alloc (Nat.le_refl _) _) h0.lt
 have hlt:=h0.lt
 go_enter_defers Tryz.func59,Tryz.ntmps59
 go_wp2_with (go_at_call 44;refine (lock_free zgD ⟨x,0,none⟩ _ h.c0 h.f0).mono ?_;rintro e wl ⟨rfl,hwl⟩;have HL:=Hid.mk (zga h0 hwl);clear hwl)
 refine (zhs x r _ n cap _ HL.out.c41 hr).mono ?_
 rintro e w1 ⟨rfl,rfl⟩
 have hr1:=HL.out.blk
 have r0:=zaX hr1 0
 have r1:=zaX hr1 1
 have r2:=zaX hr1 2
 have r3:=zaX hr1 3
 have r4:=zaX hr1 4
 have r5:=zaX hr1 5
 have rf:=zaZ hr1
 simp only [zRep] at r0 r1 r2 r3 r4 r5
 simp at r0 r1 r2 r3 r4 r5
 have HB:=Hid.mk (zhV (l' := zRep) hr1 rfl)
 clear hr1 h
 go_wp2
 clear r0 r1 r2 r3 r4 r5 rf
 show Leaves _ _ _ _ _ _ _
 refine leaves_cons (f:=45) (args:=#[.pointer (some ⟨x,0,none⟩)]) (by simp) (by simp [go_sem]) ?_
 obtain ⟨u0,u1,u2,u3⟩:=HL.out.done (w2:=w1.setCells w.heap.size 0 zRep) (zaS (Below.refl _ _) (by rw [HL.out.size];omega)) hlt (zaY HB.out)
 refine (unlock_deferred zgD ⟨x,0,none⟩ .returning _ u0 u1).mono ?_
 rintro e u' w'' ⟨rfl,rfl,rfl⟩
 exact ⟨.tuple #[.agg zRep.toArray,.int .i64 5],zkK Tryz.results59 _ rfl rfl (run_loadVar_row _ _ _ _ _ _ _ (u3.trans HB.out) Tryz.underlying134 rfl zfh),rfl,u2⟩
def zFrm:List Value := [.int .i64 0,.int .i64 0,.int .i64 0,.int .i64 0,.slice none 0 0]
theorem ze9:(Tryz.prog.info? 110).map (·.size)=some 5:=by kernel_rfl
open Go.RowKit
theorem zak (l:List UInt8)(c:UInt8):adA (l ++ [c])=(((adA l).1+c.toNat) % 65521,(((adA l).1+c.toNat) % 65521+(adA l).2) % 65521):=by simp [adA]
theorem zaj (l:List UInt8):(adA l).1<65521∧(adA l).2<65521:=by
 rcases List.eq_nil_or_concat l with rfl | ⟨m,c,rfl⟩
 ·decide
 ·rw [List.concat_eq_append,zak]
  exact ⟨Nat.mod_lt _ (by decide),Nat.mod_lt _ (by decide)⟩
theorem zao (l:List UInt8):adler l<4294967296:=by
 have:=zaj l
 unfold adler
 omega
theorem za2 (l:List UInt8)(k:Nat)(_h:k<l.length)(h' : k<(bstr l).size):(bstr l)[k]=l[k]:=rfl
set_option maxRecDepth 100000 in
theorem refSum (l:List UInt8)(w:World)(hl:l.length≤17592186044416) :
  Calls Tryz.prog 118 #[.string (bstr l)] w fun e w' => e = .returned (.int .i64 (adler l))∧Below w.heap.size w w' := by
 have hsz:=za8 l
 go_enter Tryz.func118,Tryz.ntmps118
 go_wp2
 go_loopw [3,4,5] (fun a b i wr=>∃ k:Nat,k≤l.length∧a = .int .i64 (adA (l.take k)).1∧b = .int .i64 (adA (l.take k)).2∧i = .int .i64 k∧Below w.heap.size w wr) (fun _ _ i _=>l.length - (intOf i).toNat)
 case atStart=>exact ⟨0,Nat.zero_le _,rfl,rfl,rfl,Below.refl _ _⟩
 case round =>
  obtain ⟨k,hk,rfl,rfl,rfl,hbw⟩:=hrel
  obtain ⟨ha,hb⟩:=zaj (l.take k)
  by_cases hlt:k<l.length
  ·have HS:Hid (adA (l.take (k+1))=(((adA (l.take k)).1+l[k].toNat) % 65521,(((adA (l.take k)).1+l[k].toNat) % 65521+(adA (l.take k)).2) % 65521)):=by rw [Hid,List.take_succ_eq_append_getElem hlt,zak]
   have hc:=l[k].toNat_lt
   have hc2:=za2 l k hlt (by rw [hsz];exact hlt)
   generalize (adA (l.take k)).1=a at *
   generalize (adA (l.take k)).2=b at *
   generalize l[k]=c at *
   have q1:(k:Int)<(l.length:Int):=by omega
   have t1:((a:Int)+(c.toNat:Int)).tmod 65521=((a+c.toNat) % 65521:Nat):=by rw [Int.tmod_eq_emod_of_nonneg (by omega)];omega
   have t2:(((a+c.toNat) % 65521:Nat)+(b:Int)).tmod 65521=(((a+c.toNat) % 65521+b) % 65521:Nat):=by rw [Int.tmod_eq_emod_of_nonneg (by omega)];omega
   go_wp2
   refine ⟨⟨k+1,by omega,?_,?_,by go_num,hbw⟩,by simp [intOf];omega⟩
   ·rw [HS.out];go_num
   ·rw [HS.out];go_num
  ·have hkl:k=l.length:=by omega
   subst hkl
   rw [List.take_of_length_le (Nat.le_refl _)] at *
   go_wp2
   go_ret
   refine ⟨zkM ?_,hbw⟩
   unfold adler
   omega
theorem zid {w w' : World}{base:Nat}{e:TypeId}{s n:Nat}{v:Value}{xs:List Value}(h:w.ownsRow base e s v n xs)(hb:OnlyB w w')(he:e ≠ 5):w'.ownsRow base e s v n xs:=by
 obtain ⟨h0,h⟩:=h
 refine ⟨h0,?_⟩
 rcases h with h | ⟨g,cap,cur,hv,hgb,hh,k⟩
 ·exact .inl h
 ·exact .inr ⟨g,cap,cur,hv,hgb,hb.heap hh he,k⟩
theorem zba {B:Nat}{w:World}{v:Value}{xs:List UInt8}(h:Buf B w v xs)(hp:0<xs.length):∃ b cap,v = .slice (some ⟨b,0,none⟩) xs.length cap∧(convert 124 9 v).run Tryz.prog w = .ok (.string (bstr xs)) w:=by
 have ho:=h.1
 rcases ho.2 with ⟨_,h1⟩ | ⟨g,cap,cur,hv,_,hh,h1,h2,h3,h4⟩
 ·omega
 ·refine ⟨g,cap,hv,?_⟩
  rw [hv,← za6]
  refine run_convert_bytes_arg w 124 5 Tryz.underlying124 Tryz.underlying5 g 0 xs.length cap _ (by simp) (fun i hi => ?_) 9 Tryz.underlying9
  have:=ho.cells (g:=g) (by rw [hv];rfl) i (.int .u8 (xs[i].toNat:Int)) (by simp [bcells,hi])
  have hadd:(⟨g,0,none⟩:Addr).add i=⟨g,0+i,none⟩:=by unfold Addr.add;split <;> simp_all
  rw [hadd] at this
  rw [this]
  simp [List.getD,hi]
theorem zcP:∀ l:List At,(∀ a∈l,fit2 a)→(encL l).length≤21*l.length
 | [],_=>Nat.le_refl _
 | a :: l,h=>by
  have h1:=(zcO a (h a (by simp))).1
  have h2:=zcP l (fun x hx=>h x (by simp [hx]))
  have e:encL (a :: l)=encA a ++ encL l:=by simp [encL]
  rw [e,List.length_append,List.length_cons]
  omega
set_option maxRecDepth 100000 in
theorem zcU (v:Value)(l:List At)(w:World)(hr:RulesAt w)(h1:SliceOf w v l)(hs1:∀ a∈l,short a)(hlen:l.length≤8388608)(hl:l.all mayB=true) :
  Calls Tryz.prog 166 #[v] w fun e w' => ∃ out,e = .returned (.tuple #[.string (bstr (be out.length 8 ++ encL out)),.int .i64 0])∧Hid (IsTold l out)∧Below w.heap.size w w' := by
 have hc1:=zho v l w hr h1 hs1 (by omega) hl
 have HA:Hid (∀ a∈l,mayB a=true):=List.all_eq_true.1 hl
 have HR:Hid (RulesAt w):=hr
 clear h1 hs1 hl hr
 go_enter Tryz.func166,Tryz.ntmps166
 go_wp2_with fail
 refine hc1.mono ?_
 rintro e w1 ⟨b,rfl,hbb,hst,hb1⟩
 have hh:=zeV l
 have hmay:=hh.mayMap HA.out
 have HTL:Hid (∀ out,TellOf (addTo (fun _=>none) l) out→IsTold l out):=fun out ht=>hh.told HA.out ht
 have hcon:=zmo b l.length _ w1 (HR.out.below hb1 HR.out.1) hst hmay (by omega)
 clear hst hh hmay hc1
 generalize addTo (fun _=>none) l=M at *
 go_wp2_with fail
 refine hcon.mono ?_
 rintro e w2 ⟨v2,out,rfl,hown2,ht,hb2⟩
 have hbw2:Below w.heap.size w w2:=hb1.trans (hb2.mono hb1.size)
 have HT2:Hid (IsTold l out):=HTL.out out ht.out
 have hlo:=zfX (zlR HT2.out.sorted) (fun x hx=>(HT2.out.great x hx).1)
 have HF:Hid (∀ a∈out,fit2 a):=fun a ha=>zdi (HA.out a (HT2.out.great a ha).1)
 have HO2:Hid (w2.ownsRow w1.heap.size 76 6 v2 out.length (flat out)):=hown2
 clear hcon hb2 ht HTL
 obtain ⟨ad,cap,rfl,hcap,-⟩:=zlD rfl hown2
 clear hown2
 go_wp2_with fail
 have hc3:=zax w2.heap.size (.slice none 0 0) [] (out.length:Int) 8 w2 ⟨⟨rfl,.inl ⟨rfl,rfl⟩⟩,Nat.le_refl _⟩ (by omega) (by omega) (by omega) (by simp)
 refine hc3.mono ?_
 rintro e w3 ⟨v3,rfl,hb3,hbw3,hob3⟩
 rw [show ((out.length:Int)).toNat=out.length by omega,List.nil_append] at hb3
 have HO3:Hid (w3.ownsRow w1.heap.size 76 6 (.slice ad out.length cap) out.length (flat out)):=zid HO2.out hob3 (by decide)
 have hbW3:Below w.heap.size w w3:=hbw2.trans (hbw3.mono hbw2.size)
 have hz3:=hbw3.size
 clear hc3 HO2 hob3
 go_wp2
 go_loopw [7,25] (fun v' j wr=>∃ k:Nat,k≤out.length∧j = .int .i64 k∧Hid (Buf w2.heap.size wr v' (be out.length 8 ++ encL (out.take k)))∧Below w.heap.size w wr∧Hid (OnlyB w3 wr)) (fun _ j _=>out.length - (intOf j).toNat)
 case atStart=>exact ⟨0,Nat.zero_le _,rfl,by simpa [Hid,encL] using hb3.out,hbW3,OnlyB.refl _⟩
 case round =>
  obtain ⟨k,hk,rfl,hbuf,hbr,hob⟩:=hrel
  by_cases hlk:k<out.length
  ·obtain ⟨ad',cap',e',-,HS⟩:=zlD rfl (zid HO3.out hob.out (by decide))
   cases e'
   obtain ⟨bt,off,rfl,hbt,hrow⟩:=HS (by omega)
   have hfa:=HF.out _ (zg6 out k hlk)
   obtain ⟨c0,c1,c2,c3,c4,c5⟩:=hrow.nth hlk
   have hsn:encL (out.take (k+1))=encL (out.take k) ++ encA (nth out k):=by rw [List.take_succ_eq_append_getElem hlk,zcQ,zg5 out k hlk]
   have hle:=zcP (out.take k) (fun a ha=>HF.out a (List.mem_of_mem_take ha))
   have hlt:=List.length_take_le k out
   generalize nth out k=a at *
   have HSN:Hid (be out.length 8 ++ encL (out.take (k+1))=(be out.length 8 ++ encL (out.take k)) ++ encA a):=by rw [Hid,hsn,List.append_assoc]
   have hyl:(be out.length 8 ++ encL (out.take k)).length≤549755813888:=by rw [List.length_append,zaL];omega
   clear hrow hsn hle hlt HS
   generalize be out.length 8 ++ encL (out.take k)=ys at *
   have hB:=hbuf.out.2
   have hcA:=fun o=>zav w2.heap.size _ ys a (wr.alloc o) ⟨hbuf.out.1.alloc _,by simp;omega⟩ (by simp;omega) hfa hyl
   go_wp2_with fail
   refine (hcA _).mono ?_
   rintro e w4 ⟨v4,rfl,hb4,hbw4,hob4⟩
   have hbW4:Below w.heap.size w w4:=(zaO hbr _).trans (hbw4.mono hbw2.size)
   have HOB:Hid (OnlyB w3 w4):=(hob.out.alloc _).trans hob4
   clear hcA hbw4 hob4 hbuf c0 c1 c2 c3 c4 c5
   go_wp2
   exact ⟨⟨k+1,by omega,by go_num,by rw [Hid,HSN.out];exact hb4.out,hbW4,HOB⟩,by simp [intOf];omega⟩
  ·have hkl:k=out.length:=by omega
   subst hkl
   have hfin:=hbuf.out
   rw [List.take_length] at hfin
   obtain ⟨bb,cp,hv,hcv⟩:=zba hfin (by rw [List.length_append,zaL];omega)
   subst hv
   clear hbuf hfin
   generalize hys:be out.length 8 ++ encL out=ys at *
   have HYS:Hid (be out.length 8 ++ encL out=ys):=hys
   clear hys
   go_wp2
   go_ret2
   exact ⟨out,by rw [HYS.out];rfl,HT2,hbr⟩
set_option maxRecDepth 100000 in
theorem zcT (v:Value)(l:List At)(w:World)(hr:RulesAt w)(h1:SliceOf w v l)(hs1:∀ a∈l,short a)(hlen:l.length≤8388608)(hl:l.all mayB=false) :
  Calls Tryz.prog 166 #[v] w fun e w' => e = .returned (.tuple #[.string (bstr []),.int .i64 1])∧Below w.heap.size w w' := by
 have hc1:=of_no v l w hr h1 hs1 (by omega) hl
 clear h1 hs1 hl hr
 go_enter Tryz.func166,Tryz.ntmps166
 go_wp2_with fail
 refine hc1.mono ?_
 rintro e w1 ⟨rfl,hb1⟩
 clear hc1
 go_wp2
 go_ret2
 exact ⟨rfl,hb1⟩
theorem za1 (l r:List UInt8):bstr l ++ bstr r=bstr (l ++ r):=by
 apply ByteArray.ext
 simp [bstr]
theorem znO {x:Int}(h0:0≤x)(h1:x<9223372036854775808):IntKind.i64.wrap x=x:=by
 simp [IntKind.wrap,IntKind.signed,IntKind.bits]
 omega
theorem u8_mod (n:Nat):IntKind.u8.wrap ((n:Int).tmod 256)=((UInt8.ofNat n).toNat:Int):=by
 rw [Int.tmod_eq_emod_of_nonneg (by omega),UInt8.toNat_ofNat']
 simp [IntKind.wrap,IntKind.signed,IntKind.bits]
theorem zgz (n:Nat):strOfNums [(n:Int) % 256]=bstr [UInt8.ofNat n]:=by
 have e:((n:Int) % 256).toNat=n % 256:=by omega
 simp only [strOfNums,bstr,List.map_cons,List.map_nil,e]
 have:UInt8.ofNat (n % 256)=UInt8.ofNat n:=by
  apply UInt8.toNat_inj.1
  simp
 rw [this]
theorem zce (W:World)(b:Nat)(c:Int)(h:W.cell? ⟨b,0,none⟩=some (.int .u8 c)):(convert 124 9 (.slice (some ⟨b,0,none⟩) 1 1)).run Tryz.prog W = .ok (.string (strOfNums [c])) W :=
 run_convert_bytes_arg W 124 5 Tryz.underlying124 Tryz.underlying5 b 0 1 1 [c] rfl (fun i hi=>by obtain rfl:i=0:=(by omega);exact h) 9 Tryz.underlying9
set_option maxRecDepth 100000 in
theorem znQ:∀ (wd:Nat) (n:Nat) (w:World),wd≤8→n<9223372036854775808 →
  Calls Tryz.prog 117 #[.int .i64 n,.int .i64 wd] w fun e w' => e = .returned (.string (bstr (be n wd)))∧Below w.heap.size w w' := by
 intro wd
 induction wd with
 | zero =>
  intro n w _ hn
  go_enter Tryz.func117,Tryz.ntmps117
  go_wp2
  go_ret
  exact ⟨rfl,Below.refl _ _⟩
 | succ wd ih =>
  intro n w hw hn
  have HC:Hid (∀ W,Calls Tryz.prog 117 #[.int .i64 ((n:Int) / 256),.int .i64 (wd:Int)] W fun e w' => e = .returned (.string (bstr (be (n / 256) wd)))∧Below W.heap.size W w'):=fun W=>by simpa using ih (n / 256) W (by omega) (by omega)
  clear ih
  have hcv:=zce
  have hw1:IntKind.i64.wrap ((n:Int) / 256)=(n:Int) / 256:=znO (by omega) (by omega)
  have hw2:IntKind.i64.wrap (wd:Int)=(wd:Int):=znO (by omega) (by omega)
  have hw3:IntKind.u8.wrap ((n:Int).tmod 256)=((UInt8.ofNat n).toNat:Int):=u8_mod n
  have HE:Hid (bstr (be (n / 256) wd) ++ strOfNums [(n:Int) % 256]=bstr (be n (wd+1))):=by rw [Hid,zgz,za1];rfl
  have hsz1:(bstr (be (n / 256) wd)).size=wd:=by rw [za8,zaL]
  have hsz2:(strOfNums [(n:Int) % 256]).size=1:=by rw [strOfNums_size];rfl
  have hnot:¬ (9223372036854775807<wd+1):=by omega
  go_enter Tryz.func117,Tryz.ntmps117
  go_wp2
  go_region_held_law (fun _=>True) (trivial) (first | (go_at_call 117;refine (HC.out _).mono ?_;rintro e w1 ⟨rfl,hb1⟩;obtain ⟨hc1,hf1⟩:=zaG hb1))
  all_goals go_wp2
  all_goals go_ret
  ·exact ⟨by rw [← HE.out];rfl,zaO ((Below.refl _ w).drew.trans hb1) _⟩
  ·exact ⟨by rw [← HE.out];rfl,(zaO (Below.refl _ w) _).drew.trans (hb1.mono (by simp))⟩
  ·exact ⟨by rw [← HE.out];rfl,(zaO (Below.refl _ w) _).drew.trans (hb1.mono (by simp))⟩
theorem znR (n:Int)(wd:Nat)(w:World)(hw:wd≤8)(h0:0≤n)(h1:n<9223372036854775808) :
  Calls Tryz.prog 117 #[.int .i64 n,.int .i64 wd] w fun e w' => e = .returned (.string (bstr (be n.toNat wd)))∧Below w.heap.size w w' := by
 have:=znQ wd n.toNat w hw (by omega)
 rwa [show ((n.toNat:Nat):Int)=n by omega] at this
set_option maxRecDepth 100000 in
theorem zbi (v:Value)(L:List At)(w:World)(hv:SliceOf w v L)(hf:∀ a∈L,fit2 a)(hlen:L.length≤8388608) :
  Calls Tryz.prog 116 #[v] w fun e w' => e = .returned (.string (bstr (be L.length 8 ++ encL L)))∧Below w.heap.size w w' := by
 have HV:Hid (SliceOf w v L):=hv
 have HF:Hid (∀ a∈L,fit2 a):=hf
 obtain ⟨ad,cap,rfl,hcap,-⟩:=hv
 clear hf
 have hc0:=znR (L.length:Int) 8 w (by omega) (by omega) (by omega)
 rw [show ((L.length:Int)).toNat=L.length by omega] at hc0
 go_enter Tryz.func116,Tryz.ntmps116
 go_wp2_with fail
 refine (show Calls Tryz.prog 117 #[.int .i64 (L.length:Int),.int .i64 8] w _ from hc0).mono ?_
 rintro e w1 ⟨rfl,hb1⟩
 clear hc0
 go_wp2
 go_loopw [3,4] (fun s j wr=>∃ k:Nat,k≤L.length∧j = .int .i64 k∧Hid (s = .string (bstr (be L.length 8 ++ encL (L.take k))))∧Below w.heap.size w wr) (fun _ j _=>L.length - (intOf j).toNat)
 case atStart=>exact ⟨0,Nat.zero_le _,rfl,by simp [Hid,encL],hb1⟩
 case round =>
  obtain ⟨k,hk,rfl,hs,hbw⟩:=hrel
  by_cases hl:k<L.length
  ·obtain ⟨ad',cap',e',-,HS⟩:=HV.out.below hbw
   cases e'
   obtain ⟨b,off,rfl,hb,hrow⟩:=HS (by omega)
   obtain ⟨c0,c1,c2,c3,c4,c5⟩:=hrow.nth hl
   have hfa:=HF.out _ (zg6 L k hl)
   have hsn:encL (L.take (k+1))=encL (L.take k) ++ encA (nth L k):=by rw [List.take_succ_eq_append_getElem hl,zcQ,zg5 L k hl]
   have hle:=zcP (L.take k) (fun a ha=>HF.out a (List.mem_of_mem_take ha))
   have hlt:=List.length_take_le k L
   generalize nth L k=a at *
   have HSN:Hid (be L.length 8 ++ encL (L.take (k+1))=(be L.length 8 ++ encL (L.take k)) ++ encA a):=by rw [Hid,hsn,List.append_assoc]
   have hN:(bstr (be L.length 8 ++ encL (L.take k))).size≤549755813888:=by rw [za8,List.length_append,zaL];omega
   obtain rfl:=hs.out
   clear hrow hsn hle hlt HS hs
   generalize hys:be L.length 8 ++ encL (L.take k)=ys at *
   obtain ⟨ty,key,side,who,elem,n⟩:=a
   obtain ⟨a1,a2,a3,a4,a5,a6,a7,a8,a9,a10⟩:=hfa
   simp only at *
   have HW:Hid (∀ (W:World) (x:Int),0≤x→x≤4294967296→Calls Tryz.prog 117 #[.int .i64 x,.int .i64 1] W fun e w' => e = .returned (.string (bstr (be x.toNat 1)))∧Below W.heap.size W w'):=fun W x h0 h1=>znR x 1 W (by omega) h0 (by omega)
   have HW4:Hid (∀ (W:World) (x:Int),0≤x→x≤4294967296→Calls Tryz.prog 117 #[.int .i64 x,.int .i64 4] W fun e w' => e = .returned (.string (bstr (be x.toNat 4)))∧Below W.heap.size W w'):=fun W x h0 h1=>znR x 4 W (by omega) h0 (by omega)
   obtain ⟨N,hN0⟩:∃ N,(bstr ys).size=N:=⟨_,rfl⟩
   rw [hN0] at hN
   have hk1:∀ x,(bstr (be x 1)).size=1:=fun x=>by rw [za8,zaL]
   have hk4:∀ x,(bstr (be x 4)).size=4:=fun x=>by rw [za8,zaL]
   have hsa:∀ x y:ByteArray,(x ++ y).size=x.size+y.size:=fun x y=>by simp
   have p1:¬ 9223372036854775807<N+1:=by omega
   have p2:¬ 9223372036854775807<N+1+1:=by omega
   have p3:¬ 9223372036854775807<N+1+1+key.size:=by omega
   have p4:¬ 9223372036854775807<N+1+1+key.size+1:=by omega
   have p5:¬ 9223372036854775807<N+1+1+key.size+1+1:=by omega
   have p6:¬ 9223372036854775807<N+1+1+key.size+1+1+1:=by omega
   have p7:¬ 9223372036854775807<N+1+1+key.size+1+1+1+elem.size:=by omega
   have p8:¬ 9223372036854775807<N+1+1+key.size+1+1+1+elem.size+4:=by omega
   have hS0:=zlz (x0 := .int .i64 ty) (x1 := .string key) (x2 := .int .i64 side) (x3 := .int .i64 who) (x4 := .string elem) (x5 := .int .i64 n) (e:=76) rfl hbw
   go_wp2
   go_region_held3 (fun w' => Below w.heap.size w w' ∧ wr.heap.size<w'.heap.size∧w'.cell? ⟨wr.heap.size,0,none⟩=some (.int .i64 ty)∧w'.cell? ⟨wr.heap.size,1,none⟩=some (.string key)∧w'.cell? ⟨wr.heap.size,2,none⟩=some (.int .i64 side)∧w'.cell? ⟨wr.heap.size,3,none⟩=some (.int .i64 who)∧w'.cell? ⟨wr.heap.size,4,none⟩=some (.string elem)∧w'.cell? ⟨wr.heap.size,5,none⟩=some (.int .i64 n)) (first | assumption | exact zly (by assumption) hbN | exact zlx (by assumption) | go_keep) (first | (go_at_call 117;refine zbk (rfl:_=#[Value.int IntKind.i64 _,Value.int IntKind.i64 1]) (HW.out _ _ ?_ ?_) ?_;omega;omega;rintro e wN ⟨rfl,hbN⟩) | (go_at_call 117;refine zbk (rfl:_=#[Value.int IntKind.i64 _,Value.int IntKind.i64 4]) (HW4.out _ _ ?_ ?_) ?_;omega;omega;rintro e wN ⟨rfl,hbN⟩) | fail)
   have hbe:=(by assumption:Below w.heap.size w wN∧_).1
   clear hS0
   go_wp2
   refine ⟨⟨k+1,by omega,by go_num,?_,hbe⟩,by simp [intOf];omega⟩
   rw [Hid,HSN.out]
   simp only [encA,← za1,za7,ByteArray.append_assoc]
  ·have hkl:k=L.length:=by omega
   subst hkl
   obtain rfl:=hs.out
   rw [List.take_length]
   generalize hys:be L.length 8 ++ encL L=ys at *
   go_wp2
   go_ret
   exact ⟨rfl,hbw⟩
end Go.Proofs.YtahdlejgjcjeoabGreatDoor
