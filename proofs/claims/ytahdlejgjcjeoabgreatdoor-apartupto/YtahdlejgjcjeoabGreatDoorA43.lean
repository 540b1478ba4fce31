/- Walk of the document's network: Send, what is new (BP false). -/
import Derived.Test.YtahdlejgjcjeoabGreatDoorA42
import Derived.Test.YtahdlejgjcjeoabGreatDoorA40
namespace Go.Proofs.YtahdlejgjcjeoabGreatDoor
set_option maxHeartbeats 8000000
open Go.RowKit Go.MuLone
section
variable {w:World} {col:Col} {o x N:Nat} {U:List At} {K:PrK} {c:Clu} {f:Frm} {v:Value}
theorem zaA {W:World}{col1:Col}{K2:PrK}{c2:Clu}(hA:PrAt W col1 o x { K2 with lk:=1 })(his:K2.is c2)(hn:∀ i (h:i<K2.Ds.length),(K2.Ds[i]).n≤4194304)(h200:K2.ns.length≤200)(hfr:FrC (ofOwn o) col col1 w W)(a b u:Nat) :
  Calls Tryz.prog 79 #[.pointer (some ⟨x,0,none⟩),.agg #[.int .i64 3,.int .i64 a,.int .i64 b,.int .i64 u,.slice none 0 0]] W (ArrP w col o x (c2.put ⟨3,a,b,u,[]⟩)):=by
 refine (zi5 (f:=⟨3,a,b,u,[]⟩) (v := .slice none 0 0) hA h200 ⟨none,0,rfl,Nat.le_refl _,fun h=>by simp at h⟩).mono ?_
 rintro e w' ⟨rfl,v',ns',col',p1,p2,p3⟩
 obtain ⟨u0,u1,u2,u3⟩:=PrB.unlock (K:=K2.setN v' ns') p1.out his.lk
 refine ⟨rfl,u0,u1,K2.setN v' ns',col',⟨u2,?_,hn⟩,(hfr.trans (p3.out.mono zgS)).trans (u3.mono zhh)⟩
 rw [zjA]
 exact his.setN (by rw [p2.out];show putN (K2.ns.map Fm.f) _=_;rw [his.nets])
theorem ArrH.below {w' : World}(h:ArrH w col o x K c U N f v)(hb:Below w.heap.size w w'):ArrH w' (paint col w.heap.size (o,1)) o x K c U N f v :=
 ⟨h.at_.below hb (o,1),h.is,h.n,h.o0,h.tab.kept (S:=fun _=>False) (zdH hb (o,1)) id,h.ok,h.lim,h.held.kept (S:=fun _=>False) (zdH hb (o,1)) id,h.fok,h.far⟩
theorem zlq {c:Clu}{i:Nat}(hi:i<c.reps.length):c.setRep i (c.rep i)=c:=by
 unfold Clu.setRep
 have:c.reps.set i (c.rep i)=c.reps:=by
  apply List.ext_getElem?
  intro j
  rw [List.getElem?_set]
  by_cases e:i=j
  ·subst e
   rw [if_pos rfl,if_pos hi,Clu.rep,List.getD_eq_getElem?_getD,List.getElem?_eq_getElem hi]
   rfl
  ·rw [if_neg e]
 rw [this]
set_option maxRecDepth 100000 in
theorem ziO (h:ArrH w col o x K c U N f v)(hdn:(c.rep f.dst).down=false)(hk3:f.kind ≠ 3) :
  Calls Tryz.prog 101 #[.pointer (some ⟨x,0,none⟩),.agg #[.int .i64 f.kind,.int .i64 f.src,.int .i64 f.dst,.int .i64 f.upto,v]] w (ArrP w col o x (c.arrived f)):=by
 obtain ⟨ad,cp,hv,-⟩:=id h.held
 subst hv
 have hbA:=zaO (Below.refl _ w) (.cells #[.int .i64 f.kind,.int .i64 f.src,.int .i64 f.dst,.int .i64 f.upto,.slice ad f.d.length cp] 110)
 have hfb:=heap_alloc_new w (.cells #[.int .i64 f.kind,.int .i64 f.src,.int .i64 f.dst,.int .i64 f.upto,.slice ad f.d.length cp] 110)
 have h1:=h.below hbA
 obtain ⟨k41,kup,-,-,hx,hR⟩:=h1.cell
 rw [hdn] at kup
 have hlt:=h.lt
 have hn6:=h.ok.n6
 have hd6:f.dst<6:=Nat.lt_of_lt_of_le h.fok.dst hn6
 have hrep:=h.ok.rep h.fok.dst
 have hD:=h.is.reps f.dst hlt
 have hmayA:∀ a∈(c.rep f.dst).atoms,mayB a=true:=fun a ha=>h.ok.may a (hrep.sub a ha)
 have hmayD:∀ a∈f.d,mayB a=true:=fun a ha=>h.ok.may a (h.fok.sub a ha)
 have hdl:f.d.length≤131072:=Nat.le_trans (h.fok.told.length h.fok.sub) h.lim.2
 have h200:K.ns.length≤200:=by rw [show K.ns.length=c.net.length by rw [← h.is.nets,List.length_map]];exact h.ok.netL
 have hca:c.arrived f=(c.setRep f.dst ((c.rep f.dst).arrive c.room c.rr f.d f.src)).put ⟨3,f.dst,f.src,f.upto,[]⟩:=by unfold Clu.arrived;rw [hdn,if_neg (by decide),if_neg hk3]
 generalize hw1:w.alloc (.cells #[.int .i64 f.kind,.int .i64 f.src,.int .i64 f.dst,.int .i64 f.upto,.slice ad f.d.length cp] 110)=w1 at *
 have hfr1:FrC (ofOwn o) col (paint col w.heap.size (o,1)) w w1:=zdH hbA (o,1)
 have hct:paint col w.heap.size (o,1) w.heap.size=(o,1):=zim col _ (Nat.le_refl _)
 generalize paint col w.heap.size (o,1)=col1 at *
 -- unknown
 have HUN:Hid (∀ W,Below w1.heap.size w1 W→W.cell? ⟨x,3,none⟩=some (.bool c.rr)∧Calls Tryz.prog 147 #[.pointer (some ⟨K.R,f.dst*14,none⟩),.slice ad f.d.length cp,.bool c.rr] W fun e w' => Below W.heap.size W w' ∧ ∃ v',e = .returned v' ∧ Hid (if c.rr=false∧fresh f.d (c.rep f.dst).atoms ≠ [] then v' = .slice ad f.d.length cp else w'.ownsRow W.heap.size 76 6 v' (fresh f.d (c.rep f.dst).atoms).length (flat (fresh f.d (c.rep f.dst).atoms)))):=fun W hW=>by
  have hW2:=h1.same hW
  exact ⟨hW2.cell.2.2.1,zjt K.R f.dst K.Ds[f.dst] W hW2.tab.rules (hW2.at_.cells hlt).c3 ((hW2.at_.reps f.dst hlt (by simp)).st) (c.rep f.dst).atoms hD.M _ f.d hW2.held.slice hmayD hdl c.rr⟩
 have hfree:fresh f.d (c.rep f.dst).atoms = []→c.arrived f=c.put ⟨3,f.dst,f.src,f.upto,[]⟩:=fun hf=>by
  rw [hca]
  have:(c.rep f.dst).arrive c.room c.rr f.d f.src=c.rep f.dst:=by unfold Rep.arrive;rw [if_pos hf]
  rw [this,zlq h.fok.dst]
 have HLN:Hid (fresh f.d (c.rep f.dst).atoms = []→∀ W,Below w1.heap.size w1 W→Calls Tryz.prog 79 #[.pointer (some ⟨x,0,none⟩),.agg #[.int .i64 3,.int .i64 f.dst,.int .i64 f.src,.int .i64 f.upto,.slice none 0 0]] W (ArrP w col o x (c.arrived f))):=fun hf W hW=>by
  rw [hfree hf]
  exact zaA ((h1.at_).same hW) h.is h.n h200 (hfr1.trans (zdJ hW)) _ _ _
 have HTK:Hid (fresh f.d (c.rep f.dst).atoms ≠ []→∀ (w2:World) (v2:Value),Below w1.heap.size w1 w2→(if c.rr=false∧fresh f.d (c.rep f.dst).atoms ≠ [] then v2 = .slice ad f.d.length cp else w2.ownsRow w1.heap.size 76 6 v2 (fresh f.d (c.rep f.dst).atoms).length (flat (fresh f.d (c.rep f.dst).atoms)))→(∃ ad2 n2 cp2,v2 = .slice ad2 n2 cp2∧0<n2)∧∀ W,Below w2.heap.size w2 W→W.cell? ⟨x,4,none⟩=some (.int .i64 c.room)∧Calls Tryz.prog 62 #[.pointer (some ⟨K.R,f.dst*14,none⟩),v2,.int .i64 f.src,.int .i64 c.room] W fun e w' => e = .returned (.tuple #[])∧w'.heap[w.heap.size]? = W.heap[w.heap.size]? ∧ ∀ W',Below w'.heap.size w' W' → Calls Tryz.prog 79 #[.pointer (some ⟨x,0,none⟩),.agg #[.int .i64 3,.int .i64 f.dst,.int .i64 f.src,.int .i64 f.upto,.slice none 0 0]] W' (ArrP w col o x (c.arrived f))):=fun hf w2 v2 hb2 hcase=>by
  have h2:=h1.below hb2
  have htl:w.heap.size<w1.heap.size:=zaY hfb
  have hct2:paint col1 w1.heap.size (o,1) w.heap.size=(o,1):=by rw [zin _ _ htl];exact hct
  obtain ⟨DL,hDL,hmay,hsub,hle,hpos,harr⟩:∃ DL,Held w2 (paint col1 w1.heap.size (o,1)) (o,1) v2 DL∧(∀ a∈DL,mayB a=true)∧(∀ a∈DL,a∈U)∧DL.length≤131072∧0<DL.length∧(c.rep f.dst).arrive c.room c.rr f.d f.src=(c.rep f.dst).take c.room DL f.src:=by
   have hfp:0<(fresh f.d (c.rep f.dst).atoms).length:=List.length_pos_iff.2 hf
   have hfs:∀ a∈fresh f.d (c.rep f.dst).atoms,a∈f.d:=zdS h.fok.told
   have hfl:=(zdT (m:=(c.rep f.dst).atoms) h.fok.told).length (U:=U) (fun a ha=>h.fok.sub a (hfs a ha))
   by_cases hrr:c.rr=false
   ·rw [if_pos ⟨hrr,hf⟩] at hcase
    refine ⟨f.d,by rw [hcase];exact h2.held,hmayD,h.fok.sub,hdl,?_,by unfold Rep.arrive;rw [if_neg hf,hrr];rfl⟩
    obtain ⟨a,ha⟩:=List.exists_mem_of_length_pos hfp
    exact List.length_pos_of_mem (hfs a ha)
   ·rw [if_neg (fun e=>hrr e.1)] at hcase
    refine ⟨fresh f.d (c.rep f.dst).atoms,zeP rfl hcase,fun a ha=>hmayD a (hfs a ha),fun a ha=>h.fok.sub a (hfs a ha),Nat.le_trans hfl h.lim.2,hfp,?_⟩
    unfold Rep.arrive
    rw [if_neg hf,show c.rr=true by simpa using hrr]
    rfl
  obtain ⟨ad2,cp2,hv2,-⟩:=id hDL
  refine ⟨⟨ad2,DL.length,cp2,hv2,hpos⟩,fun W hW => ?_⟩
  have h3:=h2.same hW
  refine ⟨h3.cell.2.2.2.1,?_⟩
  have hI:=PrAt.inside h3.at_ (by show K.Ds.length≤6;rw [h.is.len];exact hn6) hlt
  have hes:(K.Ds[f.dst]).es.length≤1024:=by
   have:=hrep.bufL
   rw [← hD.buf,List.length_map] at this
   have:=h.ok.room8
   omega
  refine (zjq hI h.o0 h3.tab v2 DL (hDL.kept (S:=fun _=>False) (zdJ hW) id) hmay hle f.src c.room (by show (K.Ds[f.dst]).num≤_;rw [hD.num];have:=hrep.num;have:=h.lim.1;omega) (by show (K.Ds[f.dst]).bytes.length≤_;rw [hD.bytes];have:=zgc hrep h.lim;omega) hes (by have:=h.n f.dst hlt;show (K.Ds[f.dst]).n≤_;omega)).mono ?_
  rintro e w3 ⟨rfl,col3,vb3,vl3,hI3,hF3⟩
  have htW:w.heap.size<W.heap.size:=Nat.lt_of_lt_of_le htl (Nat.le_trans hb2.size hW.size)
  refine ⟨rfl,hF3.out.fr.block _ htW (by rw [hct2];exact zhj hd6),fun W' hW' => ?_⟩
  have hD3:=hD.take hrep h.ok.room1 (zmW hrep hdn) v2 DL f.src vb3 vl3
  obtain ⟨D4,hD4,hn4,hA4⟩:=hI3.out.norm2 hD3 (U:=U) (fun a ha=>by
   have:a∈(c.rep f.dst).atoms ++ DL:=by
    rw [hrep.take_eq _ _ h.ok.room1] at ha
    split at ha <;> exact ha
   rcases List.mem_append.1 this with h5 | h5
   ·exact hrep.sub a h5
   ·exact hsub a h5) h.lim.2
  rw [hca,harr]
  exact zaA (K2:=K.setD f.dst D4) (hA4.same hW') (h.is.set h.fok.dst hD4) (zlo h.n hn4) h200 ((((hfr1.trans (zdH hb2 (o,1))).trans (zdJ hW)).trans (hF3.out.mono zhi)).trans (zdJ hW')) _ _ _
 have k3:=(HUN.out w1 (Below.refl _ _)).1
 have HUN2:=Hid.mk (fun W hW=>(HUN.out W hW).2)
 obtain ⟨g0,g1,g2,g3,g4⟩:=zdl hfb
 have HFB:=Hid.mk hfb
 clear h h1 hbA hca hrep hD hmayA hmayD hfree hfr1 HUN hfb
 generalize fresh f.d (c.rep f.dst).atoms=FR at *
 generalize hLL:K.Ds.length=LL at *
 have q1:(f.dst:Int)<(LL:Int):=by omega
 have q0:(0:Int)≤(f.dst:Int):=by omega
 have hk3' : ¬ (f.kind:Int)=3:=by omega
 have htl:w.heap.size<w1.heap.size:=zaY HFB.out
 by_cases hfe:FR = []
 ·have HL:=Hid.mk (HLN.out hfe)
  subst hfe
  clear HTK HLN
  go_enter Tryz.func101,Tryz.ntmps101
  go_wp2
  go_quiet (fail)
  go_wp2
  go_region_law (first | (go_simp;go_at_call 147;refine (HUN2.out _ (by first | exact (below_drewN (Below.refl _ _) _).drew | exact below_drewN (Below.refl _ _) _)).mono ?_;rintro e w2 ⟨hb2,v2,rfl,hcase⟩;have HB2:=Hid.mk ((by first | exact (below_drewN (Below.refl _ _) _).drew | exact below_drewN (Below.refl _ _) _:Below w1.heap.size w1 _).trans hb2);have HCS:=Hid.mk hcase;clear hb2 hcase) | fail)
  all_goals
   obtain ⟨ad2,cp2,hv2⟩:∃ ad2 cp2,v2 = .slice ad2 0 cp2:=by
    have:=HCS.out
    rw [if_neg (by simp)] at this
    exact zh1 this
   subst hv2
   have hfb2:=(HB2.out.block _ htl).trans HFB.out
   obtain ⟨m0,m1,m2,m3,m4⟩:=zdl hfb2
   have hml:=zaY hfb2
   clear hfb2 HCS
   go_wp2_with fail
   refine (HL.out _ HB2.out).mono ?_
   rintro e w5 hP
   obtain ⟨rfl,hP2⟩:=id hP
   have HP:=Hid.mk hP
   clear hP hP2
   go_wp2
   go_end0
   exact HP.out
 ·have HT:=Hid.mk (HTK.out hfe)
  clear HTK HLN
  go_enter Tryz.func101,Tryz.ntmps101
  go_wp2
  go_quiet (fail)
  go_wp2
  go_region_law (first | (go_simp;go_at_call 147;refine (HUN2.out _ (by first | exact (below_drewN (Below.refl _ _) _).drew | exact below_drewN (Below.refl _ _) _)).mono ?_;rintro e w2 ⟨hb2,v2,rfl,hcase⟩;have HB2:=Hid.mk ((by first | exact (below_drewN (Below.refl _ _) _).drew | exact below_drewN (Below.refl _ _) _:Below w1.heap.size w1 _).trans hb2);have HCS:=Hid.mk hcase;clear hb2 hcase) | fail)
  all_goals
   obtain ⟨⟨ad2,n2,cp2,hv2,hn2⟩,HTA⟩:=HT.out w2 v2 HB2.out HCS.out
   subst hv2
   have hn2' : (0:Int)<(n2:Int):=by omega
   have k4:=(HTA w2 (Below.refl _ _)).1
   have HTB:=Hid.mk (fun W hW=>(HTA W hW).2)
   have hfb2:=(HB2.out.block _ htl).trans HFB.out
   obtain ⟨m0,m1,m2,m3,m4⟩:=zdl hfb2
   have hml:=zaY hfb2
   have HM2:=Hid.mk hfb2
   clear hfb2 HCS HTA
   go_wp2
   go_region_law (first | (go_simp;go_at_call 62;refine (HTB.out _ (by first | exact (Below.refl _ _).drew | exact Below.refl _ _)).mono ?_;rintro e w3 ⟨rfl,htt,hla⟩;have HLA:=Hid.mk hla;have htt2:w3.heap[w.heap.size]? = some (.cells #[.int .i64 f.kind,.int .i64 f.src,.int .i64 f.dst,.int .i64 f.upto,.slice ad f.d.length cp] 110 (0,0)):=htt.trans HM2.out;obtain ⟨l0,l1,l2,l3,l4⟩:=zdl htt2;have hll:=zaY htt2;clear htt htt2 hla) | fail)
   all_goals
    go_wp2_with fail
    refine (HLA.out _ (Below.refl _ _)).mono ?_
    rintro e w5 hP
    obtain ⟨rfl,hP2⟩:=id hP
    have HP:=Hid.mk hP
    clear hP hP2
    go_wp2
    go_end0
    exact HP.out
end
theorem ziL {w:World}{col:Col}{o x N:Nat}{U:List At}{K:PrK}{c:Clu}{f:Frm}{v:Value}(h:ArrH w col o x K c U N f v) :
  Calls Tryz.prog 101 #[.pointer (some ⟨x,0,none⟩),.agg #[.int .i64 f.kind,.int .i64 f.src,.int .i64 f.dst,.int .i64 f.upto,v]] w (ArrP w col o x (c.arrived f)):=by
 cases hd:(c.rep f.dst).down with
 | true=>exact ziN h hd
 | false =>
  by_cases hk:f.kind=3
  ·exact ziM h hd hk
  ·exact ziO h hd hk
set_option maxRecDepth 100000 in
theorem ziW {w:World}{col:Col}{o x N:Nat}{U:List At}{K:PrK}{c:Clu}(h:PrgAt w col o x K c)(ho:o ≠ 0)(hT:Tab w col)(hok:c.ok U N)(hL:Lim U N)(hfar:∀ i j,c.reps.length≤j→c.near i j=false)(k:Int) :
  Calls Tryz.prog 49 #[.pointer (some ⟨x,0,none⟩),.int .i64 k] w fun e w' => e = .returned (.int .i64 (c.netErr k))∧∃ K' col',Hid (PrgAt w' col' o x K' (c.deliver k))∧Hid (FrC (ofOwn o) col col' w w'):=by
 have hcl:=h.at_.clAt h.is.lk
 by_cases hk:0≤k∧k<c.net.length
 ·obtain ⟨m,rfl⟩:∃ m:Nat,k=m:=⟨k.toNat,by omega⟩
  have hm:m<c.net.length:=by omega
  obtain ⟨e1,-,-,e2⟩:=zgQ hm
  rw [e1,e2]
  have hmn:m<K.ns.length:=by rw [h.lenN];exact hm
  have hl200:K.ns.length≤200:=by rw [h.lenN];exact hok.netL
  obtain ⟨k1,k2⟩:=h.locked
  have hfm:c.frm m=(K.ns[m]).f:=by
   unfold Clu.frm
   rw [← h.is.nets,List.getD_eq_getElem?_getD,List.getElem?_map,List.getElem?_eq_getElem hmn]
   rfl
  have hin:(K.ns[m]).f∈c.net:=by rw [← h.is.nets];exact List.mem_map_of_mem (List.getElem_mem hmn)
  have HFR:=Hid.mk (zdQ (k:=m) k1 hmn)
  have HLO:=Hid.mk (fun W (hb:Below (w.setCell ⟨x,0,none⟩ (.int .i32 1)).heap.size (w.setCell ⟨x,0,none⟩ (.int .i32 1)) W)=>zi8 (k1.below hb (o,1)) hmn hl200)
  have HAR:Hid (∀ (W W' : World) (v' : Value),Below (w.setCell ⟨x,0,none⟩ (.int .i32 1)).heap.size (w.setCell ⟨x,0,none⟩ (.int .i32 1)) W→PrB W' (paint col (w.setCell ⟨x,0,none⟩ (.int .i32 1)).heap.size (o,1)) o x none (({ K with lk:=1 }:PrK).setN v' (K.ns.eraseIdx m))→FrC (netS o) (paint col (w.setCell ⟨x,0,none⟩ (.int .i32 1)).heap.size (o,1)) (paint col (w.setCell ⟨x,0,none⟩ (.int .i32 1)).heap.size (o,1)) W W' →
    (∀ t,(w.setCell ⟨x,0,none⟩ (.int .i32 1)).heap.size≤t→t<W.heap.size→W'.heap[t]? = W.heap[t]?)∧Calls Tryz.prog 101 #[.pointer (some ⟨x,0,none⟩),.agg (K.ns[m]).cells.toArray] W' fun e w' => e = .returned (.tuple #[])∧w'.cell? ⟨x,0,none⟩=some (.int .i32 1)∧w'.frozen? ⟨x,0,none⟩=false∧∃ K' col',Hid (PrgAt (w'.setCell ⟨x,0,none⟩ (.int .i32 0)) col' o x K' ((c.out m).arrived (c.frm m)))∧Hid (FrC (ofOwn o) col col' w (w'.setCell ⟨x,0,none⟩ (.int .i32 0)))):=fun W W' v' hb h1 h2=>by
   have hF:FrC (ofOwn o) col (paint col (w.setCell ⟨x,0,none⟩ (.int .i32 1)).heap.size (o,1)) w W' := (k2.trans (zdH hb (o,1))).trans (h2.mono zgS)
   refine ⟨fun t h3 h4=>h2.fr.block t h4 (by rw [zim _ _ h3];exact zgR (by omega) (by omega)),?_⟩
   have hA:ArrH W' (paint col (w.setCell ⟨x,0,none⟩ (.int .i32 1)).heap.size (o,1)) o x (K.setN v' (K.ns.eraseIdx m)) (c.out m) U N (c.frm m) (K.ns[m]).v:={
    at_:=h1
    is:=h.is.setN (by rw [zgn,h.is.nets])
    n:=h.n
    o0:=ho
    tab:=hT.kept hF (fun e=>ho e.symm)
    ok:=hok.out m
    lim:=hL
    held:=by
     rw [hfm]
     exact ((k1.netd _ (List.getElem_mem hmn)).kept (S:=fun _=>False) (zdH hb (o,1)) id).kept h2 (zgR (by omega) (by omega))
    fok:=by rw [hfm];exact hok.net _ hin
    far:=fun j hj=>hfar _ j hj }
   refine Calls.mono (show Calls Tryz.prog 101 #[.pointer (some ⟨x,0,none⟩),.agg (K.ns[m]).cells.toArray] W' _ from by have:=ziL hA;rw [hfm] at this;exact this) ?_
   rintro e w' ⟨rfl,u0,u1,K',col',p1,p2⟩
   rw [hfm]
   exact ⟨rfl,u0,u1,K',col',p1,hF.trans p2.out⟩
  obtain ⟨adv,cpv,hvv,-⟩:=h.at_.netd _ (List.getElem_mem hmn)
  clear k1 k2 h hok hfm hin hT hL hfar
  unfold Fm.cells at HFR HAR
  generalize K.ns[m]=fm at *
  obtain ⟨⟨f0,f1,f2,f3,fd⟩,fv⟩:=fm
  simp only at hvv HFR HAR
  subst hvv
  go_enter_defers Tryz.func49,Tryz.ntmps49
  go_wp2_with (go_at_call 44;refine (lock_free zgD ⟨x,0,none⟩ _ hcl.c0 hcl.f0).mono ?_;rintro e w' ⟨rfl,rfl⟩)
  refine HFR.out.mono ?_
  rintro e w2 ⟨rfl,hb2⟩
  go_wp2_with fail
  refine (HLO.out _ (zaO hb2 _)).mono ?_
  rintro e w3 ⟨rfl,v',h3,f3'⟩
  obtain ⟨hkeep,har⟩:=HAR.out _ _ v' (zaO hb2 _) h3.out f3'.out
  have hfb:=(hkeep w2.heap.size hb2.size (by simp)).trans (heap_alloc_new w2 _)
  obtain ⟨l0,l1,l2,l3,l4⟩:=zdl hfb
  have hll:=zaY hfb
  have HARR:=Hid.mk har
  clear har hkeep hfb h3 f3' HAR HLO HFR hb2
  go_wp2_with fail
  refine HARR.out.mono ?_
  rintro e w4 ⟨rfl,u0,u1,K4,col4,hK4,hF4⟩
  clear HARR
  go_wp2
  refine leaves_cons (f:=45) (args:=#[.pointer (some ⟨x,0,none⟩)]) (by simp) (by simp [go_sem]) ?_
  refine (unlock_deferred zgD ⟨x,0,none⟩ .returning _ u0 u1).mono ?_
  rintro e u' w'' ⟨rfl,rfl,rfl⟩
  exact ⟨_,results_tmp rfl _ _ _,rfl,K4,col4,hK4,hF4⟩
 ·obtain ⟨e1,-,-,e2⟩:=zgP hk
  rw [e1,e2]
  obtain ⟨ad,cap,hv,_⟩:=h.at_.net.form
  have c42:=h.at_.cl.2.2.2.2.2.1
  rw [hv] at c42
  exact (ziX x K.R _ _ k w hcl ad K.ns.length cap c42 (by rw [h.lenN];exact hk)).mono fun e w' ⟨h1,h2⟩=>⟨h1,K,col,h.same h2,zdJ h2⟩
open Go.RowKit
set_option maxRecDepth 100000 in
theorem zkl {w:World}{col:Col}{o x N:Nat}{U:List At}{K:RefC}{c:Clu}(h:RefAt w col o x K c)(hok:c.ok U N)(hL:Lim U N)(m k:Nat)(hr:m<c.reps.length)(hrq:k<c.reps.length)(hnr:c.near m k=true)(hdn:(c.rep m).down=false)(hlt:(c.rep m).acked.getD k 0<(c.rep m).base) :
  Calls Tryz.prog 33 #[.pointer (some ⟨x,0,none⟩),.int .i64 m,.int .i64 k] w fun e w' => e = .returned (.int .i64 0)∧∃ K' col',Hid (RefAt w' col' o x K' (c.sent m k))∧Hid (FrC (ofOwner o) col col' w w'):=by
 have HT1:=Hid.mk (zkr h m)
 have HT2:=Hid.mk (zkr h k)
 rw [show c.there m=true by simp [Clu.there];omega] at HT1
 rw [show c.there k=true by simp [Clu.there];omega] at HT2
 have hn6:=hok.n6
 obtain ⟨g,cap,D,hv,hc,hD,hp,hR⟩:=h.ptr hr
 have c5:=h.cells.2.2.2.2.2.1
 have c2:=h.cells.2.2.1
 rw [hv] at c5
 have hx:=zaY h.blk
 have hg:g<w.heap.size:=World.block_lt_of_cell? w ⟨g,m,none⟩ hp
 have hρ:=zaY hR.blk
 have d0:=hR.cells.1
 have d5:=hR.cells.2.2.2.2.2.1
 obtain ⟨gn,cn,hvn,-,-,hgn,-,hrown,-⟩:=hR.near.at (show 0<(nearRow c m).length by unfold nearRow;simp;omega)
 have hnl:(nearRow c m).length=c.reps.length:=by unfold nearRow;simp
 rw [hvn,hnl] at d5
 have n1:w.cell? ⟨gn,k,none⟩=some (.bool (c.near m k)):=hrown k _ (by
  unfold nearRow
  rw [List.map_map,List.getElem?_map,List.getElem?_range (by omega)]
  rfl)
 rw [hnr] at n1
 rw [hdn] at d0
 have hrep:=hok.rep hr
 have HHR:=Hid.mk hR
 have HOK:=Hid.mk hok
 have d2:=hR.cells.2.2.1
 have d3:=hR.cells.2.2.2.1
 have d1:=hR.cells.2.1
 obtain ⟨adA,cpA,hvA,-⟩:=id hR.atoms
 rw [hvA] at d1
 have hakL:(c.rep m).acked.length=c.reps.length:=hrep.ackL
 obtain ⟨gk,ck,hvk,-,-,hgk,-,hrow,-⟩:=hR.acked.at (by omega)
 have d6:=hR.cells.2.2.2.2.2.2.1
 rw [hvk,hakL] at d6
 have k1:w.cell? ⟨gk,k,none⟩=some (.int .i64 ((c.rep m).acked.getD k 0)):=hrow k _ (by
  unfold ints
  rw [List.getElem?_map,List.getD_eq_getElem?_getD,List.getElem?_eq_getElem (by omega)]
  rfl)
 have hal:(c.rep m).atoms.length≤274878038016:=Nat.le_trans hrep.alen hL.prod
 have HFL:Hid (((c.rep m).frame c.bp m k).d.length≤131072):=by
  have hfo:=zdP HOK.out (r:=m) (q:=k) hr hrq
  exact Nat.le_trans (hfo.told.length hfo.sub) hL.2
 have HTD:Hid (∀ W,Below w.heap.size w W→Calls Tryz.prog 76 #[.slice adA (c.rep m).atoms.length cpA] W fun e w' => ∃ v',e = .returned v' ∧ w'.ownsRow W.heap.size 76 6 v' (tell (c.rep m).atoms).length (flat (tell (c.rep m).atoms))∧Below W.heap.size W w'):=fun W hW=>by
  refine (zmP _ (c.rep m).atoms W (by rw [← hvA];exact HHR.out.atoms.slice.below hW) (fun a ha=>zdj (HOK.out.may a (hrep.sub a ha))) (by omega)).mono ?_
  rintro e w'' ⟨v',L',rfl,ho,hT,hb⟩
  rw [hT.out.unique (hrep.may HOK.out.may) (zmr _)] at ho
  exact ⟨v',rfl,ho,hb⟩
 have HFR:Hid ((c.rep m).frame c.bp m k=⟨2,m,k,(c.rep m).num,tell (c.rep m).atoms⟩):=if_pos hlt
 have HTL:=Hid.mk (fun wz vS=>zlh (wz:=wz) (vS:=vS) (k:=k) h hok hr hD hR (kd:=2) (DD:=tell (c.rep m).atoms) (hfr:=HFR.out))
 have hq6:c.reps.length≤6:=hn6
 clear hrown hrow
 generalize hLL:c.reps.length=L at *
 have q1:(m:Int)<(L:Int):=by omega
 have q2:(k:Int)<(L:Int):=by omega
 have hfrN:=hrep.fr
 have hwtN:=Nat.le_trans hrep.wt (Nat.mul_le_mul hL.1 hL.2)
 have hLN:=hL.1
 clear hok hR h
 go_enter Tryz.func33,Tryz.ntmps33
 go_wp2_with fail
 refine HT1.out.mono ?_
 rintro e w' ⟨rfl,rfl⟩
 go_wp2_with fail
 refine HT2.out.mono ?_
 rintro e w'' ⟨rfl,rfl⟩
 have hab:=heap_alloc_new w'' (.cells #[.int .i64 1,.int .i64 m,.int .i64 k,.int .i64 (c.rep m).num,.slice none 0 0] 162)
 have hb1:=zaO (Below.refl _ w'') (.cells #[.int .i64 1,.int .i64 m,.int .i64 k,.int .i64 (c.rep m).num,.slice none 0 0] 162)
 go_wp2
 generalize w''.alloc (.cells #[.int .i64 1,.int .i64 m,.int .i64 k,.int .i64 (c.rep m).num,.slice none 0 0] 162)=w1 at *
 have z1:=(hb1.cell (p:=⟨D.ρ,1,none⟩) hρ).trans d1
 have z3:=(hb1.cell (p:=⟨D.ρ,3,none⟩) hρ).trans d3
 have z6:=(hb1.cell (p:=⟨D.ρ,6,none⟩) hρ).trans d6
 have zk:=(hb1.cell (p:=⟨gk,k,none⟩) hgk).trans k1
 have hρ1:=Nat.lt_of_lt_of_le hρ hb1.size
 have hgk1:=Nat.lt_of_lt_of_le hgk hb1.size
 have hB1:=zaY hab
 obtain ⟨e0,e1,e2,e3,e4⟩:=zdl hab
 have hfz:=zaZ hab
 have hf0:=hfz 0
 have hf4:=hfz 4
 have HAB:=Hid.mk hab
 have HB1:=Hid.mk hb1
 generalize (c.rep m).acked.getD k 0=ak at *
 generalize hbs:(c.rep m).base=bs at *
 generalize hnm:(c.rep m).num=nm at *
 have hlt' : (ak:Int)<(bs:Int):=by omega
 go_region_held3 (fun W=>W.cell? ⟨D.ρ,6,none⟩=some (.slice (some ⟨gk,0,none⟩) L ck)∧W.cell? ⟨D.ρ,3,none⟩=some (.int .i64 bs)∧W.cell? ⟨gk,k,none⟩=some (.int .i64 ak)) (first | assumption | exact ⟨z6,z3,zk⟩) (fail)
 go_wp2_with fail
 refine (HTD.out _ (HB1.out.grown (zet w1 ⟨w''.heap.size,0,none⟩ (.int .i64 2)) hb1.size (fun q hq=>by cases hq;exact Nat.le_refl _)).drew).mono ?_
 rintro e w5 ⟨v5,rfl,ho5,hb5⟩
 obtain ⟨adS,cpS,hvS⟩:=zh1 ho5
 subst hvS
 have hsz5:(w1.setCell ⟨w''.heap.size,0,none⟩ (.int .i64 2)).drew.heap.size=w1.heap.size:=by simp [World.setCell]
 have hbb:Below w''.heap.size w'' w5:=(HB1.out.grown (zet w1 ⟨w''.heap.size,0,none⟩ (.int .i64 2)) hb1.size (fun q hq=>by cases hq;exact Nat.le_refl _)).drew.trans (hb5.mono (by rw [hsz5];exact hb1.size))
 have hbl5:w5.heap[w''.heap.size]? = some (.cells #[.int .i64 2,.int .i64 m,.int .i64 k,.int .i64 nm,.slice none 0 0] 162 (0,0)):=(hb5.block _ (by rw [hsz5];exact hB1)).trans (zeJ (w:=w1) (o:=0) HAB.out _)
 rw [hsz5] at ho5
 have HDL:Hid ((tell (c.rep m).atoms).length≤131072):=by
  have:=HFL.out
  rw [HFR.out] at this
  exact this
 clear HFL HFR HTD
 generalize tell (c.rep m).atoms=DD at *
 have HZ:Hid (Below w''.heap.size w'' (w5.setCell ⟨w''.heap.size,4,none⟩ (.slice adS DD.length cpS))):=hbb.grown (zet w5 ⟨w''.heap.size,4,none⟩ _) hbb.size (fun q hq=>by cases hq;exact Nat.le_refl _)
 have HZO:Hid ((w5.setCell ⟨w''.heap.size,4,none⟩ (.slice adS DD.length cpS)).ownsRow w''.heap.size 76 6 (.slice adS DD.length cpS) DD.length (flat DD)):=zic (zie (base:=w1.heap.size) ho5 hB1) (by omega)
 have hDN:DD.length≤131072:=HDL.out
 obtain ⟨g40,g41,g42,g43,g44⟩:=zdl hbl5
 have gf4:=zaZ hbl5 4
 have hB5:=zaY hbl5
 have y8:=(hbb.cell (p:=⟨D.ρ,8,none⟩) hρ).trans HHR.out.cells.2.2.2.2.2.2.2.2.1
 have y9:=(hbb.cell (p:=⟨D.ρ,9,none⟩) hρ).trans HHR.out.cells.2.2.2.2.2.2.2.2.2.1
 have yf8:=(hbb.frozen (p:=⟨D.ρ,8,none⟩) hρ).trans (HHR.out.cells.2.2.2.2.2.2.2.2.2.2 8)
 have yf9:=(hbb.frozen (p:=⟨D.ρ,9,none⟩) hρ).trans (HHR.out.cells.2.2.2.2.2.2.2.2.2.2 9)
 have hρ5:=Nat.lt_of_lt_of_le hρ hbb.size
 have HPU:=Hid.mk (HTL.out _ _ HZ.out HZO.out)
 have hne1:D.ρ ≠ w''.heap.size:=by omega
 have hne2:w''.heap.size ≠ D.ρ:=by omega
 clear hbl5 hbb hb5 ho5 z1 z3 z6 zk hab HAB HZ HZO HTL HHR HB1 hb1 e0 e1 e2 e3 e4 hf0 hf4 hfz HDL
 generalize (c.rep m).frames=fr at *
 generalize (c.rep m).weight=wt at *
 go_wp2
 go_region
 all_goals go_wp2_with fail
 all_goals
  refine (HPU.out _ (Below.refl _ _).drew).mono ?_
  rintro e w7 ⟨rfl,K7,col7,hR7,hF7⟩
  go_wp2
  go_ret
  exact ⟨rfl,K7,col7,hR7,hF7⟩
set_option maxRecDepth 100000 in
theorem zkj {w:World}{col:Col}{o x N:Nat}{U:List At}{K:RefC}{c:Clu}(h:RefAt w col o x K c)(hok:c.ok U N)(hL:Lim U N)(m k:Nat)(hr:m<c.reps.length)(hrq:k<c.reps.length)(hnr:c.near m k=true)(hdn:(c.rep m).down=false)(hlt:¬ (c.rep m).acked.getD k 0<(c.rep m).base)(hbp:c.bp=false) :
  Calls Tryz.prog 33 #[.pointer (some ⟨x,0,none⟩),.int .i64 m,.int .i64 k] w fun e w' => e = .returned (.int .i64 0)∧∃ K' col',Hid (RefAt w' col' o x K' (c.sent m k))∧Hid (FrC (ofOwner o) col col' w w'):=by
 have HT1:=Hid.mk (zkr h m)
 have HT2:=Hid.mk (zkr h k)
 rw [show c.there m=true by simp [Clu.there];omega] at HT1
 rw [show c.there k=true by simp [Clu.there];omega] at HT2
 have hn6:=hok.n6
 obtain ⟨g,cap,D,hv,hc,hD,hp,hR⟩:=h.ptr hr
 have c5:=h.cells.2.2.2.2.2.1
 have c2:=h.cells.2.2.1
 rw [hv] at c5
 have hx:=zaY h.blk
 have hg:g<w.heap.size:=World.block_lt_of_cell? w ⟨g,m,none⟩ hp
 have hρ:=zaY hR.blk
 have d0:=hR.cells.1
 have d5:=hR.cells.2.2.2.2.2.1
 obtain ⟨gn,cn,hvn,-,-,hgn,-,hrown,-⟩:=hR.near.at (show 0<(nearRow c m).length by unfold nearRow;simp;omega)
 have hnl:(nearRow c m).length=c.reps.length:=by unfold nearRow;simp
 rw [hvn,hnl] at d5
 have n1:w.cell? ⟨gn,k,none⟩=some (.bool (c.near m k)):=hrown k _ (by
  unfold nearRow
  rw [List.map_map,List.getElem?_map,List.getElem?_range (by omega)]
  rfl)
 rw [hnr] at n1
 rw [hdn] at d0
 have hrep:=hok.rep hr
 have HHR:=Hid.mk hR
 have HOK:=Hid.mk hok
 have d2:=hR.cells.2.2.1
 have d3:=hR.cells.2.2.2.1
 have d1:=hR.cells.2.1
 obtain ⟨adA,cpA,hvA,-⟩:=id hR.atoms
 rw [hvA] at d1
 have hakL:(c.rep m).acked.length=c.reps.length:=hrep.ackL
 obtain ⟨gk,ck,hvk,-,-,hgk,-,hrow,-⟩:=hR.acked.at (by omega)
 have d6:=hR.cells.2.2.2.2.2.2.1
 rw [hvk,hakL] at d6
 have k1:w.cell? ⟨gk,k,none⟩=some (.int .i64 ((c.rep m).acked.getD k 0)):=hrow k _ (by
  unfold ints
  rw [List.getElem?_map,List.getD_eq_getElem?_getD,List.getElem?_eq_getElem (by omega)]
  rfl)
 have hal:(c.rep m).atoms.length≤274878038016:=Nat.le_trans hrep.alen hL.prod
 have HFL:Hid (((c.rep m).frame c.bp m k).d.length≤131072):=by
  have hfo:=zdP HOK.out (r:=m) (q:=k) hr hrq
  exact Nat.le_trans (hfo.told.length hfo.sub) hL.2
 have hTS:D.ts.length≤2097152:=by
  have:=hR.tsl
  have:=hrep.num
  have:=hL.1
  omega
 have HFR:Hid ((c.rep m).frame c.bp m k=⟨1,m,k,(c.rep m).num,tell (sendOf c.bp ((c.rep m).acked.getD k 0) k D.ts)⟩):=by
  unfold Hid Rep.frame
  rw [if_neg hlt,zld hR.buf]
 have HTL:=Hid.mk (fun wz vS=>zlh (wz:=wz) (vS:=vS) (k:=k) h hok hr hD hR (kd:=1) (hfr:=HFR.out))
 have HTB:Hid (∀ t∈D.ts,t.kept=true→t.d.length≤131072∧∀ a∈t.d,mayB a=true):=fun t ht hk=>by
  have hin:t.ent∈(c.rep m).buf:=by rw [← hR.buf];exact List.mem_map_of_mem (List.mem_filter.2 ⟨ht,hk⟩)
  obtain ⟨h1,h2,-⟩:=hrep.buf _ hin
  exact ⟨Nat.le_trans (h1.length h2) hL.2,fun a ha=>HOK.out.may a (h2 a ha)⟩
 have HLE:Hid (∀ ak i,(sendOf c.bp ak k (D.ts.take i)).length≤274877906944):=fun ak i=>by
  have h1:=zle (bp:=c.bp) (ak:=ak) (k:=k) (i:=0) (M:=131072) (ts:=D.ts.take i) (fun t ht hk=>(HTB.out t (List.mem_of_mem_take ht) hk).1)
  have h2:(D.ts.take i).length≤2097152:=by
   have:=hR.tsl
   have:=hrep.num
   have:=hL.1
   rw [List.length_take]
   omega
  omega
 have HMY:Hid (∀ ak,∀ a∈sendOf c.bp ak k D.ts,mayB a=true):=fun ak a ha=>by
  unfold sendOf at ha
  obtain ⟨l,hl,hal⟩:=List.mem_flatten.1 ha
  obtain ⟨t,ht,rfl⟩:=List.mem_map.1 hl
  obtain ⟨ht1,ht2⟩:=List.mem_filter.1 ht
  exact (HTB.out t ht1 (by unfold goesTo at ht2;simp only [Bool.and_eq_true] at ht2;exact ht2.1)).2 a hal
 have hq6:c.reps.length≤6:=hn6
 clear hrown hrow
 generalize hLL:c.reps.length=L at *
 have q1:(m:Int)<(L:Int):=by omega
 have q2:(k:Int)<(L:Int):=by omega
 have hfrN:=hrep.fr
 have hwtN:=Nat.le_trans hrep.wt (Nat.mul_le_mul hL.1 hL.2)
 have hLN:=hL.1
 clear hok hR h
 go_enter Tryz.func33,Tryz.ntmps33
 go_wp2_with fail
 refine HT1.out.mono ?_
 rintro e w' ⟨rfl,rfl⟩
 go_wp2_with fail
 refine HT2.out.mono ?_
 rintro e w'' ⟨rfl,rfl⟩
 have hab:=heap_alloc_new w'' (.cells #[.int .i64 1,.int .i64 m,.int .i64 k,.int .i64 (c.rep m).num,.slice none 0 0] 162)
 have hb1:=zaO (Below.refl _ w'') (.cells #[.int .i64 1,.int .i64 m,.int .i64 k,.int .i64 (c.rep m).num,.slice none 0 0] 162)
 go_wp2
 generalize w''.alloc (.cells #[.int .i64 1,.int .i64 m,.int .i64 k,.int .i64 (c.rep m).num,.slice none 0 0] 162)=w1 at *
 have z1:=(hb1.cell (p:=⟨D.ρ,1,none⟩) hρ).trans d1
 have z3:=(hb1.cell (p:=⟨D.ρ,3,none⟩) hρ).trans d3
 have z6:=(hb1.cell (p:=⟨D.ρ,6,none⟩) hρ).trans d6
 have zk:=(hb1.cell (p:=⟨gk,k,none⟩) hgk).trans k1
 have hρ1:=Nat.lt_of_lt_of_le hρ hb1.size
 have hgk1:=Nat.lt_of_lt_of_le hgk hb1.size
 have hB1:=zaY hab
 obtain ⟨e0,e1,e2,e3,e4⟩:=zdl hab
 have hfz:=zaZ hab
 have hf0:=hfz 0
 have hf4:=hfz 4
 have HAB:=Hid.mk hab
 have HB1:=Hid.mk hb1
 generalize (c.rep m).acked.getD k 0=ak at *
 generalize hbs:(c.rep m).base=bs at *
 generalize hnm:(c.rep m).num=nm at *
 have hlt' : (bs:Int)≤(ak:Int):=by omega
 go_region_held3 (fun W=>W.cell? ⟨D.ρ,6,none⟩=some (.slice (some ⟨gk,0,none⟩) L ck)∧W.cell? ⟨D.ρ,3,none⟩=some (.int .i64 bs)∧W.cell? ⟨gk,k,none⟩=some (.int .i64 ak)) (first | assumption | exact ⟨z6,z3,zk⟩) (fail)
 go_wp2
 go_loopw [11,12] (fun v j wr=>∃ i:Nat,i≤D.ts.length∧j = .int .i64 i∧∃ ad cp,v = .slice ad (sendOf c.bp ak k (D.ts.take i)).length cp∧Hid (Below w''.heap.size w'' wr)∧Hid (wr.heap[w''.heap.size]? = some (.cells #[.int .i64 1,.int .i64 m,.int .i64 k,.int .i64 nm,.slice none 0 0] 162 (0,0)))∧Hid (SliceOf wr v (sendOf c.bp ak k (D.ts.take i)))) (fun _ j _=>D.ts.length - (intOf j).toNat)
 case atStart=>exact ⟨0,Nat.zero_le _,rfl,none,0,rfl,HB1.out.drew,HAB.out,⟨none,0,rfl,Nat.le_refl _,fun h0=>absurd h0 (by simp [sendOf])⟩⟩
 case round =>
  obtain ⟨i,hi,rfl,adl,cpl,rfl,hbr,hfb,hsl⟩:=hrel
  obtain ⟨adt,cpt,hvt,-,HEL⟩:=HHR.out.taken.elem zmI
  have x4:=(hbr.out.cell (p:=⟨D.ρ,4,none⟩) hρ).trans HHR.out.cells.2.2.2.2.1
  rw [hvt] at x4
  have x6:=(hbr.out.cell (p:=⟨D.ρ,6,none⟩) hρ).trans d6
  have xk:=(hbr.out.cell (p:=⟨gk,k,none⟩) hgk).trans k1
  have x2:=(hbr.out.cell (p:=⟨x,2,none⟩) hx).trans c2
  have hρr:=Nat.lt_of_lt_of_le hρ hbr.out.size
  have hxr:=Nat.lt_of_lt_of_le hx hbr.out.size
  have hgkr:=Nat.lt_of_lt_of_le hgk hbr.out.size
  clear e0 e1 e2 e3 e4 hf0 hf4 hfz z1 z3 z6 zk hab HAB
  by_cases hl:i<D.ts.length
  ·obtain ⟨gt,rfl,hgt,-,-,hrowt⟩:=HEL (by omega)
   have hgtr:=Nat.lt_of_lt_of_le hgt hbr.out.size
   have hce:∀ j,wr.cell? ⟨gt,j,none⟩=w''.cell? ⟨gt,j,none⟩:=fun j=>hbr.out.cell (p:=⟨gt,j,none⟩) hgt
   have t0:wr.cell? ⟨gt,i*4,none⟩=some (.int .i64 D.ts[i].num):=(hce _).trans (hrowt i hl 0 _ rfl)
   have t1:wr.cell? ⟨gt,i*4+1,none⟩=some (.int .i64 D.ts[i].org):=(hce _).trans (hrowt i hl 1 _ rfl)
   have t2:wr.cell? ⟨gt,i*4+2,none⟩=some D.ts[i].v:=(hce _).trans (hrowt i hl 2 _ rfl)
   have t3:wr.cell? ⟨gt,i*4+3,none⟩=some (.bool D.ts[i].kept):=(hce _).trans (hrowt i hl 3 _ rfl)
   clear hce hrowt HEL
   have hl' : (i:Int)<(D.ts.length:Int):=by omega
   have hi0:(0:Int)≤(i:Int):=by omega
   have hYN:Hid (∀ b,goesTo c.bp ak k D.ts[i]=b→sendOf c.bp ak k (D.ts.take (i+1))=if b then sendOf c.bp ak k (D.ts.take i) ++ D.ts[i].d else sendOf c.bp ak k (D.ts.take i)):=fun b hb=>by
    cases b
    ·exact zlf hl hb
    ·exact zlg hl hb
   have HHT:=Hid.mk (HHR.out.tkd _ (List.getElem_mem hl))
   have hmemT:=List.getElem_mem hl
   have HTI:=Hid.mk (HTB.out _ hmemT)
   clear hmemT
   generalize D.ts[i]=t at *
   obtain ⟨tn,tg,tv,td,tk⟩:=t
   simp only [goesTo] at hYN HTI HHT
   simp only at t0 t1 t2 t3
   obtain ⟨adv,cpv,hrv,-⟩:=id HHT.out
   subst hrv
   have HBO:Hid (tk=true→∀ W,Below wr.heap.size wr W→_):=fun ht W hW=>za0 (.slice adl (sendOf c.bp ak k (D.ts.take i)).length cpl) (.slice adv td.length cpv) (sendOf c.bp ak k (D.ts.take i)) td W (hsl.out.below hW) ((HHT.out.slice.below hbr.out).below hW) (Nat.le_trans (HLE.out ak i) (by decide)) (Nat.le_trans (HTI.out ht).1 (by decide))
   have HNX:Hid (∀ (W:World),Below wr.heap.size wr W→∀ b,(tk && (decide (ak<tn) && !(c.bp && decide (tg=k))))=b→∀ ad cp n,n=(if b then sendOf c.bp ak k (D.ts.take i) ++ td else sendOf c.bp ak k (D.ts.take i)).length→SliceOf W (.slice ad n cp) (if b then sendOf c.bp ak k (D.ts.take i) ++ td else sendOf c.bp ak k (D.ts.take i))→Value.slice ad n cp = .slice ad (sendOf c.bp ak k (D.ts.take (i+1))).length cp∧Hid (Below w''.heap.size w'' W)∧Hid (W.heap[w''.heap.size]? = some (.cells #[.int .i64 1,.int .i64 m,.int .i64 k,.int .i64 nm,.slice none 0 0] 162 (0,0)))∧Hid (SliceOf W (.slice ad n cp) (sendOf c.bp ak k (D.ts.take (i+1))))):=fun W hW b hb ad cp n hn hS=>by
    have e:=hYN.out b hb
    refine ⟨by rw [e,hn],hbr.out.trans (hW.mono hbr.out.size),(hW.block _ (zaY hfb.out)).trans hfb.out,?_⟩
    rw [e]
    exact hS
   have HSL:=Hid.mk hsl.out
   generalize c.bp=bp at *
   subst hbp
   generalize hsn:sendOf false ak k (D.ts.take i)=sl at *
   have hil:i+1≤D.ts.length:=hl
   have HNO:Hid ((tk && (decide (ak<tn) && !(false && decide (tg=k))))=false→∀ q,_):=fun hgo q=>HNX.out (wr.drewN q) (below_drewN (Below.refl _ _) _) false hgo adl cpl sl.length rfl (HSL.out.below (below_drewN (Below.refl _ _) _))
   have HYS:Hid ((tk && (decide (ak<tn) && !(false && decide (tg=k))))=true→∀ (w4:World) ad4 cp4 q,Below (wr.drewN q).heap.size (wr.drewN q) w4→w4.ownsRow (wr.drewN q).heap.size 76 6 (.slice ad4 (sl.length+td.length) cp4) (sl.length+td.length) (flat (sl ++ td))→_):=fun hgo w4 ad4 cp4 q hb4 ho4=>HNX.out w4 ((below_drewN (Below.refl _ _) q).trans hb4) true hgo ad4 cp4 (sl.length+td.length) (by simp) (zlD (by simp) ho4)
   clear hbr hfb HLE HMY HTL HFR HTB hsn hsl HNX HSL HTI HHT hYN
   cases tk with
   | false =>
    have HX:=Hid.mk (HNO.out rfl)
    clear HNO HYS HBO
    go_wp2
    go_quiet (fail)
    go_wp2
    exact ⟨⟨i+1,hil,by go_num,adl,cpl,HX.out nq⟩,by simp [intOf];omega⟩
   | true =>
    by_cases hnn:(ak:Int)<(tn:Int)
    ·have HY:=Hid.mk (HYS.out (by simp;omega))
     clear HNO HYS
     go_wp2
     go_quiet (fail)
     go_wp2_with fail
     refine (HBO.out (by trivial) _ (below_drewN (Below.refl _ _) _)).mono ?_
     rintro e w4 ⟨v4,rfl,hown4,hb4⟩
     obtain ⟨ad4,cp4,hv4⟩:=zh1 hown4
     subst hv4
     rw [List.length_append] at hown4 ⊢
     have HX:=Hid.mk (HY.out w4 ad4 cp4 nq hb4 hown4)
     clear hown4 hb4
     go_wp2
     exact ⟨⟨i+1,hil,by go_num,ad4,cp4,HX.out⟩,by simp [intOf];omega⟩
    ·have HX:=Hid.mk (HNO.out (by simp;omega))
     have hnn' : (tn:Int)≤(ak:Int):=by omega
     clear HNO HYS HBO
     go_wp2
     have hd:decide ((ak:Int)<(tn:Int))=false:=by simpa using hnn'
     have hd2:decide (ak<tn)=false:=by simp;omega
     have hd3:¬ (ak:Int)<(tn:Int):=by omega
     go_quiet (fail)
     go_wp2
     exact ⟨⟨i+1,hil,by go_num,adl,cpl,HX.out nq⟩,by simp [intOf];omega⟩
  ·have hie:i=D.ts.length:=by omega
   subst hie
   rw [List.take_of_length_le (Nat.le_refl _)] at hsl ⊢
   have HSL:=Hid.mk hsl.out
   have hl' : ¬ (D.ts.length:Int)<(D.ts.length:Int):=by omega
   have hlen:=HLE.out ak D.ts.length
   rw [List.take_of_length_le (Nat.le_refl _)] at hlen
   have HTD:Hid (∀ W,Below wr.heap.size wr W→Calls Tryz.prog 76 #[.slice adl (sendOf c.bp ak k D.ts).length cpl] W fun e w' => ∃ v',e = .returned v' ∧ w'.ownsRow W.heap.size 76 6 v' (tell (sendOf c.bp ak k D.ts)).length (flat (tell (sendOf c.bp ak k D.ts)))∧Below W.heap.size W w'):=fun W hW=>by
    refine (zmP _ (sendOf c.bp ak k D.ts) W (HSL.out.below hW) (fun a ha=>zdj (HMY.out ak a ha)) (by omega)).mono ?_
    rintro e w'' ⟨v',L',rfl,ho,hT,hb⟩
    rw [hT.out.unique (HMY.out ak) (zmr _)] at ho
    exact ⟨v',rfl,ho,hb⟩
   clear HSL hsl HEL
   rw [hbp] at HTD HFR HTL
   go_wp2_with fail
   refine (HTD.out _ (Below.refl _ _)).mono ?_
   rintro e w5 ⟨v5,rfl,ho5,hb5⟩
   obtain ⟨adS,cpS,hvS⟩:=zh1 ho5
   subst hvS
   have hbb:Below w''.heap.size w'' w5:=hbr.out.trans (hb5.mono hbr.out.size)
   have hbl5:=(hb5.block _ (zaY hfb.out)).trans hfb.out
   have hBr:=zaY hfb.out
   have HDL:Hid ((tell (sendOf false ak k D.ts)).length≤131072):=by
    have:=HFL.out
    rw [hbp,HFR.out] at this
    exact this
   clear HFL HFR HTD
   generalize tell (sendOf false ak k D.ts)=DD at *
   have HZ:Hid (Below w''.heap.size w'' (w5.setCell ⟨w''.heap.size,4,none⟩ (.slice adS DD.length cpS))):=hbb.grown (zet w5 ⟨w''.heap.size,4,none⟩ _) hbb.size (fun q hq=>by cases hq;exact Nat.le_refl _)
   have HZO:Hid ((w5.setCell ⟨w''.heap.size,4,none⟩ (.slice adS DD.length cpS)).ownsRow w''.heap.size 76 6 (.slice adS DD.length cpS) DD.length (flat DD)):=zic (zie (base:=wr.heap.size) ho5 hBr) (by omega)
   have hDN:DD.length≤131072:=HDL.out
   obtain ⟨g40,g41,g42,g43,g44⟩:=zdl hbl5
   have gf4:=zaZ hbl5 4
   have hB5:=zaY hbl5
   have y8:=(hbb.cell (p:=⟨D.ρ,8,none⟩) hρ).trans HHR.out.cells.2.2.2.2.2.2.2.2.1
   have y9:=(hbb.cell (p:=⟨D.ρ,9,none⟩) hρ).trans HHR.out.cells.2.2.2.2.2.2.2.2.2.1
   have yf8:=(hbb.frozen (p:=⟨D.ρ,8,none⟩) hρ).trans (HHR.out.cells.2.2.2.2.2.2.2.2.2.2 8)
   have yf9:=(hbb.frozen (p:=⟨D.ρ,9,none⟩) hρ).trans (HHR.out.cells.2.2.2.2.2.2.2.2.2.2 9)
   have hρ5:=Nat.lt_of_lt_of_le hρ hbb.size
   have HPU:=Hid.mk (HTL.out _ _ HZ.out HZO.out)
   have hne1:D.ρ ≠ w''.heap.size:=by omega
   have hne2:w''.heap.size ≠ D.ρ:=by omega
   clear hbl5 hbb hb5 ho5 HZ HZO HTL HHR HB1 hb1 HDL HLE HMY HTB hbr hfb x2 x4 x6 xk
   generalize (c.rep m).frames=fr at *
   generalize (c.rep m).weight=wt at *
   go_wp2
   go_region
   all_goals go_wp2_with fail
   all_goals
    refine (HPU.out _ (Below.refl _ _).drew).mono ?_
    rintro e w7 ⟨rfl,K7,col7,hR7,hF7⟩
    go_wp2
    go_ret
    exact ⟨rfl,K7,col7,hR7,hF7⟩
end Go.Proofs.YtahdlejgjcjeoabGreatDoor
