/- Walk of the program's Decode. -/
import Derived.Test.YtahdlejgjcjeoabGreatDoorA26
import Derived.Test.YtahdlejgjcjeoabGreatDoorA24
import Derived.Test.YtahdlejgjcjeoabGreatDoorA12
import Derived.Test.YtahdlejgjcjeoabGreatDoorA01
import Derived.Test.YtahdlejgjcjeoabGreatDoorA04
import Derived.Test.YtahdlejgjcjeoabGreatDoorA16
namespace Go.Proofs.YtahdlejgjcjeoabGreatDoor
set_option maxHeartbeats 8000000
open Go.RowKit Go.MuLone
theorem PrD.is.tear {D:PrD}{p:Rep}(h:D.is p)(hup:p.torn = [])(l:List At)(keep:Int)(vl:Value):({ D with vl:=vl,bytes:=D.bytes ++ (recBytes ⟨1,D.num+1,l⟩).take keep.toNat }:PrD).is (p.tear l keep):=by
 have hb:D.bytes ++ (recBytes ⟨1,D.num+1,l⟩).take keep.toNat=logBytes (p.tear l keep):=by
  rw [h.bytes,h.num]
  unfold Rep.tear
  split
  ·simp [logBytes,hup]
  ·rename_i hk
   rw [List.take_of_length_le (by omega)]
   simp [logBytes,hup]
 refine ⟨?_,?_,?_,?_,?_,?_,hb,?_,?_⟩ <;> unfold Rep.tear <;> split
 ·exact h.up
 ·exact h.up
 ·exact h.num
 ·exact h.num
 ·exact h.base
 ·exact h.base
 ·exact h.M
 ·exact h.M
 ·exact h.buf
 ·exact h.buf
 ·exact h.ak
 ·exact h.ak
 ·exact h.frames
 ·exact h.frames
 ·exact h.weight
 ·exact h.weight
set_option maxRecDepth 100000 in
theorem zjs {w:World}{col:Col}{o x N:Nat}{U:List At}{K:PrK}{c:Clu}(h:PrgAt w col o x K c)(ho:o ≠ 0)(hT:Tab w col)(hok:c.ok U N)(hL:Lim U N)(r:Int)(op:OpV)(hop:op.short)(keep:Int) :
  Calls Tryz.prog 24 #[.pointer (some ⟨x,0,none⟩),.int .i64 r,op.val,.int .i64 keep] w fun e w' => e = .returned (.int .i64 (c.opErr r op))∧∃ K' col',Hid (PrgAt w' col' o x K' (c.tornOp r op keep))∧Hid (FrC (ofOwn o) col col' w w'):=by
 have hb0:∀ ob,Below w.heap.size w (w.alloc ob):=fun ob=>zaO (Below.refl _ _) ob
 have hx:=zaY h.at_.blk
 have HCL:Hid (∀ ob,ClAt (w.alloc ob) x K.R K.Ds.length K.Ds.length):=fun ob=>(h.same (hb0 ob)).at_.clAt h.is.lk
 have HLK:Hid (∀ ob,PrAt ((w.setCell ⟨x,0,none⟩ (.int .i32 1)).alloc ob) col o x { K with lk:=1 }∧FrC (ofOwn o) col col w ((w.setCell ⟨x,0,none⟩ (.int .i32 1)).alloc ob)∧Tab ((w.setCell ⟨x,0,none⟩ (.int .i32 1)).alloc ob) col):=fun ob=>by
  obtain ⟨h1,h2⟩:=h.at_.lock 1
  have hb1:=zaO (Below.refl _ (w.setCell ⟨x,0,none⟩ (.int .i32 1))) ob
  have h3:FrC (ofOwn o) col col w ((w.setCell ⟨x,0,none⟩ (.int .i32 1)).alloc ob):=(h2.mono zhh).trans (zdJ hb1)
  exact ⟨h1.same hb1,h3,hT.kept h3 (fun e=>ho e.symm)⟩
 have HCH:Hid (∀ ob,Calls Tryz.prog 61 #[.pointer (some ⟨x,0,none⟩),.int .i64 r,op.val] ((w.setCell ⟨x,0,none⟩ (.int .i32 1)).alloc ob) fun e w' => Below ((w.setCell ⟨x,0,none⟩ (.int .i32 1)).alloc ob).heap.size ((w.setCell ⟨x,0,none⟩ (.int .i32 1)).alloc ob) w' ∧ Hid ((c.opErr r op ≠ 0∧e = .returned (.tuple #[.pointer none,.slice none 0 0,.int .i64 (c.opErr r op)]))∨(c.opErr r op=0∧∃ i b:Nat,r=i∧i<c.reps.length∧((w.setCell ⟨x,0,none⟩ (.int .i32 1)).alloc ob).heap.size≤b∧e = .returned (.tuple #[.pointer (some ⟨K.R,i*14,none⟩),.slice (some ⟨b,0,none⟩) 1 1,.int .i64 0])∧w'.heap[b]? = some (.cells (enc (opAtom (c.rep i).atoms i op)).toArray 76 (0,0))))):=fun ob =>
  zbL (K:={ K with lk:=1 }) (HLK.out ob).1 (HLK.out ob).2.2 h.is.len h.is.reps hok r op hop
 by_cases he:c.opErr r op=0
 ·obtain ⟨hw,hf,hn⟩:=zhz he
  have HUP:Hid (∀ i:Nat,r=i→i<c.reps.length→c.tornOp r op keep=c.setRep i ((c.rep i).tear [opAtom (c.rep i).atoms i op] keep).fall):=by
   intro i hi _
   subst hi
   unfold Clu.tornOp
   rw [if_pos he]
   rfl
  have HTK:Hid (∀ (ob:Obj) (w2:World) (i b:Nat),r=i→i<c.reps.length→Below ((w.setCell ⟨x,0,none⟩ (.int .i32 1)).alloc ob).heap.size ((w.setCell ⟨x,0,none⟩ (.int .i32 1)).alloc ob) w2→((w.setCell ⟨x,0,none⟩ (.int .i32 1)).alloc ob).heap.size≤b→w2.heap[b]? = some (.cells (enc (opAtom (c.rep i).atoms i op)).toArray 76 (0,0)) →
    Calls Tryz.prog 65 #[.pointer (some ⟨K.R,i*14,none⟩),.slice (some ⟨b,0,none⟩) 1 1,.int .i64 keep] w2 fun e w' => e = .returned (.tuple #[])∧Hid (w'.cell? ⟨x,0,none⟩=some (.int .i32 1)∧w'.frozen? ⟨x,0,none⟩=false∧∃ K' col',PrgAt (w'.setCell ⟨x,0,none⟩ (.int .i32 0)) col' o x K' (c.tornOp r op keep)∧FrC (ofOwn o) col col' w (w'.setCell ⟨x,0,none⟩ (.int .i32 0)))):=by
   intro ob w2 i b hri hi hb2 hbb hcell
   obtain ⟨k1,k2,k3⟩:=HLK.out ob
   have hi6:=Nat.lt_of_lt_of_le hi hok.n6
   have hi' : i<({ K with lk:=1 }:PrK).Ds.length:=by show i<K.Ds.length;rw [h.is.len];exact hi
   have p2:=k1.below hb2 (o,1)
   have f2:FrC (ofOwn o) col (paint col ((w.setCell ⟨x,0,none⟩ (.int .i32 1)).alloc ob).heap.size (o,1)) w w2:=k2.trans (zdH hb2 (o,1))
   have t2:=hT.kept f2 (fun e=>ho e.symm)
   have hh:=zeO (col:=col) (κ:=(o,1)) hbb hcell
   have hI:=PrAt.inside p2 (by show K.Ds.length≤6;rw [h.is.len];exact hok.n6) hi'
   have hDi:=h.is.reps i hi'
   have hrep:=hok.rep hi
   have hmay:∀ a ∈ [opAtom (c.rep i).atoms i op],mayB a=true:=fun a ha=>by
    rw [List.mem_singleton] at ha
    subst ha hri
    exact zhx hi6 hf hn
   refine (zjr hI ho t2 _ [opAtom (c.rep i).atoms i op] hh hmay (by simp) keep (by show (K.Ds[i]).num≤_;rw [hDi.num];have:=hrep.num;have:=hL.1;omega) (by show (K.Ds[i]).bytes.length≤_;rw [hDi.bytes];have:=zgc hrep hL;omega)).mono ?_
   rintro e w3 ⟨rfl,col3,vl,hI3,hF3⟩
   refine ⟨rfl,?_⟩
   obtain ⟨u0,u1,u2,u3⟩:=PrI.unlock hI3.out h.is.lk
   have hdn:(c.rep i).down=false:=by
    have:=(znz hw).2
    subst hri
    simpa using this
   have hto:(c.rep i).torn = []:=by
    rcases hrep.torn with e | ⟨e,_⟩
    ·exact e
    ·rw [hdn] at e;cases e
   have hD3:=(hDi.tear hto [opAtom (c.rep i).atoms i op] keep vl).fall
   obtain ⟨K',hK',_⟩:=u2.done (V:=U) h.is h.n hD3 (fun a ha=>by cases ha) (by have:=hL.2;omega)
   rw [← HUP.out i hri hi] at hK'
   exact ⟨u0,u1,K',col3,hK',(f2.trans (hF3.out.mono zhi)).trans u3⟩
  rw [he] at HCH ⊢
  clear h hT hok hL hw hf hn he
  obtain ⟨ty,key,side,elem,n⟩:=op
  unfold OpV.val at *
  dsimp only at *
  go_enter_defers Tryz.func24,Tryz.ntmps24
  go_wp2_with (go_at_call 44;refine (lock_free zgD ⟨x,0,none⟩ _ (HCL.out _).c0 (HCL.out _).f0).mono ?_;rintro e w' ⟨rfl,rfl⟩)
  refine (HCH.out _).mono ?_
  rintro e w2 ⟨hb2,hcase⟩
  obtain ⟨h1,_⟩ | ⟨_,i,b,rfl,hi,hbb,rfl,hcell⟩:=hcase
  ·exact absurd rfl h1
  have htk:=HTK.out _ w2 i b rfl hi hb2 hbb hcell
  clear HTK HCH HUP HLK
  go_wp2_with fail
  refine htk.mono ?_
  rintro e w3 ⟨rfl,hq⟩
  obtain ⟨u0,u1,K',col',hK',hF'⟩:=hq.out
  have HK' := zeT hK'
  have HF' := zeT hF'
  clear htk hq hK' hF' hb2 hbb hcell
  go_wp2
  refine leaves_cons (f:=45) (args:=#[.pointer (some ⟨x,0,none⟩)]) (by simp) (by simp [go_sem]) ?_
  refine (unlock_deferred zgD ⟨x,0,none⟩ .returning _ u0 u1).mono ?_
  rintro e u' w'' ⟨rfl,rfl,rfl⟩
  exact ⟨_,results_tmp rfl _ _ _,rfl,K',col',HK',HF'⟩
 ·have hup:c.tornOp r op keep=c:=by unfold Clu.tornOp;rw [if_neg he]
  have hcl:=h.at_.clAt h.is.lk
  have HK:=zeT h
  rw [hup]
  clear h hT hok hL hup HLK
  generalize c.opErr r op=er at *
  obtain ⟨ty,key,side,elem,n⟩:=op
  unfold OpV.val at *
  dsimp only at *
  go_enter_defers Tryz.func24,Tryz.ntmps24
  go_wp2_with (go_at_call 44;refine (lock_free zgD ⟨x,0,none⟩ _ (HCL.out _).c0 (HCL.out _).f0).mono ?_;rintro e w' ⟨rfl,rfl⟩)
  refine (HCH.out _).mono ?_
  rintro e w2 ⟨hb2,hcase⟩
  obtain ⟨_,rfl⟩ | ⟨h1,_⟩:=hcase
  rotate_left
  ·exact absurd h1 he
  have hb3:Below w.heap.size (w.setCell ⟨x,0,none⟩ (.int .i32 1)) w2:=by
   have:=(zaO (Below.refl _ (w.setCell ⟨x,0,none⟩ (.int .i32 1))) (.cells #[.int .i64 ty,.string key,.int .i64 side,.string elem,.int .i64 n] 31)).trans (hb2.mono (by simp))
   rwa [zgb] at this
  obtain ⟨u0,u1,u2⟩:=hcl.unlock hb3
  clear hb2 HCH
  go_wp2
  refine leaves_cons (f:=45) (args:=#[.pointer (some ⟨x,0,none⟩)]) (by simp) (by simp [go_sem]) ?_
  refine (unlock_deferred zgD ⟨x,0,none⟩ .returning _ u0 u1).mono ?_
  rintro e u' w'' ⟨rfl,rfl,rfl⟩
  exact ⟨_,results_tmp rfl _ _ _,rfl,K,col,HK.out.same u2,zdJ u2⟩
set_option maxRecDepth 100000 in
theorem ziV {w:World}{col:Col}{o x N:Nat}{U:List At}{K:PrK}{c:Clu}(h:PrgAt w col o x K c)(hok:c.ok U N)(hL:Lim U N)(r:Int) :
  Calls Tryz.prog 26 #[.pointer (some ⟨x,0,none⟩),.int .i64 r] w fun e w' => e = .returned (.int .i64 (c.works r))∧∃ K' col',Hid (PrgAt w' col' o x K' (c.crash r))∧Hid (FrC (ofOwn o) col col' w w'):=by
 have hcl:=h.at_.clAt h.is.lk
 have k41:=hcl.l41
 rcases znx c r with ⟨hw,hr⟩ | ⟨i,rfl,hi,⟨hw,hd⟩ | ⟨hw,hd⟩⟩
 ·have hcr:c.crash r=c:=by simp [Clu.crash,hw]
  rw [hcr,hw]
  have HK:=zeT h
  have hlen:=h.is.len
  clear h hok hL
  go_enter_defers Tryz.func26,Tryz.ntmps26
  go_wp2_with (go_at_call 44;refine (lock_free zgD ⟨x,0,none⟩ _ hcl.c0 hcl.f0).mono ?_;rintro e w' ⟨rfl,rfl⟩)
  refine (zna x r _ _ _ _ k41 (by rw [hlen];exact hr)).mono ?_
  rintro e w1 ⟨rfl,rfl⟩
  go_wp2
  refine leaves_cons (f:=45) (args:=#[.pointer (some ⟨x,0,none⟩)]) (by simp) (by simp [go_sem]) ?_
  obtain ⟨u0,u1,u2⟩:=hcl.unlock (w2:=_) (Below.refl _ _)
  refine (unlock_deferred zgD ⟨x,0,none⟩ .returning _ u0 u1).mono ?_
  rintro e u' w'' ⟨rfl,rfl,rfl⟩
  exact ⟨_,results_tmp rfl _ _ _,rfl,K,col,HK.out.same u2,zdJ u2⟩
 ·have hi' : i<K.Ds.length:=by rw [h.is.len];exact hi
  have kup:=hcl.lR (h.at_.cells hi').c0
  rw [h.is.down hi',hd] at kup
  have hcr:c.crash (i:Int)=c:=by simp [Clu.crash,hw]
  rw [hcr,hw]
  have HK:=zeT h
  clear h hok hL
  go_enter_defers Tryz.func26,Tryz.ntmps26
  go_wp2_with (go_at_call 44;refine (lock_free zgD ⟨x,0,none⟩ _ hcl.c0 hcl.f0).mono ?_;rintro e w' ⟨rfl,rfl⟩)
  refine (znb x K.R i K.Ds.length K.Ds.length false _ k41 hi' kup).mono ?_
  rintro e w1 ⟨rfl,rfl⟩
  go_wp2
  refine leaves_cons (f:=45) (args:=#[.pointer (some ⟨x,0,none⟩)]) (by simp) (by simp [go_sem]) ?_
  obtain ⟨u0,u1,u2⟩:=hcl.unlock (w2:=_) (Below.refl _ _)
  refine (unlock_deferred zgD ⟨x,0,none⟩ .returning _ u0 u1).mono ?_
  rintro e u' w'' ⟨rfl,rfl,rfl⟩
  exact ⟨_,results_tmp rfl _ _ _,rfl,K,col,HK.out.same u2,zdJ u2⟩
 ·have hi' : i<K.Ds.length:=by rw [h.is.len];exact hi
  have kup:=hcl.lR (h.at_.cells hi').c0
  rw [h.is.down hi',hd] at kup
  have hcr:c.crash (i:Int)=c.setRep i (c.rep i).fall:=by simp [Clu.crash,hw]
  obtain ⟨hl,hlf⟩:=h.at_.lock 1
  have hI:=PrAt.inside hl (i:=i) (by show K.Ds.length≤6;rw [h.is.len];exact hok.n6) hi'
  have hDi:=h.is.reps i hi'
  have hfa:=zi0 hI.b hI.h6 hI.hi hI.p
  have HFIN:Hid (∀ w2,PrB w2 col o x (some i) (({ K with lk:=1 }:PrK).setD i (K.Ds[i]).fall)→PrRep w2 col o i (K.Ds[i]).fall→FrC (ofPrg o i) col col (w.setCell ⟨x,0,none⟩ (.int .i32 1)) w2→w2.cell? ⟨x,0,none⟩=some (.int .i32 1)∧w2.frozen? ⟨x,0,none⟩=false∧∃ K',PrgAt (w2.setCell ⟨x,0,none⟩ (.int .i32 0)) col o x K' (c.crash i)∧FrC (ofOwn o) col col w (w2.setCell ⟨x,0,none⟩ (.int .i32 0))):=by
   intro w2 a1 a2 a3
   obtain ⟨u0,u1,u2,u3⟩:=PrI.unlock (D:=(K.Ds[i]).fall) ⟨a1,a2,hI.h6,hI.hi⟩ h.is.lk
   obtain ⟨K',hK',_⟩:=u2.done (V:=U) h.is h.n hDi.fall (fun a ha=>by cases ha) (by have:=hL.2;omega)
   rw [← hcr] at hK'
   exact ⟨u0,u1,K',hK',((hlf.mono zhh).trans (a3.mono zhi)).trans u3⟩
  rw [hw]
  clear h hok hL hl hlf hI hDi hcr hw hd
  go_enter_defers Tryz.func26,Tryz.ntmps26
  go_wp2_with (go_at_call 44;refine (lock_free zgD ⟨x,0,none⟩ _ hcl.c0 hcl.f0).mono ?_;rintro e w' ⟨rfl,rfl⟩)
  refine (znb x K.R i K.Ds.length K.Ds.length true _ k41 hi' kup).mono ?_
  rintro e w1 ⟨rfl,rfl⟩
  go_wp2_with fail
  refine hfa.mono ?_
  rintro e w2 ⟨rfl,a1,a2,a3⟩
  obtain ⟨u0,u1,K',hK',hF'⟩:=HFIN.out w2 a1 a2 a3
  have HK' := zeT hK'
  have HF' := zeT hF'
  clear hfa a1 a2 a3 hK' hF' HFIN
  go_wp2
  refine leaves_cons (f:=45) (args:=#[.pointer (some ⟨x,0,none⟩)]) (by simp) (by simp [go_sem]) ?_
  refine (unlock_deferred zgD ⟨x,0,none⟩ .returning _ u0 u1).mono ?_
  rintro e u' w'' ⟨rfl,rfl,rfl⟩
  exact ⟨_,results_tmp rfl _ _ _,rfl,K',col,HK',HF'⟩
open Go.RowKit
theorem zg7 (l r:List UInt8):num l≤num (l ++ r):=by
 induction r generalizing l with
 | nil=>simp
 | cons b r ih =>
  have:=ih (l ++ [b])
  rw [List.append_assoc] at this
  have h2:=zhc l b
  have h3:l ++ ([b] ++ r)=l ++ b :: r:=rfl
  rw [h3] at this
  omega
theorem zhb (t:List UInt8)(i:Nat):num (t.take i)≤num t:=by
 have:=zg7 (t.take i) (t.drop i)
 rwa [List.take_append_drop] at this
set_option maxRecDepth 100000 in
theorem zmf (rb:Nat)(l:List UInt8)(n:Nat)(w:World)(hr:RdAt w rb l)(hl:l.length≤70368744177664)(hn:n≤4611686018427387904) :
  Calls Tryz.prog 164 #[.pointer (some ⟨rb,0,none⟩),.int .i64 n] w fun e w' => e = .returned (.string (bstr (l.take n)))∧Hid (RdAt w' rb (l.drop n))∧w.grownBy w' (some rb):=by
 obtain ⟨c0,f0⟩:=hr
 have hsz:=za8 l
 go_enter Tryz.func164,Tryz.ntmps164
 go_wp2
 go_ret
 have hm:(max (0:Int) (min (n:Int) (l.length:Int))).toNat=min n l.length:=by omega
 rw [hm]
 have e1:(bstr l).extract 0 (min n l.length)=bstr (l.take n):=by
  rw [za4,List.drop_zero,Nat.sub_zero]
  congr 1
  rw [← List.take_take,List.take_length]
 have e2:(bstr l).extract (min n l.length) l.length=bstr (l.drop n):=by
  rw [za4]
  congr 1
  by_cases h:n≤l.length
  ·rw [Nat.min_eq_left h]
   exact List.take_of_length_le (by simp)
  ·rw [Nat.min_eq_right (by omega),List.drop_length,List.drop_of_length_le (by omega)]
   simp
 refine ⟨by rw [← e1];rfl,?_,zel _ _ _⟩
 rw [e2]
 exact ⟨World.cell?_setCell_same _ _ _ c0,by rw [World.frozen?_setCell];exact f0⟩
set_option maxRecDepth 100000 in
theorem zhe (rb:Nat)(l:List UInt8)(wd:Nat)(w:World)(hr:RdAt w rb l)(hl:l.length≤70368744177664)(hw:wd≤8)(hv:num (l.take wd)<4611686018427387904) :
  Calls Tryz.prog 162 #[.pointer (some ⟨rb,0,none⟩),.int .i64 wd] w fun e w' => e = .returned (.int .i64 (num (l.take wd)))∧Hid (RdAt w' rb (l.drop wd))∧w.grownBy w' (some rb):=by
 have hc:=zmf rb l wd w hr hl (by omega)
 have hlt:(l.take wd).length≤8:=by rw [List.length_take];omega
 clear hr
 generalize l.take wd=t at *
 have hcv:∀ W,(convert 9 124 (.string (bstr t))).run Tryz.prog W = .ok (.slice (some ⟨W.heap.size,0,none⟩) t.length (grownCap W t.length 0 5)) (Go.Lib.bytesWorld W 5 (bstr t)):=fun W=>by
  rw [← za8 t]
  exact Go.Lib.run_convert_string_bytes W 9 124 5 (bstr t) Tryz.underlying9 Tryz.underlying124 Tryz.underlying5
 go_enter Tryz.func162,Tryz.ntmps162
 go_wp2_with fail
 refine hc.mono ?_
 rintro e w1 ⟨rfl,hrd,hg⟩
 clear hc
 go_wp2
 go_loopw [5,13] (fun s5 j wr=>∃ i:Nat,i≤t.length∧j = .int .i64 i∧s5 = .int .i64 (num (t.take i))∧wr=Go.Lib.bytesWorld w1 5 (bstr t)) (fun _ j _=>t.length - (intOf j).toNat)
 case atStart=>exact ⟨0,Nat.zero_le _,rfl,rfl,rfl⟩
 case round =>
  obtain ⟨i,hi,rfl,rfl,rfl⟩:=hrel
  by_cases hil:i<t.length
  ·have hcell:=Go.Lib.bytesWorld_cell w1 5 (bstr t) i (by rw [za8];exact hil)
   rw [za3] at hcell
   have hts:t.take (i+1)=t.take i ++ [t.getD i 0]:=by
    rw [List.take_succ_eq_append_getElem hil]
    simp [List.getD,hil]
   have hm:=zhb t (i+1)
   have hsn:=zhc (t.take i) (t.getD i 0)
   rw [← hts] at hsn
   have HSN:Hid (num (t.take (i+1))=num (t.take i)*256+(t.getD i 0).toNat):=hsn
   have hb256:(t.getD i 0).toNat<256:=(t.getD i 0).toNat_lt
   rw [hsn] at hm
   generalize t.getD i 0=b at *
   generalize num (t.take i)=m at *
   generalize b.toNat=bn at *
   have HOR:Hid (bits .or .i64 ((m:Int)*256) (bn:Int)=(m:Int)*256+bn):=bits_join .i64 63 (by decide) (fun n h0 h1=>znP h0 h1) 8 _ _ (by omega) (by omega) (by omega) (by omega) (by omega) (by omega)
   clear hts hsn
   go_wp2
   exact ⟨⟨i+1,by omega,by go_num,by rw [HSN.out,HOR.out];simp,trivial⟩,by simp [intOf];omega⟩
  ·have hie:i=t.length:=by omega
   subst hie
   rw [List.take_length]
   have hrd2:RdAt (Go.Lib.bytesWorld w1 5 (bstr t)) rb (l.drop wd):=hrd.out.bytes
   have hg2:w.grownBy (Go.Lib.bytesWorld w1 5 (bstr t)) (some rb):=zev hg (zbj _ _ _ _)
   have HRD:Hid (RdAt (Go.Lib.bytesWorld w1 5 (bstr t)) rb (l.drop wd)):=hrd2
   clear hrd hrd2 hg
   generalize Go.Lib.bytesWorld w1 5 (bstr t)=wz at *
   go_wp2
   go_ret
   exact ⟨rfl,HRD,hg2⟩
theorem zl2 {a b:ByteArray}(h:a ≠ b):(a.toList == b.toList)=false:=by
 rw [beq_eq_false_iff_ne,Go.Lib.toList_data,Go.Lib.toList_data]
 exact fun e=>h (ByteArray.ext (Array.toList_inj.1 e))
theorem za5 {l r:List UInt8}(h:bstr l=bstr r):l=r:=by
 have:=congrArg (fun b:ByteArray=>b.data.toList) h
 simpa [bstr] using this
set_option maxRecDepth 100000 in
theorem zeF (l p:List UInt8)(w:World)(_hl:l.length≤70368744177664)(_hp:p.length≤70368744177664) :
  Calls Tryz.prog 197 #[.string (bstr l),.string (bstr p)] w fun e w' => e = .returned (.bool (decide (p <+: l)))∧Below w.heap.size w w' := by
 have hsl:=za8 l
 have hsp:=za8 p
 by_cases hle:p.length≤l.length
 ·have hex:(bstr l).extract 0 p.length=bstr (l.take p.length):=by rw [za4,List.drop_zero,Nat.sub_zero]
  have q1:(p.length:Int)≤(l.length:Int):=by omega
  by_cases he:l.take p.length=p
  ·have hd:decide (p <+: l)=true:=decide_eq_true (by rw [← he];exact List.take_prefix _ _)
   rw [hd]
   rw [he] at hex
   go_enter Tryz.func197,Tryz.ntmps197
   go_wp2
   all_goals go_ret
   all_goals exact ⟨by first | rfl | simp,by first | exact Below.refl _ _ | exact (Below.refl _ _).drew⟩
  ·have hd:decide (p <+: l)=false:=decide_eq_false (fun h=>he (by rw [List.prefix_iff_eq_take.1 h];simp))
   rw [hd]
   have hne:=zl2 (a:=bstr (l.take p.length)) (b:=bstr p) (fun e=>he (za5 e))
   go_enter Tryz.func197,Tryz.ntmps197
   go_wp2
   all_goals go_ret
   all_goals exact ⟨by first | rfl | simp,by first | exact Below.refl _ _ | exact (Below.refl _ _).drew⟩
 ·have hd:decide (p <+: l)=false:=decide_eq_false (fun h=>hle h.length_le)
  rw [hd]
  have q1:(l.length:Int)<(p.length:Int):=by omega
  go_enter Tryz.func197,Tryz.ntmps197
  go_wp2
  all_goals go_ret
  all_goals exact ⟨by first | rfl | simp,by first | exact Below.refl _ _ | exact (Below.refl _ _).drew⟩
theorem zeE (l p:List UInt8)(w:World)(hl:l.length≤70368744177664)(hp:p.length≤70368744177664) :
  Calls Tryz.prog 165 #[.string (bstr l),.string (bstr p)] w fun e w' => e = .returned (.bool (decide (p <+: l)))∧Below w.heap.size w w' := by
 have hc:=zeF l p w hl hp
 generalize decide (p <+: l)=d at *
 generalize bstr l=a at *
 generalize bstr p=b at *
 go_enter Tryz.func165,Tryz.ntmps165
 go_wp2_with fail
 refine hc.mono ?_
 rintro e w1 ⟨rfl,hb⟩
 go_wp2
 go_ret
 exact ⟨rfl,hb⟩
def leftAt (w:World)(rb:Nat):Nat:=match w.cell? ⟨rb,0,none⟩ with | some (.string s)=>s.size | _=>0
theorem zfQ {w:World}{rb:Nat}{l:List UInt8}(h:RdAt w rb l):leftAt w rb=l.length:=by
 unfold leftAt
 rw [h.1]
 exact za8 l
theorem RdAt.grown {w w' : World}{rb:Nat}{l:List UInt8}{row:Option Nat}(h:RdAt w rb l)(hg:w.grownBy w' row)(hne:some rb ≠ row):RdAt w' rb l:=h.of_block (hg.block rb h.lt hne)
set_option maxRecDepth 100000 in
theorem zip (l:List UInt8)(w:World)(hl:l.length≤33554432) :
  Calls Tryz.prog 196 #[.string (bstr l)] w fun e w' => ∃ v,e = .returned v∧w'.ownsRow w.heap.size 76 6 v (parse (l.drop 8)).length (flat (parse (l.drop 8)))∧Below w.heap.size w w' := by
 obtain ⟨i0,hi,hz0,hz1,hz2⟩:=info_parts zeZ
 have hc:=fun W h=>zmd w.heap.size l 8 W h (by omega) (by omega)
 have hpl:=zis (l.drop 8)
 have hld:(l.drop 8).length≤33554432:=by rw [List.length_drop];omega
 generalize l.drop 8=l8 at *
 go_enter Tryz.func196,Tryz.ntmps196
 go_wp2_with fail
 have hR0:RdAt (w.alloc (.cells #[.string (bstr l)] 229)) w.heap.size l:=⟨by simp,by simp⟩
 have hg0:=zaO (Below.refl _ w) (.cells #[.string (bstr l)] 229)
 refine (show Calls Tryz.prog 164 #[.pointer (some ⟨w.heap.size,0,none⟩),.int .i64 8] (w.alloc (.cells #[.string (bstr l)] 229)) _ from hc _ hR0).mono ?_
 rintro e w1 ⟨rfl,hrd,hg⟩
 have hb1:Below w.heap.size w w1:=hg0.grown hg (by simp) (fun k hk=>by cases hk;exact Nat.le_refl _)
 have hz1' : w.heap.size<w1.heap.size:=hrd.out.lt
 clear hc hR0 hg0 hg
 go_wp2
 have HP:Hid (∀ m:List UInt8,m ≠ []→parse m=(rdAtom m).1 :: parse (rdAtom m).2):=ziq
 go_loopw [4] (fun v wr=>∃ (rest:List UInt8) (done:List At),Hid (RdAt wr w.heap.size rest)∧wr.ownsRow (w.heap.size+1) 76 6 v done.length (flat done)∧Hid (done ++ parse rest=parse l8)∧rest.length≤33554432∧Below w.heap.size w wr) (fun _ wr=>leftAt wr w.heap.size)
 case atStart=>exact ⟨l8,[],hrd,by simp [flat,World.ownsRow],rfl,hld,hb1⟩
 case round =>
  obtain ⟨rest,done,hR,hown,hE,hrl,hbr⟩:=hrel
  have c0:=hR.out.1
  have hlr:=hR.out.lt
  have hleft:=zfQ hR.out
  by_cases hne:rest = []
  ·subst hne
   have hfin:wr.ownsRow w.heap.size 76 6 u4 (parse l8).length (flat (parse l8)):=by
    have:=hE.out
    rw [show parse [] = [] from rfl,List.append_nil] at this
    rw [← this]
    exact zic hown (by omega)
   have hb0:bstr []=⟨#[]⟩:=rfl
   rw [hb0] at c0
   clear hown hE hR
   go_wp2
   go_ret
   exact ⟨_,rfl,hfin,hbr⟩
  ·have hb0:(bstr rest).toList.isEmpty=false:=by rw [zfs,za8];exact fun e=>hne (List.length_eq_zero_iff.1 e)
   have hca:=zaC w.heap.size rest wr hR.out (by omega)
   have hpc:=HP.out rest hne
   have hless:=zjH rest
   have hpos:0<rest.length:=List.length_pos_iff.2 hne
   have hdl:done.length≤4194304:=by
    have:=congrArg List.length hE.out
    rw [List.length_append] at this
    omega
   have HE2:Hid ((done ++ [(rdAtom rest).1]) ++ parse (rdAtom rest).2=parse l8):=by
    have:=hE.out
    rw [hpc] at this
    rw [Hid,List.append_assoc]
    exact this
   generalize (rdAtom rest).1=a at *
   generalize (rdAtom rest).2=r2 at *
   clear hpc hE
   have HLE:Hid (leftAt wr w.heap.size=rest.length):=hleft
   clear hleft
   unfold At.val at hca
   go_wp2_with fail
   refine hca.mono ?_
   rintro e w2 ⟨rfl,hR2,hg2⟩
   have hown2:=zh9 hown hg2 (Nat.lt_succ_self _)
   have hbr2:Below w.heap.size w w2:=hbr.grown hg2 hbr.size (fun k hk=>by cases hk;exact Nat.le_refl _)
   have hz2' := hR2.out.lt
   have hft:=zdB done a
   have HF:Hid (flat (done ++ [a])=flat done ++ enc a):=hft
   clear hca hown hg2 hft hb0 c0
   go_wp2_with (at_builtin;refine wpList_append_lies _ rfl _ _ 53 rfl (w.heap.size+1) 76 i0 _ 6 64 Tryz.underlying53 hi hz0 hz1 hz2 rfl (by decide) _ done.length _ rfl (hown2.alloc _) ⟨w2.heap.size,0,none⟩ 1 1 (enc a) rfl rfl (zgZ w2 a _) (zcS a) (by decide) (by unfold maxLen;omega) (by omega) (by simp;omega) (w2.heap.size+1) (by simp) ?_;intro g capn w3 hown3 hgrow3 hat3 hlt3)
   have hR3:RdAt w3 w.heap.size r2:=(hR2.out.alloc _).grown hgrow3 (zgO hown2 _ (Nat.lt_succ_self _))
   have hl3:=zfQ hR3
   go_roundw
   case rel=>exact ⟨r2,done ++ [a],hR3,by rw [HF.out,List.length_append];exact hown3,HE2,by omega,(zaO hbr2 _).grown hgrow3 (by simp;omega) (fun q hq=>by have:=zh4 hown2 q hq;omega)⟩
   case measure=>rw [hl3,HLE.out];omega
theorem str_ne {a b:ByteArray}(h:a ≠ b):(a.toList == b.toList)=false:=by
 rw [beq_eq_false_iff_ne,Go.Lib.toList_data,Go.Lib.toList_data]
 exact fun e=>h (ByteArray.ext (Array.toList_inj.1 e))
set_option maxRecDepth 100000 in
theorem zch (l:List UInt8)(t:List At)(w:World)(hr:RulesAt w)(hg:Good l t)(hl:l.length≤33554432) :
  Calls Tryz.prog 163 #[.string (bstr l)] w fun e w' => ∃ v,e = .returned (.tuple #[v,.int .i64 0])∧w'.ownsRow w.heap.size 76 6 v t.length (flat t)∧Below w.heap.size w w' := by
 have hc:=zip l w hl
 have hpl:=zis (l.drop 8)
 have hsh:=zit (l.drop 8)
 rw [hg.parse] at hc hpl hsh
 rw [List.length_drop] at hpl
 have HG:Hid (Good l t):=hg
 have HSH:Hid (∀ a∈t,short a):=hsh
 have HR:Hid (RulesAt w):=hr
 clear hr hg hsh
 go_enter Tryz.func163,Tryz.ntmps163
 go_wp2_with fail
 refine hc.mono ?_
 rintro e w1 ⟨v1,rfl,hown,hb1⟩
 have hce:=zcU v1 t w1 (HR.out.below hb1 HR.out.1) (zlD rfl hown) HSH.out (by omega) (List.all_eq_true.2 HG.out.2.1)
 clear hc
 go_wp2_with fail
 refine hce.mono ?_
 rintro e w2 ⟨out,rfl,ht,hb2⟩
 have heq:out=t:=ht.out.unique HG.out.2.1 HG.out.1
 subst heq
 rw [← HG.out.2.2]
 have hbw2:Below w.heap.size w w2:=hb1.trans (hb2.mono hb1.size)
 have hfin:=zh5 hown hb2
 clear hce hown hb1 hb2 ht
 go_wp2
 go_ret2
 exact ⟨v1,rfl,hfin,hbw2⟩
set_option maxRecDepth 100000 in
theorem zcg (l:List UInt8)(w:World)(hr:RulesAt w)(hg:∀ t,¬ Good l t)(hl:l.length≤33554432) :
  Calls Tryz.prog 163 #[.string (bstr l)] w fun e w' => e = .returned (.tuple #[.slice none 0 0,.int .i64 3])∧Below w.heap.size w w' := by
 have hc:=zip l w hl
 have hpl:=zis (l.drop 8)
 have hsh:=zit (l.drop 8)
 rw [List.length_drop] at hpl
 generalize parse (l.drop 8)=t at *
 have HG:Hid (∀ t,¬ Good l t):=hg
 have HSH:Hid (∀ a∈t,short a):=hsh
 have HR:Hid (RulesAt w):=hr
 clear hr hg hsh
 go_enter Tryz.func163,Tryz.ntmps163
 go_wp2_with fail
 refine hc.mono ?_
 rintro e w1 ⟨v1,rfl,hown,hb1⟩
 cases hall:t.all mayB
 ·have hce:=zcT v1 t w1 (HR.out.below hb1 HR.out.1) (zlD rfl hown) HSH.out (by omega) hall
  clear hc hall hown
  go_wp2_with fail
  refine hce.mono ?_
  rintro e w2 ⟨rfl,hb2⟩
  have hbw2:Below w.heap.size w w2:=hb1.trans (hb2.mono hb1.size)
  clear hce hb1 hb2
  generalize bstr []=e0 at *
  generalize bstr l=sl at *
  go_wp2
  all_goals go_ret2
  all_goals exact ⟨rfl,hbw2⟩
 ·have hce:=zcU v1 t w1 (HR.out.below hb1 HR.out.1) (zlD rfl hown) HSH.out (by omega) hall
  have HA:Hid (∀ a∈t,mayB a=true):=List.all_eq_true.1 hall
  clear hc hall hown
  go_wp2_with fail
  refine hce.mono ?_
  rintro e w2 ⟨out,rfl,ht,hb2⟩
  have hbw2:Below w.heap.size w w2:=hb1.trans (hb2.mono hb1.size)
  have hne:bstr (be out.length 8 ++ encL out) ≠ bstr l:=fun e=>HG.out out (zd9 HA.out ht.out (by have:=congrArg (fun s=>s.data.toList) e;exact this.symm))
  have hne2:=str_ne hne
  clear hce hb1 hb2 ht
  generalize bstr (be out.length 8 ++ encL out)=e0 at *
  generalize bstr l=sl at *
  go_wp2
  go_ret2
  exact ⟨rfl,hbw2⟩
end Go.Proofs.YtahdlejgjcjeoabGreatDoor
