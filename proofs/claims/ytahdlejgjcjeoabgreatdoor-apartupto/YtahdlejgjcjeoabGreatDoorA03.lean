/- The plain side of a cluster: what the document says of replicas and the network, with no program. -/
import Derived.Test.YtahdlejgjcjeoabGreatDoorA02
import Derived.Test.YtahdlejgjcjeoabGreatDoorA01
import Derived.Deep.RegionHeld3
import Derived.Deep.Light
import Derived.Test.YtahdlejgjcjeoabGreatDoorProg
import Derived.Lib.AppendStr
import Derived.Lib.SlBytesRow
import Derived.Deep.AppendLies
import Derived.Laws.BytesArg
namespace Go.Proofs.YtahdlejgjcjeoabGreatDoor
set_option maxHeartbeats 8000000
open Go.RowKit
theorem zgt (b off cap:Nat)(l:List At)(w:World)(hrow:RowAt w b off l)(hs:∀ a∈l,short a)(_hcap:l.length≤cap)(hlen:l.length≤281474976710656)(hb:b<w.heap.size) :
  Calls Tryz.prog 199 #[.slice (some ⟨b,off,none⟩) l.length cap] w fun e w' => e = .returned (.bool (l.all mayB))∧Below w.heap.size w w' := by
 have HR:Hid (RowAt w b off l):=hrow
 clear hrow
 have HS:Hid (∀ a∈l,short a):=hs
 clear hs
 go_enter Tryz.func199,Tryz.ntmps199
 go_wp2
 go_loopw [3] (fun i wr=>∃ k:Nat,k≤l.length∧i = .int .i64 k∧Hid ((l.take k).all mayB=true)∧Below w.heap.size w wr) (fun i _=>l.length - (intOf i).toNat)
 case atStart=>exact ⟨0,Nat.zero_le _,rfl,by simp [Hid],Below.refl _ _⟩
 case round =>
  obtain ⟨k,hk,rfl,ht,hbw⟩:=hrel
  by_cases hl:k<l.length
  ·obtain ⟨c0,c1,c2,c3,c4,c5⟩:=(HR.out.below hbw hb) k hl
   have hsk:=HS.out (l[k]) (List.getElem_mem hl)
   have hsz:=hbw.size
   generalize hak:l[k]=a at *
   have HA:Hid (l[k]=a):=hak
   clear hak
   cases hm:mayB a
   ·go_wp2_with (go_at_call 219;refine (zaa a _ hsk).mono ?_;rintro e w' ⟨rfl,hb1⟩)
    go_ret
    refine ⟨zkL ?_,hbw.trans (hb1.mono hsz)⟩
    symm
    rw [List.all_eq_false]
    exact ⟨a,HA.out ▸ List.getElem_mem hl,by simp [hm]⟩
   ·go_wp2_with (go_at_call 219;refine (zaa a _ hsk).mono ?_;rintro e w' ⟨rfl,hb1⟩)
    go_roundw
    case rel=>exact ⟨k+1,by omega,by go_num,(by rw [Hid,zas _ _ _ hl,HA.out,hm,ht.out];rfl),hbw.trans (hb1.mono hsz)⟩
    case measure=>simp [intOf];omega
  ·go_wp2
   go_ret
   refine ⟨zkL ?_,hbw⟩
   rw [← ht.out,List.take_of_length_le (by omega)]
theorem zgs (ad:Option Addr)(cap:Nat)(w:World) :
  Calls Tryz.prog 199 #[.slice ad 0 cap] w fun e w' => e = .returned (.bool true)∧Below w.heap.size w w' := by
 go_enter Tryz.func199,Tryz.ntmps199
 go_wp2
 go_loopw [3] (fun i wr=>i = .int .i64 0∧wr=w) (fun i _=>0)
 case atStart=>exact ⟨rfl,rfl⟩
 case round =>
  obtain ⟨rfl,rfl⟩:=hrel
  go_wp2
  go_ret
  exact ⟨rfl,Below.refl _ _⟩
theorem zgr (v:Value)(l:List At)(w:World)(hv:SliceOf w v l)(hs:∀ a∈l,short a)(hlen:l.length≤281474976710656) :
  Calls Tryz.prog 199 #[v] w fun e w' => e = .returned (.bool (l.all mayB))∧Below w.heap.size w w' := by
 obtain ⟨ad,cap,rfl,hcap,h⟩:=hv
 by_cases h0:0<l.length
 ·obtain ⟨b,off,rfl,hb,hrow⟩:=h h0
  exact zgt b off cap l w hrow hs hcap hlen hb
 ·obtain rfl:=List.length_eq_zero_iff.1 (by omega:l.length=0)
  exact zgs ad cap w
theorem zcf (b off cap:Nat)(l:List At)(i:Nat)(w:World)(hrow:RowAt w b off l)(hs:∀ a∈l,fits a)(_hcap:l.length≤cap)(hlen:l.length≤281474976710656)(hb:b<w.heap.size)(hi:i<l.length) :
  Calls Tryz.prog 121 #[.slice (some ⟨b,off,none⟩) l.length cap,.int .i64 i] w fun e w' => e = .returned (.bool (cntTo l i l.length))∧Below w.heap.size w w' := by
 have HR:Hid (RowAt w b off l):=hrow
 clear hrow
 have HS:Hid (∀ a∈l,fits a):=hs
 clear hs
 go_enter Tryz.func121,Tryz.ntmps121
 go_wp2
 go_loopw [5] (fun j wr=>∃ k:Nat,k≤l.length∧j = .int .i64 k∧Hid (cntTo l i k=true)∧Below w.heap.size w wr) (fun j _=>l.length - (intOf j).toNat)
 case atStart=>exact ⟨0,Nat.zero_le _,rfl,by simp [Hid,cntTo],Below.refl _ _⟩
 case round =>
  obtain ⟨k,hk,rfl,ht,hbw⟩:=hrel
  by_cases hl:k<l.length
  ·obtain ⟨c0,c1,c2,c3,c4,c5⟩:=(HR.out.below hbw hb).nth hl
   obtain ⟨d0,d1,d2,d3,d4,d5⟩:=(HR.out.below hbw hb).nth hi
   have hx:=HS.out _ (zg6 l k hl)
   have hy:=HS.out _ (zg6 l i hi)
   have hsz:=hbw.size
   have hst:=zb2 l i k l.length hl
   have hsu:=zb3 l i k
   generalize nth l k=x at *
   generalize nth l i=y at *
   have HST:Hid (bad x y (decide (k<i))=true→cntTo l i l.length=false):=hst
   have HSU:Hid (cntTo l i (k+1)=(cntTo l i k && !bad x y (decide (k<i)))):=hsu
   clear hst hsu
   have q1:(0:Int)≤(k:Int):=by omega
   have q2:(k:Int)<(l.length:Int):=by omega
   have q3:(0:Int)≤(i:Int):=by omega
   have q4:(i:Int)<(l.length:Int):=by omega
   have hbr:b<wr.heap.size:=by omega
   go_wp2
   go_region_held3 (fun w' => w'.cell? ⟨b,off+k*6,none⟩=some (.int .i64 x.ty)∧w'.cell? ⟨b,off+k*6+1,none⟩=some (.string x.key)∧w'.cell? ⟨b,off+k*6+2,none⟩=some (.int .i64 x.side)∧w'.cell? ⟨b,off+k*6+3,none⟩=some (.int .i64 x.who)∧w'.cell? ⟨b,off+k*6+4,none⟩=some (.string x.elem)∧w'.cell? ⟨b,off+k*6+5,none⟩=some (.int .i64 x.n)∧w'.cell? ⟨b,off+i*6,none⟩=some (.int .i64 y.ty)∧w'.cell? ⟨b,off+i*6+1,none⟩=some (.string y.key)∧w'.cell? ⟨b,off+i*6+2,none⟩=some (.int .i64 y.side)∧w'.cell? ⟨b,off+i*6+3,none⟩=some (.int .i64 y.who)∧w'.cell? ⟨b,off+i*6+4,none⟩=some (.string y.elem)∧w'.cell? ⟨b,off+i*6+5,none⟩=some (.int .i64 y.n)) (first | go_keep | (go_split_ands;refine ⟨?_,?_,?_,?_,?_,?_,?_,?_,?_,?_,?_,?_⟩ <;> (rw [hb1.cell (p:=⟨b,_,none⟩) (by simpa using hbr)];assumption))) (first | (go_at_call 122;refine (ziw x y _ hx hy).mono ?_;rintro e w1 ⟨rfl,hb1⟩))
   all_goals go_wp2
   clear c0 c1 c2 c3 c4 c5 d0 d1 d2 d3 d4 d5
   have hbr1:b<w1.heap.size:=Nat.lt_of_lt_of_le hbr hb1.size
   have hbw1:Below w.heap.size w w1:=hbw.drew.trans (hb1.mono hsz)
   clear hb1
   go_region_held3 (fun w' => w'.cell? ⟨b,off+k*6,none⟩=some (.int .i64 x.ty)∧w'.cell? ⟨b,off+k*6+1,none⟩=some (.string x.key)∧w'.cell? ⟨b,off+k*6+2,none⟩=some (.int .i64 x.side)∧w'.cell? ⟨b,off+k*6+3,none⟩=some (.int .i64 x.who)∧w'.cell? ⟨b,off+k*6+4,none⟩=some (.string x.elem)∧w'.cell? ⟨b,off+k*6+5,none⟩=some (.int .i64 x.n)∧w'.cell? ⟨b,off+i*6,none⟩=some (.int .i64 y.ty)∧w'.cell? ⟨b,off+i*6+1,none⟩=some (.string y.key)∧w'.cell? ⟨b,off+i*6+2,none⟩=some (.int .i64 y.side)∧w'.cell? ⟨b,off+i*6+3,none⟩=some (.int .i64 y.who)∧w'.cell? ⟨b,off+i*6+4,none⟩=some (.string y.elem)∧w'.cell? ⟨b,off+i*6+5,none⟩=some (.int .i64 y.n)) (first | go_keep | (go_split_ands;refine ⟨?_,?_,?_,?_,?_,?_,?_,?_,?_,?_,?_,?_⟩ <;> (rw [hb2.cell (p:=⟨b,_,none⟩) (by simpa using hbr1)];assumption))) (first | (go_at_call 169;refine (zef x y _ hx hy).mono ?_;rintro e w2 ⟨rfl,hb2⟩))
   have hbw2:Below w.heap.size w w2:=hbw1.drew.trans (hb2.mono hbw1.size)
   clear hb2 hbw1
   go_wp2
   all_goals go_light
   ·go_ret
    exact ⟨zkL (HST.out (by simp [bad, *])).symm,hbw2⟩
   ·exact ⟨⟨k+1,by omega,by go_num,by rw [Hid,HSU.out,ht.out];simp [bad, *],hbw2⟩,by simp [intOf];omega⟩
   ·exact ⟨⟨k+1,by omega,by go_num,by rw [Hid,HSU.out,ht.out];simp [bad, *],hbw2⟩,by simp [intOf];omega⟩
   ·go_ret
    exact ⟨zkL (HST.out (by simp [bad, *])).symm,hbw2⟩
   ·exact ⟨⟨k+1,by omega,by go_num,by rw [Hid,HSU.out,ht.out];simp [bad, *],hbw2⟩,by simp [intOf];omega⟩
  ·go_wp2
   go_ret
   refine ⟨zkL ?_,hbw⟩
   have:k=l.length:=by omega
   rw [← this,ht.out]
theorem zeZ:(Tryz.prog.info? 76).map (fun i=>(i.zero,i.size,i.bytes))=some (some (.agg #[.int .i64 0,.string ⟨#[]⟩,.int .i64 0,.int .i64 0,.string ⟨#[]⟩,.int .i64 0]),6,64):=by kernel_rfl
theorem za0 (v1 v2:Value)(l m:List At)(w:World)(h1:SliceOf w v1 l)(h2:SliceOf w v2 m)(hlen:l.length≤549755813888)(hlen2:m.length≤549755813888) :
  Calls Tryz.prog 74 #[v1,v2] w fun e w' => ∃ v,e = .returned v∧w'.ownsRow w.heap.size 76 6 v (l ++ m).length (flat (l ++ m))∧Below w.heap.size w w' := by
 obtain ⟨ad1,cap1,rfl,hc1,H1⟩:=h1
 obtain ⟨ad2,cap2,rfl,hc2,H2⟩:=h2
 have HR1:Hid (0<l.length→∃ b off,ad1=some ⟨b,off,none⟩∧b<w.heap.size∧RowAt w b off l):=H1
 have HR2:Hid (0<m.length→∃ b off,ad2=some ⟨b,off,none⟩∧b<w.heap.size∧RowAt w b off m):=H2
 clear H1 H2
 obtain ⟨i0,hi,hz0,hz1,hz2⟩:=info_parts zeZ
 go_enter Tryz.func74,Tryz.ntmps74
 go_wp2
 go_loopw [5,6] (fun v j wr=>∃ k:Nat,k≤l.length∧j = .int .i64 k∧wr.ownsRow w.heap.size 76 6 v k (flat (l.take k))∧Below w.heap.size w wr) (fun _ j _=>l.length - (intOf j).toNat)
 case atStart=>exact ⟨0,Nat.zero_le _,rfl,by simp [flat,World.ownsRow],Below.refl _ _⟩
 case round =>
  obtain ⟨k,hk,rfl,hown,hbw⟩:=hrel
  by_cases hl:k<l.length
  ·obtain ⟨b,off,rfl,hb,hrow⟩:=HR1.out (by omega)
   obtain ⟨c0,c1,c2,c3,c4,c5⟩:=(hrow.below hbw hb) k hl
   clear hrow HR1
   have hsz:=hbw.size
   have hft:=zdB (l.take k) (l[k])
   rw [← List.take_succ_eq_append_getElem hl] at hft
   generalize l[k]=x at *
   have HF:Hid (flat (l.take (k+1))=flat (l.take k) ++ enc x):=hft
   clear hft
   go_wp2_with (at_builtin;refine wpList_append_lies _ rfl _ _ 53 rfl w.heap.size 76 i0 _ 6 64 Tryz.underlying53 hi hz0 hz1 hz2 rfl (by decide) _ k _ rfl (hown.alloc _) ⟨wr.heap.size,0,none⟩ 1 1 (enc x) rfl rfl (zgZ wr x _) (zcS x) (by decide) (by unfold maxLen;omega) (by omega) (by simp;omega) (wr.heap.size+1) (by simp) ?_;intro g capn w1 hown1 hgrow1 hat1 hlt1)
   go_roundw
   case rel=>exact ⟨k+1,by omega,by go_num,by rw [HF.out];exact hown1,(hbw.alloc hsz _).grown hgrow1 (by simp;omega) (zh4 hown)⟩
   case measure=>simp [intOf];omega
  ·have hkl:k=l.length:=by omega
   subst hkl
   clear HR1
   rw [List.take_of_length_le (Nat.le_refl _)] at hown
   go_wp2
   obtain ⟨wo,rfl⟩:∃ wo:World,wo=wr:=⟨_,rfl⟩
   go_loopw [5,7] (fun v j wr=>∃ k:Nat,k≤m.length∧j = .int .i64 k∧wr.ownsRow w.heap.size 76 6 v (l.length+k) (flat (l ++ m.take k))∧Below w.heap.size w wr) (fun _ j _=>m.length - (intOf j).toNat)
   case atStart=>exact ⟨0,Nat.zero_le _,rfl,by simpa using hown,hbw⟩
   case round =>
    clear hown hbw
    obtain ⟨k,hk,rfl,hown,hbw⟩:=hrel
    by_cases hl:k<m.length
    ·obtain ⟨b,off,rfl,hb,hrow⟩:=HR2.out (by omega)
     obtain ⟨c0,c1,c2,c3,c4,c5⟩:=(hrow.below hbw hb) k hl
     clear hrow HR2
     have hsz:=hbw.size
     have hft:=zdB (l ++ m.take k) (m[k])
     rw [List.append_assoc,← List.take_succ_eq_append_getElem hl] at hft
     generalize m[k]=x at *
     have HF:Hid (flat (l ++ m.take (k+1))=flat (l ++ m.take k) ++ enc x):=hft
     clear hft
     go_wp2_with (at_builtin;refine wpList_append_lies _ rfl _ _ 53 rfl w.heap.size 76 i0 _ 6 64 Tryz.underlying53 hi hz0 hz1 hz2 rfl (by decide) _ (l.length+k) _ rfl (hown.alloc _) ⟨wr.heap.size,0,none⟩ 1 1 (enc x) rfl rfl (zgZ wr x _) (zcS x) (by decide) (by unfold maxLen;omega) (by omega) (by simp;omega) (wr.heap.size+1) (by simp) ?_;intro g capn w1 hown1 hgrow1 hat1 hlt1)
     go_roundw
     case rel=>exact ⟨k+1,by omega,by go_num,by rw [HF.out,← Nat.add_assoc];exact hown1,(hbw.alloc hsz _).grown hgrow1 (by simp;omega) (zh4 hown)⟩
     case measure=>simp [intOf];omega
    ·go_wp2
     go_ret
     rw [List.take_of_length_le (by omega)] at hown
     refine ⟨_,rfl,?_,hbw⟩
     have:k=m.length:=by omega
     rw [List.length_append,← this]
     exact hown
def be (n:Nat):Nat→List UInt8
 | 0 => []
 | w+1=>be (n / 256) w ++ [UInt8.ofNat n]
theorem zaL (n w:Nat):(be n w).length=w:=by
 induction w generalizing n with
 | zero=>rfl
 | succ w ih=>simp [be,ih]
theorem be_get (n w i:Nat)(h:i<w):(be n w)[i]? = some (UInt8.ofNat (n / 256 ^ (w - 1 - i))):=by
 induction w generalizing n with
 | zero=>omega
 | succ w ih =>
  unfold be
  by_cases hi:i<w
  ·rw [List.getElem?_append_left (by rw [zaL];exact hi),ih _ hi,Nat.div_div_eq_div_mul]
   have:w+1 - 1 - i=(w - 1 - i)+1:=by omega
   rw [this,Nat.pow_succ,Nat.mul_comm]
  ·have:i=w:=by omega
   subst this
   rw [List.getElem?_append_right (by rw [zaL];exact Nat.le_refl _),zaL]
   simp
theorem zaM (n w i:Nat)(h:i<w):(be n w).take (i+1)=(be n w).take i ++ [UInt8.ofNat (n / 256 ^ (w - 1 - i))]:=by
 have hl:i<(be n w).length:=by rw [zaL];exact h
 rw [List.take_succ_eq_append_getElem hl]
 have:=be_get n w i h
 rw [List.getElem?_eq_getElem hl] at this
 rw [Option.some.inj this]
def bcells (l:List UInt8):List Value:=l.map fun b => .int .u8 (b.toNat:Int)
theorem zaH (l r:List UInt8):bcells (l ++ r)=bcells l ++ bcells r:=by simp [bcells]
theorem zaI (l:List UInt8):(bcells l).length=l.length:=by simp [bcells]
def Buf (B:Nat)(w:World)(v:Value)(xs:List UInt8):Prop:=w.ownsRow B 5 1 v xs.length (bcells xs)∧B≤w.heap.size
def OnlyB (w w' : World):Prop:=w.heap.size≤w'.heap.size∧∀ i,i<w.heap.size→(∀ c fz,w.heap[i]? ≠ some (.cells c 5 fz))→w'.heap[i]? = w.heap[i]?
theorem OnlyB.refl (w:World):OnlyB w w:=⟨Nat.le_refl _,fun _ _ _=>rfl⟩
theorem OnlyB.trans {a b c:World}(h:OnlyB a b)(k:OnlyB b c):OnlyB a c :=
 ⟨Nat.le_trans h.1 k.1,fun i hi hn=>by
  have e:=h.2 i hi hn
  rw [k.2 i (Nat.lt_of_lt_of_le hi h.1) (fun c fz=>by rw [e];exact hn c fz),e]⟩
theorem OnlyB.below {a b:World}(h:Below a.heap.size a b):OnlyB a b:=⟨h.size,fun i hi _=>h.block i hi⟩
theorem OnlyB.alloc {a b:World}(h:OnlyB a b)(o:Obj):OnlyB a (b.alloc o):=h.trans (.below (zaO (Below.refl _ _) o))
theorem OnlyB.grown {a w w' : World}{B n:Nat}{v:Value}{xs:List Value}(h:OnlyB a w)(ho:w.ownsRow B 5 1 v n xs)(hg:w.grownBy w' v.ownBlock):OnlyB a w' :=
 h.trans ⟨hg.size,fun i hi hn=>hg.block i hi (fun e=>by
  rcases ho.2 with ⟨h0,_⟩ | ⟨g,cap,cur,hv,_,hh,_⟩
  ·rw [h0] at e;cases e
  ·rw [hv] at e
   cases e
   exact hn _ _ hh)⟩
theorem OnlyB.heap {w w' : World}(h:OnlyB w w'){b:Nat}{c:Array Value}{e:TypeId}{fz:Nat × Nat}(hb:w.heap[b]? = some (.cells c e fz))(he:e ≠ 5):w'.heap[b]? = some (.cells c e fz):=by
 rw [h.2 b (Array.getElem?_eq_some_iff.1 hb).1 (fun c' fz' k=>by rw [hb] at k;cases k;exact he rfl),hb]
theorem zlv {w:World}{b:Nat}{x0 x1 x2 x3 x4 x5:Value}{e:TypeId}{fz:Nat × Nat}(h:w.heap[b]? = some (.cells #[x0,x1,x2,x3,x4,x5] e fz)) :
  w.cell? ⟨b,0,none⟩=some x0∧w.cell? ⟨b,1,none⟩=some x1∧w.cell? ⟨b,2,none⟩=some x2∧w.cell? ⟨b,3,none⟩=some x3∧w.cell? ⟨b,4,none⟩=some x4∧w.cell? ⟨b,5,none⟩=some x5:=by
 simp [World.cell?,h]
theorem zbf (n k:Nat):((n:Int) / 2 ^ (8*k) % 256)=((UInt8.ofNat (n / 256 ^ k)).toNat:Int):=by
 have:(2:Int) ^ (8*k)=((256 ^ k:Nat):Int):=by rw [Int.pow_mul];simp
 rw [UInt8.toNat_ofNat',this]
 simp
theorem zg1 (w:World)(c:Value)(e:TypeId):∀ j u,[c][j]? = some u→(w.alloc (.cells #[c] e)).cell? ((⟨w.heap.size,0,none⟩:Addr).add j)=some u:=by
 intro j u hj
 match j,hj with
 | 0,hj=>simp at hj;subst hj;simp [Addr.add]
 | (j+1),hj=>simp at hj
theorem zhr {c:Int}:∀ u ∈ [Value.int .u8 c],u.oneCell' = true:=by
 intro u hu
 simp at hu
 subst hu
 rfl
theorem ze1:(Tryz.prog.info? 5).map (fun i=>(i.zero,i.size,i.bytes))=some (some (.int .u8 0),1,1):=by kernel_rfl
set_option maxRecDepth 100000 in
theorem zaw (B:Nat)(v:Value)(xs:List UInt8)(n wd:Nat)(w:World)(hb:Buf B w v xs)(_hn:n<9223372036854775808)(hw:wd≤8)(hx:xs.length≤1099511627776) :
  Calls Tryz.prog 167 #[v,.int .i64 n,.int .i64 wd] w fun e w' => ∃ v',e = .returned v' ∧ Hid (Buf B w' v' (xs ++ be n wd))∧Below B w w' ∧ OnlyB w w' := by
 have HB:Hid (Buf B w v xs):=hb
 clear hb
 obtain ⟨i0,hi,hz0,hz1,hz2⟩:=info_parts ze1
 go_enter Tryz.func167,Tryz.ntmps167
 go_wp2
 go_loopw [0,9] (fun v' j wr=>∃ i:Nat,i≤wd∧j = .int .i64 i∧Hid (Buf B wr v' (xs ++ (be n wd).take i))∧Below B w wr∧Hid (OnlyB w wr)) (fun _ j _=>wd - (intOf j).toNat)
 case atStart=>exact ⟨0,Nat.zero_le _,rfl,by simpa [Hid] using HB.out,Below.refl _ _,OnlyB.refl _⟩
 case round =>
  obtain ⟨i,hiw,rfl,hbuf,hbw,hob⟩:=hrel
  by_cases hl:i<wd
  ·have hts:=zaM n wd i hl
   obtain ⟨k,hk⟩:∃ k,wd=i+1+k:=⟨wd - (i+1),by omega⟩
   have hk2:wd - 1 - i=k:=by omega
   rw [hk2] at hts
   have hk3:(wd:Int) - 1 - (i:Int)=(k:Int):=by omega
   have hk8:k≤8:=by omega
   clear hk2 hk
   have hlen:(xs ++ (be n wd).take i).length=xs.length+i:=by rw [List.length_append,List.length_take,zaL];omega
   have hown:=hbuf.out.1
   rw [hlen] at hown
   generalize hold:xs ++ (be n wd).take i=ys at *
   have HYS:Hid (xs ++ (be n wd).take i=ys):=hold
   have HTS:Hid ((be n wd).take (i+1)=(be n wd).take i ++ [UInt8.ofNat (n / 256 ^ k)]):=hts
   clear hold hts
   have hbl:=hbuf.out.2
   have HBY:Hid (((n:Int) / 2 ^ (8*k) % 256)=((UInt8.ofNat (n / 256 ^ k)).toNat:Int)):=zbf n k
   go_wp2_with (at_builtin;refine wpList_append_own _ rfl _ _ 124 rfl B 5 i0 _ 1 1 Tryz.underlying124 hi hz0 hz1 hz2 rfl (by decide) _ (xs.length+i) _ rfl (hown.alloc _) ⟨wr.heap.size,0,none⟩ 1 1 [.int .u8 ((n:Int) / 2 ^ (8*k) % 256)] rfl rfl (zg1 wr _ _) zhr (by unfold maxLen;omega) (by omega) (by simp;omega) ?_;intro v2 w2 hown2 hg2 _)
   go_roundw
   case rel =>
    refine ⟨i+1,by omega,by go_num,⟨?_,Nat.le_trans (by simp;omega) hg2.size⟩,(hbw.alloc hbl _).grown hg2 (by simp;omega) (zh4 hown),(hob.out.alloc _).grown (hown.alloc _) hg2⟩
    rw [HTS.out,← List.append_assoc,HYS.out,zaH,List.length_append,hlen]
    rw [HBY.out] at hown2
    exact hown2
   case measure=>simp [intOf];omega
  ·have hiw' : i=wd:=by omega
   subst hiw'
   have hfin:=hbuf.out
   rw [List.take_of_length_le (by rw [zaL];exact Nat.le_refl _)] at hfin
   have HF:Hid (Buf B wr _ (xs ++ be n i)):=hfin
   clear hfin hbuf
   go_wp2
   go_ret
   exact ⟨_,rfl,HF,hbw,hob.out⟩
theorem zax (B:Nat)(v:Value)(xs:List UInt8)(n:Int)(wd:Nat)(w:World)(hb:Buf B w v xs)(h0:0≤n)(_hn:n<9223372036854775808)(hw:wd≤8)(hx:xs.length≤1099511627776) :
  Calls Tryz.prog 167 #[v,.int .i64 n,.int .i64 wd] w fun e w' => ∃ v',e = .returned v' ∧ Hid (Buf B w' v' (xs ++ be n.toNat wd))∧Below B w w' ∧ OnlyB w w' := by
 have:=zaw B v xs n.toNat wd w hb (by omega) hw hx
 rwa [show ((n.toNat:Nat):Int)=n by omega] at this
set_option maxRecDepth 100000 in
theorem zay (B:Nat)(v:Value)(xs:List UInt8)(s:ByteArray)(w:World)(hb:Buf B w v xs)(hs:s.size≤1099511627776)(hx:xs.length≤1099511627776) :
  Calls Tryz.prog 218 #[v,.string s] w fun e w' => ∃ v',e = .returned v' ∧ Hid (Buf B w' v' (xs ++ (be s.size 1 ++ s.data.toList)))∧Below B w w' ∧ OnlyB w w' := by
 have hc:=zax B v xs (s.size:Int) 1 w hb (by omega) (by omega) (by omega) hx
 rw [show ((s.size:Int)).toNat=s.size by omega] at hc
 obtain ⟨i0,hi,hz0,hz1,hz2⟩:=info_parts ze1
 have hc' : Calls Tryz.prog 167 #[v,.int .i64 (s.size:Int),.int .i64 1] w fun e w' => ∃ v',e = .returned v' ∧ Hid (Buf B w' v' (xs ++ be s.size 1))∧Below B w w' ∧ OnlyB w w' := hc
 clear hc hb
 go_enter Tryz.func218,Tryz.ntmps218
 go_wp2_with fail
 refine hc'.mono ?_
 rintro e w1 ⟨v1,rfl,hb1,hbw1,hob1⟩
 have hown:=hb1.out.1
 have hbl:=hb1.out.2
 have hlen:(xs ++ be s.size 1).length=xs.length+1:=by rw [List.length_append,zaL]
 rw [hlen] at hown
 have HX:Hid (xs ++ (be s.size 1 ++ s.data.toList)=(xs ++ be s.size 1) ++ s.data.toList):=by rw [Hid,List.append_assoc]
 clear hb1 hc'
 generalize xs ++ be s.size 1=ys at *
 go_wp2_with (at_builtin;refine Go.Lib.wpList_append_own_string _ rfl _ _ 124 9 rfl B 5 i0 Tryz.underlying124 Tryz.underlying9 hi hz0 hz1 hz2 _ (xs.length+1) _ rfl hown s rfl (by unfold maxLen;omega) (by omega) hbl ?_;intro v2 w2 hown2 hg2 _)
 go_ret
 refine ⟨v2,rfl,⟨?_,Nat.le_trans hbl hg2.size⟩,hbw1.grown hg2 hbl (zh4 hown),hob1.grown hown hg2⟩
 rw [HX.out,zaH,List.length_append,hlen]
 exact hown2
def encA (a:At):List UInt8:=be a.ty.toNat 1 ++ ((be a.key.size 1 ++ a.key.data.toList) ++ (be a.side.toNat 1 ++ (be a.who.toNat 1 ++ ((be a.elem.size 1 ++ a.elem.data.toList) ++ be a.n.toNat 4))))
def encL (l:List At):List UInt8:=l.flatMap encA
theorem zcQ (l:List At)(a:At):encL (l ++ [a])=encL l ++ encA a:=by simp [encL]
def fit2 (a:At):Prop:=0≤a.ty∧a.ty≤4294967296∧0≤a.side∧a.side≤4294967296∧0≤a.who∧a.who≤4294967296∧0≤a.n∧a.n≤4294967296∧a.key.size≤4∧a.elem.size≤8
theorem zdi {a:At}(h:mayB a=true):fit2 a:=by
 simp only [mayB,decide_eq_true_eq] at h
 unfold fit2
 omega
theorem zcO (a:At)(h:fit2 a):(encA a).length≤21∧9≤(encA a).length:=by
 obtain ⟨_,_,_,_,_,_,_,_,h1,h2⟩:=h
 have e1:a.key.data.toList.length=a.key.size:=by simp
 have e2:a.elem.data.toList.length=a.elem.size:=by simp
 unfold encA
 simp only [List.length_append,zaL,e1,e2]
 omega
set_option maxRecDepth 100000 in
theorem zav (B:Nat)(v:Value)(xs:List UInt8)(a:At)(w:World)(hb:Buf B w v xs)(hB:B≤w.heap.size)(hf:fit2 a)(hx:xs.length≤549755813888) :
  Calls Tryz.prog 198 #[v,a.val] w fun e w' => ∃ v',e = .returned v' ∧ Hid (Buf B w' v' (xs ++ encA a))∧Below B w w' ∧ OnlyB w w' := by
 obtain ⟨ty,key,side,who,elem,n⟩:=a
 obtain ⟨a1,a2,a3,a4,a5,a6,a7,a8,a9,a10⟩:=hf
 simp only at a1 a2 a3 a4 a5 a6 a7 a8 a9 a10
 have HN:Hid (∀ (W:World) (u:Value) (ys:List UInt8) (k:Int) (wd:Nat),Buf B W u ys→0≤k→k≤4294967296→wd≤8→ys.length≤1099511627776→Calls Tryz.prog 167 #[u,.int .i64 k,.int .i64 wd] W fun e w' => ∃ v',e = .returned v' ∧ Hid (Buf B w' v' (ys ++ be k.toNat wd))∧Below B W w' ∧ OnlyB W w'):=fun W u ys k wd h h0 h1 h2 h3=>zax B u ys k wd W h h0 (by omega) h2 h3
 have HB:Hid (Buf B (w.alloc (.cells #[.int .i64 ty,.string key,.int .i64 side,.int .i64 who,.string elem,.int .i64 n] 76)) v xs):=⟨hb.1.alloc _,by have:=hb.2;simp;omega⟩
 have hbw0:=(Below.refl B w).alloc hB (.cells #[.int .i64 ty,.string key,.int .i64 side,.int .i64 who,.string elem,.int .i64 n] 76)
 have hob0:=(OnlyB.refl w).alloc (.cells #[.int .i64 ty,.string key,.int .i64 side,.int .i64 who,.string elem,.int .i64 n] 76)
 have hh0:(w.alloc (.cells #[.int .i64 ty,.string key,.int .i64 side,.int .i64 who,.string elem,.int .i64 n] 76)).heap[w.heap.size]? = some (.cells #[.int .i64 ty,.string key,.int .i64 side,.int .i64 who,.string elem,.int .i64 n] 76 (0,0)):=(MapKept.heap_alloc w _).1
 clear hb
 unfold At.val
 simp only
 go_enter Tryz.func198,Tryz.ntmps198
 go_wp2_with fail
 generalize w.alloc (.cells #[.int .i64 ty,.string key,.int .i64 side,.int .i64 who,.string elem,.int .i64 n] 76)=w0 at *
 refine (HN.out w0 v xs ty 1 HB.out a1 a2 (by omega) (by omega)).mono ?_
 rintro e w1 ⟨v1,rfl,hb1,hbw1,hob1⟩
 have hh1:=hob1.heap hh0 (by decide)
 have hbW1:=hbw0.trans hbw1
 have hoW1:=hob0.trans hob1
 obtain ⟨c0,c1,c2,c3,c4,c5⟩:=zlv hh1
 clear hbw1 hob1 hbw0 hob0 hh0 HB
 go_wp2_with fail
 refine (zay B v1 _ key w1 hb1.out (by omega) (by rw [List.length_append,zaL];omega)).mono ?_
 rintro e w2 ⟨v2,rfl,hb2,hbw2,hob2⟩
 have hh2:=hob2.heap hh1 (by decide)
 have hbW2:=hbW1.trans hbw2
 have hoW2:=hoW1.trans hob2
 obtain ⟨d0,d1,d2,d3,d4,d5⟩:=zlv hh2
 clear hbw2 hob2 hbW1 hoW1 hb1 hh1 c0 c1 c2 c3 c4 c5
 go_wp2_with fail
 refine (HN.out w2 v2 _ side 1 hb2.out a3 a4 (by omega) ?_).mono ?_
 ·simp only [List.length_append,zaL]
  have:key.data.toList.length=key.size:=by simp
  omega
 rintro e w3 ⟨v3,rfl,hb3,hbw3,hob3⟩
 have hh3:=hob3.heap hh2 (by decide)
 have hbW3:=hbW2.trans hbw3
 have hoW3:=hoW2.trans hob3
 obtain ⟨c0,c1,c2,c3,c4,c5⟩:=zlv hh3
 clear hbw3 hob3 hbW2 hoW2 hb2 hh2 d0 d1 d2 d3 d4 d5
 go_wp2_with fail
 refine (HN.out w3 v3 _ who 1 hb3.out a5 a6 (by omega) ?_).mono ?_
 ·simp only [List.length_append,zaL]
  have:key.data.toList.length=key.size:=by simp
  omega
 rintro e w4 ⟨v4,rfl,hb4,hbw4,hob4⟩
 have hh4:=hob4.heap hh3 (by decide)
 have hbW4:=hbW3.trans hbw4
 have hoW4:=hoW3.trans hob4
 obtain ⟨d0,d1,d2,d3,d4,d5⟩:=zlv hh4
 clear hbw4 hob4 hbW3 hoW3 hb3 hh3 c0 c1 c2 c3 c4 c5
 go_wp2_with fail
 refine (zay B v4 _ elem w4 hb4.out (by omega) ?_).mono ?_
 ·simp only [List.length_append,zaL]
  have:key.data.toList.length=key.size:=by simp
  omega
 rintro e w5 ⟨v5,rfl,hb5,hbw5,hob5⟩
 have hh5:=hob5.heap hh4 (by decide)
 have hbW5:=hbW4.trans hbw5
 have hoW5:=hoW4.trans hob5
 obtain ⟨c0,c1,c2,c3,c4,c5⟩:=zlv hh5
 clear hbw5 hob5 hbW4 hoW4 hb4 hh4 d0 d1 d2 d3 d4 d5
 go_wp2_with fail
 refine (HN.out w5 v5 _ n 4 hb5.out a7 a8 (by omega) ?_).mono ?_
 ·simp only [List.length_append,zaL]
  have:key.data.toList.length=key.size:=by simp
  have:elem.data.toList.length=elem.size:=by simp
  omega
 rintro e w6 ⟨v6,rfl,hb6,hbw6,hob6⟩
 have hbW6:=hbW5.trans hbw6
 have hoW6:=hoW5.trans hob6
 have HB6:Hid (Buf B w6 v6 (xs ++ encA ⟨ty,key,side,who,elem,n⟩)):=by
  have:=hb6.out
  unfold encA
  simp only [List.append_assoc] at this ⊢
  exact this
 clear hbw6 hob6 hb5 hb6 hh5 c0 c1 c2 c3 c4 c5
 go_wp2
 go_ret
 exact ⟨v6,rfl,HB6,hbW6,hoW6⟩
def bstr (l:List UInt8):ByteArray:=⟨l.toArray⟩
theorem za3 (l:List UInt8):(bstr l).data.toList=l:=rfl
theorem za6 (l:List UInt8):strOfNums (l.map fun b=>(b.toNat:Int))=bstr l:=by
 unfold strOfNums bstr
 congr 2
 rw [List.map_map]
 conv=>rhs;rw [← List.map_id l]
 apply List.map_congr_left
 intro b _
 simp
theorem za8 (l:List UInt8):(bstr l).size=l.length:=by simp [bstr,ByteArray.size]
theorem za7 (s:ByteArray):bstr s.data.toList=s:=rfl
def tell (l:List At):List At:=(leftTo l l.length).mergeSort fun a b=>decide (plc a b≤0)
theorem ziE {a b c:At}(h:plc a b≤0)(k:plc b c≤0):plc a c≤0:=ziC.trans a b c h k
theorem ziB (a b:At):plc a b≤0∨plc b a≤0:=by
 have:=ziC.anti a b
 omega
theorem zmr (l:List At):IsTold l (tell l):=by
 have hm:∀ x,x∈tell l ↔ x∈leftTo l l.length:=fun x=>List.mem_mergeSort
 have hp:(tell l).Pairwise (fun a b=>plc a b≤0):=by
  have:=List.pairwise_mergeSort (le:=fun a b:At=>decide (plc a b≤0)) (fun a b c h k=>by simpa using ziE (by simpa using h) (by simpa using k)) (fun a b=>by simpa using ziB a b) (leftTo l l.length)
  exact this.imp fun h=>by simpa using h
 have ha:(tell l).Pairwise (fun a b=>plc a b ≠ 0) :=
  (List.mergeSort_perm (leftTo l l.length) _).symm.pairwise zfU (fun {x y} h e=>h (ziA e))
 refine ⟨(hp.and ha).imp fun h=>by omega,fun x hx=>zfV x ((hm x).1 hx),fun y hy => ?_⟩
 obtain ⟨x,hx,h⟩:=zfT y hy
 exact ⟨x,(hm x).2 hx,h⟩
def fresh (l m:List At):List At:=(tell l).filter fun x=>frTo x m m.length
def adA (l:List UInt8):Nat × Nat:=l.foldl (fun p c=>((p.1+c.toNat) % 65521,((p.1+c.toNat) % 65521+p.2) % 65521)) (1,0)
def adler (l:List UInt8):Nat:=(adA l).2*65536+(adA l).1
structure Ent where
 num:Nat
 org:Nat
 d:List At
structure Rec where
 kind:Nat
 num:Nat
 d:List At
structure Rep where
 down:Bool
 atoms:List At
 num:Nat
 base:Nat
 buf:List Ent
 acked:List Nat
 log:List Rec
 torn:List UInt8
 frames:Nat
 weight:Nat
structure Frm where
 kind:Nat
 src:Nat
 dst:Nat
 upto:Nat
 d:List At
structure Clu where
 room:Nat
 bp:Bool
 rr:Bool
 near:Nat→Nat→Bool
 reps:List Rep
 net:List Frm
structure OpV where
 ty:Int
 key:ByteArray
 side:Int
 elem:ByteArray
 n:Int
def encS (l:List At):List UInt8:=be (tell l).length 8 ++ encL (tell l)
def recHead (r:Rec):List UInt8:=be r.kind 1 ++ (be r.num 8 ++ (be (encS r.d).length 8 ++ encS r.d))
def recBytes (r:Rec):List UInt8:=recHead r ++ be (adler (recHead r)) 4
def logBytes (p:Rep):List UInt8:=(p.log.map recBytes).flatten ++ p.torn
def Clu.rep (c:Clu)(r:Nat):Rep:=c.reps.getD r ⟨true,[],0,0,[],[],[],[],0,0⟩
def Clu.setRep (c:Clu)(r:Nat)(p:Rep):Clu:={ c with reps:=c.reps.set r p }
def Clu.there (c:Clu)(r:Int):Bool:=decide (0≤r∧r<c.reps.length)
def Clu.works (c:Clu)(r:Int):Int:=if c.there r=false then 5 else if (c.rep r.toNat).down then 8 else 0
def Rep.drop (p:Rep)(n:Nat):Rep:={ p with buf:=p.buf.filter (fun e=>decide (n<e.num)),base:=max p.base n }
def Rep.take1 (p:Rep)(d:List At)(org:Nat):Rep :=
 { p with num:=p.num+1,log:=p.log ++ [⟨1,p.num+1,d⟩],atoms:=p.atoms ++ d,buf:=p.buf ++ [⟨p.num+1,org,d⟩] }
def Rep.take (room:Nat)(p:Rep)(d:List At)(org:Nat):Rep :=
 if room<p.buf.length+1 then (p.take1 d org).drop ((p.buf.head?.map (·.num)).getD (p.num+1)) else p.take1 d org
def fineOp (o:OpV):Bool:=decide (
 1≤o.ty∧o.ty≤5∧1≤o.key.size∧o.key.size≤4∧o.elem.size≤8 ∧
 ((o.ty=1∧o.side=0∧o.elem.size=0∧1≤o.n∧o.n≤1000) ∨
  (o.ty=2∧o.side=0∧o.elem.size=0∧o.n ≠ 0 ∧ -1000≤o.n∧o.n≤1000) ∨
  (o.ty=3∧o.side=0∧o.n=0)∨(o.ty=4∧(o.side=0∨o.side=1)∧o.n=0)∨(o.ty=5∧o.side=0∧o.n=0)))
def hadN (l:List At)(a:At):Int:=l.foldl (fun n x=>if plc x a=0∧n<x.n then x.n else n) 0
def opAtom (l:List At)(r:Nat)(o:OpV):At :=
 if o.ty=1 then ⟨1,o.key,0,r,o.elem,hadN l ⟨1,o.key,0,r,o.elem,0⟩+o.n⟩
 else if o.ty=2 then (if o.n<0 then ⟨2,o.key,1,r,o.elem,hadN l ⟨2,o.key,1,r,o.elem,0⟩ + -o.n⟩ else ⟨2,o.key,o.side,r,o.elem,hadN l ⟨2,o.key,o.side,r,o.elem,0⟩+o.n⟩)
 else if o.ty=5 then ⟨5,o.key,o.side,r,o.elem,hadN l ⟨5,o.key,o.side,r,o.elem,0⟩+1⟩
 else ⟨o.ty,o.key,o.side,0,o.elem,0⟩
def Clu.opErr (c:Clu)(r:Int)(o:OpV):Int :=
 if c.works r ≠ 0 then c.works r else if fineOp o=false then 6 else if 2147483647<(opAtom (c.rep r.toNat).atoms r.toNat o).n then 2 else 0
def Clu.update (c:Clu)(r:Int)(o:OpV):Clu :=
 if c.opErr r o=0 then c.setRep r.toNat ((c.rep r.toNat).take c.room [opAtom (c.rep r.toNat).atoms r.toNat o] r.toNat) else c
def Rep.fall (p:Rep):Rep:={ p with down:=true,atoms := [],num:=0,base:=0,buf := [],acked:=List.replicate p.acked.length 0 }
def Rep.tear (p:Rep)(d:List At)(keep:Int):Rep :=
 if keep<(recBytes ⟨1,p.num+1,d⟩).length then { p with torn:=(recBytes ⟨1,p.num+1,d⟩).take keep.toNat } else { p with log:=p.log ++ [⟨1,p.num+1,d⟩] }
def Clu.tornOp (c:Clu)(r:Int)(o:OpV)(keep:Int):Clu :=
 if c.opErr r o=0 then c.setRep r.toNat ((c.rep r.toNat).tear [opAtom (c.rep r.toNat).atoms r.toNat o] keep).fall else c
def Clu.crash (c:Clu)(r:Int):Clu:=if c.works r=0 then c.setRep r.toNat (c.rep r.toNat).fall else c
def lastNum (l:List Rec):Nat:=(l.getLast?.map (·.num)).getD 0
def Rep.rise (p:Rep):Rep:={ p with down:=false,atoms:=p.atoms ++ (p.log.map (·.d)).flatten,num:=lastNum p.log,base:=lastNum p.log,torn := [] }
def Clu.startErr (c:Clu)(r:Int):Int:=if c.there r=false then 5 else if (c.rep r.toNat).down then 0 else 9
def Clu.start (c:Clu)(r:Int):Clu:=if c.startErr r=0 then c.setRep r.toNat (c.rep r.toNat).rise else c
def Rep.compact (p:Rep):Rep:={ p with log := [⟨2,p.num,tell p.atoms⟩] }
def Clu.compact (c:Clu)(r:Int):Clu:=if c.works r=0 then c.setRep r.toNat (c.rep r.toNat).compact else c
def Clu.put (c:Clu)(f:Frm):Clu:=if c.net.length<200 then { c with net:=c.net ++ [f] } else c
def Clu.sendErr (c:Clu)(r q:Int):Int :=
 if c.there r=false∨c.there q=false then 5 else if c.near r.toNat q.toNat=false then 7 else if (c.rep r.toNat).down then 8 else 0
def Rep.toSend (bp:Bool)(p:Rep)(q:Nat):List Ent:=p.buf.filter fun e=>decide (p.acked.getD q 0<e.num) && !(bp && decide (e.org=q))
def Rep.frame (bp:Bool)(p:Rep)(r q:Nat):Frm :=
 if p.acked.getD q 0<p.base then ⟨2,r,q,p.num,tell p.atoms⟩ else ⟨1,r,q,p.num,tell (((p.toSend bp q).map (·.d)).flatten)⟩
def Clu.sent (c:Clu)(r q:Nat):Clu :=
 (c.setRep r { c.rep r with frames:=(c.rep r).frames+1,weight:=(c.rep r).weight+((c.rep r).frame c.bp r q).d.length }).put ((c.rep r).frame c.bp r q)
def Clu.send (c:Clu)(r q:Int):Clu:=if c.sendErr r q=0 then c.sent r.toNat q.toNat else c
def Clu.has (c:Clu)(k:Int):Bool:=decide (0≤k∧k<c.net.length)
def Clu.netErr (c:Clu)(k:Int):Int:=if c.has k then 0 else 10
def Clu.frm (c:Clu)(k:Nat):Frm:=c.net.getD k ⟨0,0,0,0,[]⟩
def Clu.out (c:Clu)(k:Nat):Clu:={ c with net:=c.net.eraseIdx k }
def leastAcked (near:Nat→Bool)(acked:List Nat)(m:Nat):Nat:=(List.range acked.length).foldl (fun m q=>if near q && decide (acked.getD q 0<m) then acked.getD q 0 else m) m
def Rep.ack (near:Nat→Bool)(p:Rep)(q upto:Nat):Rep :=
 let a:=p.acked.set q (max (p.acked.getD q 0) upto)
 { p with acked:=a }.drop (leastAcked near a (a.getD q 0))
def Rep.arrive (room:Nat)(rr:Bool)(p:Rep)(d:List At)(org:Nat):Rep :=
 if fresh d p.atoms = [] then p else p.take room (if rr then fresh d p.atoms else d) org
def Clu.arrived (c:Clu)(f:Frm):Clu :=
 if (c.rep f.dst).down then c
 else if f.kind=3 then c.setRep f.dst ((c.rep f.dst).ack (c.near f.dst) f.src f.upto)
 else (c.setRep f.dst ((c.rep f.dst).arrive c.room c.rr f.d f.src)).put ⟨3,f.dst,f.src,f.upto,[]⟩
def Clu.deliver (c:Clu)(k:Int):Clu:=if c.has k then (c.out k.toNat).arrived (c.frm k.toNat) else c
def Clu.dropF (c:Clu)(k:Int):Clu:=if c.has k then c.out k.toNat else c
def Clu.copyF (c:Clu)(k:Int):Clu:=if c.has k then c.put (c.frm k.toNat) else c
end Go.Proofs.YtahdlejgjcjeoabGreatDoor
