/- slices.Sort at texts: the numbers of the shelf's contract laid at this dump. -/
import Derived.Test.YtahdlejgjcjeoabGreatDoorA12
import Derived.Shelf.Sort.Plain
import Derived.Shelf.Slices.In.SortNone
import Derived.Test.YtahdlejgjcjeoabGreatDoorProg
namespace Go.Proofs.YtahdlejgjcjeoabGreatDoor
set_option maxHeartbeats 8000000
open Go.RowKit Go.Maps
def delM (M:Sl→Option Gr)(s:Sl):Sl→Option Gr:=fun t=>if scmp t s=0 then none else M t
theorem zck {w' : World}{b n:Nat}{D:DataW Unit}{M:Sl→Option Gr}{s:Sl}(hs:s.ok)
  (h2:∀ t,t.ok→M t=none→Maps.has D t.lit=false) (h3:∀ t g,M t=some g→t.ok∧Maps.has D t.lit=true∧∀ z,D.atKey t.lit z=g.dat)
  (h1:w'.ownsMap Tryz.prog 211 grElem b n (D.del s.lit)):StMap w' b n (delM M s):=by
 refine ⟨_,h1,fun t ht hn => ?_,fun t g' hg' => ?_⟩
 ·unfold delM at hn
  by_cases he:scmp t s=0
  ·obtain rfl:=(zk4 t s).1 he
   exact Maps.has_del_same
  ·rw [if_neg he] at hn
   have hl:t.lit ≠ s.lit:=fun e=>he ((zk4 t s).2 (Sl.lit_inj ht hs e))
   rw [Maps.has_del_other hl]
   exact h2 t ht hn
 ·unfold delM at hg'
  split at hg'
  ·cases hg'
  ·rename_i hne
   obtain ⟨ht,hh,ha⟩:=h3 t g' hg'
   have hl:t.lit ≠ s.lit:=fun e=>hne ((zk4 t s).2 (Sl.lit_inj ht hs e))
   exact ⟨ht,by rw [Maps.has_del_other hl];exact hh,fun z=>by rw [Maps.atKey_del_other hl];exact ha z⟩
section
variable (w:World) {ops:Array Oper} {rest:List Oper} {o:Oper} {a:Act} {Q:Exit→Act→World→Prop}
theorem znJ (hg:o.guard=none)(m x:Operand)(t:TypeId)(hop:o.op=Op.call { callee:=Callee.builtin Builtin.delete,args:=#[m,x],argTypes:=#[t,211] })(ht:Tryz.prog.underlying t=some (.map 211 213))(b n:Nat)(M:Sl→Option Gr)
  (hd:o.dst=none) (hm:a.eval m = .map (some b)) (hown:StMap w b n M) (s:Sl) (hs:s.ok) (hx:a.eval x=s.val)
  (hK:∀ w',StMap w' b n (delM M s)→w.grownBy w' (some b)→wpList Tryz.prog ops Q rest a w') :
  wpList Tryz.prog ops Q (o :: rest) a w:=by
 obtain ⟨D,h1,h2,h3⟩:=hown
 refine wpList_delete_own w hg m x t 211 hop 213 zlE ht grElem b n D hm h1 s.val s.lit hx (zfA s hs) ?_
 intro w' r1 r2
 rw [hd]
 exact hK w' (zck hs h2 h3 r1) r2.grown
end
theorem zer {a b c:World}{p q:Nat}(h:a.grownBy b (some p))(k:b.grownBy c (some q))(hq:a.heap.size≤q):a.grownBy c (some p) :=
 ⟨k.os.trans h.os,k.tape.trans h.tape,k.output.trans h.output,Nat.le_trans h.size k.size,fun i hi hne=>(k.block i (Nat.lt_of_lt_of_le hi h.size) (fun e=>by cases e;omega)).trans (h.block i hi hne)⟩
theorem StMap.alloc {w:World}{b n:Nat}{M:Sl→Option Gr}(h:StMap w b n M)(o:Obj):StMap (w.alloc o) b n M:=h.kept (World.grownBy_alloc _ _ none) (by simp)
theorem zeo {a b:World}{row:Option Nat}(h:a.grownBy b row)(o:Obj):a.grownBy (b.alloc o) row:=zev h (World.grownBy_alloc _ _ row)
def Thinned (M O N:Sl→Option Gr)(left:Lit→Bool):Prop:=∀ s,N s=if left s.lit then M s else thinM M O s
theorem Thinned.start {M O:Sl→Option Gr}{left:Lit→Bool}(h:∀ s g,O s=some g→left s.lit=true):Thinned M O M left:=by
 intro s
 split
 ·rfl
 ·rename_i hl
  unfold thinM
  cases hO:O s with
  | some g=>exact absurd (h s g hO) hl
  | none=>cases M s <;> rfl
theorem Thinned.done {M O N:Sl→Option Gr}{left:Lit→Bool}(h:Thinned M O N left)(hl:∀ kl,left kl=false):N=thinM M O:=by
 funext s
 rw [h s,hl,if_neg (by simp)]
theorem Thinned.step {M O N N' : Sl→Option Gr}{left:Lit→Bool}(h:Thinned M O N left){x:Sl}(hx:x.ok)(hok:∀ s g,M s=some g→s.ok)
  (h1:N' x=thinM M O x) (h2:∀ s,s ≠ x→N' s=N s):Thinned M O N' (fun z=>left z && !z.sameKey x.lit):=by
 intro s
 by_cases e:s=x
 ·subst e
  simp [zf9,h1]
 ·rw [h2 s e,h s]
  by_cases el:s.lit=x.lit
  ·have hn:M s=none:=by
    cases hM:M s with
    | none=>rfl
    | some g=>exact absurd (Sl.lit_inj (hok s g hM) hx el) e
   have ht:thinM M O s=none:=by unfold thinM;rw [hn]
   rw [hn,ht]
   simp
  ·simp [Maps.sameKey_ne el]
theorem zcb (g h:Gr)(w:World) :
  Calls Tryz.prog 195 #[.agg #[.int .i64 g.n,.int .i64 g.who,.string g.elem],.agg #[.int .i64 h.n,.int .i64 h.who,.string h.elem]] w fun e w' => e = .returned (.int .i64 (gcmp g h))∧Below w.heap.size w w' := zca g h w
theorem zmx {M O:Sl→Option Gr}{s:Sl}{g h:Gr}(hM:M s=some g)(hO:O s=some h)(hle:gcmp g h≤0):thinM M O s=none:=by
 unfold thinM;rw [hM,hO];simp only;rw [if_pos hle]
theorem zmy {M O:Sl→Option Gr}{s:Sl}{g h:Gr}(hM:M s=some g)(hO:O s=some h)(hle:¬ gcmp g h≤0):thinM M O s=some g:=by
 unfold thinM;rw [hM,hO];simp only;rw [if_neg hle]
set_option maxRecDepth 100000 in
theorem zmB (b c n n' : Nat)(M O:Sl→Option Gr)(w:World)(hm:StMap w b n M)(ho:StMap w c n' O)(hbc:b ≠ c) :
  Calls Tryz.prog 183 #[.map (some b),.map (some c)] w fun e w' => e = .returned (.tuple #[])∧StMap w' b n (thinM M O)∧w.grownBy w' (some b):=by
 have hlb:=hm.lt
 have HM:Hid (StMap w b n M):=hm
 have HOK:Hid (∀ s g,M s=some g→s.ok):=by
  obtain ⟨_,_,_,h3⟩:=hm
  exact fun s g h=>(h3 s g h).1
 obtain ⟨D,hown,h2,h3⟩:=ho
 have H2:Hid (∀ s:Sl,s.ok→O s=none→Maps.has D s.lit=false):=h2
 have H3:Hid (∀ s g,O s=some g→s.ok∧Maps.has D s.lit=true∧∀ z,D.atKey s.lit z=g.dat):=h3
 clear h2 h3 hm
 have hlc:=hown.lt
 go_enter Tryz.func183,Tryz.ntmps183
 go_wp2_with (at_range;refine wpList_range_own _ rfl _ 122 rfl 211 213 zlE Tryz.underlying122 grElem c n' D rfl hown ?_;intro w0 hrg0 hg0 hs0)
 go_frame
 have hg0' : w.grownBy w0 (some b):=⟨hg0.os,hg0.tape,hg0.output,hg0.size,fun i hi _=>hg0.block i hi (by simp)⟩
 have HM0:Hid (StMap w0 b n M):=HM.out.kept hg0 (by simp)
 clear HM
 go_loopw [4] (fun _ wr=>∃ (left:Lit→Bool) (cnt:Nat) (N:Sl→Option Gr),wr.ranges Tryz.prog 211 grElem c w.heap.size n' D left cnt∧Hid (StMap wr b n N)∧Hid (Thinned M O N left)∧w.grownBy wr (some b)) (fun _ wr=>wr.rangeLeft c w.heap.size)
 case atStart=>exact ⟨_,_,M,hrg0,HM0,Thinned.start (fun s g h=>(H3.out s g h).2.1),hg0'⟩
 case round =>
  obtain ⟨left,cnt,N,hrg,hst,hth,hgw⟩:=hrel
  go_wp2_with (at_next;refine wpList_next_ranges _ rfl _ rfl 211 zlE grElem (fun s:Sl => .agg #[.int .i64 s.ty,.string s.key,.int .i64 s.side,.int .i64 s.who,.string s.elem]) (fun g:Gr => .agg #[.int .i64 g.n,.int .i64 g.who,.string g.elem]) zlH (fun v y hv=>by obtain ⟨g,rfl,_⟩:=zec hv;exact ⟨g,rfl⟩) c w.heap.size n' D left cnt rfl hrg ?_ ?_)
  ·intro _ hl0
   have HST:Hid (StMap wr b n (thinM M O)):=by rw [← hth.out.done hl0];exact hst.out
   clear hl0 hst hth hrg
   go_wp2
   go_end0
   exact ⟨rfl,HST,hgw⟩
  ·intro x g kl yd yp w2 cnt2 hkey hlk hv hat hrg2 hlt hg2 hs2 hen
   obtain ⟨hxok,rfl⟩:=zlJ x kl hkey
   have hOx:O x=some g:=by
    cases hO:O x with
    | none =>
     have hh:=H2.out x hxok hO
     rw [Maps.has_true_of_atKey hat] at hh
     cases hh
    | some g0 =>
     have:=(H3.out x g0 hO).2.2 .nil
     rw [hat] at this
     have hcc:grElem g.val=some (g.dat,[]):=zed g
     have hv' : grElem g.val=some (yd,yp):=hv
     rw [hcc] at hv'
     simp only [Option.some.injEq,Prod.mk.injEq] at hv'
     rw [Gr.dat_inj (hv'.1.trans this)]
   have hNx:N x=M x:=by rw [hth.out x,hlk,if_pos rfl]
   have HSTEP:Hid (∀ N',N' x=thinM M O x→(∀ s,s ≠ x→N' s=N s)→Thinned M O N' (fun z=>left z && !z.sameKey x.lit)):=fun N' h1 h2=>hth.out.step hxok HOK.out h1 h2
   have hsz2:wr.heap.size≤w2.heap.size:=by omega
   have HL:Hid (wr.rangeLeft c w.heap.size=cnt):=hrg.left_eq
   have hst2:=hst.out.kept hg2 (by simp;omega)
   have hgw2:w.grownBy w2 (some b):=zer hgw hg2 (Nat.le_refl _)
   have hrl:=hrg2.lt
   clear hkey hat hv hs2 hlk hg2 hrg hst hth hgw
   generalize x.lit=kl at *
   cases hM:M x with
   | none =>
    have hgot:got N x=⟨0,0,ByteArray.empty⟩:=by unfold got;rw [hNx,hM];rfl
    have hsome:(N x).isSome=false:=by rw [hNx,hM];rfl
    have HT:Hid (Thinned M O N (fun z=>left z && !z.sameKey kl)):=HSTEP.out N (by rw [hNx,hM];unfold thinM;rw [hM]) (fun _ _=>rfl)
    clear HSTEP hNx hM hOx
    go_wp2_with (at_lookup;refine znL _ rfl _ _ 122 rfl Tryz.underlying122 b n N rfl ((hst2.kept (World.grownBy_alloc _ _ none) (by simp)).kept (World.grownBy_alloc _ _ none) (by simp)) x hxok rfl ⟨0,0,ByteArray.empty⟩ false hgot hsome ?_)
    have hrg3:=((hrg2.alloc (.cells #[.int .i64 x.ty,.string x.key,.int .i64 x.side,.int .i64 x.who,.string x.elem] 211)).alloc (.cells #[.int .i64 g.n,.int .i64 g.who,.string g.elem] 213)).alloc (.cells #[.int .i64 0,.int .i64 0,.string ByteArray.empty] 213)
    exact ⟨⟨_,cnt2,N,hrg3,((hst2.alloc _).alloc _).alloc _,HT,zeo (zeo (zeo hgw2 _) _) _⟩,by rw [hrg3.left_eq,HL.out];exact hlt⟩
   | some g0 =>
    have hgot:got N x=g0:=by unfold got;rw [hNx,hM];rfl
    have hsome:(N x).isSome=true:=by rw [hNx,hM];rfl
    go_wp2_with (at_lookup;refine znL _ rfl _ _ 122 rfl Tryz.underlying122 b n N rfl ((hst2.alloc _).alloc _) x hxok rfl g0 true hgot hsome ?_)
    refine (zcb g0 g _).mono ?_
    rintro e w3 ⟨rfl,hb3⟩
    have hst3:=(((hst2.alloc _).alloc _).alloc _).below hb3
    have hrg3:=(((hrg2.alloc _).alloc _).alloc _).kept (zaP hb3 none) (by simp) (by simp)
    have hgw3:=zev (zeo (zeo (zeo hgw2 _) _) _) (zaP hb3 (some b))
    obtain ⟨hc3,hf3⟩:=zaG hb3
    have hz3:w2.heap.size+1+1<w3.heap.size:=by have:=hb3.size;simp at this;omega
    clear hb3 hst2 hrg2 hgw2 hen
    by_cases hle:gcmp g0 g≤0
    ·have HT:Hid (Thinned M O (delM N x) (fun z=>left z && !z.sameKey kl)):=HSTEP.out _ (by rw [zmx hM hOx hle];unfold delM;rw [if_pos ((zk4 x x).2 rfl)]) (fun s hs=>by unfold delM;rw [if_neg (fun e=>hs ((zk4 s x).1 e))])
     clear HSTEP hNx hM hOx hgot hsome
     generalize gcmp g0 g=q at *
     go_wp2_with (at_delete;refine znJ _ rfl _ _ 122 rfl Tryz.underlying122 b n N rfl rfl hst3 x hxok rfl ?_;intro w4 hst4 hg4)
     have hrg4:=hrg3.kept hg4 (by simp;omega) (by simp;omega)
     go_roundw
     case rel=>exact ⟨_,cnt2,_,hrg4,hst4,HT,zev hgw3 hg4⟩
     case measure=>rw [hrg4.left_eq,HL.out];exact hlt
    ·have HT:Hid (Thinned M O N (fun z=>left z && !z.sameKey kl)):=HSTEP.out N (by rw [hNx,hM,zmy hM hOx hle]) (fun _ _=>rfl)
     clear HSTEP hNx hM hOx hgot hsome
     generalize gcmp g0 g=q at *
     go_wp2
     exact ⟨⟨_,cnt2,N,hrg3,hst3,HT,hgw3⟩,by rw [hrg3.left_eq,HL.out];exact hlt⟩
def narrowM (M:Sl→Option Gr)(kind:Int)(key:ByteArray):Sl→Option Gr:=fun s=>if s.ty=kind∧s.key=key then M s else none
def StD (D:DataW Unit)(M:Sl→Option Gr):Prop :=
 (∀ t:Sl,t.ok→M t=none→Maps.has D t.lit=false)∧(∀ t g,M t=some g→t.ok∧Maps.has D t.lit=true∧∀ z,D.atKey t.lit z=g.dat)
theorem StD.del {D:DataW Unit}{M:Sl→Option Gr}{s:Sl}(h:StD D M)(hs:s.ok):StD (D.del s.lit) (delM M s):=by
 obtain ⟨h2,h3⟩:=h
 refine ⟨fun t ht hn => ?_,fun t g' hg' => ?_⟩
 ·unfold delM at hn
  by_cases he:scmp t s=0
  ·obtain rfl:=(zk4 t s).1 he
   exact Maps.has_del_same
  ·rw [if_neg he] at hn
   have hl:t.lit ≠ s.lit:=fun e=>he ((zk4 t s).2 (Sl.lit_inj ht hs e))
   rw [Maps.has_del_other hl]
   exact h2 t ht hn
 ·unfold delM at hg'
  split at hg'
  ·cases hg'
  ·rename_i hne
   obtain ⟨ht,hh,ha⟩:=h3 t g' hg'
   have hl:t.lit ≠ s.lit:=fun e=>hne ((zk4 t s).2 (Sl.lit_inj ht hs e))
   exact ⟨ht,by rw [Maps.has_del_other hl];exact hh,fun z=>by rw [Maps.atKey_del_other hl];exact ha z⟩
def Narrowed (M N:Sl→Option Gr)(kind:Int)(key:ByteArray)(left:Lit→Bool):Prop:=∀ s,N s=if left s.lit then M s else narrowM M kind key s
theorem Narrowed.done {M N:Sl→Option Gr}{kind:Int}{key:ByteArray}{left:Lit→Bool}(h:Narrowed M N kind key left)(hl:∀ kl,left kl=false):N=narrowM M kind key:=by
 funext s
 rw [h s,hl,if_neg (by simp)]
theorem Narrowed.start {M:Sl→Option Gr}{kind:Int}{key:ByteArray}{left:Lit→Bool}(h:∀ s g,M s=some g→left s.lit=true):Narrowed M M kind key left:=by
 intro s
 split
 ·rfl
 ·rename_i hl
  unfold narrowM
  cases hM:M s with
  | some g=>exact absurd (h s g hM) hl
  | none=>simp
theorem Narrowed.step {M N N' : Sl→Option Gr}{kind:Int}{key:ByteArray}{left:Lit→Bool}(h:Narrowed M N kind key left){x:Sl}(hx:x.ok)(hok:∀ s g,M s=some g→s.ok)
  (h1:N' x=narrowM M kind key x) (h2:∀ s,s ≠ x→N' s=N s):Narrowed M N' kind key (fun z=>left z && !z.sameKey x.lit):=by
 intro s
 by_cases e:s=x
 ·subst e
  simp [zf9,h1]
 ·rw [h2 s e,h s]
  by_cases el:s.lit=x.lit
  ·have hn:M s=none:=by
    cases hM:M s with
    | none=>rfl
    | some g=>exact absurd (Sl.lit_inj (hok s g hM) hx el) e
   have ht:narrowM M kind key s=none:=by unfold narrowM;rw [hn];simp
   rw [hn,ht]
   simp
  ·simp [Maps.sameKey_ne el]
theorem zl1 {a b:ByteArray}(h:¬ a=b):(a.toList == b.toList)=false:=by
 rw [beq_eq_false_iff_ne,Go.Lib.toList_data,Go.Lib.toList_data]
 exact fun e=>h (ByteArray.ext (Array.toList_inj.1 e))
set_option maxRecDepth 100000 in
theorem zgL (b n:Nat)(M:Sl→Option Gr)(kind:Int)(key:ByteArray)(w:World)(hm:StMap w b n M) :
  Calls Tryz.prog 154 #[.map (some b),.int .i64 kind,.string key] w fun e w' => e = .returned (.tuple #[])∧Hid (StMap w' b n (narrowM M kind key))∧w.grownBy w' (some b):=by
 obtain ⟨D,hown,h2,h3⟩:=hm
 have HSD:Hid (StD D M):=⟨h2,h3⟩
 have HOK:Hid (∀ s g,M s=some g→s.ok):=fun s g h=>(h3 s g h).1
 clear h2 h3
 have hlb:=hown.lt
 go_enter Tryz.func154,Tryz.ntmps154
 go_wp2_with (at_range;refine wpList_range_own _ rfl _ 122 rfl 211 213 zlE Tryz.underlying122 grElem b n D rfl hown ?_;intro w0 hrg0 hg0 hs0)
 go_frame
 have hg0' : w.grownBy w0 (some b):=⟨hg0.os,hg0.tape,hg0.output,hg0.size,fun i hi _=>hg0.block i hi (by simp)⟩
 go_loopw [6] (fun _ wr=>∃ (left:Lit→Bool) (cnt:Nat) (N:Sl→Option Gr) (E:DataW Unit),wr.ranges Tryz.prog 211 grElem b w.heap.size n E left cnt∧Hid (StD E N)∧Hid (Narrowed M N kind key left)∧w.grownBy wr (some b)) (fun _ wr=>wr.rangeLeft b w.heap.size)
 case atStart=>exact ⟨_,_,M,D,hrg0,HSD,Narrowed.start (fun s g h=>(HSD.out.2 s g h).2.1),hg0'⟩
 case round =>
  obtain ⟨left,cnt,N,E,hrg,hsd,hna,hgw⟩:=hrel
  go_wp2_with (at_next;refine wpList_next_ranges _ rfl _ rfl 211 zlE grElem (fun s:Sl => .agg #[.int .i64 s.ty,.string s.key,.int .i64 s.side,.int .i64 s.who,.string s.elem]) (fun g:Gr => .agg #[.int .i64 g.n,.int .i64 g.who,.string g.elem]) zlH (fun v y hv=>by obtain ⟨g,rfl,_⟩:=zec hv;exact ⟨g,rfl⟩) b w.heap.size n E left cnt rfl hrg ?_ ?_)
  ·intro _ hl0
   have HST:Hid (StMap wr b n (narrowM M kind key)):=by rw [← hna.out.done hl0];exact ⟨E,hrg.owns,hsd.out.1,hsd.out.2⟩
   clear hl0 hna hsd hrg
   go_wp2
   go_end0
   exact ⟨rfl,HST,hgw⟩
  ·intro x g kl yd yp w2 cnt2 hkey hlk hv hat hrg2 hlt hg2 hs2 hen
   obtain ⟨hxok,rfl⟩:=zlJ x kl hkey
   have hNx:N x=M x:=by rw [hna.out x,hlk,if_pos rfl]
   have HSTEP:Hid (∀ N',N' x=narrowM M kind key x→(∀ s,s ≠ x→N' s=N s)→Narrowed M N' kind key (fun z=>left z && !z.sameKey x.lit)):=fun N' h1 h2=>hna.out.step hxok HOK.out h1 h2
   have hsz2:wr.heap.size≤w2.heap.size:=by omega
   have HL:Hid (wr.rangeLeft b w.heap.size=cnt):=hrg.left_eq
   have hgw2:w.grownBy w2 (some b):=zer hgw hg2 (Nat.le_refl _)
   have hrl:=hrg2.lt
   clear hat hv hs2 hlk hg2 hrg hna hgw
   by_cases hkeep:x.ty=kind∧x.key=key
   ·have HT:Hid (Narrowed M N kind key (fun z=>left z && !z.sameKey x.lit)):=HSTEP.out N (by rw [hNx];unfold narrowM;rw [if_pos hkeep]) (fun _ _=>rfl)
    obtain ⟨rfl,rfl⟩:=hkeep
    clear HSTEP hNx hkey
    generalize x.lit=kl at *
    go_wp2
    have hrg3:=hrg2.alloc (.cells #[.int .i64 x.ty,.string x.key,.int .i64 x.side,.int .i64 x.who,.string x.elem] 211)
    refine ⟨⟨_,cnt2,N,E,hrg3,hsd,HT,zeo hgw2 _⟩,?_⟩
    rw [hrg3.left_eq,HL.out]
    exact hlt
   ·have HT:Hid (Narrowed M (delM N x) kind key (fun z=>left z && !z.sameKey x.lit)):=HSTEP.out (delM N x) (by unfold delM narrowM;rw [if_pos ((zk4 x x).2 rfl),if_neg hkeep]) (fun s hs=>by unfold delM;rw [if_neg (fun e=>hs ((zk4 s x).1 e))])
    have HSD2:Hid (StD (E.del x.lit) (delM N x)):=hsd.out.del hxok
    clear HSTEP hNx
    by_cases hty:x.ty=kind
    ·have hke:¬ x.key=key:=fun e=>hkeep ⟨hty,e⟩
     have hke2:=zl1 hke
     subst hty
     go_wp2_with (at_delete;refine wpList_delete_ranges _ rfl _ _ 122 211 rfl 213 zlE Tryz.underlying122 grElem b w.heap.size n E _ cnt2 rfl (hrg2.alloc _) x.val x.lit rfl (zfA x hxok) ?_;intro w3 cnt3 hrg3 hle3 hmt3)
     have e3:(fun z:Lit=>(left z && !z.sameKey x.lit) && !z.sameKey x.lit)=fun z=>left z && !z.sameKey x.lit:=by
      funext z
      cases left z <;> cases z.sameKey x.lit <;> rfl
     rw [e3] at hrg3
     have hfin:w.grownBy w3 (some b):=zev (zeo hgw2 _) hmt3.grown
     clear hkey hrg2
     generalize x.lit=kl at *
     go_wp2
     refine ⟨⟨_,cnt3,delM N x,_,hrg3,HSD2,HT,hfin⟩,?_⟩
     rw [hrg3.left_eq,HL.out]
     omega
    ·go_wp2_with (at_delete;refine wpList_delete_ranges _ rfl _ _ 122 211 rfl 213 zlE Tryz.underlying122 grElem b w.heap.size n E _ cnt2 rfl (hrg2.alloc _) x.val x.lit rfl (zfA x hxok) ?_;intro w3 cnt3 hrg3 hle3 hmt3)
     have e3:(fun z:Lit=>(left z && !z.sameKey x.lit) && !z.sameKey x.lit)=fun z=>left z && !z.sameKey x.lit:=by
      funext z
      cases left z <;> cases z.sameKey x.lit <;> rfl
     rw [e3] at hrg3
     have hfin:w.grownBy w3 (some b):=zev (zeo hgw2 _) hmt3.grown
     clear hkey hrg2
     generalize x.lit=kl at *
     go_wp2
     refine ⟨⟨_,_,_,_,_,_,_,_,_,_,_,_,_,_,_,_,_,⟨_,cnt3,delM N x,_,hrg3,HSD2,HT,hfin⟩,rfl⟩,?_⟩
     rw [hrg3.left_eq,HL.out]
     omega
def sv (a:At):Int:=if (slot a).side=0 then (grade a).n else - (grade a).n
def svs (l:List At):Int:=(l.map sv).sum
theorem zma (l:List At)(a:At):svs (l ++ [a])=svs l+sv a:=by simp [svs]
theorem zee (a:At):(grade a).n=a.n:=by unfold grade;split <;> rfl
theorem zl7 {a:At}(h:mayB a=true) : -2147483648≤sv a∧sv a≤2147483648:=by
 have:0≤a.n∧a.n≤2147483647:=by
  simp only [mayB,decide_eq_true_eq] at h
  omega
 unfold sv
 rw [zee]
 split <;> omega
theorem zl8:∀ {l:List At},(∀ a∈l,mayB a=true) → -2147483648*(l.length:Int)≤svs l∧svs l≤2147483648*(l.length:Int)
 | [],_=>by simp [svs]
 | a :: l,h=>by
  have h1:=zl8 (l:=l) (fun x hx=>h x (by simp [hx]))
  have h2:=zl7 (h a (by simp))
  have e:svs (a :: l)=sv a+svs l:=by simp [svs]
  rw [e,List.length_cons]
  push_cast
  omega
set_option maxRecDepth 100000 in
theorem zmY (b n:Nat)(M:Sl→Option Gr)(w:World)(hm:StMap w b n M)(hmm:MayMap M)(hn:n≤8388608) :
  Calls Tryz.prog 155 #[.map (some b)] w fun e w' => ∃ C,e = .returned (.int .i64 (svs C))∧Hid (Coll M (fun _=>false) C)∧Below w.heap.size w w' := by
 obtain ⟨D,hown,h2,h3⟩:=hm
 have HMM:Hid (MayMap M):=hmm
 have H2:Hid (∀ s:Sl,s.ok→M s=none→Maps.has D s.lit=false):=h2
 have H3:Hid (∀ s g,M s=some g→s.ok∧Maps.has D s.lit=true∧∀ z,D.atKey s.lit z=g.dat):=h3
 have hsz:=hown.size_le
 clear hmm h2 h3
 have hbw:=hown.lt
 go_enter Tryz.func155,Tryz.ntmps155
 go_wp2_with (at_range;refine wpList_range_own _ rfl _ 122 rfl 211 213 zlE Tryz.underlying122 grElem b n D rfl hown ?_;intro w0 hrg0 hg0 hs0)
 go_frame
 have hb0:Below w.heap.size w w0:=(Below.refl _ w).grown hg0 (Nat.le_refl _) (fun k hk=>by cases hk)
 go_loopw [3] (fun v wr=>∃ (left:Lit→Bool) (cnt:Nat) (C:List At),wr.ranges Tryz.prog 211 grElem b w.heap.size n D left cnt∧v = .int .i64 (svs C)∧Hid (Coll M left C)∧C.length+cnt≤n∧Below w.heap.size w wr) (fun _ wr=>wr.rangeLeft b w.heap.size)
 case atStart =>
  refine ⟨Maps.has D,Maps.size D,[],hrg0,rfl,⟨.nil,fun a => ?_⟩,by simpa using hsz,hb0⟩
  constructor
  ·intro h;cases h
  ·rintro ⟨h1,h2⟩
   have:=(H3.out _ _ h1.2).2.1
   rw [this] at h2;cases h2
 case round =>
  obtain ⟨left,cnt,C,hrg,rfl,hC,hcnt,hbr⟩:=hrel
  go_wp2_with (at_next;refine wpList_next_ranges _ rfl _ rfl 211 zlE grElem (fun s:Sl => .agg #[.int .i64 s.ty,.string s.key,.int .i64 s.side,.int .i64 s.who,.string s.elem]) (fun g:Gr => .agg #[.int .i64 g.n,.int .i64 g.who,.string g.elem]) zlH (fun v y hv=>by obtain ⟨g,rfl,_⟩:=zec hv;exact ⟨g,rfl⟩) b w.heap.size n D left cnt rfl hrg ?_ ?_)
  ·intro _ hl0
   have HC0:Hid (Coll M (fun _=>false) C):=by
    have e:left=fun _=>false:=funext hl0
    rw [e] at hC
    exact hC
   clear hl0 hC hrg
   go_wp2
   go_ret
   exact ⟨C,rfl,HC0,hbr⟩
  ·intro x c kl yd yp w2 cnt2 hkey hlk hv hat hrg2 hlt hg2 hs2 hen
   obtain ⟨hxok,rfl⟩:=zlJ x kl hkey
   have hMx:M x=some c:=by
    obtain ⟨g',hg',hz'⟩:=zec hv
    cases hM:M x with
    | none =>
     have hh:=H2.out x hxok hM
     rw [Maps.has_true_of_atKey hat] at hh
     cases hh
    | some g0 =>
     have:=(H3.out x g0 hM).2.2 .nil
     rw [hat] at this
     have hcc:grElem c.val=some (c.dat,[]):=zed c
     have hv' : grElem c.val=some (yd,yp):=hv
     rw [hcc] at hv'
     simp only [Option.some.injEq,Prod.mk.injEq] at hv'
     rw [Gr.dat_inj (hv'.1.trans this)]
   obtain ⟨a,ha,rfl,rfl⟩:=HMM.out x c hMx
   have HC2:Hid (Coll M (fun z=>left z && !z.sameKey (slot a).lit) (C ++ [a])):=hC.out.step ⟨ha,hMx⟩ hlk (fun s g h=>(H3.out s g h).1)
   have hbC:=zl8 (l:=C) (fun z hz=>((hC.out.mem z).1 hz).1.1)
   have hba:=zl7 ha
   have HSN:Hid (svs (C ++ [a])=svs C+sv a):=zma C a
   have hsz2:wr.heap.size≤w2.heap.size:=by omega
   clear hkey hat hv hMx hs2 hxok hlk
   have hbr2:Below w.heap.size w w2:=hbr.grown hg2 hbr.size (fun k hk=>by cases hk;exact Nat.le_refl _)
   have HL:Hid (wr.rangeLeft b w.heap.size=cnt):=hrg.left_eq
   clear hg2 hrg ha
   generalize (slot a).lit=kl at *
   by_cases hsd:(slot a).side=0
   ·have hsv:sv a=(grade a).n:=by unfold sv;rw [if_pos hsd]
    rw [hsv] at hba
    generalize slot a=x at *
    generalize grade a=c at *
    go_wp2
    refine ⟨⟨_,cnt2,C ++ [a],(hrg2.alloc _).alloc _,by rw [HSN.out,hsv],HC2,by simp;omega,zaO (zaO hbr2 _) _⟩,?_⟩
    rw [((hrg2.alloc _).alloc _).left_eq,HL.out]
    exact hlt
   ·have hsv:sv a = - (grade a).n:=by unfold sv;rw [if_neg hsd]
    rw [hsv] at hba
    generalize slot a=x at *
    generalize grade a=c at *
    go_wp2
    refine ⟨⟨_,cnt2,C ++ [a],(hrg2.alloc _).alloc _,by rw [HSN.out,hsv];rfl,HC2,by simp;omega,zaO (zaO hbr2 _) _⟩,?_⟩
    rw [((hrg2.alloc _).alloc _).left_eq,HL.out]
    exact hlt
def Sl.one (s:Sl):Sl:=⟨s.ty,s.key,1,s.who,s.elem⟩
theorem Sl.one_ok {s:Sl}(h:s.ok):s.one.ok:=⟨h.1,h.2.1,(by decide:(Lit.int .i64 1).wf=true),h.2.2.2.1,h.2.2.2.2⟩
set_option maxRecDepth 100000 in
theorem zfx (b n:Nat)(M:Sl→Option Gr)(s:Sl)(w:World)(hm:StMap w b n M)(hs:s.ok) :
  Calls Tryz.prog 192 #[.map (some b),.agg #[.int .i64 s.ty,.string s.key,.int .i64 s.side,.int .i64 s.who,.string s.elem]] w fun e w' => e = .returned (.bool (M s.one).isSome)∧Below w.heap.size w w' := by
 have h1:=Sl.one_ok hs
 go_enter Tryz.func192,Tryz.ntmps192
 go_wp2_with (at_lookup;refine znL _ rfl _ _ 122 rfl Tryz.underlying122 b n M rfl (hm.alloc _) s.one h1 rfl (got M s.one) (M s.one).isSome rfl rfl ?_)
 go_ret
 exact ⟨rfl,zaO (zaO (Below.refl _ _) _) _⟩
def kept (M:Sl→Option Gr)(a:At):Bool:=decide ((slot a).side=0) && (M (slot a).one).isNone
def elemsOf (M:Sl→Option Gr)(C:List At):List ByteArray:=(C.filter (kept M)).map fun a=>(slot a).elem
theorem zcH (M:Sl→Option Gr)(C:List At)(a:At):elemsOf M (C ++ [a])=if kept M a then elemsOf M C ++ [(slot a).elem] else elemsOf M C:=by
 unfold elemsOf
 rw [List.filter_append]
 by_cases h:kept M a <;> simp [h]
theorem zcF (M:Sl→Option Gr)(C:List At):(elemsOf M C).length≤C.length:=by
 unfold elemsOf
 rw [List.length_map]
 exact List.length_filter_le _ _
theorem zfl:(Tryz.prog.info? 9).map (fun i=>(i.zero,i.size,i.bytes))=some (some (.string ⟨#[]⟩),1,16):=by kernel_rfl
open Go.RowKit
theorem zmR {M:Sl→Option Gr}{l T:List At}(h:Holds2 M l)(hl:∀ a∈l,mayB a=true)(hT:IsTold l T):∀ a,a∈T ↔ InM M a:=by
 have fwd:∀ a,a∈T→InM M a:=by
  intro a ha
  obtain ⟨hal,hg⟩:=hT.great a ha
  obtain ⟨g,hMg,hle⟩:=h.top a hal
  obtain ⟨a',ha',h1,h2⟩:=h.only _ _ hMg
  have hp:plc a' a=0:=by rw [zix,zk4,h1]
  have h3:=hg a' ha' hp
  rw [zeh a' a (ziF hp),h2] at h3
  have h4:=zd4.anti (grade a) g
  have:g=grade a:=(zd5 _ _).1 (by omega)
  exact ⟨hl a hal,by rw [hMg,this]⟩
 intro a
 refine ⟨fwd a,fun ⟨hm,hM⟩ => ?_⟩
 obtain ⟨a',ha',h1,h2⟩:=h.only _ _ hM
 have haa:a' = a:=by rw [← zm8 a' (hl a' ha'),← zm8 a hm,h1,h2]
 subst haa
 obtain ⟨x,hx,hp⟩:=hT.all a' ha'
 obtain ⟨hxm,hxM⟩:=fwd x hx
 have hs:=ziz hp
 rw [← hs,hM] at hxM
 have:x=a' := by rw [← zm8 x hxm,← zm8 a' hm,hs,Option.some.inj hxM]
 exact this ▸ hx
def ofKey (T:List At)(kind:Int)(key:ByteArray):List At:=T.filter fun a=>decide (a.ty=kind∧a.key=key)
theorem zlG (a:At):(slot a).key=a.key:=by unfold slot;split <;> rfl
theorem zgM (M:Sl→Option Gr)(kind:Int)(key:ByteArray)(a:At):InM (narrowM M kind key) a ↔ InM M a∧a.ty=kind∧a.key=key:=by
 unfold InM narrowM
 rw [zlK,zlG]
 by_cases h:a.ty=kind∧a.key=key
 ·rw [if_pos h];simp [h]
 ·rw [if_neg h];simp [h]
theorem zgN {C:List At}(h:C.Pairwise (fun x y=>plc x y ≠ 0)):C.Nodup:=List.Pairwise.imp (fun {x y} hne=>fun e:x=y=>by subst e;exact hne (ziC.refl x)) h
theorem zhg {T:List At}(h:T.Pairwise (fun x y=>plc x y<0))(kind:Int)(key:ByteArray):(ofKey T kind key).Pairwise (fun x y=>plc x y<0):=h.filter _
theorem zb6 {M:Sl→Option Gr}{l T C:List At}{kind:Int}{key:ByteArray}(h:Holds2 M l)(hl:∀ a∈l,mayB a=true)(hT:IsTold l T)(hC:Coll (narrowM M kind key) (fun _=>false) C):C.Perm (ofKey T kind key):=by
 refine (List.perm_ext_iff_of_nodup (zgN hC.apart) (zgN ((zhg hT.sorted kind key).imp fun {x y} h=>by omega))).2 fun a => ?_
 rw [hC.mem a,zgM]
 unfold ofKey
 rw [List.mem_filter,zmR h hl hT a]
 simp
theorem zl9 {a b:List At}(h:a.Perm b):svs a=svs b:=by
 induction h with
 | nil=>rfl
 | cons x _ ih=>simp only [svs,List.map_cons,List.sum_cons] at *;rw [ih]
 | swap x y l=>simp only [svs,List.map_cons,List.sum_cons];omega
 | trans _ _ h1 h2=>rw [h1,h2]
theorem zcG {M:Sl→Option Gr}{a b:List At}(h:a.Perm b):(elemsOf M a).Perm (elemsOf M b):=(h.filter _).map _
theorem zmu {a b:List ByteArray}(h:a.Perm b)(ha:a.Pairwise (fun x y=>ordS x y≤0))(hb:b.Pairwise (fun x y=>ordS x y≤0)):a=b :=
 List.Perm.eq_of_pairwise (le:=fun x y=>ordS x y≤0) (fun x y _ _ h1 h2=>(zhS x y).1 (by have:=zhR.anti x y;omega)) ha hb h
def isGone (T:List At)(key e:ByteArray):Bool:=T.any fun y=>decide (y.ty=4∧y.key=key∧y.side=1∧y.elem=e)
def valN (kind:Int)(key:ByteArray)(L:List At):Int :=
 if kind=1∨kind=2 then ((ofKey L kind key).map fun a=>a.n*(1 - 2*a.side)).sum
 else if kind=5 then ((ofKey L kind key).getLast?.map (·.n)).getD 0 else 0
def keepsE (T:List At)(kind:Int)(key:ByteArray)(a:At):Bool:=decide (kind=3) || decide (kind=5) || (decide (kind=4) && decide (a.side ≠ 1) && !isGone T key a.elem)
def valE (T:List At)(kind:Int)(key:ByteArray)(L:List At):List ByteArray:=((ofKey L kind key).filter (keepsE T kind key)).map (·.elem)
theorem zhf (L:List At)(a:At)(kind:Int)(key:ByteArray):ofKey (L ++ [a]) kind key=if a.ty=kind∧a.key=key then ofKey L kind key ++ [a] else ofKey L kind key:=by
 unfold ofKey
 rw [List.filter_append]
 by_cases h:a.ty=kind∧a.key=key <;> simp [h]
theorem znj (T L:List At)(a:At)(kind:Int)(key:ByteArray):valE T kind key (L ++ [a])=if (a.ty=kind∧a.key=key)∧keepsE T kind key a=true then valE T kind key L ++ [a.elem] else valE T kind key L:=by
 unfold valE
 rw [zhf]
 by_cases h:a.ty=kind∧a.key=key
 ·by_cases k:keepsE T kind key a=true <;> simp [h,k]
 ·simp [h]
theorem zni (T L:List At)(kind:Int)(key:ByteArray):(valE T kind key L).length≤L.length:=by
 unfold valE ofKey
 rw [List.length_map]
 exact Nat.le_trans (List.length_filter_le _ _) (List.length_filter_le _ _)
theorem znm (L:List At)(a:At)(kind:Int)(key:ByteArray)(h:¬ (a.ty=kind∧a.key=key)):valN kind key (L ++ [a])=valN kind key L:=by
 unfold valN
 rw [zhf,if_neg h]
theorem znn (L:List At)(a:At)(kind:Int)(key:ByteArray)(h:a.ty=kind∧a.key=key)(hk:kind=1∨kind=2):valN kind key (L ++ [a])=valN kind key L+a.n*(1 - 2*a.side):=by
 unfold valN
 rw [zhf,if_pos h,if_pos hk,if_pos hk]
 simp
theorem znk (L:List At)(a:At)(key:ByteArray)(h:a.ty=5∧a.key=key):valN 5 key (L ++ [a])=a.n:=by
 unfold valN
 rw [zhf,if_pos h,if_neg (by omega),if_pos rfl]
 simp
theorem znl (L:List At)(kind:Int)(key:ByteArray)(hk:kind=3∨kind=4):valN kind key L=0:=by
 unfold valN
 rw [if_neg (by omega),if_neg (by omega)]
theorem zgw {T:List At}{kind:Int}{key:ByteArray}{a:At}:a∈ofKey T kind key ↔ a∈T∧a.ty=kind∧a.key=key:=by
 unfold ofKey
 rw [List.mem_filter]
 simp
theorem sv_may {a:At}(h:mayB a=true)(ht:a.ty=1∨a.ty=2):sv a=a.n*(1 - 2*a.side):=by
 unfold sv
 rw [zee]
 have hs:(slot a).side=a.side:=by unfold slot;rw [if_neg (by omega)]
 have h2:a.side=0∨a.side=1:=by
  simp only [mayB,decide_eq_true_eq] at h
  omega
 rw [hs]
 rcases h2 with h2 | h2 <;> rw [h2] <;> simp
theorem zmZ {T:List At}{kind:Int}{key:ByteArray}(hT:∀ a∈T,mayB a=true)(hk:kind=1∨kind=2):svs (ofKey T kind key)=valN kind key T∧valE T kind key T = []:=by
 constructor
 ·unfold valN svs
  rw [if_pos hk]
  congr 1
  refine List.map_congr_left fun a ha => ?_
  obtain ⟨h1,h2,_⟩:=zgw.1 ha
  exact sv_may (hT a h1) (by omega)
 ·unfold valE
  rw [List.map_eq_nil_iff,List.filter_eq_nil_iff]
  intro a _
  unfold keepsE
  have h1:¬ kind=3:=by omega
  have h2:¬ kind=5:=by omega
  have h3:¬ kind=4:=by omega
  simp [h1,h2,h3]
theorem zcJ {M:Sl→Option Gr}{l T:List At}{kind:Int}{key:ByteArray}(h:Holds2 M l)(hl:∀ a∈l,mayB a=true)(hT:IsTold l T)(hk:kind=3∨kind=4):elemsOf (narrowM M kind key) (ofKey T kind key)=valE T kind key T∧(valE T kind key T).Pairwise (fun x y=>ordS x y≤0):=by
 have hmt:∀ a∈T,mayB a=true:=fun a ha=>hl a (hT.great a ha).1
 have hin:=zmR h hl hT
 have hsl:∀ a∈ofKey T kind key,slot a=⟨kind,key,a.side,0,a.elem⟩∧a.ty=kind∧a.key=key∧(a.side=0∨a.side=1)∧(kind=3→a.side=0)∧a.who=0:=by
  intro a ha
  obtain ⟨h1,h2,h3⟩:=zgw.1 ha
  have hm:=hmt a h1
  have hw:a.who=0∧(a.side=0∨a.side=1)∧(kind=3→a.side=0):=by
   simp only [mayB,decide_eq_true_eq] at hm
   omega
  refine ⟨?_,h2,h3,hw.2.1,hw.2.2,hw.1⟩
  unfold slot
  rw [if_neg (by omega),h2,h3,hw.1]
 have hkeep:∀ a∈ofKey T kind key,kept (narrowM M kind key) a=keepsE T kind key a:=by
  intro a ha
  obtain ⟨hs,ht,hkey,hside,h3,hw⟩:=hsl a ha
  unfold kept keepsE
  rw [hs]
  have hone:narrowM M kind key (Sl.one ⟨kind,key,a.side,0,a.elem⟩)=M ⟨kind,key,1,0,a.elem⟩:=by unfold narrowM Sl.one;simp
  rw [hone]
  rcases hk with rfl | rfl
  ·have hn:M ⟨3,key,1,0,a.elem⟩=none:=by
    cases hM:M ⟨3,key,1,0,a.elem⟩ with
    | none=>rfl
    | some g =>
     obtain ⟨y,hy,e1,e2⟩:=h.only _ _ hM
     have hm:=hl y hy
     have ty:y.ty=3:=by rw [← zlK y,e1]
     have sd:y.side=1:=by
      have:(slot y).side=y.side:=by unfold slot;rw [if_neg (by omega)]
      rw [← this,e1]
     simp only [mayB,decide_eq_true_eq] at hm
     omega
   rw [hn,h3 rfl]
   simp
  ·have hg:(M ⟨4,key,1,0,a.elem⟩).isNone = !isGone T key a.elem:=by
    cases hM:M ⟨4,key,1,0,a.elem⟩ with
    | none =>
     have:isGone T key a.elem=false:=by
      unfold isGone
      rw [List.any_eq_false]
      intro y hy
      simp only [decide_eq_true_eq]
      rintro ⟨y1,y2,y3,y4⟩
      obtain ⟨hym,hyM⟩:=(hin y).1 hy
      have hyw:y.who=0:=by
       simp only [mayB,decide_eq_true_eq] at hym
       omega
      have:slot y=⟨4,key,1,0,a.elem⟩:=by unfold slot;rw [if_neg (by omega),y1,y2,y3,y4,hyw]
      rw [this,hM] at hyM
      cases hyM
     rw [this]
     rfl
    | some g =>
     have:isGone T key a.elem=true:=by
      obtain ⟨y0,hy0,e1,e2⟩:=h.only _ _ hM
      have hyT:y0∈T:=(hin y0).2 ⟨hl y0 hy0,by rw [e1,e2];exact hM⟩
      have ty:y0.ty=4:=by rw [← zlK y0,e1]
      have es:slot y0=⟨y0.ty,y0.key,y0.side,y0.who,y0.elem⟩:=by unfold slot;rw [if_neg (by omega)]
      rw [es] at e1
      simp only [Sl.mk.injEq] at e1
      unfold isGone
      rw [List.any_eq_true]
      exact ⟨y0,hyT,by simp [e1.1,e1.2.1,e1.2.2.1,e1.2.2.2.2]⟩
     rw [this]
     rfl
   rw [hg]
   rcases hside with e | e <;> rw [e] <;> simp
 have hE:elemsOf (narrowM M kind key) (ofKey T kind key)=valE T kind key T:=by
  unfold elemsOf valE
  rw [List.filter_congr hkeep]
  refine List.map_congr_left fun a ha => ?_
  rw [(hsl a (List.mem_filter.1 ha).1).1]
 refine ⟨hE,?_⟩
 unfold valE
 rw [List.pairwise_map]
 have hs:=(zhg hT.sorted kind key).filter (keepsE T kind key)
 refine List.Pairwise.imp_of_mem (fun {x y} hx hy hxy => ?_) hs
 obtain ⟨hx1,hx2⟩:=List.mem_filter.1 hx
 obtain ⟨hy1,hy2⟩:=List.mem_filter.1 hy
 have kx:=hkeep x hx1
 have ky:=hkeep y hy1
 rw [hx2] at kx
 rw [hy2] at ky
 obtain ⟨sx,_⟩:=hsl x hx1
 obtain ⟨sy,_⟩:=hsl y hy1
 have zx:x.side=0:=by
  unfold kept at kx
  rw [sx] at kx
  simp at kx
  exact kx.1
 have zy:y.side=0:=by
  unfold kept at ky
  rw [sy] at ky
  simp at ky
  exact ky.1
 rw [zix,sx,sy,zx,zy] at hxy
 have e0:∀ z,ci z z=0:=fun z=>(zbS z z).2 rfl
 have z0:ordS key key=0:=(zhS key key).2 rfl
 simp only [scmp,e0,z0] at hxy
 simp at hxy
 omega
open Go.Shelf
def sortTexts_ren:Go.Shelf.Ren:=⟨fun | 190=>193 | 125=>186 | 258=>215 | 128=>210 | 129=>211 | 302=>225 | 303=>226 | 304=>227 | 305=>228 | 306=>229 | 307=>230 | 308=>231 | 309=>232 | 310=>233 | 333=>236 | 329=>221 | 330=>222 | 334=>237 | 335=>238 | 336=>213 | 344=>239 | n=>n,fun | 31=>86 | 9=>9 | 3=>3 | 46=>238 | 0=>0 | 51=>97 | 53=>274 | 4=>4 | 183=>266 | 182=>265 | 131=>270 | 5=>5 | 218=>280 | 222=>284 | 228=>293 | 229=>294 | n=>n,fun | n=>n⟩
theorem zlN:Go.Proofs.Lays.n190 Tryz.prog sortTexts_ren:={
 mixed:=by kernel_rfl,
 f125:=Tryz.func186.trans (congrArg some (by kernel_rfl)),
 f128:=Tryz.func210.trans (congrArg some (by kernel_rfl)),
 f129:=Tryz.func211.trans (congrArg some (by kernel_rfl)),
 f190:=Tryz.func193.trans (congrArg some (by kernel_rfl)),
 f258:=Tryz.func215.trans (congrArg some (by kernel_rfl)),
 f302:=Tryz.func225.trans (congrArg some (by kernel_rfl)),
 f303:=Tryz.func226.trans (congrArg some (by kernel_rfl)),
 f304:=Tryz.func227.trans (congrArg some (by kernel_rfl)),
 f305:=Tryz.func228.trans (congrArg some (by kernel_rfl)),
 f306:=Tryz.func229.trans (congrArg some (by kernel_rfl)),
 f307:=Tryz.func230.trans (congrArg some (by kernel_rfl)),
 f308:=Tryz.func231.trans (congrArg some (by kernel_rfl)),
 f309:=Tryz.func232.trans (congrArg some (by kernel_rfl)),
 f310:=Tryz.func233.trans (congrArg some (by kernel_rfl)),
 f329:=Tryz.func221.trans (congrArg some (by kernel_rfl)),
 f330:=Tryz.func222.trans (congrArg some (by kernel_rfl)),
 f333:=Tryz.func236.trans (congrArg some (by kernel_rfl)),
 f334:=Tryz.func237.trans (congrArg some (by kernel_rfl)),
 f335:=Tryz.func238.trans (congrArg some (by kernel_rfl)),
 f336:=Tryz.func213.trans (congrArg some (by kernel_rfl)),
 f344:=Tryz.func239.trans (congrArg some (by kernel_rfl)),
 t0:=Tryz.underlying0,
 a0:=Tryz.isAgg0,
 z0:=Tryz.sizeOf0,
 v0:=Tryz.zeroValue0,
 t3:=Tryz.underlying3,
 a3:=Tryz.isAgg3,
 z3:=Tryz.sizeOf3,
 v3:=Tryz.zeroValue3,
 t4:=Tryz.underlying4,
 a4:=Tryz.isAgg4,
 z4:=Tryz.sizeOf4,
 v4:=Tryz.zeroValue4,
 t5:=Tryz.underlying5,
 a5:=Tryz.isAgg5,
 z5:=Tryz.sizeOf5,
 v5:=Tryz.zeroValue5,
 t9:=Tryz.underlying9,
 a9:=Tryz.isAgg9,
 z9:=Tryz.sizeOf9,
 v9:=Tryz.zeroValue9,
 t31:=Tryz.underlying86,
 a31:=Tryz.isAgg86,
 z31:=Tryz.sizeOf86,
 v31:=Tryz.zeroValue86,
 t46:=Tryz.underlying238,
 a46:=Tryz.isAgg238,
 z46:=Tryz.sizeOf238,
 v46:=Tryz.zeroValue238,
 t51:=Tryz.underlying97,
 a51:=Tryz.isAgg97,
 z51:=Tryz.sizeOf97,
 v51:=Tryz.zeroValue97,
 t53:=Tryz.underlying274,
 a53:=Tryz.isAgg274,
 z53:=Tryz.sizeOf274,
 v53:=Tryz.zeroValue274,
 t131:=Tryz.underlying270,
 a131:=Tryz.isAgg270,
 z131:=Tryz.sizeOf270,
 v131:=Tryz.zeroValue270,
 t182:=Tryz.underlying265,
 a182:=Tryz.isAgg265,
 z182:=Tryz.sizeOf265,
 v182:=Tryz.zeroValue265,
 t183:=Tryz.underlying266,
 a183:=Tryz.isAgg266,
 z183:=Tryz.sizeOf266,
 v183:=Tryz.zeroValue266,
 t218:=Tryz.underlying280,
 a218:=Tryz.isAgg280,
 z218:=Tryz.sizeOf280,
 v218:=Tryz.zeroValue280,
 t222:=Tryz.underlying284,
 a222:=Tryz.isAgg284,
 z222:=Tryz.sizeOf284,
 v222:=Tryz.zeroValue284,
 t228:=Tryz.underlying293,
 a228:=Tryz.isAgg293,
 z228:=Tryz.sizeOf293,
 v228:=Tryz.zeroValue293,
 t229:=Tryz.underlying294,
 a229:=Tryz.isAgg294,
 z229:=Tryz.sizeOf294,
 v229:=Tryz.zeroValue294 }
end Go.Proofs.YtahdlejgjcjeoabGreatDoor
