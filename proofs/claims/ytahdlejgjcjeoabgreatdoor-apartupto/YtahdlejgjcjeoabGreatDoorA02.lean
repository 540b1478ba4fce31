/- Walks of the document's small functions: sign, order, places, grades, May. -/
import Derived.Test.YtahdlejgjcjeoabGreatDoorA01
import Derived.Deep.RegionHeld3
import Derived.Deep.Light
import Derived.RegionTactic
import Derived.BigRegion
import Derived.Test.YtahdlejgjcjeoabGreatDoorRows
import Derived.OpenShut
import Derived.RowKit
import Derived.LaidLaws
import Derived.Test.YtahdlejgjcjeoabGreatDoorProg
namespace Go.Proofs.YtahdlejgjcjeoabGreatDoor
set_option maxHeartbeats 8000000
open Go.RowKit
def ruleAt (w:World)(o:Nat)(ms mw n0 n1 me:Int)(reg:Bool):Prop :=
 w.cell? ⟨1,o,none⟩=some (.int .i64 ms)∧w.cell? ⟨1,o+1,none⟩=some (.int .i64 mw)∧w.cell? ⟨1,o+2,none⟩=some (.int .i64 n0)∧w.cell? ⟨1,o+3,none⟩=some (.int .i64 n1)∧w.cell? ⟨1,o+4,none⟩=some (.int .i64 me)∧w.cell? ⟨1,o+5,none⟩=some (.bool reg)
def RulesAt (w:World):Prop:=1<w.heap.size∧ruleAt w 0 0 5 1 2147483647 0 false∧ruleAt w 6 1 5 1 2147483647 0 false∧ruleAt w 12 0 0 0 0 8 false∧ruleAt w 18 1 0 0 0 8 false∧ruleAt w 24 0 5 1 2147483647 8 true
theorem ruleAt.below {B:Nat}{w w' : World}(hb:Below B w w')(h0:1<B){o:Nat}{a b c d e:Int}{r:Bool}(h:ruleAt w o a b c d e r):ruleAt w' o a b c d e r:=by
 obtain ⟨c0,c1,c2,c3,c4,c5⟩:=h
 refine ⟨?_,?_,?_,?_,?_,?_⟩ <;> (rw [hb.cell (p:=⟨1,_,none⟩) h0];assumption)
theorem RulesAt.below {w w' : World}(h:RulesAt w){B:Nat}(hb:Below B w w')(h0:1<B):RulesAt w' := by
 obtain ⟨h1,r1,r2,r3,r4,r5⟩:=h
 exact ⟨Nat.lt_of_lt_of_le h1 hb.size,r1.below hb h0,r2.below hb h0,r3.below hb h0,r4.below hb h0,r5.below hb h0⟩
theorem zfC {k:Int}(h1:1≤k)(h5:k≤5):k=1∨k=2∨k=3∨k=4∨k=5:=by omega
theorem zfw (k:Int)(w:World)(h:RulesAt w)(h1:1≤k)(h5:k≤5) :
  Calls Tryz.prog 184 #[.int .i64 k] w fun e w' => e = .returned (.bool (k == 5))∧w' = w:=by
 obtain ⟨h0,r1,r2,r3,r4,r5⟩:=h
 rcases zfC h1 h5 with rfl | rfl | rfl | rfl | rfl
 ·obtain ⟨c0,c1,c2,c3,c4,c5⟩:=r1
  clear r2 r3 r4 r5
  go_enter Tryz.func184,Tryz.ntmps184
  go_wp2
  go_ret
  exact ⟨rfl,rfl⟩
 ·obtain ⟨c0,c1,c2,c3,c4,c5⟩:=r2
  clear r1 r3 r4 r5
  go_enter Tryz.func184,Tryz.ntmps184
  go_wp2
  go_ret
  exact ⟨rfl,rfl⟩
 ·obtain ⟨c0,c1,c2,c3,c4,c5⟩:=r3
  clear r2 r1 r4 r5
  go_enter Tryz.func184,Tryz.ntmps184
  go_wp2
  go_ret
  exact ⟨rfl,rfl⟩
 ·obtain ⟨c0,c1,c2,c3,c4,c5⟩:=r4
  clear r2 r3 r1 r5
  go_enter Tryz.func184,Tryz.ntmps184
  go_wp2
  go_ret
  exact ⟨rfl,rfl⟩
 ·obtain ⟨c0,c1,c2,c3,c4,c5⟩:=r5
  clear r2 r3 r4 r1
  go_enter Tryz.func184,Tryz.ntmps184
  go_wp2
  go_ret
  exact ⟨rfl,rfl⟩
def wi (n a b:Int):Bool:=decide (a≤n) && decide (n≤b)
theorem znv (n a b:Int):wi n a b=true ↔ a≤n∧n≤b:=by simp [wi]
theorem znu (n a b:Int):wi n a b=false ↔ ¬ (a≤n∧n≤b):=by rw [← znv];simp
theorem znw (n a b:Int)(w:World) :
  Calls Tryz.prog 191 #[.int .i64 n,.int .i64 a,.int .i64 b] w fun e w' => e = .returned (.bool (wi n a b))∧w' = w:=by
 by_cases h:a≤n
 ·go_enter Tryz.func191,Tryz.ntmps191
  go_wp2
  go_ret
  exact ⟨zkL (by simp [wi,h]),rfl⟩
 ·go_enter Tryz.func191,Tryz.ntmps191
  go_wp2
  go_ret
  exact ⟨zkL (by simp [wi];omega),rfl⟩
theorem zfy (k:Int)(w:World) :
  Calls Tryz.prog 153 #[.int .i64 k] w fun e w' => e = .returned (.bool (wi k 1 5))∧w' = w:=by
 go_enter Tryz.func153,Tryz.ntmps153
 go_wp2_with (go_at_call 191;refine (znw _ _ _ _).mono ?_;rintro e w' ⟨rfl,rfl⟩)
 go_ret
 exact ⟨rfl,rfl⟩
open Go.RowKit Go.ChangeShapes Go.WideShapes
theorem zhH {H:Type}{en:TypeId × Value→H}{P:Program}{w:World}{base:Nat}{sp:Nat→Bool}{held:Bool}{fuel:Nat}{t:TypeId}{cs:List Value}{x:DataW H × List MemPlace}{f0 f1 f2 f3 f4 f5:Field}
  (ht:P.underlying t=some (.struct #[f0,f1,f2,f3,f4,f5])) (hC:P.cellsOf t=6)
  (o0:f0.offset=0) (o1:f1.offset=1) (o2:f2.offset=2) (o3:f3.offset=3) (o4:f4.offset=4) (o5:f5.offset=5)
  (c0:P.cellsOf f0.type=1) (c1:P.cellsOf f1.type=1) (c2:P.cellsOf f2.type=1) (c3:P.cellsOf f3.type=1) (c4:P.cellsOf f4.type=1) (c5:P.cellsOf f5.type=1)
  (h:DataW.trod en P w base sp held fuel t cs=some x) :
  ∃ v0 v1 v2 v3 v4 v5 x0 x1 x2 x3 x4 x5 n,cs = [v0,v1,v2,v3,v4,v5]∧x=(.agg [x0.1,x1.1,x2.1,x3.1,x4.1,x5.1],x0.2 ++ (x1.2 ++ (x2.2 ++ (x3.2 ++ (x4.2 ++ x5.2))))) ∧
   DataW.trod en P w base sp held n f0.type [v0]=some x0∧DataW.trod en P w base sp held n f1.type [v1]=some x1∧DataW.trod en P w base sp held n f2.type [v2]=some x2 ∧
   DataW.trod en P w base sp held n f3.type [v3]=some x3∧DataW.trod en P w base sp held n f4.type [v4]=some x4∧DataW.trod en P w base sp held n f5.type [v5]=some x5:=by
 obtain ⟨xs,n,-,rfl,hl,hxl,hf⟩:=DataW.trod_struct ht h
 rw [hC] at hl
 have h0:=hf 0 f0 rfl
 have h1:=hf 1 f1 rfl
 have h2:=hf 2 f2 rfl
 have h3:=hf 3 f3 rfl
 have h4:=hf 4 f4 rfl
 have h5:=hf 5 f5 rfl
 match cs,hl,xs,hxl with
 | [v0,v1,v2,v3,v4,v5],_,[x0,x1,x2,x3,x4,x5],_ =>
  rw [o0,c0] at h0
  rw [o1,c1] at h1
  rw [o2,c2] at h2
  rw [o3,c3] at h3
  rw [o4,c4] at h4
  rw [o5,c5] at h5
  exact ⟨v0,v1,v2,v3,v4,v5,x0,x1,x2,x3,x4,x5,n,rfl,by simp,h0,h1,h2,h3,h4,h5⟩
theorem zbA:Tryz.prog.cellsOf 3=1:=by kernel_rfl
theorem zbE:Tryz.prog.cellsOf 9=1:=by kernel_rfl
theorem zby:Tryz.prog.cellsOf 4=1:=by kernel_rfl
theorem zbD:Tryz.prog.cellsOf 262=6:=by kernel_rfl
theorem znq {n:Int}(h:(Lit.int .i64 n).wf=true) : -9223372036854775808≤n∧n≤9223372036854775807:=by
 simp only [Lit.wf,Bool.and_eq_true,decide_eq_true_eq] at h
 have e1:IntKind.i64.min = -9223372036854775808:=by rfl
 have e2:IntKind.i64.max=9223372036854775807:=by rfl
 rw [e1,e2] at h
 exact h
theorem zf8 {α:Type}{Q:Nat→α→Prop}:∀ n,(∀ i,i<n→∃ a,Q i a)→∃ l:List α,l.length=n∧∀ i (h:i<l.length),Q i l[i]
 | 0,_=>⟨[],rfl,fun i h=>by simp at h⟩
 | n+1,h=>by
  obtain ⟨l,hl,hq⟩:=zf8 n (fun i hi=>h i (by omega))
  obtain ⟨a,ha⟩:=h n (by omega)
  refine ⟨l ++ [a],by simp [hl],fun i hi => ?_⟩
  by_cases hin:i<l.length
  ·rw [List.getElem_append_left hin]
   exact hq i hin
  ·have:i=l.length:=by simp at hi;omega
   subst this
   simp only [List.getElem_append_right (Nat.le_refl _),Nat.sub_self,List.getElem_cons_zero]
   rw [hl]
   exact ha
theorem zbe {H:Type}{d:DataW H}:∀ {l:List (DataW H)},d∈l→Rows.uptoBulk d≤Rows.uptoBulkAll l
 | x :: r,h=>by
  simp only [Rows.uptoBulkAll]
  rcases List.mem_cons.1 h with e | e
  ·subst e;omega
  ·have:=zbe e;omega
theorem zdZ : Tryz.prog.globalNamed "ripple/state.rules" = some 1 := by kernel_rfl
theorem zd0:(Tryz.prog.globals[1]?).map (·.type)=some 263:=by kernel_rfl
theorem zhF {W:World}{base:Nat}{sp:Nat→Bool}{held:Bool}{fuel:Nat}{cs:List Value}{p:List MemPlace}{a b c d e:Int}{r:Bool}
  (h:DataW.trod (fun _=>()) Tryz.prog W base sp held fuel 262 cs=some (.agg [.lit (.int .i64 a),.lit (.int .i64 b),.lit (.int .i64 c),.lit (.int .i64 d),.lit (.int .i64 e),.lit (.bool r)],p)) :
  cs = [.int .i64 a,.int .i64 b,.int .i64 c,.int .i64 d,.int .i64 e,.bool r]:=by
 obtain ⟨v0,v1,v2,v3,v4,v5,x0,x1,x2,x3,x4,x5,n,rfl,hx,h0,h1,h2,h3,h4,h5⟩:=zhH Tryz.underlying262 zbD rfl rfl rfl rfl rfl rfl zbA zbA zbA zbA zbA zby h
 obtain ⟨n0,e0,rfl,-⟩:=DataW.trod_int Tryz.underlying3 h0
 obtain ⟨n1,e1,rfl,-⟩:=DataW.trod_int Tryz.underlying3 h1
 obtain ⟨n2,e2,rfl,-⟩:=DataW.trod_int Tryz.underlying3 h2
 obtain ⟨n3,e3,rfl,-⟩:=DataW.trod_int Tryz.underlying3 h3
 obtain ⟨n4,e4,rfl,-⟩:=DataW.trod_int Tryz.underlying3 h4
 obtain ⟨n5,e5,rfl⟩:=DataW.trod_bool Tryz.underlying4 h5
 simp at hx e0 e1 e2 e3 e4 e5
 obtain ⟨⟨rfl,rfl,rfl,rfl,rfl,rfl⟩,-⟩:=hx
 subst e0 e1 e2 e3 e4 e5
 rfl
theorem zmg {cs:List Value}{o:Nat}{v0 v1 v2 v3 v4 v5:Value}(h:(cs.drop o).take 6 = [v0,v1,v2,v3,v4,v5]) :
  cs[o]? = some v0∧cs[o+1]? = some v1∧cs[o+2]? = some v2∧cs[o+3]? = some v3∧cs[o+4]? = some v4∧cs[o+5]? = some v5:=by
 have at6:∀ j,j<6→cs[o+j]? = [v0,v1,v2,v3,v4,v5][j]? := by
  intro j hj
  rw [← h,List.getElem?_take,if_pos hj,List.getElem?_drop]
 exact ⟨at6 0 (by decide),at6 1 (by decide),at6 2 (by decide),at6 3 (by decide),at6 4 (by decide),at6 5 (by decide)⟩
theorem zkU {W : World} (h : laidMetH Tryz.prog [("ripple/state.rules", Rows.laid_ripple_state_rules)] W) : RulesAt W := by
 have h' : laidMet Tryz.prog [("ripple/state.rules", Rows.laid_ripple_state_rules)] W := h
 obtain ⟨ps,⟨g,t,cs,fuel,p,q,hg,ht,hvar,hd,-,-⟩,-⟩:=h'
 obtain rfl:=Option.some.inj (zdZ.symm.trans hg)
 obtain rfl:=Option.some.inj (zd0.symm.trans ht)
 obtain ⟨xs,m,-,hx,hl,hxl,hf⟩:=DataW.trod_array Tryz.underlying263 hd
 rw [zbD] at hf
 have hcell:∀ i,W.cell? ⟨1,i,none⟩=cs.toList[i]? := fun i=>by rw [World.var?_cell zdZ hvar i];simp
 match xs,hxl with
 | [x0,x1,x2,x3,x4],_ =>
  obtain ⟨y0,p0⟩:=x0
  obtain ⟨y1,p1⟩:=x1
  obtain ⟨y2,p2⟩:=x2
  obtain ⟨y3,p3⟩:=x3
  obtain ⟨y4,p4⟩:=x4
  simp only [Rows.laid_ripple_state_rules,Prod.mk.injEq,List.map_cons,List.map_nil,DataW.agg.injEq,List.cons.injEq,and_true] at hx
  obtain ⟨⟨rfl,rfl,rfl,rfl,rfl⟩,-⟩:=hx
  have r0:=zmg (zhF (hf 0 (by decide)))
  have r1:=zmg (zhF (hf 1 (by decide)))
  have r2:=zmg (zhF (hf 2 (by decide)))
  have r3:=zmg (zhF (hf 3 (by decide)))
  have r4:=zmg (zhF (hf 4 (by decide)))
  simp only [← hcell] at r0 r1 r2 r3 r4
  refine ⟨?_,r0,r1,r2,r3,r4⟩
  have c0:=r0.1
  have:W.heap[1]? ≠ none:=by
   intro hn
   unfold World.cell? at c0
   simp [hn] at c0
  have:=mt Array.getElem?_eq_none this
  omega
def leftTo (l:List At)(k:Nat):List At:=((List.range k).filter (fun i=>cntTo l i l.length)).map (nth l)
theorem zfS (l:List At)(k:Nat):leftTo l (k+1)=if cntTo l k l.length then leftTo l k ++ [nth l k] else leftTo l k:=by
 unfold leftTo
 rw [List.range_succ,List.filter_append,List.map_append]
 by_cases h:cntTo l k l.length <;> simp [h]
theorem zfR (l:List At)(k:Nat):(leftTo l k).length≤k:=by
 unfold leftTo
 rw [List.length_map]
 have:=List.length_filter_le (fun i=>cntTo l i l.length) (List.range k)
 simpa using this
theorem zb4 (l:List At)(i:Nat):cntTo l i l.length=true ↔ ∀ j,j<l.length→plc (nth l j) (nth l i)=0→grd (nth l j) (nth l i)≤0∧(grd (nth l j) (nth l i)=0→¬ j<i):=by
 unfold cntTo
 rw [List.all_eq_true]
 constructor
 ·intro h j hj hp
  have:=h j (List.mem_range.2 hj)
  simp [bad,hp] at this
  exact ⟨this.1,fun e hlt=>by have:=this.2;omega⟩
 ·intro h j hj
  rw [List.mem_range] at hj
  by_cases hp:plc (nth l j) (nth l i)=0
  ·obtain ⟨h1,h2⟩:=h j hj hp
   simp [bad,hp]
   exact ⟨h1,by omega⟩
  ·simp [bad,hp]
theorem zgv {l:List At}{x:At}(h:x∈l):∃ k,k<l.length∧nth l k=x:=by
 obtain ⟨k,hk,rfl⟩:=List.mem_iff_getElem.1 h
 exact ⟨k,hk,zg5 l k hk⟩
theorem zfW {l:List At}{x:At}:x∈leftTo l l.length ↔ ∃ i,i<l.length∧cntTo l i l.length=true∧nth l i=x:=by
 unfold leftTo
 simp only [List.mem_map,List.mem_filter,List.mem_range]
 constructor
 ·rintro ⟨i,⟨h1,h2⟩,h3⟩;exact ⟨i,h1,h2,h3⟩
 ·rintro ⟨i,h1,h2,h3⟩;exact ⟨i,⟨h1,h2⟩,h3⟩
theorem zfV {l:List At}:∀ x∈leftTo l l.length,x∈l∧∀ y∈l,plc y x=0→grd y x≤0:=by
 intro x hx
 obtain ⟨i,hi,hc,rfl⟩:=zfW.1 hx
 refine ⟨zg6 l i hi,fun y hy hp => ?_⟩
 obtain ⟨j,hj,rfl⟩:=zgv hy
 exact ((zb4 l i).1 hc j hj hp).1
theorem zei {a b c:At}(h1:a.ty=b.ty)(h2:b.ty=c.ty)(x:grd a b≤0)(y:grd b c≤0):grd a c≤0:=by
 rw [zeh _ _ h1] at x
 rw [zeh _ _ h2] at y
 rw [zeh _ _ (h1.trans h2)]
 exact zd4.trans _ _ _ x y
theorem zaT (l:List At)(y:At):∀ k,(∀ j,j<k→plc (nth l j) y ≠ 0)∨∃ i,i<k∧plc (nth l i) y=0∧∀ j,j<k→plc (nth l j) y=0→grd (nth l j) (nth l i)≤0∧(grd (nth l j) (nth l i)=0→¬ j<i):=by
 intro k
 induction k with
 | zero=>exact .inl fun j hj=>by omega
 | succ k ih =>
  by_cases hk:plc (nth l k) y=0
  ·rcases ih with ih | ⟨i,hi,hp,hb⟩
   ·refine .inr ⟨k,by omega,hk,fun j hj hpj => ?_⟩
    by_cases e:j=k
    ·subst e
     have hg:grd (nth l j) (nth l j)=0:=by have:=zeg (a:=nth l j) (b:=nth l j) rfl;omega
     exact ⟨by omega,fun _=>by omega⟩
    ·exact absurd hpj (ih j (by omega))
   ·have tk:=ziF hk
    have ti:=ziF hp
    by_cases hg:grd (nth l k) (nth l i)≤0
    ·refine .inr ⟨i,by omega,hp,fun j hj hpj => ?_⟩
     by_cases e:j=k
     ·subst e;exact ⟨hg,fun _=>by omega⟩
     ·exact hb j (by omega) hpj
    ·refine .inr ⟨k,by omega,hk,fun j hj hpj => ?_⟩
     have hga:=zeg (a:=nth l k) (b:=nth l i) (tk.trans ti.symm)
     by_cases e:j=k
     ·subst e
      have hg:grd (nth l j) (nth l j)=0:=by have:=zeg (a:=nth l j) (b:=nth l j) rfl;omega
      exact ⟨by omega,fun _=>by omega⟩
     ·have h1:=(hb j (by omega) hpj).1
      have tj:=ziF hpj
      have h2:grd (nth l j) (nth l k)≤0:=zei (tj.trans ti.symm) (ti.trans tk.symm) h1 (by omega)
      refine ⟨h2,fun e0 => ?_⟩
      exfalso
      have h3:grd (nth l k) (nth l j)≤0:=by rw [zeg (tj.trans tk.symm)];omega
      have h4:=zei (tk.trans tj.symm) (tj.trans ti.symm) h3 h1
      omega
  ·rcases ih with ih | ⟨i,hi,hp,hb⟩
   ·refine .inl fun j hj => ?_
    by_cases e:j=k
    ·subst e;exact hk
    ·exact ih j (by omega)
   ·refine .inr ⟨i,by omega,hp,fun j hj hpj => ?_⟩
    by_cases e:j=k
    ·subst e;exact absurd hpj hk
    ·exact hb j (by omega) hpj
theorem ziA {a b:At}(h:plc a b=0):plc b a=0:=by rw [ziC.anti a b,h];rfl
theorem ziD {a b c:At}(h:plc a b=0)(k:plc b c=0):plc a c=0:=by
 rw [zix,zk4] at *;rw [h,k]
theorem zfT {l:List At}:∀ y∈l,∃ x∈leftTo l l.length,plc y x=0:=by
 intro y hy
 obtain ⟨k,hk,hky⟩:=zgv hy
 rcases zaT l y l.length with h | ⟨i,hi,hp,hb⟩
 ·exact absurd (by rw [hky];exact ziC.refl y) (h k hk)
 ·refine ⟨nth l i,zfW.2 ⟨i,hi,(zb4 l i).2 fun j hj hpj=>hb j hj (ziD hpj hp),rfl⟩,ziA hp⟩
theorem zfU {l:List At}:(leftTo l l.length).Pairwise (fun x y=>plc x y ≠ 0):=by
 unfold leftTo
 rw [List.pairwise_map]
 refine List.Pairwise.imp_of_mem ?_ ((List.pairwise_lt_range).filter _)
 intro i j hi hj hlt hp
 rw [List.mem_filter,List.mem_range] at hi hj
 have h1:=(zb4 l i).1 hi.2 j hj.1 (ziA hp)
 have h2:=(zb4 l j).1 hj.2 i hi.1 hp
 have:=zeg (ziF hp)
 have:=h2.2 (by omega)
 omega
theorem zfX {α:Type}:∀ {l r:List α},l.Pairwise (· ≠ ·)→(∀ x∈l,x∈r)→l.length≤r.length
 | [],r,_,_=>Nat.zero_le _
 | x :: l,r,hl,h=>by
  rw [List.pairwise_cons] at hl
  obtain ⟨r1,r2,rfl⟩:=List.append_of_mem (h x (by simp))
  have:=zfX (r:=r1 ++ r2) hl.2 fun y hy=>by
   have h1:=h y (by simp [hy])
   have h2:=hl.1 y hy
   simp only [List.mem_append,List.mem_cons] at h1 ⊢
   rcases h1 with h1 | h1 | h1
   ·exact .inl h1
   ·exact absurd h1.symm h2
   ·exact .inr h1
  simp only [List.length_append,List.length_cons] at this ⊢
  omega
def bh (O:List At)(x:At):Prop:=∀ y,O.getLast? = some y→0<plc x y
structure Sel (L O:List At):Prop where
 sorted:O.Pairwise (fun x y=>plc x y<0)
 sub:∀ x∈O,x∈L
 rest:∀ x∈L,x∈O∨bh O x
theorem Sel.start (L:List At):Sel L []:=⟨.nil,by simp,fun x _ => .inr (by simp [bh])⟩
def Best (L O:List At)(i:Nat)(b:Int):Prop :=
 (b = -1∧∀ j,j<i→¬ bh O (nth L j))∨∃ m:Nat,b=m∧m<i∧bh O (nth L m)∧∀ j,j<i→bh O (nth L j)→0≤plc (nth L j) (nth L m)
theorem Best.start (L O:List At):Best L O 0 (-1) := .inl ⟨rfl,fun j hj=>by omega⟩
theorem Best.skip {L O:List At}{i:Nat}{b:Int}(h:Best L O i b)(hn:¬ bh O (nth L i)):Best L O (i+1) b:=by
 rcases h with ⟨rfl,h⟩ | ⟨m,rfl,hm,hb,h⟩
 ·refine .inl ⟨rfl,fun j hj => ?_⟩
  by_cases e:j=i
  ·subst e;exact hn
  ·exact h j (by omega)
 ·refine .inr ⟨m,rfl,by omega,hb,fun j hj hbj => ?_⟩
  by_cases e:j=i
  ·subst e;exact absurd hbj hn
  ·exact h j (by omega) hbj
theorem Best.keep {L O:List At}{i m:Nat}(h:Best L O i m)(hn:0≤plc (nth L i) (nth L m)):Best L O (i+1) m:=by
 rcases h with ⟨h0,h⟩ | ⟨m',e,hm,hb,h⟩
 ·omega
 ·obtain rfl:m=m' := by omega
  refine .inr ⟨m,rfl,by omega,hb,fun j hj hbj => ?_⟩
  by_cases e:j=i
  ·subst e;exact hn
  ·exact h j (by omega) hbj
theorem Best.take {L O:List At}{i m:Nat}(h:Best L O i m)(hbi:bh O (nth L i))(hn:plc (nth L i) (nth L m)<0):Best L O (i+1) i:=by
 rcases h with ⟨h0,h⟩ | ⟨m',e,hm,hb,h⟩
 ·omega
 ·obtain rfl:m=m' := by omega
  refine .inr ⟨i,rfl,by omega,hbi,fun j hj hbj => ?_⟩
  by_cases e:j=i
  ·subst e;rw [ziC.refl];omega
  ·have h1:=h j (by omega) hbj
   have h2:=ziC.anti (nth L m) (nth L j)
   have h3:=ziC.lt_le hn (y:=nth L m) (z:=nth L j) (by omega)
   have h4:=ziC.anti (nth L i) (nth L j)
   omega
theorem Best.first {L O:List At}{i:Nat}(h:Best L O i (-1))(hbi:bh O (nth L i)):Best L O (i+1) i:=by
 rcases h with ⟨_,h⟩ | ⟨m,e,_⟩
 ·refine .inr ⟨i,rfl,by omega,hbi,fun j hj hbj => ?_⟩
  by_cases e:j=i
  ·subst e;rw [ziC.refl];omega
  ·exact absurd hbj (h j (by omega))
 ·omega
theorem zat {L:List At}(h:L.Pairwise (fun x y=>plc x y ≠ 0)):L.Pairwise (· ≠ ·) :=
 h.imp fun {x y} hxy e=>hxy (by rw [e];exact ziC.refl y)
theorem zlR {L:List At}(h:L.Pairwise (fun x y=>plc x y<0)):L.Pairwise (· ≠ ·) :=
 h.imp fun {x y} hxy e=>by rw [e,ziC.refl] at hxy;omega
theorem Best.found {L O:List At}{b:Int}(hL:L.Pairwise (fun x y=>plc x y ≠ 0))(hs:Sel L O)(hlt:O.length<L.length)(h:Best L O L.length b):∃ m:Nat,b=m∧m<L.length∧bh O (nth L m)∧∀ j,j<L.length→bh O (nth L j)→0≤plc (nth L j) (nth L m):=by
 rcases h with ⟨rfl,h⟩ | h
 ·exfalso
  have:L.length≤O.length:=zfX (zat hL) fun x hx=>by
   rcases hs.rest x hx with hr | hr
   ·exact hr
   ·obtain ⟨k,hk,rfl⟩:=zgv hx
    exact absurd hr (h k hk)
  omega
 ·exact h
theorem zfI {O:List At}(h:O.Pairwise (fun x y=>plc x y<0)){x z:At}(hz:O.getLast? = some z)(hx:x∈O):plc x z≤0:=by
 obtain ⟨l,rfl⟩:∃ l,O=l ++ [z]:=by
  have:=List.getLast?_eq_some_iff.1 hz
  obtain ⟨l,hl⟩:=this
  exact ⟨l,hl⟩
 rw [List.pairwise_append] at h
 simp only [List.mem_append,List.mem_singleton] at hx
 rcases hx with hx | rfl
 ·have:=h.2.2 x hx z (by simp);omega
 ·rw [ziC.refl];omega
theorem Sel.step {L O:List At}(hL:L.Pairwise (fun x y=>plc x y ≠ 0))(hs:Sel L O){m:Nat}(hm:m<L.length)(hb:bh O (nth L m))(hmin:∀ j,j<L.length→bh O (nth L j)→0≤plc (nth L j) (nth L m)):Sel L (O ++ [nth L m]) where
 sorted:=by
  rw [List.pairwise_append]
  refine ⟨hs.sorted,List.pairwise_singleton _ _,fun x hx y hy => ?_⟩
  rw [List.mem_singleton] at hy
  subst hy
  cases hl:O.getLast? with
  | none=>rw [List.getLast?_eq_none_iff] at hl;subst hl;simp at hx
  | some z =>
   have h1:=zfI hs.sorted hl hx
   have h2:=hb z hl
   have h3:=ziC.anti (nth L m) z
   exact ziC.le_lt h1 (by omega)
 sub x hx:=by
  simp only [List.mem_append,List.mem_singleton] at hx
  rcases hx with hx | rfl
  ·exact hs.sub x hx
  ·exact zg6 L m hm
 rest x hx:=by
  rcases hs.rest x hx with hr | hr
  ·exact .inl (by simp [hr])
  ·obtain ⟨j,hj,rfl⟩:=zgv hx
   have h1:=hmin j hj hr
   by_cases e:nth L j=nth L m
   ·exact .inl (by simp [e])
   ·refine .inr fun z hz => ?_
    rw [List.getLast?_concat] at hz
    obtain rfl:nth L m=z:=by simpa using hz
    have hne:plc (nth L j) (nth L m) ≠ 0:=by
     have hjm:j ≠ m:=fun e' => e (by rw [e'])
     rw [zg5 L j hj,zg5 L m hm]
     rcases Nat.lt_or_gt_of_ne hjm with h | h
     ·exact List.pairwise_iff_getElem.1 hL j m hj hm h
     ·intro e0;exact List.pairwise_iff_getElem.1 hL m j hm hj h (ziA e0)
    omega
theorem Sel.done {l O:List At}(hs:Sel (leftTo l l.length) O)(hlen:(leftTo l l.length).length≤O.length):IsTold l O where
 sorted:=hs.sorted
 great x hx:=zfV x (hs.sub x hx)
 all y hy:=by
  obtain ⟨x,hx,hp⟩:=zfT y hy
  rcases hs.rest x hx with hr | hr
  ·exact ⟨x,hr,hp⟩
  ·by_cases hxO:x∈O
   ·exact ⟨x,hxO,hp⟩
   ·exfalso
    have:(x :: O).length≤(leftTo l l.length).length:=zfX (by
      rw [List.pairwise_cons]
      exact ⟨fun y hy e=>hxO (e ▸ hy),zlR hs.sorted⟩) fun y hy=>by
     rcases List.mem_cons.1 hy with rfl | hy
     ·exact hx
     ·exact hs.sub y hy
    simp at this
    omega
def bhB (O:List At)(x:At):Bool:=match O.getLast? with | none=>true | some y=>decide (0<plc x y)
theorem zaU (O:List At)(x:At):bhB O x=true ↔ bh O x:=by
 unfold bhB bh
 cases h:O.getLast? <;> simp
theorem zaV (O:List At)(p:Nat)(h:O.length=p+1)(x:At):bhB O x=decide (0<plc x (nth O p)):=by
 have:O.getLast? = some (nth O p):=by
  rw [List.getLast?_eq_getElem?,h,zg5 O p (by omega)];simp [h]
 unfold bhB;rw [this]
def old (x y:At):Bool:=plc x y == 0 && decide (grd x y≤0)
def frTo (x:At)(m:List At)(k:Nat):Bool:=(List.range k).all fun j => !old x (nth m j)
theorem zdM (x:At)(m:List At)(k:Nat):frTo x m (k+1)=(frTo x m k && !old x (nth m k)):=by
 unfold frTo
 rw [List.range_succ,List.all_append]
 simp
def newsTo (L m:List At)(k:Nat):List At:=(L.take k).filter fun x=>frTo x m m.length
theorem zgX (L m:List At)(k:Nat)(h:k<L.length):newsTo L m (k+1)=if frTo (nth L k) m m.length then newsTo L m k ++ [nth L k] else newsTo L m k:=by
 unfold newsTo
 rw [List.take_succ_eq_append_getElem h,List.filter_append,zg5 L k h]
 by_cases hf:frTo L[k] m m.length <;> simp [hf]
theorem zgW (L m:List At)(k:Nat)(h:k≤L.length):(newsTo L m k).length≤k:=by
 unfold newsTo
 have:=List.length_filter_le (fun x=>frTo x m m.length) (L.take k)
 rw [List.length_take] at this
 omega
def NewIn (l m:List At)(x:At):Prop:=x∈l∧(∀ y∈l,plc y x=0→grd y x≤0)∧∀ y∈m,plc x y=0→0<grd x y
structure IsNews (l m out:List At):Prop where
 sorted:out.Pairwise (fun x y=>plc x y<0)
 mem:∀ x,x∈out ↔ NewIn l m x
theorem IsNews.unique {l m a b:List At}(ha:IsNews l m a)(hb:IsNews l m b):a=b :=
 zlQ ziC ha.sorted hb.sorted fun x=>by rw [ha.mem,hb.mem]
theorem zmS {l out:List At}(h:IsTold l out):out.length≤l.length:=zfX (zlR h.sorted) (fun x hx=>(h.great x hx).1)
theorem zdL (x:At)(m:List At):frTo x m m.length=true ↔ ∀ y∈m,plc x y=0→0<grd x y:=by
 unfold frTo
 rw [List.all_eq_true]
 constructor
 ·intro h y hy hp
  obtain ⟨k,hk,rfl⟩:=zgv hy
  have:=h k (List.mem_range.2 hk)
  simp [old,hp] at this
  omega
 ·intro h j hj
  rw [List.mem_range] at hj
  have:=h (nth m j) (zg6 m j hj)
  by_cases hp:plc x (nth m j)=0
  ·have:=this hp
   simp [old,hp]
   omega
  ·simp [old,hp]
theorem zk2 {x y:At}(hx:mayB x=true)(hy:mayB y=true)(hp:plc x y=0)(h1:grd x y≤0)(h2:grd y x≤0):x=y:=by
 rw [zeh _ _ (ziF hp)] at h1
 rw [zeh _ _ (ziF hp).symm] at h2
 have h3:=zd4.anti (grade x) (grade y)
 have h4:=(zd5 (grade x) (grade y)).1 (by omega)
 rw [← zm8 x hx,← zm8 y hy,(show slot x=slot y by rw [zix,zk4] at hp;exact hp),h4]
theorem zg0 {l m L:List At}(hl:∀ x∈l,mayB x=true)(h:IsTold l L):IsNews l m (newsTo L m L.length) where
 sorted:=by
  unfold newsTo
  rw [List.take_length]
  exact h.sorted.filter _
 mem x:=by
  unfold newsTo
  rw [List.take_length,List.mem_filter,zdL]
  constructor
  ·rintro ⟨h1,h2⟩
   exact ⟨(h.great x h1).1,(h.great x h1).2,h2⟩
  ·rintro ⟨h1,h2,h3⟩
   refine ⟨?_,h3⟩
   obtain ⟨y,hy,hp⟩:=h.all x h1
   obtain ⟨g1,g2⟩:=h.great y hy
   have:x=y:=zk2 (hl x h1) (hl y g1) hp (g2 x h1 hp) (h2 y g1 (ziA hp))
   rw [this]
   exact hy
theorem zlu (n:Int)(w:World) :
  Calls Tryz.prog 170 #[.int .i64 n] w fun e w' => e = .returned (.int .i64 (sgn n))∧w' = w:=by
 by_cases h1:n<0
 ·go_enter Tryz.func170,Tryz.ntmps170
  go_wp2
  go_ret
  exact ⟨zkM (by simp [sgn,h1]),rfl⟩
 ·by_cases h2:0<n
  ·go_enter Tryz.func170,Tryz.ntmps170
   go_wp2
   go_ret
   exact ⟨zkM (by simp [sgn,h1,h2]),rfl⟩
  ·go_enter Tryz.func170,Tryz.ntmps170
   go_wp2
   go_ret
   exact ⟨zkM (by unfold sgn;rw [if_neg (by omega),if_neg (by omega)]),rfl⟩
theorem zhT (a b:ByteArray)(w:World)(ha:a.size≤281474976710656)(hb:b.size≤281474976710656) :
  Calls Tryz.prog 171 #[.string a,.string b] w fun e w' => e = .returned (.int .i64 (ordS a b))∧∃ q,w' = w.drewN q:=by
 go_enter Tryz.func171,Tryz.ntmps171
 go_wp2
 go_loopw [5] (fun i wr=>∃ k:Nat,k≤a.size∧k≤b.size∧i = .int .i64 k∧Hid (a.data.toList.take k=b.data.toList.take k)∧Hid (∃ q,wr=w.drewN q)) (fun i _=>a.size - (intOf i).toNat)
 case atStart=>exact ⟨0,Nat.zero_le _,Nat.zero_le _,rfl,by simp [Hid],0,rfl⟩
 case round =>
  obtain ⟨k,hk1,hk2,rfl,ht,hbw⟩:=hrel
  obtain ⟨q0,rfl⟩:=hbw
  by_cases hl:k<a.size
  ·by_cases hl2:k<b.size
   ·go_wp2
    go_quiet (fail)
    go_wp2
    ·go_ret
     exact ⟨zkM (zhP a b k hl hl2 ht.out (by omega)).symm,zco (by repeat (first | exact ⟨0,rfl⟩ | apply zcp))⟩
    ·go_quiet (fail)
     go_wp2
     ·go_ret
      exact ⟨zkM (zhO a b k hl hl2 ht.out (by omega)).symm,zco (by repeat (first | exact ⟨0,rfl⟩ | apply zcp))⟩
     ·go_roundw
      case rel=>exact ⟨k+1,by omega,by omega,by go_num,zmm a b k hl hl2 ht.out (by omega) (by omega),zco (by repeat (first | exact ⟨0,rfl⟩ | apply zcp))⟩
      case measure=>simp [intOf];omega
   ·go_wp2_with (go_at_call 170;refine (zlu _ _).mono ?_;rintro e w' ⟨rfl,rfl⟩)
    go_ret
    exact ⟨zkM (zhM a b k hk1 hk2 ht.out (by omega)).symm,_,rfl⟩
  ·go_wp2_with (go_at_call 170;refine (zlu _ _).mono ?_;rintro e w' ⟨rfl,rfl⟩)
   go_ret
   exact ⟨zkM (zhM a b k hk1 hk2 ht.out (by omega)).symm,_,rfl⟩
theorem ziw (a b:At)(w:World)(ha:fits a)(hb:fits b) :
  Calls Tryz.prog 122 #[a.val,b.val] w fun e w' => e = .returned (.int .i64 (plc a b))∧Below w.heap.size w w' := by
 obtain ⟨t1,k1,s1,w1,e1,n1⟩:=a
 obtain ⟨t2,k2,s2,w2,e2,n2⟩:=b
 unfold fits at ha hb
 simp only at ha hb
 obtain ⟨a1,a2,a3,a4,a5,a6,a7,a8,a9,a10⟩:=ha
 obtain ⟨b1,b2,b3,b4,b5,b6,b7,b8,b9,b10⟩:=hb
 unfold At.val
 simp only
 go_enter Tryz.func122,Tryz.ntmps122
 go_wp2_with (first | (go_at_call 170;refine (zlu _ _).mono ?_;rintro e w' ⟨rfl,rfl⟩) | (go_at_call 171;refine (zhT _ _ _ (by omega) (by omega)).mono ?_;rintro e wz ⟨rfl,qz,rfl⟩))
 all_goals
  go_ret
  refine ⟨zkM ?_,by repeat (first | exact Below.refl _ _ | refine below_drewN ?_ _ | refine Below.alloc ?_ (by simp) _)⟩
 all_goals simp_all [plc]
theorem zef (a b:At)(w:World)(ha:fits a)(hb:fits b) :
  Calls Tryz.prog 169 #[a.val,b.val] w fun e w' => e = .returned (.int .i64 (grd a b))∧Below w.heap.size w w' := by
 obtain ⟨t1,k1,s1,w1,e1,n1⟩:=a
 obtain ⟨t2,k2,s2,w2,e2,n2⟩:=b
 unfold fits at ha hb
 simp only at ha hb
 obtain ⟨a1,a2,a3,a4,a5,a6,a7,a8,a9,a10⟩:=ha
 obtain ⟨b1,b2,b3,b4,b5,b6,b7,b8,b9,b10⟩:=hb
 unfold At.val
 simp only
 go_enter Tryz.func169,Tryz.ntmps169
 go_wp2_with (first | (go_at_call 170;refine (zlu _ _).mono ?_;rintro e w' ⟨rfl,rfl⟩) | (go_at_call 171;refine (zhT _ _ _ (by omega) (by omega)).mono ?_;rintro e wz ⟨rfl,qz,rfl⟩))
 all_goals
  go_ret
  refine ⟨zkM ?_,by repeat (first | exact Below.refl _ _ | refine below_drewN ?_ _ | refine Below.alloc ?_ (by simp) _)⟩
 all_goals simp_all [grd]
end Go.Proofs.YtahdlejgjcjeoabGreatDoor
