/- Walks of the program's greater and unite. -/
import Derived.Test.YtahdlejgjcjeoabGreatDoorA02
import Derived.Test.YtahdlejgjcjeoabGreatDoorA09
import Derived.Deep.RegionLaw
import Derived.Deep.DeepAppendRoom
import Derived.Shelf.SlSortCmp.WholeK
namespace Go.Proofs.YtahdlejgjcjeoabGreatDoor
set_option maxHeartbeats 8000000
open Go.RowKit
theorem zgp (a:At)(w:World)(h:RulesAt w)(ha:short a) :
  Calls Tryz.prog 214 #[a.val] w fun e w' => e = .returned (.bool (mayB a))∧Below w.heap.size w w' := by
 obtain ⟨ty,key,side,who,elem,n⟩:=a
 simp only [short] at ha
 obtain ⟨hk,he⟩:=ha
 obtain ⟨h0,r1,r2,r3,r4,r5⟩:=h
 unfold At.val
 simp only
 by_cases ht:1≤ty∧ty≤5
 ·have hwt:wi ty 1 5=true:=(znv _ _ _).2 ht
  rcases zfC ht.1 ht.2 with rfl | rfl | rfl | rfl | rfl
  ·obtain ⟨c0,c1,c2,c3,c4,c5⟩:=r1
   clear r2 r3 r4 r5
   go_enter Tryz.func214,Tryz.ntmps214
   go_wp2_with (first | (go_at_call 153;refine (zfy _ _).mono ?_;rintro e w' ⟨rfl,rfl⟩) | (go_at_call 191;refine (znw _ _ _ _).mono ?_;rintro e w' ⟨rfl,rfl⟩))
   all_goals go_ret
   all_goals go_light
   all_goals refine ⟨zkL ?_,by repeat (first | exact Below.refl _ _ | refine below_drewN ?_ _ | refine Below.setCell ?_ (by simp) _ | refine Below.alloc ?_ (by simp) _)⟩
   all_goals clear c0 c1 c2 c3 c4 c5
   all_goals rw [Bool.eq_iff_iff]
   all_goals simp only [mayB,decide_eq_true_eq,Bool.false_eq_true,znv,false_iff] at *
   all_goals first | omega | (simp_all;done) | (simp_all;omega) | (simp_all;refine ⟨fun hq=>⟨by omega,by omega,by omega,hq⟩,fun hq=>hq.2.2.2⟩)
  ·obtain ⟨c0,c1,c2,c3,c4,c5⟩:=r2
   clear r1 r3 r4 r5
   go_enter Tryz.func214,Tryz.ntmps214
   go_wp2_with (first | (go_at_call 153;refine (zfy _ _).mono ?_;rintro e w' ⟨rfl,rfl⟩) | (go_at_call 191;refine (znw _ _ _ _).mono ?_;rintro e w' ⟨rfl,rfl⟩))
   all_goals go_ret
   all_goals go_light
   all_goals refine ⟨zkL ?_,by repeat (first | exact Below.refl _ _ | refine below_drewN ?_ _ | refine Below.setCell ?_ (by simp) _ | refine Below.alloc ?_ (by simp) _)⟩
   all_goals clear c0 c1 c2 c3 c4 c5
   all_goals rw [Bool.eq_iff_iff]
   all_goals simp only [mayB,decide_eq_true_eq,Bool.false_eq_true,znv,false_iff] at *
   all_goals first | omega | (simp_all;done) | (simp_all;omega) | (simp_all;refine ⟨fun hq=>⟨by omega,by omega,by omega,hq⟩,fun hq=>hq.2.2.2⟩)
  ·obtain ⟨c0,c1,c2,c3,c4,c5⟩:=r3
   clear r1 r2 r4 r5
   go_enter Tryz.func214,Tryz.ntmps214
   go_wp2_with (first | (go_at_call 153;refine (zfy _ _).mono ?_;rintro e w' ⟨rfl,rfl⟩) | (go_at_call 191;refine (znw _ _ _ _).mono ?_;rintro e w' ⟨rfl,rfl⟩))
   all_goals go_ret
   all_goals go_light
   all_goals refine ⟨zkL ?_,by repeat (first | exact Below.refl _ _ | refine below_drewN ?_ _ | refine Below.setCell ?_ (by simp) _ | refine Below.alloc ?_ (by simp) _)⟩
   all_goals clear c0 c1 c2 c3 c4 c5
   all_goals rw [Bool.eq_iff_iff]
   all_goals simp only [mayB,decide_eq_true_eq,Bool.false_eq_true,znv,false_iff] at *
   all_goals first | omega | (simp_all;done) | (simp_all;omega) | (simp_all;refine ⟨fun hq=>⟨by omega,by omega,by omega,hq⟩,fun hq=>hq.2.2.2⟩)
  ·obtain ⟨c0,c1,c2,c3,c4,c5⟩:=r4
   clear r1 r2 r3 r5
   go_enter Tryz.func214,Tryz.ntmps214
   go_wp2_with (first | (go_at_call 153;refine (zfy _ _).mono ?_;rintro e w' ⟨rfl,rfl⟩) | (go_at_call 191;refine (znw _ _ _ _).mono ?_;rintro e w' ⟨rfl,rfl⟩))
   all_goals go_ret
   all_goals go_light
   all_goals refine ⟨zkL ?_,by repeat (first | exact Below.refl _ _ | refine below_drewN ?_ _ | refine Below.setCell ?_ (by simp) _ | refine Below.alloc ?_ (by simp) _)⟩
   all_goals clear c0 c1 c2 c3 c4 c5
   all_goals rw [Bool.eq_iff_iff]
   all_goals simp only [mayB,decide_eq_true_eq,Bool.false_eq_true,znv,false_iff] at *
   all_goals first | omega | (simp_all;done) | (simp_all;omega) | (simp_all;refine ⟨fun hq=>⟨by omega,by omega,by omega,hq⟩,fun hq=>hq.2.2.2⟩)
  ·obtain ⟨c0,c1,c2,c3,c4,c5⟩:=r5
   clear r1 r2 r3 r4
   go_enter Tryz.func214,Tryz.ntmps214
   go_wp2_with (first | (go_at_call 153;refine (zfy _ _).mono ?_;rintro e w' ⟨rfl,rfl⟩) | (go_at_call 191;refine (znw _ _ _ _).mono ?_;rintro e w' ⟨rfl,rfl⟩))
   all_goals go_ret
   all_goals go_light
   all_goals refine ⟨zkL ?_,by repeat (first | exact Below.refl _ _ | refine below_drewN ?_ _ | refine Below.setCell ?_ (by simp) _ | refine Below.alloc ?_ (by simp) _)⟩
   all_goals clear c0 c1 c2 c3 c4 c5
   all_goals rw [Bool.eq_iff_iff]
   all_goals simp only [mayB,decide_eq_true_eq,Bool.false_eq_true,znv,false_iff] at *
   all_goals first | omega | (simp_all;done) | (simp_all;omega) | (simp_all;refine ⟨fun hq=>⟨by omega,by omega,by omega,hq⟩,fun hq=>hq.2.2.2⟩)
 ·have hwt:wi ty 1 5=false:=(znu _ _ _).2 ht
  clear r1 r2 r3 r4 r5
  go_enter Tryz.func214,Tryz.ntmps214
  go_wp2_with (first | (go_at_call 153;refine (zfy _ _).mono ?_;rintro e w' ⟨rfl,rfl⟩) | (go_at_call 191;refine (znw _ _ _ _).mono ?_;rintro e w' ⟨rfl,rfl⟩))
  go_ret
  go_light
  refine ⟨zkL ?_,by repeat (first | exact Below.refl _ _ | refine below_drewN ?_ _ | refine Below.setCell ?_ (by simp) _ | refine Below.alloc ?_ (by simp) _)⟩
  rw [Bool.eq_iff_iff]
  simp only [mayB,decide_eq_true_eq,Bool.false_eq_true,false_iff] at *
  omega
theorem zap (v:Value)(l:List At)(w:World)(hr:RulesAt w)(hv:SliceOf w v l)(hs:∀ a∈l,short a)(hlen:l.length≤281474976710656) :
  Calls Tryz.prog 190 #[v] w fun e w' => e = .returned (.bool (l.all mayB))∧Below w.heap.size w w' := by
 obtain ⟨ad,cap,rfl,hcap,H⟩:=hv
 have HR:Hid (0<l.length→∃ b off,ad=some ⟨b,off,none⟩∧b<w.heap.size∧RowAt w b off l):=H
 clear H
 have HS:Hid (∀ a∈l,short a):=hs
 clear hs
 have HT:Hid (RulesAt w):=hr
 clear hr
 go_enter Tryz.func190,Tryz.ntmps190
 go_wp2
 go_loopw [7] (fun i wr=>∃ k:Nat,k≤l.length∧i = .int .i64 k∧Hid ((l.take k).all mayB=true)∧Below w.heap.size w wr) (fun i _=>l.length - (intOf i).toNat)
 case atStart=>exact ⟨0,Nat.zero_le _,rfl,by simp [Hid],Below.refl _ _⟩
 case round =>
  obtain ⟨k,hk,rfl,ht,hbw⟩:=hrel
  by_cases hl:k<l.length
  ·obtain ⟨b,off,rfl,hb,hrow⟩:=HR.out (by omega)
   obtain ⟨c0,c1,c2,c3,c4,c5⟩:=(hrow.below hbw hb) k hl
   clear hrow HR
   have hsk:=HS.out (l[k]) (List.getElem_mem hl)
   have hsz:=hbw.size
   have HTr:Hid (RulesAt wr):=HT.out.below hbw HT.out.1
   generalize hak:l[k]=a at *
   have HA:Hid (l[k]=a):=hak
   clear hak
   go_wp2_with fail
   refine (zgp a _ ?hrl hsk).mono ?_
   case hrl=>exact HTr.out.below ((Below.refl _ wr).alloc (Nat.le_refl _) _) HTr.out.1
   rintro e w1 ⟨rfl,hb1⟩
   have hbw1:Below w.heap.size w w1:=(hbw.alloc hsz _).trans (hb1.mono (by simp;omega))
   clear hb1
   cases hm:mayB a
   ·go_wp2
    go_ret
    refine ⟨zkL ?_,hbw1⟩
    symm
    rw [List.all_eq_false]
    exact ⟨a,HA.out ▸ List.getElem_mem hl,by simp [hm]⟩
   ·go_wp2
    go_roundw
    case rel=>exact ⟨k+1,by omega,by go_num,(by rw [Hid,zas _ _ _ hl,HA.out,hm,ht.out];rfl),hbw1⟩
    case measure=>simp [intOf];omega
  ·go_wp2
   go_ret
   refine ⟨zkL ?_,hbw⟩
   rw [← ht.out,List.take_of_length_le (by omega)]
def stepAt (w:World)(o:Nat)(ms n0 n1 me:Int)(mv:Bool):Prop :=
 w.cell? ⟨0,o,none⟩=some (.int .i64 ms)∧w.cell? ⟨0,o+1,none⟩=some (.int .i64 n0)∧w.cell? ⟨0,o+2,none⟩=some (.int .i64 n1)∧w.cell? ⟨0,o+3,none⟩=some (.int .i64 me)∧w.cell? ⟨0,o+4,none⟩=some (.bool mv)
def StepsAt (w:World):Prop:=0<w.heap.size∧stepAt w 0 0 1 1000 0 false∧stepAt w 5 0 (-1000) 1000 0 true∧stepAt w 10 0 0 0 8 false∧stepAt w 15 1 0 0 8 false∧stepAt w 20 0 0 0 8 false
theorem stepAt.block {w w' : World}(hb:w'.heap[0]? = w.heap[0]?){o:Nat}{a b c d:Int}{r:Bool}(h:stepAt w o a b c d r):stepAt w' o a b c d r:=by
 obtain ⟨c0,c1,c2,c3,c4⟩:=h
 refine ⟨?_,?_,?_,?_,?_⟩ <;> (rw [World.cell?_of_block (w:=w) hb];assumption)
theorem StepsAt.block {w w' : World}(h:StepsAt w)(hb:w'.heap[0]? = w.heap[0]?)(hs:w.heap.size≤w'.heap.size):StepsAt w' := by
 obtain ⟨h1,r1,r2,r3,r4,r5⟩:=h
 exact ⟨Nat.lt_of_lt_of_le h1 hs,r1.block hb,r2.block hb,r3.block hb,r4.block hb,r5.block hb⟩
theorem StepsAt.below {w w' : World}(h:StepsAt w){B:Nat}(hb:Below B w w')(h1:0<B):StepsAt w' := h.block (hb.block 0 h1) hb.size
theorem zfv (o:OpV)(w:World)(h:StepsAt w)(ho:o.short) :
  Calls Tryz.prog 158 #[o.val] w fun e w' => e = .returned (.bool (fineOp o))∧Below w.heap.size w w' := by
 obtain ⟨ty,key,side,elem,n⟩:=o
 simp only [OpV.short] at ho
 obtain ⟨hk,he⟩:=ho
 obtain ⟨h0,r1,r2,r3,r4,r5⟩:=h
 unfold OpV.val
 simp only
 by_cases ht:1≤ty∧ty≤5
 ·have hwt:wi ty 1 5=true:=(znv _ _ _).2 ht
  rcases zfC ht.1 ht.2 with rfl | rfl | rfl | rfl | rfl
  ·obtain ⟨c0,c1,c2,c3,c4⟩:=r1
   clear r2 r3 r4 r5
   go_enter Tryz.func158,Tryz.ntmps158
   go_wp2_with (first | (go_at_call 153;refine (zfy _ _).mono ?_;rintro e w' ⟨rfl,rfl⟩) | (go_at_call 191;refine (znw _ _ _ _).mono ?_;rintro e w' ⟨rfl,rfl⟩))
   all_goals go_ret
   all_goals go_light
   all_goals refine ⟨zkL ?_,by repeat (first | exact Below.refl _ _ | refine below_drewN ?_ _ | refine Below.setCell ?_ (by simp) _ | refine Below.alloc ?_ (by simp) _)⟩
   all_goals clear c0 c1 c2 c3 c4
   all_goals rw [Bool.eq_iff_iff]
   all_goals unfold fineOp
   all_goals dsimp only
   all_goals generalize key.size=ks at *
   all_goals generalize elem.size=es at *
   all_goals simp only [decide_eq_true_eq,Bool.false_eq_true,znv,false_iff] at *
   all_goals first | omega | (simp_all;done) | (simp_all;omega) | (simp_all [znv];omega)
  ·obtain ⟨c0,c1,c2,c3,c4⟩:=r2
   clear r1 r3 r4 r5
   go_enter Tryz.func158,Tryz.ntmps158
   go_wp2_with (first | (go_at_call 153;refine (zfy _ _).mono ?_;rintro e w' ⟨rfl,rfl⟩) | (go_at_call 191;refine (znw _ _ _ _).mono ?_;rintro e w' ⟨rfl,rfl⟩))
   all_goals go_ret
   all_goals go_light
   all_goals refine ⟨zkL ?_,by repeat (first | exact Below.refl _ _ | refine below_drewN ?_ _ | refine Below.setCell ?_ (by simp) _ | refine Below.alloc ?_ (by simp) _)⟩
   all_goals clear c0 c1 c2 c3 c4
   all_goals rw [Bool.eq_iff_iff]
   all_goals unfold fineOp
   all_goals dsimp only
   all_goals generalize key.size=ks at *
   all_goals generalize elem.size=es at *
   all_goals simp only [decide_eq_true_eq,Bool.false_eq_true,znv,false_iff] at *
   all_goals first | omega | (simp_all;done) | (simp_all;omega) | (simp_all [znv];omega)
  ·obtain ⟨c0,c1,c2,c3,c4⟩:=r3
   clear r1 r2 r4 r5
   go_enter Tryz.func158,Tryz.ntmps158
   go_wp2_with (first | (go_at_call 153;refine (zfy _ _).mono ?_;rintro e w' ⟨rfl,rfl⟩) | (go_at_call 191;refine (znw _ _ _ _).mono ?_;rintro e w' ⟨rfl,rfl⟩))
   all_goals go_ret
   all_goals go_light
   all_goals refine ⟨zkL ?_,by repeat (first | exact Below.refl _ _ | refine below_drewN ?_ _ | refine Below.setCell ?_ (by simp) _ | refine Below.alloc ?_ (by simp) _)⟩
   all_goals clear c0 c1 c2 c3 c4
   all_goals rw [Bool.eq_iff_iff]
   all_goals unfold fineOp
   all_goals dsimp only
   all_goals generalize key.size=ks at *
   all_goals generalize elem.size=es at *
   all_goals simp only [decide_eq_true_eq,Bool.false_eq_true,znv,false_iff] at *
   all_goals first | omega | (simp_all;done) | (simp_all;omega) | (simp_all [znv];omega)
  ·obtain ⟨c0,c1,c2,c3,c4⟩:=r4
   clear r1 r2 r3 r5
   go_enter Tryz.func158,Tryz.ntmps158
   go_wp2_with (first | (go_at_call 153;refine (zfy _ _).mono ?_;rintro e w' ⟨rfl,rfl⟩) | (go_at_call 191;refine (znw _ _ _ _).mono ?_;rintro e w' ⟨rfl,rfl⟩))
   all_goals go_ret
   all_goals go_light
   all_goals refine ⟨zkL ?_,by repeat (first | exact Below.refl _ _ | refine below_drewN ?_ _ | refine Below.setCell ?_ (by simp) _ | refine Below.alloc ?_ (by simp) _)⟩
   all_goals clear c0 c1 c2 c3 c4
   all_goals rw [Bool.eq_iff_iff]
   all_goals unfold fineOp
   all_goals dsimp only
   all_goals generalize key.size=ks at *
   all_goals generalize elem.size=es at *
   all_goals simp only [decide_eq_true_eq,Bool.false_eq_true,znv,false_iff] at *
   all_goals first | omega | (simp_all;done) | (simp_all;omega) | (simp_all [znv];omega)
  ·obtain ⟨c0,c1,c2,c3,c4⟩:=r5
   clear r1 r2 r3 r4
   go_enter Tryz.func158,Tryz.ntmps158
   go_wp2_with (first | (go_at_call 153;refine (zfy _ _).mono ?_;rintro e w' ⟨rfl,rfl⟩) | (go_at_call 191;refine (znw _ _ _ _).mono ?_;rintro e w' ⟨rfl,rfl⟩))
   all_goals go_ret
   all_goals go_light
   all_goals refine ⟨zkL ?_,by repeat (first | exact Below.refl _ _ | refine below_drewN ?_ _ | refine Below.setCell ?_ (by simp) _ | refine Below.alloc ?_ (by simp) _)⟩
   all_goals clear c0 c1 c2 c3 c4
   all_goals rw [Bool.eq_iff_iff]
   all_goals unfold fineOp
   all_goals dsimp only
   all_goals generalize key.size=ks at *
   all_goals generalize elem.size=es at *
   all_goals simp only [decide_eq_true_eq,Bool.false_eq_true,znv,false_iff] at *
   all_goals first | omega | (simp_all;done) | (simp_all;omega) | (simp_all [znv];omega)
 ·have hwt:wi ty 1 5=false:=(znu _ _ _).2 ht
  clear r1 r2 r3 r4 r5
  go_enter Tryz.func158,Tryz.ntmps158
  go_wp2_with (first | (go_at_call 153;refine (zfy _ _).mono ?_;rintro e w' ⟨rfl,rfl⟩) | (go_at_call 191;refine (znw _ _ _ _).mono ?_;rintro e w' ⟨rfl,rfl⟩))
  go_ret
  go_light
  refine ⟨zkL ?_,by repeat (first | exact Below.refl _ _ | refine below_drewN ?_ _ | refine Below.setCell ?_ (by simp) _ | refine Below.alloc ?_ (by simp) _)⟩
  rw [Bool.eq_iff_iff]
  simp only [fineOp,decide_eq_true_eq,Bool.false_eq_true,false_iff] at *
  omega
def zeroE:List Value := [.int .i64 0,.int .i64 0,.slice none 0 0]
def zeroF:List Value := [.int .i64 0,.int .i64 0,.int .i64 0,.int .i64 0,.slice none 0 0]
theorem ze4:(Tryz.prog.info? 85).map (fun i=>(i.zero,i.size,i.bytes))=some (some (.agg zeroE.toArray),3,40):=by kernel_rfl
theorem ze7:(Tryz.prog.info? 110).map (fun i=>(i.zero,i.size,i.bytes))=some (some (.agg zeroF.toArray),5,56):=by kernel_rfl
theorem znU (w:World):(zeroValue 85).run Tryz.prog w = .ok (.agg zeroE.toArray) w:=by kernel_rfl
theorem znV (w:World):(zeroValue 110).run Tryz.prog w = .ok (.agg zeroF.toArray) w:=by kernel_rfl
theorem zmH {a b:Int}{ad:Option Addr}{n c:Nat}:∀ u ∈ [Value.int .i64 a,.int .i64 b,.slice ad n c],u.oneCell' = true:=by
 intro u hu
 simp at hu
 rcases hu with rfl | rfl | rfl <;> rfl
theorem zbV (w:World)(t e ty:TypeId)(z:List Value)(ht:Tryz.prog.underlying t=some (.slice e))(hv:∀ w,(zeroValue e).run Tryz.prog w = .ok (.agg z.toArray) w)(h1:∀ u∈z,u.oneCell' = true)(b o c:Nat)
  (hc:∀ j,j<z.length→(w.cell? ⟨b,o+j,none⟩).isSome=true) (hf:∀ j,j<z.length→w.frozen? ⟨b,o+j,none⟩=false) :
  (Builtin.clear_ #[t] ty #[.slice (some ⟨b,o,none⟩) 1 c]).run Tryz.prog w = .ok (.tuple #[]) (w.setCells b o z):=by
 have hz:(Builtin.zeroCells (Value.agg z.toArray).cells 1).toList=z:=by
  simp [Builtin.zeroCells,Value.cells]
  apply List.ext_getElem
  ·simp
  ·intro n h1 h2
   have:n<z.length:=h2
   simp [Nat.mod_eq_of_lt this,this]
 have hst:=run_storeCells_cells (P:=Tryz.prog) b o z 0 w (by simpa using hc) (by simpa using hf) h1
 simp only [Nat.add_zero] at hst
 simp [Builtin.clear_,run_underlying ht,hv,hz,hst]
theorem zh0 {w:World}{base g cap n s:Nat}{e:TypeId}{xs:List Value}(h:w.ownsRow base e s (.slice (some ⟨g,0,none⟩) n cap) n xs):(∀ k u,xs[k]? = some u→w.cell? ⟨g,k,none⟩=some u)∧n≤cap∧cap≤maxLen∧xs.length=n*s∧∀ k,w.frozen? ⟨g,k,none⟩=false:=by
 rcases h.2 with ⟨h0,_⟩ | ⟨g',cap',cur,hv,hg,hb,h1,h2,h3,h4⟩
 ·cases h0
 ·cases hv
  refine ⟨fun k u hu => ?_,h1,h2,h.1,fun k=>by simp [World.frozen?,hb]⟩
  have:=h.cells (g:=g) rfl k u hu
  rwa [Addr.add_lit,Nat.zero_add] at this
theorem zbJ (vs:List Value){b o:Nat}(k:Nat){w:World}(h:(w.cell? ⟨b,k,none⟩).isSome=true):((w.setCells b o vs).cell? ⟨b,k,none⟩).isSome=true:=by
 induction vs generalizing o w with
 | nil=>exact h
 | cons v r ih =>
  refine ih ?_
  by_cases e:o=k
  ·subst e
   obtain ⟨u,hu⟩:=Option.isSome_iff_exists.1 h
   rw [World.cell?_setCell_same _ _ _ hu]
   rfl
  ·rw [World.cell?_setCell_other _ _ _ _ (by simp only [ne_eq,Addr.mk.injEq,true_and,and_true];omega)]
   exact h
theorem zdX (vs:List Value){b o:Nat}(a:Addr){w:World}:(w.setCells b o vs).frozen? a=w.frozen? a:=by
 induction vs generalizing o w with
 | nil=>rfl
 | cons v r ih=>exact (ih (o:=o+1) (w:=w.setCell ⟨b,o,none⟩ v)).trans (World.frozen?_setCell ..)
set_option maxRecDepth 100000 in
theorem delEnt (g cap n i j:Nat)(xs:List Value)(w:World)(own:w.ownsRow 0 85 3 (.slice (some ⟨g,0,none⟩) n cap) n xs)(h1:∀ u∈xs,u.oneCell' = true)(hj:j=i+1)(hi:i<n) :
  Calls Tryz.prog 111 #[.slice (some ⟨g,0,none⟩) n cap,.int .i64 i,.int .i64 j] w fun e w' => e = .returned (.slice (some ⟨g,0,none⟩) (n - 1) cap)∧w' = (w.drew.setCells g (i*3) (xs.drop (j*3))).setCells g ((n - 1)*3) zeroE:=by
 obtain ⟨i0,hi0,hz0,hz1,hz2⟩:=info_parts ze4
 obtain ⟨hc,hlc,hm,hxl,hfz⟩:=zh0 own
 have hnc:n≤cap:=hlc
 have hcm:cap≤9223372036854775807:=by unfold maxLen at hm;omega
 generalize hnews:xs.drop (j*3)=news
 have hlen:news.length=(n - j)*3:=by rw [← hnews,List.length_drop,hxl,← Nat.sub_mul]
 obtain ⟨A,hA,hsrc⟩:∃ A:Addr,(if cap=j then some (⟨g,0,none⟩:Addr) else some ⟨g,j*3,none⟩)=some A∧Hid (∀ t u,news[t]? = some u→w.drew.cell? (A.add t)=some u):=by
  by_cases h:cap=j
  ·refine ⟨⟨g,0,none⟩,by simp [h],fun t u hu => ?_⟩
   have h0:news.length=0:=by rw [hlen];omega
   rw [List.length_eq_zero_iff.1 h0] at hu
   simp at hu
  ·refine ⟨⟨g,j*3,none⟩,by simp [h],fun t u hu => ?_⟩
   rw [← hnews,List.getElem?_drop] at hu
   rw [Addr.add_lit]
   exact hc _ u hu
 have s1:Hid (news.length=(n - j)*3):=hlen
 have s2:Hid (∀ u∈news,u.oneCell' = true):=fun u hu=>h1 u (by rw [← hnews] at hu;exact List.mem_of_mem_drop hu)
 have s3:Hid (∀ t,t<news.length→(w.drew.cell? ⟨g,0+i*3+t,none⟩).isSome=true∧w.drew.frozen? ⟨g,0+i*3+t,none⟩=false):=by
  intro t ht
  rw [hlen] at ht
  have hlt:0+i*3+t<xs.length:=by rw [hxl];omega
  refine ⟨?_,hfz _⟩
  show (w.cell? _).isSome=true
  rw [hc _ _ (List.getElem?_eq_getElem hlt)]
  rfl
 obtain ⟨W1,hW1⟩:∃ W1,W1=w.drew.setCells g (0+i*3) news:=⟨_,rfl⟩
 have hsome:∀ t,t<xs.length→(W1.cell? ⟨g,t,none⟩).isSome=true:=fun t ht=>by
  rw [hW1]
  exact zbJ news _ (by show (w.cell? _).isSome=true;rw [hc _ _ (List.getElem?_eq_getElem ht)];rfl)
 have hnj:i+(n - j)=n - 1:=by omega
 have hcl:∀ ty,(Builtin.clear_ #[81] ty #[.slice (some ⟨g,(i+(n - j))*3,none⟩) (n - (i+(n - j))) (cap - (i+(n - j)))]).run Tryz.prog W1 = .ok (.tuple #[]) (W1.setCells g ((n - 1)*3) zeroE):=by
  intro ty
  rw [hnj,show n - (n - 1)=1 by omega]
  exact zbV W1 81 85 ty zeroE Tryz.underlying81 znU (by decide) g _ _ (fun t ht=>hsome _ (by rw [hxl];have:t<3:=ht;omega)) (fun t _=>by rw [hW1,zdX];exact hfz _)
 have hW:Hid (W1=w.drew.setCells g (0+i*3) news):=hW1
 have hic:i≤cap:=by omega
 have hjc:j≤cap:=by omega
 have hlt:i<j:=by omega
 have hjn:j≤n:=by omega
 have HN:Hid (i+(n - j)=n - 1):=hnj
 clear hnj hsome hlen hnews hW1 hc own hfz hj hi hxl hm hlc
 go_enter Tryz.func111,Tryz.ntmps111
 go_wp2_with fail
 go_region_law (refine step_append_room rfl (.tmp 22) (.tmp 25) 81 rfl 85 i0 3 Tryz.underlying81 hi0 hz1 g 0 i cap (by simp [Act.eval,Act.put]) A (n - j) (cap - j) news (by simp [Act.eval,Act.put]) s1.out hsrc.out s2.out (by omega) s3.out ?_;rw [← hW.out])
 go_wp2
 go_ret
 refine ⟨by rw [HN.out];rfl,?_⟩
 rw [hW.out,Nat.zero_add]
set_option maxRecDepth 100000 in
theorem delFrm (g cap n i j:Nat)(xs:List Value)(w:World)(own:w.ownsRow 0 110 5 (.slice (some ⟨g,0,none⟩) n cap) n xs)(h1:∀ u∈xs,u.oneCell' = true)(hj:j=i+1)(hi:i<n) :
  Calls Tryz.prog 100 #[.slice (some ⟨g,0,none⟩) n cap,.int .i64 i,.int .i64 j] w fun e w' => e = .returned (.slice (some ⟨g,0,none⟩) (n - 1) cap)∧w' = (w.drew.setCells g (i*5) (xs.drop (j*5))).setCells g ((n - 1)*5) zeroF:=by
 obtain ⟨i0,hi0,hz0,hz1,hz2⟩:=info_parts ze7
 obtain ⟨hc,hlc,hm,hxl,hfz⟩:=zh0 own
 have hnc:n≤cap:=hlc
 have hcm:cap≤9223372036854775807:=by unfold maxLen at hm;omega
 generalize hnews:xs.drop (j*5)=news
 have hlen:news.length=(n - j)*5:=by rw [← hnews,List.length_drop,hxl,← Nat.sub_mul]
 obtain ⟨A,hA,hsrc⟩:∃ A:Addr,(if cap=j then some (⟨g,0,none⟩:Addr) else some ⟨g,j*5,none⟩)=some A∧Hid (∀ t u,news[t]? = some u→w.drew.cell? (A.add t)=some u):=by
  by_cases h:cap=j
  ·refine ⟨⟨g,0,none⟩,by simp [h],fun t u hu => ?_⟩
   have h0:news.length=0:=by rw [hlen];omega
   rw [List.length_eq_zero_iff.1 h0] at hu
   simp at hu
  ·refine ⟨⟨g,j*5,none⟩,by simp [h],fun t u hu => ?_⟩
   rw [← hnews,List.getElem?_drop] at hu
   rw [Addr.add_lit]
   exact hc _ u hu
 have s1:Hid (news.length=(n - j)*5):=hlen
 have s2:Hid (∀ u∈news,u.oneCell' = true):=fun u hu=>h1 u (by rw [← hnews] at hu;exact List.mem_of_mem_drop hu)
 have s3:Hid (∀ t,t<news.length→(w.drew.cell? ⟨g,0+i*5+t,none⟩).isSome=true∧w.drew.frozen? ⟨g,0+i*5+t,none⟩=false):=by
  intro t ht
  rw [hlen] at ht
  have hlt:0+i*5+t<xs.length:=by rw [hxl];omega
  refine ⟨?_,hfz _⟩
  show (w.cell? _).isSome=true
  rw [hc _ _ (List.getElem?_eq_getElem hlt)]
  rfl
 obtain ⟨W1,hW1⟩:∃ W1,W1=w.drew.setCells g (0+i*5) news:=⟨_,rfl⟩
 have hsome:∀ t,t<xs.length→(W1.cell? ⟨g,t,none⟩).isSome=true:=fun t ht=>by
  rw [hW1]
  exact zbJ news _ (by show (w.cell? _).isSome=true;rw [hc _ _ (List.getElem?_eq_getElem ht)];rfl)
 have hnj:i+(n - j)=n - 1:=by omega
 have hcl:∀ ty,(Builtin.clear_ #[106] ty #[.slice (some ⟨g,(i+(n - j))*5,none⟩) (n - (i+(n - j))) (cap - (i+(n - j)))]).run Tryz.prog W1 = .ok (.tuple #[]) (W1.setCells g ((n - 1)*5) zeroF):=by
  intro ty
  rw [hnj,show n - (n - 1)=1 by omega]
  exact zbV W1 106 110 ty zeroF Tryz.underlying106 znV (by decide) g _ _ (fun t ht=>hsome _ (by rw [hxl];have:t<5:=ht;omega)) (fun t _=>by rw [hW1,zdX];exact hfz _)
 have hW:Hid (W1=w.drew.setCells g (0+i*5) news):=hW1
 have hic:i≤cap:=by omega
 have hjc:j≤cap:=by omega
 have hlt:i<j:=by omega
 have hjn:j≤n:=by omega
 have HN:Hid (i+(n - j)=n - 1):=hnj
 clear hnj hsome hlen hnews hW1 hc own hfz hj hi hxl hm hlc
 go_enter Tryz.func100,Tryz.ntmps100
 go_wp2_with fail
 go_region_law (refine step_append_room rfl (.tmp 22) (.tmp 25) 106 rfl 110 i0 5 Tryz.underlying106 hi0 hz1 g 0 i cap (by simp [Act.eval,Act.put]) A (n - j) (cap - j) news (by simp [Act.eval,Act.put]) s1.out hsrc.out s2.out (by omega) s3.out ?_;rw [← hW.out])
 go_wp2
 go_ret
 refine ⟨by rw [HN.out];rfl,?_⟩
 rw [hW.out,Nat.zero_add]
def putA (cur:Array Value)(o:Nat):List Value→Array Value
 | []=>cur
 | v :: r=>putA (cur.setIfInBounds o v) (o+1) r
theorem zeI {g:Nat}{e:TypeId}{fz:Nat × Nat}(vs:List Value):∀ {w:World} {cur:Array Value} (o:Nat),w.heap[g]? = some (.cells cur e fz)→(w.setCells g o vs).heap[g]? = some (.cells (putA cur o vs) e fz):=by
 induction vs with
 | nil=>intro w cur o h;exact h
 | cons v r ih=>intro w cur o h;exact ih (o+1) (zeK h v)
theorem zjy (vs:List Value):∀ (cur:Array Value) (o:Nat),(putA cur o vs).size=cur.size:=by
 induction vs with
 | nil=>intro cur o;rfl
 | cons v r ih=>intro cur o;rw [putA,ih];simp
theorem zjx (vs:List Value):∀ (cur:Array Value) (o k:Nat),o+vs.length≤cur.size→(putA cur o vs)[k]? = if o≤k∧k<o+vs.length then vs[k - o]? else cur[k]? := by
 induction vs with
 | nil=>intro cur o k h;simp [putA];omega
 | cons v r ih =>
  intro cur o k h
  rw [List.length_cons] at h
  rw [putA,ih _ _ _ (by simp;omega),List.length_cons]
  by_cases h1:k=o
  ·subst h1
   have:k<cur.size:=by omega
   rw [if_neg (by omega),if_pos (by omega)]
   simp [this]
  ·by_cases h2:o+1≤k∧k<o+1+r.length
   ·rw [if_pos h2,if_pos (by omega),show k - o=(k - (o+1))+1 by omega,List.getElem?_cons_succ]
   ·rw [if_neg h2,if_neg (by omega)]
    simp [Ne.symm h1]
theorem RowC.del {w:World}{col:Col}{κ:Nat × Nat}{e:TypeId}{s n g cap i:Nat}{xs zl:List Value}(h:RowC w col κ e s (.slice (some ⟨g,0,none⟩) n cap) n xs)(hi:i<n)(hz:zl.length=s) :
  RowC ((w.drew.setCells g (i*s) (xs.drop ((i+1)*s))).setCells g ((n - 1)*s) zl) col κ e s (.slice (some ⟨g,0,none⟩) (n - 1) cap) (n - 1) (xs.take (i*s) ++ xs.drop ((i+1)*s))∧FrC (fun x=>x=κ) col col w ((w.drew.setCells g (i*s) (xs.drop ((i+1)*s))).setCells g ((n - 1)*s) zl):=by
 have hcg:col g=κ:=h.col g rfl
 have hgr:w.grownBy ((w.drew.setCells g (i*s) (xs.drop ((i+1)*s))).setCells g ((n - 1)*s) zl) (some g) :=
  zev (zeq (zeu _ _ _)) (zeu _ _ _)
 refine ⟨⟨?_,fun q hq=>by cases hq;exact hcg⟩,⟨(Fr.refl _ w).step hgr (fun q hq=>by cases hq;exact .inr hcg),fun _ _=>rfl⟩⟩
 rcases h.own.2 with ⟨h0,_⟩ | ⟨g',cap',cur,hv,hg,hh,h1,h2,h3,h4⟩
 ·cases h0
 cases hv
 have hxl:=h.own.1
 have e1:n*s=(n - 1)*s+s:=by rw [← Nat.succ_mul];congr 1;omega
 have e2:(i+1)*s=i*s+s:=Nat.succ_mul i s
 have e3:i*s≤(n - 1)*s:=Nat.mul_le_mul_right s (by omega)
 have e4:n*s≤cap*s:=Nat.mul_le_mul_right s h1
 refine ⟨by rw [List.length_append,List.length_take,List.length_drop,hxl];omega,.inr ⟨g,cap,_,rfl,hg,zeI zl _ (zeI (xs.drop ((i+1)*s)) _ (show w.drew.heap[g]? = _ from hh)),by omega,h2,by rw [zjy,zjy];exact h3,?_⟩⟩
 apply List.ext_getElem?
 intro k
 by_cases hk:k<(n - 1)*s
 ·rw [List.getElem?_take_of_lt hk,Array.getElem?_toList,zjx _ _ _ _ (by rw [zjy,hz];omega),if_neg (by omega),zjx _ _ _ _ (by rw [List.length_drop,hxl];omega),List.length_drop,hxl]
  by_cases h5:k<i*s
  ·rw [if_neg (by omega),List.getElem?_append_left (by rw [List.length_take,hxl];omega),List.getElem?_take_of_lt h5,← h4,List.getElem?_take_of_lt (by omega),Array.getElem?_toList]
  ·rw [if_pos (by omega),List.getElem?_append_right (by rw [List.length_take,hxl];omega),List.length_take,hxl,Nat.min_eq_left (by omega)]
 ·rw [List.getElem?_eq_none (by rw [List.length_take];omega),List.getElem?_eq_none (by rw [List.length_append,List.length_take,List.length_drop,hxl];omega)]
theorem zbm:∀ l r,Lib.compareBytes l r = -1∨Lib.compareBytes l r=0∨Lib.compareBytes l r=1
 | [],[]=>by simp [Lib.compareBytes]
 | [],_ :: _=>by simp [Lib.compareBytes]
 | _ :: _,[]=>by simp [Lib.compareBytes]
 | a :: l,b :: r=>by
  have:=zbm l r
  simp only [Lib.compareBytes]
  split
  ·simp
  ·split
   ·simp
   ·exact this
theorem zbh:∀ l r,Op.bytesLess l r=decide (Lib.compareBytes l r<0)
 | [],[]=>by simp [Op.bytesLess,Lib.compareBytes]
 | [],_ :: _=>by simp [Op.bytesLess,Lib.compareBytes]
 | _ :: _,[]=>by simp [Op.bytesLess,Lib.compareBytes]
 | a :: l,b :: r=>by
  have ih:=zbh l r
  simp only [Op.bytesLess,Lib.compareBytes,ih]
  by_cases h:a<b
  ·simp [h]
  ·by_cases h2:b<a
   ·have:¬ a=b:=fun e=>h (e ▸ h2)
    simp [h,h2,this]
   ·have:a=b:=UInt8.toNat_inj.1 (by rw [UInt8.lt_iff_toNat_lt] at h h2;omega)
    simp [this]
theorem lessS (x y:ByteArray):Op.bytesLess x.toList y.toList=decide (ordS x y<0):=by
 rw [ByteArray.toList_eq,ByteArray.toList_eq,zbh];rfl
theorem sameS (x y:ByteArray):(x.toList == y.toList)=decide (ordS x y=0):=by
 rw [ByteArray.toList_eq,ByteArray.toList_eq,Bool.eq_iff_iff,beq_iff_eq,decide_eq_true_eq]
 exact (zbo _ _).symm
theorem zhQ (x y:ByteArray):ordS x y = -1∨ordS x y=0∨ordS x y=1:=zbm _ _
theorem zft (x:Int)(w:World) :
  Calls Tryz.prog 212 #[.int .i64 x] w fun e w' => e = .returned (.bool false)∧w' = w:=by
 go_enter Tryz.func212,Tryz.ntmps212
 go_wp2
 go_ret
 exact ⟨zkL (by simp),rfl⟩
theorem zfu (x:ByteArray)(w:World) :
  Calls Tryz.prog 213 #[.string x] w fun e w' => e = .returned (.bool false)∧w' = w:=by
 go_enter Tryz.func213,Tryz.ntmps213
 go_wp2
 go_ret
 exact ⟨zkL (by simp),rfl⟩
theorem zcc (x y:Int)(w:World) :
  Calls Tryz.prog 188 #[.int .i64 x,.int .i64 y] w fun e w' => e = .returned (.int .i64 (ci x y))∧w' = w:=by
 go_enter Tryz.func188,Tryz.ntmps188
 go_wp2_with (go_at_call 212;refine (zft _ _).mono ?_;rintro e w' ⟨rfl,rfl⟩)
 all_goals go_ret
 all_goals exact ⟨zkM (by simp only [ci,sgn];split <;> (try split) <;> omega),rfl⟩
theorem zcd (x y:ByteArray)(w:World) :
  Calls Tryz.prog 189 #[.string x,.string y] w fun e w' => e = .returned (.int .i64 (ordS x y))∧w' = w:=by
 go_enter Tryz.func189,Tryz.ntmps189
 go_wp2_with (go_at_call 213;refine (zfu _ _).mono ?_;rintro e w' ⟨rfl,rfl⟩)
 all_goals go_ret
 all_goals go_light
 all_goals refine ⟨zkM ?_,rfl⟩
 all_goals have hr:=zhQ x y
 all_goals simp only [lessS,sameS,decide_eq_true_eq,decide_eq_false_iff_not,Bool.not_eq_true',Bool.not_eq_false'] at *
 all_goals omega
def orI:List Int→Int
 | []=>0
 | x :: r=>if x ≠ 0 then x else orI r
theorem zhK (l:List Int):∀ k,k≤l.length→(∀ j,(h:j<l.length)→j<k→l[j]=0)→orI l=orI (l.drop k):=by
 intro k
 induction k generalizing l with
 | zero=>intros;simp
 | succ k ih =>
  intro hk h
  cases l with
  | nil=>simp at hk
  | cons x l =>
   have h0:x=0:=h 0 (by simp) (by omega)
   simp only [orI,h0,List.drop_succ_cons]
   simp
   exact ih l (by simpa using hk) (fun j hj hjk=>by have:=h (j+1) (by simpa using hj) (by omega);simpa using this)
theorem zhJ (l:List Int)(k:Nat)(hk:k<l.length)(h:∀ j,(h:j<l.length)→j<k→l[j]=0)(hn:l[k] ≠ 0):orI l=l[k]:=by
 rw [zhK l k (by omega) h,List.drop_eq_getElem_cons hk]
 simp [orI,hn]
theorem zhL (b cap:Nat)(l:List Int)(w:World)(hrow:∀ k,(h:k<l.length)→w.cell? ⟨b,k,none⟩=some (.int .i64 l[k]))(_hcap:l.length≤cap)(hlen:l.length≤1000) :
  Calls Tryz.prog 187 #[.slice (some ⟨b,0,none⟩) l.length cap] w fun e w' => e = .returned (.int .i64 (orI l))∧w' = w:=by
 have HR:Hid (∀ k,(h:k<l.length)→w.cell? ⟨b,k,none⟩=some (.int .i64 l[k])):=hrow
 clear hrow
 go_enter Tryz.func187,Tryz.ntmps187
 go_wp2
 go_loopw [8] (fun i wr=>∃ k:Nat,k≤l.length∧i = .int .i64 k∧Hid (∀ j,(h:j<l.length)→j<k→l[j]=0)∧wr=w) (fun i _=>l.length - (intOf i).toNat)
 case atStart=>exact ⟨0,Nat.zero_le _,rfl,fun _ _ h=>by omega,rfl⟩
 case round =>
  obtain ⟨k,hk,rfl,ht,rfl⟩:=hrel
  by_cases hl:k<l.length
  ·have hc:=HR.out k hl
   have HH:Hid (l[k] ≠ 0→orI l=l[k]):=fun hn=>zhJ l k hl ht.out hn
   by_cases hz:l[k]=0
   ·rw [hz] at hc
    have HT:Hid (∀ j,(h:j<l.length)→j<k+1→l[j]=0):=fun j hj hjk=>by
     by_cases e:j=k
     ·subst e;exact hz
     ·exact ht.out j hj (by omega)
    clear hz HH
    go_wp2
    go_roundw
    case rel=>exact ⟨k+1,by omega,by go_num,HT,trivial⟩
    case measure=>simp [intOf];omega
   ·have HE:Hid (orI l=l[k]):=HH.out hz
    clear HH
    generalize l[k]=x at *
    have hnx:(x != 0)=true:=by simp [hz]
    clear hz
    go_wp2
    go_ret
    exact ⟨zkM HE.out.symm,rfl⟩
  ·have HE:Hid (orI l=0):=by
    have:=zhK l k hk ht.out
    rw [List.drop_of_length_le (by omega)] at this
    exact this
   go_wp2
   go_ret
   exact ⟨zkM HE.out.symm,rfl⟩
theorem zkS (W:World)(l:List Int)(T:TypeId)(B:Nat)(hB:B=W.heap.size):∀ k,(h:k<l.length)→(W.alloc (.cells (l.map (Value.int .i64)).toArray T)).drew.cell? ⟨B,k,none⟩=some (.int .i64 l[k]):=by
 intro k hk
 subst hB
 have hb:(W.alloc (.cells (l.map (Value.int .i64)).toArray T)).drew.heap[W.heap.size]? = some (.cells (l.map (Value.int .i64)).toArray T):=heap_alloc_new W _
 rw [cell_of_row _ _ _ _ _ _ hb]
 simp [hk]
theorem zmE (w:World)(a b c:Obj):(((w.alloc a).alloc b).alloc c).drew=Go.Sort.grow (w.drewN 1) #[a,b,c]:=by
 rw [Go.Sort.alloc_eq_grow,Go.Sort.alloc_eq_grow,Go.Sort.alloc_eq_grow,Go.Sort.grow_grow,Go.Sort.grow_grow];rfl
theorem zd3 (g h:Gr):gcmp g h=orI [ci g.n h.n,ci g.who h.who,ordS g.elem h.elem]:=by
 simp only [gcmp,orI]
 split <;> (try split) <;> (try split) <;> simp_all
set_option maxRecDepth 100000 in
theorem zca (g h:Gr)(w:World) :
  Calls Tryz.prog 195 #[g.val,h.val] w fun e w' => e = .returned (.int .i64 (gcmp g h))∧Below w.heap.size w w' := by
 have HG:Hid (gcmp g h=orI [ci g.n h.n,ci g.who h.who,ordS g.elem h.elem]):=zd3 g h
 unfold Gr.val
 go_enter Tryz.func195,Tryz.ntmps195
 go_wp2
 go_region_held3 (fun w' => w'.cell? ⟨w.heap.size,0,none⟩=some (.int .i64 g.n)∧w'.cell? ⟨w.heap.size,1,none⟩=some (.int .i64 g.who)∧w'.cell? ⟨w.heap.size,2,none⟩=some (.string g.elem)∧w'.cell? ⟨w.heap.size+1,0,none⟩=some (.int .i64 h.n)∧w'.cell? ⟨w.heap.size+1,1,none⟩=some (.int .i64 h.who)∧w'.cell? ⟨w.heap.size+1,2,none⟩=some (.string h.elem)) (go_keep) (first | (go_at_call 188;refine (zcc _ _ _).mono ?_;rintro e w1 ⟨rfl,rfl⟩) | (go_at_call 189;refine (zcd _ _ _).mono ?_;rintro e w1 ⟨rfl,rfl⟩) | (go_at_call 187;refine (zhL _ 3 [ci g.n h.n,ci g.who h.who,ordS g.elem h.elem] _ (by exact zkS _ [ci g.n h.n,ci g.who h.who,ordS g.elem h.elem] _ _ (by simp)) (by simp) (by simp)).mono ?_;rintro e w1 ⟨rfl,rfl⟩))
 go_wp2
 go_ret
 refine ⟨zkM HG.out.symm,?_⟩
 repeat (first | exact Below.refl _ _ | refine below_drewN ?_ _ | refine Below.drew ?_ | refine zaO ?_ _)
def acmp (a b:At):Int:=orI [ci a.ty b.ty,ordS a.key b.key,ci a.side b.side,ci a.who b.who,ordS a.elem b.elem]
open Go.Sort in
set_option maxRecDepth 100000 in
theorem zb8 (g h:At)(w:World) :
  Calls Tryz.prog 150 #[g.val,h.val] w fun e w' => e = .returned (.int .i64 (acmp g h))∧∃ q os,w' = grow (w.drewN q) os:=by
 unfold At.val acmp
 go_enter Tryz.func150,Tryz.ntmps150
 go_wp2
 go_region_held3 (fun w' => w'.cell? ⟨w.heap.size,0,none⟩=some (.int .i64 g.ty)∧w'.cell? ⟨w.heap.size,1,none⟩=some (.string g.key)∧w'.cell? ⟨w.heap.size,2,none⟩=some (.int .i64 g.side)∧w'.cell? ⟨w.heap.size,3,none⟩=some (.int .i64 g.who)∧w'.cell? ⟨w.heap.size,4,none⟩=some (.string g.elem)∧w'.cell? ⟨w.heap.size+1,0,none⟩=some (.int .i64 h.ty)∧w'.cell? ⟨w.heap.size+1,1,none⟩=some (.string h.key)∧w'.cell? ⟨w.heap.size+1,2,none⟩=some (.int .i64 h.side)∧w'.cell? ⟨w.heap.size+1,3,none⟩=some (.int .i64 h.who)∧w'.cell? ⟨w.heap.size+1,4,none⟩=some (.string h.elem)) (go_keep) (first | (go_at_call 188;refine (zcc _ _ _).mono ?_;rintro e w1 ⟨rfl,rfl⟩) | (go_at_call 189;refine (zcd _ _ _).mono ?_;rintro e w1 ⟨rfl,rfl⟩) | (go_at_call 187;refine (zhL _ 5 [ci g.ty h.ty,ordS g.key h.key,ci g.side h.side,ci g.who h.who,ordS g.elem h.elem] _ (by exact zkS _ [ci g.ty h.ty,ordS g.key h.key,ci g.side h.side,ci g.who h.who,ordS g.elem h.elem] _ _ (by simp)) (by simp) (by simp)).mono ?_;rintro e w1 ⟨rfl,rfl⟩))
 go_wp2
 go_ret
 exact ⟨rfl,1,_,zmE w _ _ _⟩
def mxG (g h:Gr):Gr:=if gcmp g h<0 then h else g
theorem zej (g h:Gr)(w:World) :
  Calls Tryz.prog 161 #[g.val,h.val] w fun e w' => e = .returned (mxG g h).val∧Below w.heap.size w w' := by
 have hcon:=fun W=>zca g h W
 obtain ⟨n1,w1,e1⟩:=g
 obtain ⟨n2,w2,e2⟩:=h
 have HM:Hid (mxG ⟨n1,w1,e1⟩ ⟨n2,w2,e2⟩=if gcmp ⟨n1,w1,e1⟩ ⟨n2,w2,e2⟩<0 then ⟨n2,w2,e2⟩ else ⟨n1,w1,e1⟩):=rfl
 generalize gcmp ⟨n1,w1,e1⟩ ⟨n2,w2,e2⟩=c at *
 unfold Gr.val at *
 simp only at *
 go_enter Tryz.func161,Tryz.ntmps161
 go_wp2_with fail
 refine (hcon _).mono ?_
 rintro e w3 ⟨rfl,hb3⟩
 obtain ⟨hc3,hf3⟩:=zaG hb3
 have hz:w.heap.size+1+1<w3.heap.size:=by have:=hb3.size;simp at this;omega
 have hbw:Below w.heap.size w w3:=(zaO (zaO (zaO (Below.refl _ w) _) _) _).trans (hb3.mono (by simp;omega))
 clear hcon
 by_cases hlt:c<0
 ·go_wp2
  refine bodyPost_ret (v:=Gr.val ⟨n2,w2,e2⟩) (by simp [results,Tryz.results161,go_sem,Gr.val,hc3]) rfl ⟨by rw [HM.out,if_pos hlt];rfl,?_⟩
  refine Below.setCell (Below.setCell (Below.setCell hbw ?_ _) ?_ _) ?_ _ <;> (dsimp only;omega)
 ·go_wp2
  refine bodyPost_ret (v:=Gr.val ⟨n1,w1,e1⟩) (by simp [results,Tryz.results161,go_sem,Gr.val,hc3]) rfl ⟨by rw [HM.out,if_neg (by omega)];rfl,?_⟩
  refine Below.setCell (Below.setCell (Below.setCell hbw ?_ _) ?_ _) ?_ _ <;> (dsimp only;omega)
theorem zm7 (s:Sl)(g:Gr)(w:World)(h:RulesAt w)(h1:1≤s.ty)(h5:s.ty≤5) :
  Calls Tryz.prog 148 #[s.val,g.val] w fun e w' => e = .returned (unite s g).val∧Below w.heap.size w w' := by
 obtain ⟨ty,key,side,who,elem⟩:=s
 obtain ⟨n,who',elem'⟩:=g
 simp only at h1 h5
 have HT:Hid (RulesAt w):=h
 clear h
 unfold Sl.val Gr.val
 simp only
 by_cases ht:ty=5
 ·subst ht
  go_enter Tryz.func148,Tryz.ntmps148
  go_wp2_with fail
  refine (zfw 5 _ ?hrl (by omega) (by omega)).mono ?_
  case hrl=>exact HT.out.below (B:=w.heap.size) (by repeat (first | exact Below.refl _ _ | refine zaO ?_ _)) HT.out.1
  rintro e w1 ⟨rfl,rfl⟩
  go_wp2
  refine bodyPost_ret (v:=At.val ⟨5,key,0,who',elem',n⟩) (by simp [results,Tryz.results148,go_sem,At.val]) rfl ⟨by simp [unite],?_⟩
  go_light
  exact zaO (zaO (zaO (Below.refl _ w) _) _) _
 ·have hk:(ty == 5)=false:=by simp [ht]
  go_enter Tryz.func148,Tryz.ntmps148
  go_wp2_with fail
  refine (zfw ty _ ?hrl (by omega) (by omega)).mono ?_
  case hrl=>exact HT.out.below (B:=w.heap.size) (by repeat (first | exact Below.refl _ _ | refine zaO ?_ _)) HT.out.1
  rintro e w1 ⟨rfl,rfl⟩
  go_wp2
  refine bodyPost_ret (v:=At.val ⟨ty,key,side,who,elem,n⟩) (by simp [results,Tryz.results148,go_sem,At.val]) rfl ⟨by simp [unite,ht],?_⟩
  go_light
  exact zaO (zaO (zaO (Below.refl _ w) _) _) _
end Go.Proofs.YtahdlejgjcjeoabGreatDoor
