/- Walk of the program's rise. -/
import Derived.Test.YtahdlejgjcjeoabGreatDoorA27
import Derived.Test.YtahdlejgjcjeoabGreatDoorA22
import Derived.Test.YtahdlejgjcjeoabGreatDoorA09
import Derived.Test.YtahdlejgjcjeoabGreatDoorA23
import Derived.Test.YtahdlejgjcjeoabGreatDoorA15
namespace Go.Proofs.YtahdlejgjcjeoabGreatDoor
set_option maxHeartbeats 8000000
open Go.RowKit
def fKind (l:List UInt8):Nat:=num (l.take 1)
def fNum (l:List UInt8):Nat:=num ((l.drop 1).take 8)
def fBody (l:List UInt8):List UInt8:=(l.drop 17).take (num ((l.drop 9).take 8))
structure FirstOk (l:List UInt8):Prop where
 len:l.length≤35184372088832
 num:fNum l<4611686018427387904
 ln:Go.Proofs.YtahdlejgjcjeoabGreatDoor.num ((l.drop 9).take 8)<4611686018427387904
 body:(fBody l).length≤16777216
theorem zd8 {l:List UInt8}{t:List At}(h:Good l t)(hl:l.length≤16777216):t.length≤2097152:=by
 have hp:=zis (l.drop 8)
 rw [h.parse,List.length_drop] at hp
 omega
theorem zjS (k n:Nat)(l:List At)(h:∀ a∈l,mayB a=true):(recBytes ⟨k,n,l⟩).length≤29+21*l.length:=by
 have ht:=zmr l
 have h1:=zfX (zlR ht.sorted) (fun x hx=>(ht.great x hx).1)
 have h2:=zcP (tell l) (fun x hx=>zdi (h x (ht.great x hx).1))
 rw [zjT]
 simp only [encS,List.length_append,zaL]
 omega
structure Fs (w W:World):Prop where
 rs:W.heap[w.heap.size]? = some (.cells #[.int .i64 0,.int .i64 0,.slice none 0 0] 186 (0,0))
 be:Below w.heap.size w W
 lt:w.heap.size+1<W.heap.size
theorem zdY {w:World}{s:Value}(t u:TypeId)(ht:t=186:=by rfl):Fs w ((w.alloc (.cells #[.int .i64 0,.int .i64 0,.slice none 0 0] t)).alloc (.cells #[s] u)):=by
 subst ht
 refine ⟨?_,zaO (zaO (Below.refl _ w) _) _,by simp⟩
 rw [(zaO (Below.refl (w.alloc (.cells #[.int .i64 0,.int .i64 0,.slice none 0 0] 186)).heap.size _) _).block w.heap.size (by simp)]
 exact heap_alloc_new w _
theorem Fs.grown {w W W' : World}(h:Fs w W)(hg:W.grownBy W' (some (w.heap.size+1))):Fs w W' :=
 ⟨(hg.block _ (Nat.lt_of_succ_lt h.lt) (by simp)).trans h.rs,h.be.grown hg h.be.size (fun k hk=>by cases hk;omega),Nat.lt_of_lt_of_le h.lt hg.size⟩
theorem Fs.below {w W W' : World}(h:Fs w W)(hb:Below W.heap.size W W'):Fs w W' :=
 ⟨(hb.block _ (Nat.lt_of_succ_lt h.lt)).trans h.rs,h.be.trans (hb.mono h.be.size),Nat.lt_of_lt_of_le h.lt hb.size⟩
theorem zmF {w:World}{b:Nat}{x0 x1 x2:Value}{e:TypeId}{fz:Nat × Nat}(h:w.heap[b]? = some (.cells #[x0,x1,x2] e fz)):w.cell? ⟨b,0,none⟩=some x0∧w.cell? ⟨b,1,none⟩=some x1∧w.cell? ⟨b,2,none⟩=some x2:=by
 simp [World.cell?,h]
set_option maxRecDepth 100000 in
theorem zde (l:List UInt8)(w:World)(hr:RulesAt w)(hf:FirstOk l)(hno:∀ t,Good (fBody l) t→fKind l=1∨fKind l=2→¬ recBytes ⟨fKind l,fNum l,t⟩ <+: l) :
  Calls Tryz.prog 119 #[.string (bstr l)] w fun e w' => Below w.heap.size w w' ∧ e = .returned (.tuple #[.agg #[.int .i64 0,.int .i64 0,.slice none 0 0],.int .i64 0]):=by
 obtain ⟨h1,h2,h3,h4⟩:=hf
 have hk:fKind l<4611686018427387904:=Nat.lt_of_lt_of_le (zha (l.take 1) 1 (by simp;omega)) (by decide)
 have HT:Hid (RulesAt w):=hr
 clear hr
 have HN1:Hid (∀ W rb,RdAt W rb l→Calls Tryz.prog 162 #[.pointer (some ⟨rb,0,none⟩),.int .i64 1] W fun e w' => e = .returned (.int .i64 (fKind l))∧Hid (RdAt w' rb (l.drop 1))∧W.grownBy w' (some rb)):=fun W rb h=>zhe rb l 1 W h (by omega) (by omega) hk
 have HN2:Hid (∀ W rb,RdAt W rb (l.drop 1)→Calls Tryz.prog 162 #[.pointer (some ⟨rb,0,none⟩),.int .i64 8] W fun e w' => e = .returned (.int .i64 (fNum l))∧Hid (RdAt w' rb (l.drop 9))∧W.grownBy w' (some rb)):=fun W rb h=>by
  have:=zhe rb (l.drop 1) 8 W h (by rw [List.length_drop];omega) (by omega) h2
  rw [List.drop_drop] at this
  exact this
 have HN3:Hid (∀ W rb,RdAt W rb (l.drop 9)→Calls Tryz.prog 162 #[.pointer (some ⟨rb,0,none⟩),.int .i64 8] W fun e w' => e = .returned (.int .i64 (num ((l.drop 9).take 8)))∧Hid (RdAt w' rb (l.drop 17))∧W.grownBy w' (some rb)):=fun W rb h=>by
  have:=zhe rb (l.drop 9) 8 W h (by rw [List.length_drop];omega) (by omega) h3
  rw [List.drop_drop] at this
  exact this
 have HTK:Hid (∀ W rb,RdAt W rb (l.drop 17)→Calls Tryz.prog 164 #[.pointer (some ⟨rb,0,none⟩),.int .i64 (num ((l.drop 9).take 8))] W fun e w' => e = .returned (.string (bstr (fBody l)))∧W.grownBy w' (some rb)):=fun W rb h=>by
  refine (zmf rb (l.drop 17) (num ((l.drop 9).take 8)) W h (by rw [List.length_drop];omega) (by omega)).mono ?_
  rintro e w' ⟨rfl,_,hg⟩
  exact ⟨rfl,hg⟩
 generalize num ((l.drop 9).take 8)=ln at *
 by_cases hgood:∃ t,Good (fBody l) t
 ·obtain ⟨t,hg⟩:=hgood
  have HG:=zeT hg
  have HNO:=zeT (hno t hg)
  clear hno hg
  have HDC:Hid (∀ W,Below w.heap.size w W→Calls Tryz.prog 163 #[.string (bstr (fBody l))] W fun e w' => ∃ v,e = .returned (.tuple #[v,.int .i64 0])∧w'.ownsRow W.heap.size 76 6 v t.length (flat t)∧Below W.heap.size W w'):=fun W hW=>zch (fBody l) t W (HT.out.below hW HT.out.1) HG.out (by omega)
  by_cases hkd:fKind l=1∨fKind l=2
  ·have hnp:=HNO.out hkd
   have hd:decide (recBytes ⟨fKind l,fNum l,t⟩ <+: l)=false:=decide_eq_false hnp
   have hmay:∀ a∈t,mayB a=true:=HG.out.2.1
   have htl:=zd8 HG.out h4
   have HBY:Hid (∀ W v,Below w.heap.size w W→SliceOf W v t→Calls Tryz.prog 120 #[.agg #[.int .i64 (fKind l),.int .i64 (fNum l),v]] W fun e w' => ∃ v',e = .returned v' ∧ Hid (Buf W.heap.size w' v' (recBytes ⟨fKind l,fNum l,t⟩))∧Below W.heap.size W w'):=fun W v hW hs=>ziQ (fKind l) (fNum l) v t W (HT.out.below hW HT.out.1) hs hmay (by omega) (by omega) h2
   have hrl:=zjS (fKind l) (fNum l) t hmay
   have hrp:0<(recBytes ⟨fKind l,fNum l,t⟩).length:=by rw [zjT];omega
   have HHP:Hid (∀ W,Calls Tryz.prog 165 #[.string (bstr l),.string (bstr (recBytes ⟨fKind l,fNum l,t⟩))] W fun e w' => e = .returned (.bool false)∧Below W.heap.size W w'):=fun W=>by
    have:=zeE l (recBytes ⟨fKind l,fNum l,t⟩) W (by omega) (by omega)
    rw [hd] at this
    exact this
   clear HNO hnp hd hmay HG
   have hk2:(fKind l:Int)=1∨(fKind l:Int)=2:=by omega
   generalize recBytes ⟨fKind l,fNum l,t⟩=rb at *
   generalize fBody l=bd at *
   generalize fKind l=kd at *
   generalize fNum l=nm at *
   go_enter Tryz.func119,Tryz.ntmps119
   go_wp2_with fail
   have HF0:=zeT (zdY (w:=w) (s := .string (bstr l)) 186 229)
   refine (HN1.out _ _ ⟨by simp,by simp⟩).mono ?_
   rintro e w1 ⟨rfl,hrd1,hg1⟩
   have HF1:=zeT (HF0.out.grown hg1)
   clear HF0 hg1
   go_wp2_with fail
   refine (HN2.out _ _ hrd1.out).mono ?_
   rintro e w2 ⟨rfl,hrd2,hg2⟩
   have HF2:=zeT (HF1.out.grown hg2)
   clear HF1 hg2 hrd1
   go_wp2_with fail
   refine (HN3.out _ _ hrd2.out).mono ?_
   rintro e w3 ⟨rfl,hrd3,hg3⟩
   have HF3:=zeT (HF2.out.grown hg3)
   clear HF2 hg3 hrd2
   go_wp2_with fail
   refine (HTK.out _ _ hrd3.out).mono ?_
   rintro e w4 ⟨rfl,hg4⟩
   have HF4:=zeT (HF3.out.grown hg4)
   clear HF3 hg4 hrd3 HN1 HN2 HN3 HTK
   go_wp2_with fail
   refine (HDC.out _ HF4.out.be).mono ?_
   rintro e w5 ⟨v5,rfl,hown5,hb5⟩
   have HF5:=zeT (HF4.out.below hb5)
   have HS5:=zeT (zlD rfl hown5)
   have HO5:=zeT (zic hown5 (show w.heap.size+1≤w4.heap.size from Nat.le_of_lt HF4.out.lt))
   obtain ⟨ad5,cp5,hv5⟩:=zh1 hown5
   subst hv5
   clear HF4 hb5 HDC hown5
   rcases hkd with rfl | rfl
   ·have HB1:Hid (∀ W v,Below w.heap.size w W→SliceOf W v t→Calls Tryz.prog 120 #[.agg #[.int .i64 1,.int .i64 nm,v]] W fun e w' => ∃ v',e = .returned v' ∧ Hid (Buf W.heap.size w' v' rb)∧Below W.heap.size W w'):=HBY.out
    clear HBY
    go_wp2_with fail
    refine (HB1.out _ _ (zaO HF5.out.be _) (HS5.out.below (zaO (Below.refl _ _) _))).mono ?_
    rintro e w6 ⟨v6,rfl,hb6,hbw6⟩
    have HFX:=zeT ((HF5.out.below (zaO (Below.refl _ _) _)).below hbw6)
    obtain ⟨bb,cp6,hv6,hcv⟩:=zba hb6.out hrp
    subst hv6
    clear HF5 HS5 HO5 HB1 hbw6 hb6
    go_wp2_with fail
    refine (HHP.out _).mono ?_
    rintro e w7 ⟨rfl,hb7⟩
    have HFY:=zeT (HFX.out.below hb7)
    clear HFX hb7 HHP hcv
    obtain ⟨r0,r1,r2⟩:=zmF HFY.out.rs
    have rf:=zaZ HFY.out.rs
    have HBE:=zeT HFY.out.be
    clear HFY
    go_wp2
    refine bodyPost_ret (v := .tuple #[.agg #[.int .i64 0,.int .i64 0,.slice none 0 0],.int .i64 0]) (by simp [results,Tryz.results119,go_sem,r0,r1,r2]) rfl ⟨?_,rfl⟩
    repeat (with_reducible first | exact HBE.out | refine Below.drew ?_ | refine Below.setCell ?_ (by dsimp only;omega) _)
   ·have HB1:Hid (∀ W v,Below w.heap.size w W→SliceOf W v t→Calls Tryz.prog 120 #[.agg #[.int .i64 2,.int .i64 nm,v]] W fun e w' => ∃ v',e = .returned v' ∧ Hid (Buf W.heap.size w' v' rb)∧Below W.heap.size W w'):=HBY.out
    clear HBY
    go_wp2_with fail
    refine (HB1.out _ _ (zaO HF5.out.be _) (HS5.out.below (zaO (Below.refl _ _) _))).mono ?_
    rintro e w6 ⟨v6,rfl,hb6,hbw6⟩
    have HFX:=zeT ((HF5.out.below (zaO (Below.refl _ _) _)).below hbw6)
    obtain ⟨bb,cp6,hv6,hcv⟩:=zba hb6.out hrp
    subst hv6
    clear HF5 HS5 HO5 HB1 hbw6 hb6
    go_wp2_with fail
    refine (HHP.out _).mono ?_
    rintro e w7 ⟨rfl,hb7⟩
    have HFY:=zeT (HFX.out.below hb7)
    clear HFX hb7 HHP hcv
    obtain ⟨r0,r1,r2⟩:=zmF HFY.out.rs
    have rf:=zaZ HFY.out.rs
    have HBE:=zeT HFY.out.be
    clear HFY
    go_wp2
    refine bodyPost_ret (v := .tuple #[.agg #[.int .i64 0,.int .i64 0,.slice none 0 0],.int .i64 0]) (by simp [results,Tryz.results119,go_sem,r0,r1,r2]) rfl ⟨?_,rfl⟩
    repeat (with_reducible first | exact HBE.out | refine Below.drew ?_ | refine Below.setCell ?_ (by dsimp only;omega) _)
  ·have g1:((fKind l:Int) == 1)=false:=by simp;omega
   have g2:((fKind l:Int) == 2)=false:=by simp;omega
   have k1:¬ (fKind l:Int)=1:=by omega
   have k2:¬ (fKind l:Int)=2:=by omega
   have n1:¬ fKind l=1:=fun e=>hkd (.inl e)
   have n2:¬ fKind l=2:=fun e=>hkd (.inr e)
   have b1:((fKind l:Int) != 1)=true:=by simp;omega
   have b2:((fKind l:Int) != 2)=true:=by simp;omega
   clear HNO HG hkd
   generalize fBody l=bd at *
   generalize fKind l=kd at *
   generalize fNum l=nm at *
   go_enter Tryz.func119,Tryz.ntmps119
   go_wp2_with fail
   have HF0:=zeT (zdY (w:=w) (s := .string (bstr l)) 186 229)
   refine (HN1.out _ _ ⟨by simp,by simp⟩).mono ?_
   rintro e w1 ⟨rfl,hrd1,hg1⟩
   have HF1:=zeT (HF0.out.grown hg1)
   clear HF0 hg1
   go_wp2_with fail
   refine (HN2.out _ _ hrd1.out).mono ?_
   rintro e w2 ⟨rfl,hrd2,hg2⟩
   have HF2:=zeT (HF1.out.grown hg2)
   clear HF1 hg2 hrd1
   go_wp2_with fail
   refine (HN3.out _ _ hrd2.out).mono ?_
   rintro e w3 ⟨rfl,hrd3,hg3⟩
   have HF3:=zeT (HF2.out.grown hg3)
   clear HF2 hg3 hrd2
   go_wp2_with fail
   refine (HTK.out _ _ hrd3.out).mono ?_
   rintro e w4 ⟨rfl,hg4⟩
   have HF4:=zeT (HF3.out.grown hg4)
   clear HF3 hg4 hrd3 HN1 HN2 HN3 HTK
   go_wp2_with fail
   refine (HDC.out _ HF4.out.be).mono ?_
   rintro e w5 ⟨v5,rfl,hown5,hb5⟩
   have HFX:=zeT (HF4.out.below hb5)
   have HS5:=zeT (zlD rfl hown5)
   have HO5:=zeT (zic hown5 (show w.heap.size+1≤w4.heap.size from Nat.le_of_lt HF4.out.lt))
   obtain ⟨ad5,cp5,hv5⟩:=zh1 hown5
   subst hv5
   clear HF4 hb5 HDC hown5
   obtain ⟨r0,r1,r2⟩:=zmF HFX.out.rs
   have rf:=zaZ HFX.out.rs
   have HBE:=zeT HFX.out.be
   clear HFX
   go_wp2
   refine bodyPost_ret (v := .tuple #[.agg #[.int .i64 0,.int .i64 0,.slice none 0 0],.int .i64 0]) (by simp [results,Tryz.results119,go_sem,r0,r1,r2]) rfl ⟨?_,rfl⟩
   repeat (with_reducible first | exact HBE.out | refine Below.drew ?_ | refine Below.setCell ?_ (by dsimp only;omega) _)
 ·have hbad:∀ t,¬ Good (fBody l) t:=fun t h=>hgood ⟨t,h⟩
  have HDC:Hid (∀ W,Below w.heap.size w W→Calls Tryz.prog 163 #[.string (bstr (fBody l))] W fun e w' => e = .returned (.tuple #[.slice none 0 0,.int .i64 3])∧Below W.heap.size W w'):=fun W hW=>zcg (fBody l) W (HT.out.below hW HT.out.1) hbad (by omega)
  clear hgood hbad hno
  generalize fBody l=bd at *
  generalize fKind l=kd at *
  generalize fNum l=nm at *
  go_enter Tryz.func119,Tryz.ntmps119
  go_wp2_with fail
  have HF0:=zeT (zdY (w:=w) (s := .string (bstr l)) 186 229)
  refine (HN1.out _ _ ⟨by simp,by simp⟩).mono ?_
  rintro e w1 ⟨rfl,hrd1,hg1⟩
  have HF1:=zeT (HF0.out.grown hg1)
  clear HF0 hg1
  go_wp2_with fail
  refine (HN2.out _ _ hrd1.out).mono ?_
  rintro e w2 ⟨rfl,hrd2,hg2⟩
  have HF2:=zeT (HF1.out.grown hg2)
  clear HF1 hg2 hrd1
  go_wp2_with fail
  refine (HN3.out _ _ hrd2.out).mono ?_
  rintro e w3 ⟨rfl,hrd3,hg3⟩
  have HF3:=zeT (HF2.out.grown hg3)
  clear HF2 hg3 hrd2
  go_wp2_with fail
  refine (HTK.out _ _ hrd3.out).mono ?_
  rintro e w4 ⟨rfl,hg4⟩
  have HF4:=zeT (HF3.out.grown hg4)
  clear HF3 hg4 hrd3 HN1 HN2 HN3 HTK
  go_wp2_with fail
  refine (HDC.out _ HF4.out.be).mono ?_
  rintro e w5 ⟨rfl,hb5⟩
  have HFX:=zeT (HF4.out.below hb5)
  clear HF4 hb5 HDC
  obtain ⟨r0,r1,r2⟩:=zmF HFX.out.rs
  have rf:=zaZ HFX.out.rs
  have HBE:=zeT HFX.out.be
  clear HFX
  go_wp2
  refine bodyPost_ret (v := .tuple #[.agg #[.int .i64 0,.int .i64 0,.slice none 0 0],.int .i64 0]) (by simp [results,Tryz.results119,go_sem,r0,r1,r2]) rfl ⟨?_,rfl⟩
  repeat (with_reducible first | exact HBE.out | refine Below.drew ?_ | refine Below.setCell ?_ (by dsimp only;omega) _)
set_option maxRecDepth 100000 in
theorem zdh (l:List UInt8)(t:List At)(w:World)(hr:RulesAt w)(hf:FirstOk l)(hg:Good (fBody l) t)(hkd:fKind l=1∨fKind l=2)(hpf:recBytes ⟨fKind l,fNum l,t⟩ <+: l) :
  Calls Tryz.prog 119 #[.string (bstr l)] w fun e w' => ∃ v,e = .returned (.tuple #[.agg #[.int .i64 (fKind l),.int .i64 (fNum l),v],.int .i64 (recBytes ⟨fKind l,fNum l,t⟩).length])∧w'.ownsRow w.heap.size 76 6 v t.length (flat t)∧Below w.heap.size w w' := by
 obtain ⟨h1,h2,h3,h4⟩:=hf
 have hk:fKind l<4611686018427387904:=Nat.lt_of_lt_of_le (zha (l.take 1) 1 (by simp;omega)) (by decide)
 have HT:Hid (RulesAt w):=hr
 clear hr
 have HN1:Hid (∀ W rb,RdAt W rb l→Calls Tryz.prog 162 #[.pointer (some ⟨rb,0,none⟩),.int .i64 1] W fun e w' => e = .returned (.int .i64 (fKind l))∧Hid (RdAt w' rb (l.drop 1))∧W.grownBy w' (some rb)):=fun W rb h=>zhe rb l 1 W h (by omega) (by omega) hk
 have HN2:Hid (∀ W rb,RdAt W rb (l.drop 1)→Calls Tryz.prog 162 #[.pointer (some ⟨rb,0,none⟩),.int .i64 8] W fun e w' => e = .returned (.int .i64 (fNum l))∧Hid (RdAt w' rb (l.drop 9))∧W.grownBy w' (some rb)):=fun W rb h=>by
  have:=zhe rb (l.drop 1) 8 W h (by rw [List.length_drop];omega) (by omega) h2
  rw [List.drop_drop] at this
  exact this
 have HN3:Hid (∀ W rb,RdAt W rb (l.drop 9)→Calls Tryz.prog 162 #[.pointer (some ⟨rb,0,none⟩),.int .i64 8] W fun e w' => e = .returned (.int .i64 (num ((l.drop 9).take 8)))∧Hid (RdAt w' rb (l.drop 17))∧W.grownBy w' (some rb)):=fun W rb h=>by
  have:=zhe rb (l.drop 9) 8 W h (by rw [List.length_drop];omega) (by omega) h3
  rw [List.drop_drop] at this
  exact this
 have HTK:Hid (∀ W rb,RdAt W rb (l.drop 17)→Calls Tryz.prog 164 #[.pointer (some ⟨rb,0,none⟩),.int .i64 (num ((l.drop 9).take 8))] W fun e w' => e = .returned (.string (bstr (fBody l)))∧W.grownBy w' (some rb)):=fun W rb h=>by
  refine (zmf rb (l.drop 17) (num ((l.drop 9).take 8)) W h (by rw [List.length_drop];omega) (by omega)).mono ?_
  rintro e w' ⟨rfl,_,hg⟩
  exact ⟨rfl,hg⟩
 generalize num ((l.drop 9).take 8)=ln at *
 have HG:=zeT hg
 clear hg
 have HDC:Hid (∀ W,Below w.heap.size w W→Calls Tryz.prog 163 #[.string (bstr (fBody l))] W fun e w' => ∃ v,e = .returned (.tuple #[v,.int .i64 0])∧w'.ownsRow W.heap.size 76 6 v t.length (flat t)∧Below W.heap.size W w'):=fun W hW=>zch (fBody l) t W (HT.out.below hW HT.out.1) HG.out (by omega)
 have hd:decide (recBytes ⟨fKind l,fNum l,t⟩ <+: l)=true:=decide_eq_true hpf
 have hmay:∀ a∈t,mayB a=true:=HG.out.2.1
 have htl:=zd8 HG.out h4
 have HBY:Hid (∀ W v,Below w.heap.size w W→SliceOf W v t→Calls Tryz.prog 120 #[.agg #[.int .i64 (fKind l),.int .i64 (fNum l),v]] W fun e w' => ∃ v',e = .returned v' ∧ Hid (Buf W.heap.size w' v' (recBytes ⟨fKind l,fNum l,t⟩))∧Below W.heap.size W w'):=fun W v hW hs=>ziQ (fKind l) (fNum l) v t W (HT.out.below hW HT.out.1) hs hmay (by omega) (by omega) h2
 have hrl:=zjS (fKind l) (fNum l) t hmay
 have hrp:0<(recBytes ⟨fKind l,fNum l,t⟩).length:=by rw [zjT];omega
 have HHP:Hid (∀ W,Calls Tryz.prog 165 #[.string (bstr l),.string (bstr (recBytes ⟨fKind l,fNum l,t⟩))] W fun e w' => e = .returned (.bool true)∧Below W.heap.size W w'):=fun W=>by
  have:=zeE l (recBytes ⟨fKind l,fNum l,t⟩) W (by omega) (by omega)
  rw [hd] at this
  exact this
 clear hpf hd hmay HG
 have hk2:(fKind l:Int)=1∨(fKind l:Int)=2:=by omega
 generalize recBytes ⟨fKind l,fNum l,t⟩=rb at *
 generalize fBody l=bd at *
 generalize fKind l=kd at *
 generalize fNum l=nm at *
 go_enter Tryz.func119,Tryz.ntmps119
 go_wp2_with fail
 have HF0:=zeT (zdY (w:=w) (s := .string (bstr l)) 186 229)
 refine (HN1.out _ _ ⟨by simp,by simp⟩).mono ?_
 rintro e w1 ⟨rfl,hrd1,hg1⟩
 have HF1:=zeT (HF0.out.grown hg1)
 clear HF0 hg1
 go_wp2_with fail
 refine (HN2.out _ _ hrd1.out).mono ?_
 rintro e w2 ⟨rfl,hrd2,hg2⟩
 have HF2:=zeT (HF1.out.grown hg2)
 clear HF1 hg2 hrd1
 go_wp2_with fail
 refine (HN3.out _ _ hrd2.out).mono ?_
 rintro e w3 ⟨rfl,hrd3,hg3⟩
 have HF3:=zeT (HF2.out.grown hg3)
 clear HF2 hg3 hrd2
 go_wp2_with fail
 refine (HTK.out _ _ hrd3.out).mono ?_
 rintro e w4 ⟨rfl,hg4⟩
 have HF4:=zeT (HF3.out.grown hg4)
 clear HF3 hg4 hrd3 HN1 HN2 HN3 HTK
 go_wp2_with fail
 refine (HDC.out _ HF4.out.be).mono ?_
 rintro e w5 ⟨v5,rfl,hown5,hb5⟩
 have HF5:=zeT (HF4.out.below hb5)
 have HS5:=zeT (zlD rfl hown5)
 have HO5:=zeT (zic hown5 (show w.heap.size+1≤w4.heap.size from Nat.le_of_lt HF4.out.lt))
 obtain ⟨ad5,cp5,hv5⟩:=zh1 hown5
 subst hv5
 clear HF4 hb5 HDC hown5
 rcases hkd with rfl | rfl
 ·have HB1:Hid (∀ W v,Below w.heap.size w W→SliceOf W v t→Calls Tryz.prog 120 #[.agg #[.int .i64 1,.int .i64 nm,v]] W fun e w' => ∃ v',e = .returned v' ∧ Hid (Buf W.heap.size w' v' rb)∧Below W.heap.size W w'):=HBY.out
  clear HBY
  go_wp2_with fail
  refine (HB1.out _ _ (zaO HF5.out.be _) (HS5.out.below (zaO (Below.refl _ _) _))).mono ?_
  rintro e w6 ⟨v6,rfl,hb6,hbw6⟩
  have HFX:=zeT ((HF5.out.below (zaO (Below.refl _ _) _)).below hbw6)
  obtain ⟨bb,cp6,hv6,hcv⟩:=zba hb6.out hrp
  subst hv6
  have HO6:=zeT (zh5 (zh5 HO5.out (zaO (Below.refl _ _) _)) hbw6)
  have s0:=(hbw6.cell (p:=⟨w5.heap.size,0,none⟩) (by simp)).trans (by simp:_=some (Value.int .i64 1))
  have s1:=(hbw6.cell (p:=⟨w5.heap.size,1,none⟩) (by simp)).trans (by simp:_=some (Value.int .i64 nm))
  have s2:=(hbw6.cell (p:=⟨w5.heap.size,2,none⟩) (by simp)).trans (by simp:_=some (Value.slice ad5 t.length cp5))
  have hs56:w5.heap.size<w6.heap.size:=by have:=hbw6.size;simp at this;omega
  have hw5:w.heap.size ≠ w5.heap.size:=by have:=HF5.out.lt;omega
  clear HF5 HS5 HO5 HB1 hbw6 hb6
  go_wp2_with fail
  refine (HHP.out _).mono ?_
  rintro e w7 ⟨rfl,hb7⟩
  have HFY:=zeT (HFX.out.below hb7)
  have HO7:=zeT (zh5 HO6.out hb7)
  have t0:=(hb7.cell (p:=⟨w5.heap.size,0,none⟩) hs56).trans s0
  have t1:=(hb7.cell (p:=⟨w5.heap.size,1,none⟩) hs56).trans s1
  have t2:=(hb7.cell (p:=⟨w5.heap.size,2,none⟩) hs56).trans s2
  obtain ⟨r0,r1,r2⟩:=zmF HFY.out.rs
  have rf:=zaZ HFY.out.rs
  have HBE:=zeT HFY.out.be
  have hrs:=za8 rb
  clear HFX HFY hb7 HHP hcv HO6 s0 s1 s2
  go_wp2
  refine bodyPost_ret (v := .tuple #[.agg #[.int .i64 1,.int .i64 nm,.slice ad5 t.length cp5],.int .i64 rb.length]) (by simp [results,Tryz.results119,go_sem,r0,r1,r2]) rfl ⟨_,rfl,?_,?_⟩
  ·refine zic (base:=w.heap.size+1) ?_ (by omega)
   repeat (with_reducible first | exact HO7.out | refine zie ?_ (by omega))
  ·repeat (with_reducible first | exact HBE.out | refine Below.drew ?_ | refine Below.setCell ?_ (by dsimp only;omega) _)
 ·have HB1:Hid (∀ W v,Below w.heap.size w W→SliceOf W v t→Calls Tryz.prog 120 #[.agg #[.int .i64 2,.int .i64 nm,v]] W fun e w' => ∃ v',e = .returned v' ∧ Hid (Buf W.heap.size w' v' rb)∧Below W.heap.size W w'):=HBY.out
  clear HBY
  go_wp2_with fail
  refine (HB1.out _ _ (zaO HF5.out.be _) (HS5.out.below (zaO (Below.refl _ _) _))).mono ?_
  rintro e w6 ⟨v6,rfl,hb6,hbw6⟩
  have HFX:=zeT ((HF5.out.below (zaO (Below.refl _ _) _)).below hbw6)
  obtain ⟨bb,cp6,hv6,hcv⟩:=zba hb6.out hrp
  subst hv6
  have HO6:=zeT (zh5 (zh5 HO5.out (zaO (Below.refl _ _) _)) hbw6)
  have s0:=(hbw6.cell (p:=⟨w5.heap.size,0,none⟩) (by simp)).trans (by simp:_=some (Value.int .i64 2))
  have s1:=(hbw6.cell (p:=⟨w5.heap.size,1,none⟩) (by simp)).trans (by simp:_=some (Value.int .i64 nm))
  have s2:=(hbw6.cell (p:=⟨w5.heap.size,2,none⟩) (by simp)).trans (by simp:_=some (Value.slice ad5 t.length cp5))
  have hs56:w5.heap.size<w6.heap.size:=by have:=hbw6.size;simp at this;omega
  have hw5:w.heap.size ≠ w5.heap.size:=by have:=HF5.out.lt;omega
  clear HF5 HS5 HO5 HB1 hbw6 hb6
  go_wp2_with fail
  refine (HHP.out _).mono ?_
  rintro e w7 ⟨rfl,hb7⟩
  have HFY:=zeT (HFX.out.below hb7)
  have HO7:=zeT (zh5 HO6.out hb7)
  have t0:=(hb7.cell (p:=⟨w5.heap.size,0,none⟩) hs56).trans s0
  have t1:=(hb7.cell (p:=⟨w5.heap.size,1,none⟩) hs56).trans s1
  have t2:=(hb7.cell (p:=⟨w5.heap.size,2,none⟩) hs56).trans s2
  obtain ⟨r0,r1,r2⟩:=zmF HFY.out.rs
  have rf:=zaZ HFY.out.rs
  have HBE:=zeT HFY.out.be
  have hrs:=za8 rb
  clear HFX HFY hb7 HHP hcv HO6 s0 s1 s2
  go_wp2
  refine bodyPost_ret (v := .tuple #[.agg #[.int .i64 2,.int .i64 nm,.slice ad5 t.length cp5],.int .i64 rb.length]) (by simp [results,Tryz.results119,go_sem,r0,r1,r2]) rfl ⟨_,rfl,?_,?_⟩
  ·refine zic (base:=w.heap.size+1) ?_ (by omega)
   repeat (with_reducible first | exact HO7.out | refine zie ?_ (by omega))
  ·repeat (with_reducible first | exact HBE.out | refine Below.drew ?_ | refine Below.setCell ?_ (by dsimp only;omega) _)
open Go.RowKit Go.MuLone
theorem zkT {w:World}{B:Nat}{v:Value}{xs:List UInt8}(ho:w.ownsRow B 5 1 v xs.length (bcells xs)):(convert 124 9 v).run Tryz.prog w = .ok (.string (bstr xs)) w:=by
 rcases ho.2 with ⟨hv,h1⟩ | ⟨g,cap,cur,hv,_,hh,h1,h2,h3,h4⟩
 ·obtain rfl:=List.length_eq_zero_iff.1 h1
  rw [hv]
  exact run_convert_bytes_nil (P:=Tryz.prog) w 124 5 Tryz.underlying124 Tryz.underlying5 0 0 9 Tryz.underlying9
 ·rw [hv,← za6]
  refine run_convert_bytes_arg w 124 5 Tryz.underlying124 Tryz.underlying5 g 0 xs.length cap _ (by simp) (fun i hi => ?_) 9 Tryz.underlying9
  have:=ho.cells (g:=g) (by rw [hv];rfl) i (.int .u8 (xs[i].toNat:Int)) (by simp [bcells,hi])
  rw [Addr.add_lit] at this
  rw [this]
  simp [List.getD,hi]
set_option maxRecDepth 100000 in
theorem prgLog {w:World}{col:Col}{o x:Nat}{K:PrK}{c:Clu}(h:PrgAt w col o x K c)(r:Int) :
  Calls Tryz.prog 132 #[.pointer (some ⟨x,0,none⟩),.int .i64 r] w fun e w' => e = .returned (.tuple #[.string (bstr (logBytes (c.repAt r))),.int .i64 (c.thereErr r)])∧Below w.heap.size w w' := by
 have hcl:=h.at_.clAt h.is.lk
 have k41:=hcl.l41
 by_cases hr:0≤r∧r<c.reps.length
 ·obtain ⟨i,rfl⟩:∃ i:Nat,r=i:=⟨r.toNat,by omega⟩
  have hi:i<c.reps.length:=by omega
  have hi' : i<K.Ds.length:=by rw [h.is.len];exact hi
  have hth:c.there (i:Int)=true:=by simp [Clu.there,hr]
  have e1:c.repAt (i:Int)=c.rep i:=by simp [Clu.repAt,hth]
  have e2:c.thereErr (i:Int)=0:=by simp [Clu.thereErr,hth]
  rw [e1,e2]
  obtain ⟨hl,hlf⟩:=h.at_.lock 1
  obtain ⟨ho,hp⟩:=PrB.open hl (i:=i) hi'
  have kl:=hcl.lR (h.at_.cells hi').c11
  have hcv:=zkT hp.log.own
  obtain ⟨adl,capl,hvl,hclp⟩:=hp.log.form
  have hby:(({ K with lk:=1 }:PrK).Ds[i]).bytes=logBytes (c.rep i):=(h.is.reps i hi').bytes
  rw [hby] at hcv hvl
  have hvl' : (K.Ds[i]).vl = .slice adl (logBytes (c.rep i)).length capl:=hvl
  rw [hvl'] at kl
  have hcv' : (convert 124 9 (.slice adl (logBytes (c.rep i)).length capl)).run Tryz.prog (w.setCell ⟨x,0,none⟩ (.int .i32 1)) = .ok (.string (bstr (logBytes (c.rep i)))) (w.setCell ⟨x,0,none⟩ (.int .i32 1)):=by rw [← hvl];exact hcv
  clear hcv hvl hvl' hby hp ho hl hlf h
  generalize logBytes (c.rep i)=lb at *
  generalize bstr lb=tx at *
  go_enter_defers Tryz.func132,Tryz.ntmps132
  go_wp2_with (go_at_call 44;refine (lock_free zgD ⟨x,0,none⟩ _ hcl.c0 hcl.f0).mono ?_;rintro e w' ⟨rfl,rfl⟩)
  refine (zht x K.R i K.Ds.length K.Ds.length _ k41 hi').mono ?_
  rintro e w1 ⟨rfl,rfl⟩
  go_wp2
  refine leaves_cons (f:=45) (args:=#[.pointer (some ⟨x,0,none⟩)]) (by simp) (by simp [go_sem]) ?_
  obtain ⟨u0,u1,u2⟩:=hcl.unlock (w2:=_) (Below.refl _ _)
  refine (unlock_deferred zgD ⟨x,0,none⟩ .returning _ u0 u1).mono ?_
  rintro e u' w'' ⟨rfl,rfl,rfl⟩
  exact ⟨_,results_tmp2 rfl _ _ _,rfl,u2⟩
 ·have hth:c.there r=false:=by simp only [Clu.there,decide_eq_false_iff_not];exact hr
  have e1:logBytes (c.repAt r) = []:=by simp [Clu.repAt,hth,logBytes]
  have e2:c.thereErr r=5:=by simp [Clu.thereErr,hth]
  rw [e1,e2]
  exact zi7 x K.R _ _ r w hcl (by rw [h.is.len];exact hr)
theorem RowC.trunc {w:World}{col:Col}{κ:Nat × Nat}{e:TypeId}{n m cap:Nat}{ad:Option Addr}{xs:List Value}(h:RowC w col κ e 1 (.slice ad n cap) n xs)(hm:m≤n):RowC w col κ e 1 (.slice ad m cap) m (xs.take m):=by
 refine ⟨⟨by rw [List.length_take,h.own.1];omega,?_⟩,fun q hq=>h.col q (by cases ad with | none=>cases hq | some A=>exact hq)⟩
 rcases h.own.2 with ⟨hv,h0⟩ | ⟨g,cap',cur,hv,hg,hh,h1,h2,h3,h4⟩
 ·cases hv
  exact .inl ⟨by rw [show m=0 by omega],by omega⟩
 ·cases hv
  refine .inr ⟨g,cap,cur,rfl,hg,hh,by omega,h2,h3,?_⟩
  rw [← h4,List.take_take]
  congr 1
  omega
def restOf (p:Rep)(k:Nat):List UInt8:=((p.log.drop k).map recBytes).flatten ++ p.torn
def riseD (D:PrD)(p:Rep)(V k:Nat):PrD:={ D with num:=lastNum (p.log.take k),base:=lastNum (p.log.take k),n:=V,M:=addTo (fun _=>none) ((p.log.take k).map (·.d)).flatten }
def RiseMid (w:World)(col:Col)(o x i:Nat)(K:PrK)(D:PrD)(p:Rep)(V k:Nat)(wr:World):Prop:=∃ col1,PrI wr col1 o x i K (riseD D p V k)∧FrC (ofPrg o i) col col1 w wr
theorem zkI (p:Rep)(k:Nat)(h:k<p.log.length):restOf p k=recBytes p.log[k] ++ restOf p (k+1):=by
 unfold restOf
 rw [List.drop_eq_getElem_cons h,List.map_cons,List.flatten_cons,List.append_assoc]
theorem zkH (p:Rep)(k:Nat):(restOf p k).length≤(logBytes p).length:=by
 induction k with
 | zero=>exact Nat.le_refl _
 | succ k ih =>
  by_cases h:k<p.log.length
  ·rw [zkI p k h,List.length_append] at ih
   omega
  ·have e:restOf p (k+1)=restOf p k:=by
    unfold restOf
    rw [List.drop_of_length_le (by omega),List.drop_of_length_le (by omega)]
   rw [e]
   exact ih
theorem zkG (p:Rep):restOf p p.log.length=p.torn:=by simp [restOf]
theorem zfH (l:List Rec)(k:Nat)(h:k<l.length):lastNum (l.take (k+1))=(l[k]).num:=by
 rw [List.take_succ_eq_append_getElem h]
 unfold lastNum
 rw [List.getLast?_concat]
 rfl
theorem Rec.okOf {U:List At}{N:Nat}(hL:Lim U N){r:Rec}(h1:ToldMay r.d)(h2:∀ a∈r.d,a∈U)(h3:r.num≤N)(h4:r.kind=1∨r.kind=2):r.ok∧(encS r.d).length≤2752520∧r.num≤2097152:=by
 have h5:=zjR r.kind r.num r.d h1.2
 rw [zjT] at h5
 have h6:=h1.length h2
 have h7:=hL.2
 have h8:=hL.1
 dsimp only at h5
 exact ⟨⟨h4,by omega,by omega,h1⟩,by omega,by omega⟩
theorem zdg {r:Rec}{l:List UInt8}(h:r.ok)(hs:(encS r.d).length≤2752520)(hn:r.num≤2097152)(hl:(recBytes r ++ l).length≤8796093022208):FirstOk (recBytes r ++ l)∧fKind (recBytes r ++ l)=r.kind∧fNum (recBytes r ++ l)=r.num∧Good (fBody (recBytes r ++ l)) r.d:=by
 obtain ⟨a1,a2,a3,a4⟩:=zjV h (List.prefix_append (recBytes r) l)
 have hb:fBody (recBytes r ++ l)=encS r.d:=by unfold fBody;rw [a3,a4]
 refine ⟨⟨by omega,by unfold fNum;rw [a2];omega,by rw [a3];omega,by rw [hb];omega⟩,a1,a2,?_⟩
 rw [hb]
 exact h.told.good
theorem zmh (bs:List UInt8)(k a b:Nat):((bs.take k).drop a).take b=((bs.drop a).take b).take (k - a):=by
 rw [List.drop_take,List.take_take,List.take_take,Nat.min_comm]
theorem zdf {r:Rec}{k:Nat}(h:r.ok)(hs:(encS r.d).length≤2752520)(hn:r.num≤2097152)(hk:k<(recBytes r).length):FirstOk ((recBytes r).take k)∧∀ t,Good (fBody ((recBytes r).take k)) t→fKind ((recBytes r).take k)=1∨fKind ((recBytes r).take k)=2→¬ recBytes ⟨fKind ((recBytes r).take k),fNum ((recBytes r).take k),t⟩ <+: (recBytes r).take k:=by
 obtain ⟨a1,a2,a3,a4⟩:=zjV h (List.prefix_refl (recBytes r))
 have hl:=zjT r
 have f2:fNum ((recBytes r).take k)≤r.num:=by
  unfold fNum
  rw [zmh,← a2]
  exact zhb _ _
 have f3:num ((((recBytes r).take k).drop 9).take 8)≤(encS r.d).length:=by
  rw [zmh,← a3]
  exact zhb _ _
 have f4:(fBody ((recBytes r).take k)).length≤(recBytes r).length:=by
  unfold fBody
  rw [List.length_take,List.length_drop,List.length_take]
  omega
 refine ⟨⟨by rw [List.length_take];omega,by omega,by omega,by omega⟩,fun t hg hkd=>zmV h ⟨hkd,by dsimp only;omega,?_,⟨hg.1,hg.2.1⟩⟩ hk⟩
 have hb:(encS t).length≤(recBytes r).length:=by
  have:encS t=fBody ((recBytes r).take k):=by
   have htm:ToldMay t:=⟨hg.1,hg.2.1⟩
   unfold encS
   rw [htm.tell]
   exact hg.2.2.symm
  rw [this]
  exact f4
 dsimp only
 omega
end Go.Proofs.YtahdlejgjcjeoabGreatDoor
