/- Walk of the document's May. -/
import Derived.WalkKit
import Derived.WalkSpells
import Derived.WalkLawsBesides
import Derived.BigQuiet
import Derived.Deep.QuietTactic
import Derived.Deep.DeepMust
import Derived.Lib.Bytealg
import Derived.Deep.AppendLies
import Derived.Test.YtahdlejgjcjeoabGreatDoorProg
import Derived.Maps.Own
import Derived.Maps.OwnSet
import Derived.Maps.OwnOps
import Derived.Maps.RangeWalk
import Derived.ProofKit
import Derived.Deep.Light
namespace Go.Proofs.YtahdlejgjcjeoabGreatDoor
set_option maxHeartbeats 8000000
open Go.RowKit
structure At where
 ty:Int
 key:ByteArray
 side:Int
 who:Int
 elem:ByteArray
 n:Int
def enc (a:At):List Value := [.int .i64 a.ty,.string a.key,.int .i64 a.side,.int .i64 a.who,.string a.elem,.int .i64 a.n]
def At.val (a:At):Value := .agg #[.int .i64 a.ty,.string a.key,.int .i64 a.side,.int .i64 a.who,.string a.elem,.int .i64 a.n]
def flat (l:List At):List Value:=l.flatMap enc
def sgn (n:Int):Int:=if n<0 then -1 else if 0<n then 1 else 0
def mayB (a:At):Bool:=decide (
 1≤a.key.size∧a.key.size≤4 ∧
 ((a.ty=1∧0≤a.who∧a.who≤5∧1≤a.n∧a.n≤2147483647∧a.side=0∧a.elem.size=0) ∨
  (a.ty=2∧0≤a.who∧a.who≤5∧1≤a.n∧a.n≤2147483647∧(a.side=0∨a.side=1)∧a.elem.size=0) ∨
  (a.ty=3∧a.elem.size≤8∧a.side=0∧a.who=0∧a.n=0) ∨
  (a.ty=4∧a.elem.size≤8∧(a.side=0∨a.side=1)∧a.who=0∧a.n=0) ∨
  (a.ty=5∧0≤a.who∧a.who≤5∧1≤a.n∧a.n≤2147483647∧a.elem.size≤8∧a.side=0)))
def ordS (a b:ByteArray):Int:=Lib.compareBytes a.data.toList b.data.toList
def fits (a:At):Prop := -4294967296≤a.ty∧a.ty≤4294967296 ∧ -4294967296≤a.side∧a.side≤4294967296 ∧ -4294967296≤a.who∧a.who≤4294967296 ∧ -4294967296≤a.n∧a.n≤4294967296∧a.key.size≤4096∧a.elem.size≤4096
theorem zdj {a:At}(h:mayB a=true):fits a:=by
 simp only [mayB,decide_eq_true_eq] at h
 unfold fits
 omega
def plc (a b:At):Int :=
 if a.ty ≠ b.ty then sgn (a.ty - b.ty)
 else if ordS a.key b.key ≠ 0∨a.ty=5 then ordS a.key b.key
 else if a.side ≠ b.side then sgn (a.side - b.side)
 else if a.who ≠ b.who then sgn (a.who - b.who)
 else ordS a.elem b.elem
def grd (a b:At):Int :=
 if a.n ≠ b.n then sgn (a.n - b.n)
 else if a.ty ≠ 5 then 0
 else if a.who ≠ b.who then sgn (a.who - b.who)
 else ordS a.elem b.elem
theorem zcp {w v:World}{q:Nat}(h:∃ q,v=w.drewN q):∃ p,v.drewN q=w.drewN p:=by
 obtain ⟨p,rfl⟩:=h
 exact ⟨p+q,by simp [World.drewN,Nat.add_assoc]⟩
theorem zco {w v:World}(h:∃ q,v=w.drewN q):∃ q,v=w.drewN q:=h
theorem zkM {k:IntKind}{a b:Int}(h:a=b):Ending.returned (.int k a) = .returned (.int k b):=by rw [h]
theorem zkL {a b:Bool}(h:a=b):Ending.returned (.bool a) = .returned (.bool b):=by rw [h]
theorem zb9 (l r:List UInt8):∀ k,k≤l.length→k≤r.length→l.take k=r.take k→Lib.compareBytes l r=Lib.compareBytes (l.drop k) (r.drop k):=by
 intro k
 induction k generalizing l r with
 | zero=>intros;simp
 | succ k ih =>
  intro h1 h2 h
  cases l with
  | nil=>simp at h1
  | cons x l =>
   cases r with
   | nil=>simp at h2
   | cons y r =>
    simp at h h1 h2
    obtain ⟨rfl,h⟩:=h
    have hxx:¬ x<x:=by simp
    simp [Lib.compareBytes,hxx]
    exact ih l r h1 h2 h
theorem zhP (a b:ByteArray)(k:Nat)(h1:k<a.size)(h2:k<b.size)(h:a.data.toList.take k=b.data.toList.take k)(hc:(a[k].toNat:Int)<b[k].toNat):ordS a b = -1:=by
 unfold ordS
 rw [zb9 _ _ k (by simpa using Nat.le_of_lt h1) (by simpa using Nat.le_of_lt h2) h]
 rw [List.drop_eq_getElem_cons (l:=a.data.toList) (i:=k) (by simpa using h1),List.drop_eq_getElem_cons (l:=b.data.toList) (i:=k) (by simpa using h2)]
 have:a.data.toList[k]'(by simpa using h1)=a[k]:=rfl
 have:b.data.toList[k]'(by simpa using h2)=b[k]:=rfl
 have hl:a[k]<b[k]:=by rw [UInt8.lt_iff_toNat_lt];omega
 simp_all [Lib.compareBytes]
theorem zhO (a b:ByteArray)(k:Nat)(h1:k<a.size)(h2:k<b.size)(h:a.data.toList.take k=b.data.toList.take k)(hc:(b[k].toNat:Int)<a[k].toNat):ordS a b=1:=by
 unfold ordS
 rw [zb9 _ _ k (by simpa using Nat.le_of_lt h1) (by simpa using Nat.le_of_lt h2) h]
 rw [List.drop_eq_getElem_cons (l:=a.data.toList) (i:=k) (by simpa using h1),List.drop_eq_getElem_cons (l:=b.data.toList) (i:=k) (by simpa using h2)]
 have:a.data.toList[k]'(by simpa using h1)=a[k]:=rfl
 have:b.data.toList[k]'(by simpa using h2)=b[k]:=rfl
 have hl:b[k]<a[k]:=by rw [UInt8.lt_iff_toNat_lt];omega
 have hn:¬ a[k]<b[k]:=by rw [UInt8.lt_iff_toNat_lt];omega
 simp_all [Lib.compareBytes]
theorem zmm (a b:ByteArray)(k:Nat)(h1:k<a.size)(h2:k<b.size)(h:a.data.toList.take k=b.data.toList.take k)(c1:(b[k].toNat:Int)≤a[k].toNat)(c2:(a[k].toNat:Int)≤b[k].toNat) :
  a.data.toList.take (k+1)=b.data.toList.take (k+1):=by
 rw [List.take_succ_eq_append_getElem (by simpa using h1),List.take_succ_eq_append_getElem (by simpa using h2),h]
 have:a.data.toList[k]'(by simpa using h1)=a[k]:=rfl
 have:b.data.toList[k]'(by simpa using h2)=b[k]:=rfl
 have:a[k]=b[k]:=UInt8.toNat_inj.1 (by omega)
 simp_all
theorem zhM (a b:ByteArray)(k:Nat)(h1:k≤a.size)(h2:k≤b.size)(h:a.data.toList.take k=b.data.toList.take k)(he:a.size=k∨b.size=k):ordS a b=sgn ((a.size:Int) - b.size):=by
 unfold ordS
 rw [zb9 _ _ k (by simpa using h1) (by simpa using h2) h]
 have la:a.data.toList.length=a.size:=by simp
 have lb:b.data.toList.length=b.size:=by simp
 rcases he with he | he
 ·rw [List.drop_of_length_le (by omega:a.data.toList.length≤k)]
  by_cases hb:b.size=k
  ·rw [List.drop_of_length_le (by omega:b.data.toList.length≤k)]
   simp [Lib.compareBytes,sgn,he,hb]
  ·rw [List.drop_eq_getElem_cons (l:=b.data.toList) (i:=k) (by omega)]
   simp [Lib.compareBytes,sgn]
   omega
 ·rw [List.drop_of_length_le (l:=b.data.toList) (by omega:b.data.toList.length≤k)]
  by_cases hb:a.size=k
  ·rw [List.drop_of_length_le (by omega:a.data.toList.length≤k)]
   simp [Lib.compareBytes,sgn,he,hb]
  ·rw [List.drop_eq_getElem_cons (l:=a.data.toList) (i:=k) (by omega)]
   simp [Lib.compareBytes,sgn]
   rw [if_neg (by omega),if_pos (by omega)]
def cellsAt (w:World)(b o:Nat)(a:At):Prop :=
 w.cell? ⟨b,o,none⟩=some (.int .i64 a.ty)∧w.cell? ⟨b,o+1,none⟩=some (.string a.key)∧w.cell? ⟨b,o+2,none⟩=some (.int .i64 a.side) ∧
 w.cell? ⟨b,o+3,none⟩=some (.int .i64 a.who)∧w.cell? ⟨b,o+4,none⟩=some (.string a.elem)∧w.cell? ⟨b,o+5,none⟩=some (.int .i64 a.n)
def RowAt (w:World)(b off:Nat)(l:List At):Prop:=∀ (k:Nat) (h:k<l.length),cellsAt w b (off+k*6) (l[k])
theorem zbt {B:Nat}{w w' : World}(h:Below B w w'){b o:Nat}{a:At}(hb:b<B)(hr:cellsAt w b o a):cellsAt w' b o a:=by
 obtain ⟨c0,c1,c2,c3,c4,c5⟩:=hr
 refine ⟨?_,?_,?_,?_,?_,?_⟩ <;> (rw [h.cell (p:=⟨b,_,none⟩) hb];assumption)
theorem RowAt.below {B:Nat}{w w' : World}{b off:Nat}{l:List At}(hr:RowAt w b off l)(h:Below B w w')(hb:b<B):RowAt w' b off l :=
 fun k hk=>zbt h hb (hr k hk)
theorem zas {α:Type}(p:α→Bool)(l:List α)(k:Nat)(h:k<l.length):(l.take (k+1)).all p=((l.take k).all p && p (l[k])):=by
 rw [List.take_succ_eq_append_getElem h,List.all_append];simp only [List.all_cons,List.all_nil,Bool.and_true]
def short (a:At):Prop:=a.key.size≤281474976710656∧a.elem.size≤281474976710656
structure TP {α:Type}(c:α→α→Int):Prop where
 anti:∀ x y,c y x = - c x y
 trans:∀ x y z,c x y≤0→c y z≤0→c x z≤0
theorem TP.lex {α:Type}{c d:α→α→Int}(h:TP c)(k:TP d):TP (fun x y=>if c x y ≠ 0 then c x y else d x y) where
 anti x y:=by
  have:=h.anti x y
  have:=k.anti x y
  split <;> split <;> omega
 trans x y z:=by
  have a1:=h.trans x y z
  have a2:=h.trans y z x
  have a3:=h.trans z x y
  have b1:=k.trans x y z
  have e1:=h.anti x y
  have e2:=h.anti y z
  have e3:=h.anti x z
  split <;> split <;> split <;> omega
theorem TP.comap {α β:Type}{c:β→β→Int}(h:TP c)(f:α→β):TP (fun x y=>c (f x) (f y)) where
 anti _ _:=h.anti _ _
 trans _ _ _:=h.trans _ _ _
theorem TP.refl {α:Type}{c:α→α→Int}(h:TP c)(x:α):c x x=0:=by have:=h.anti x x;omega
theorem TP.lt_le {α:Type}{c:α→α→Int}(h:TP c){x y z:α}(a:c x y<0)(b:c y z≤0):c x z<0:=by
 have e1:=h.anti x y
 have e2:=h.anti x z
 have:=h.trans y z x b
 omega
theorem TP.le_lt {α:Type}{c:α→α→Int}(h:TP c){x y z:α}(a:c x y≤0)(b:c y z<0):c x z<0:=by
 have e1:=h.anti y z
 have e2:=h.anti x z
 have:=h.trans z x y
 omega
def ci (a b:Int):Int:=sgn (a - b)
theorem zbR:TP ci where
 anti x y:=by simp only [ci,sgn];split <;> split <;> (try split) <;> (try split) <;> omega
 trans x y z:=by
  simp only [ci,sgn]
  intro h1 h2
  have h1' : x≤y:=by split at h1 <;> (try split at h1) <;> omega
  have h2' : y≤z:=by split at h2 <;> (try split at h2) <;> omega
  split <;> (try split) <;> omega
theorem zbS (a b:Int):ci a b=0 ↔ a=b:=by
 simp only [ci,sgn]
 split <;> (try split) <;> omega
theorem zbl:∀ l r,Lib.compareBytes r l = - Lib.compareBytes l r
 | [],[]=>rfl
 | [],_ :: _=>rfl
 | _ :: _,[]=>rfl
 | a :: l,b :: r=>by
  have ih:=zbl l r
  simp only [Lib.compareBytes,UInt8.lt_iff_toNat_lt]
  split <;> split <;> omega
theorem zbo:∀ l r,Lib.compareBytes l r=0 ↔ l=r
 | [],[]=>by simp [Lib.compareBytes]
 | [],_ :: _=>by simp [Lib.compareBytes]
 | _ :: _,[]=>by simp [Lib.compareBytes]
 | a :: l,b :: r=>by
  have ih:=zbo l r
  have e:a=b ↔ a.toNat=b.toNat:=UInt8.toNat_inj.symm
  simp only [Lib.compareBytes,UInt8.lt_iff_toNat_lt,List.cons.injEq,e]
  split
  ·simp;omega
  ·split
   ·simp;omega
   ·rw [ih];constructor
    ·intro h;exact ⟨by omega,h⟩
    ·intro h;exact h.2
theorem zbn:∀ l r s,Lib.compareBytes l r≤0→Lib.compareBytes r s≤0→Lib.compareBytes l s≤0
 | [],_,[]=>by simp [Lib.compareBytes]
 | [],_,_ :: _=>by simp [Lib.compareBytes]
 | _ :: _,[],_=>by simp [Lib.compareBytes]
 | _ :: _,_ :: _,[]=>by simp [Lib.compareBytes]
 | a :: l,b :: r,c :: s=>by
  have ih:=zbn l r s
  simp only [Lib.compareBytes,UInt8.lt_iff_toNat_lt]
  split <;> split <;> (try split) <;> (try split) <;> (try split) <;> omega
theorem zhR:TP ordS where
 anti _ _:=zbl _ _
 trans _ _ _:=zbn _ _ _
theorem zhS (a b:ByteArray):ordS a b=0 ↔ a=b:=by
 unfold ordS
 rw [zbo]
 constructor
 ·intro h;exact ByteArray.ext (Array.toList_inj.1 h)
 ·intro h;rw [h]
structure Sl where
 ty:Int
 key:ByteArray
 side:Int
 who:Int
 elem:ByteArray
structure Gr where
 n:Int
 who:Int
 elem:ByteArray
def scmp (s t:Sl):Int :=
 if ci s.ty t.ty ≠ 0 then ci s.ty t.ty
 else if ordS s.key t.key ≠ 0 then ordS s.key t.key
 else if ci s.side t.side ≠ 0 then ci s.side t.side
 else if ci s.who t.who ≠ 0 then ci s.who t.who
 else ordS s.elem t.elem
def gcmp (g h:Gr):Int :=
 if ci g.n h.n ≠ 0 then ci g.n h.n
 else if ci g.who h.who ≠ 0 then ci g.who h.who
 else ordS g.elem h.elem
theorem zk3:TP scmp:=(zbR.comap Sl.ty).lex ((zhR.comap Sl.key).lex ((zbR.comap Sl.side).lex ((zbR.comap Sl.who).lex (zhR.comap Sl.elem))))
theorem zd4:TP gcmp:=(zbR.comap Gr.n).lex ((zbR.comap Gr.who).lex (zhR.comap Gr.elem))
theorem zk4 (s t:Sl):scmp s t=0 ↔ s=t:=by
 obtain ⟨a1,a2,a3,a4,a5⟩:=s
 obtain ⟨b1,b2,b3,b4,b5⟩:=t
 simp only [scmp,Sl.mk.injEq]
 rw [← zbS a1 b1,← zhS a2 b2,← zbS a3 b3,← zbS a4 b4,← zhS a5 b5]
 split
 ·omega
 ·split
  ·omega
  ·split
   ·omega
   ·split
    ·omega
    ·omega
theorem zd5 (s t:Gr):gcmp s t=0 ↔ s=t:=by
 obtain ⟨a1,a2,a3⟩:=s
 obtain ⟨b1,b2,b3⟩:=t
 simp only [gcmp,Gr.mk.injEq]
 rw [← zbS a1 b1,← zbS a2 b2,← zhS a3 b3]
 split
 ·omega
 ·split
  ·omega
  ·omega
def slot (a:At):Sl:=if a.ty=5 then ⟨a.ty,a.key,0,0,ByteArray.empty⟩ else ⟨a.ty,a.key,a.side,a.who,a.elem⟩
def grade (a:At):Gr:=if a.ty=5 then ⟨a.n,a.who,a.elem⟩ else ⟨a.n,0,ByteArray.empty⟩
def unite (s:Sl)(g:Gr):At:=if s.ty=5 then ⟨s.ty,s.key,0,g.who,g.elem,g.n⟩ else ⟨s.ty,s.key,s.side,s.who,s.elem,g.n⟩
theorem zix (a b:At):plc a b=scmp (slot a) (slot b):=by
 have e0:∀ x,ci x x=0:=fun x=>(zbS x x).2 rfl
 have z0:∀ x,ordS x x=0:=fun x=>(zhS x x).2 rfl
 by_cases h:a.ty=b.ty
 ·by_cases h5:a.ty=5
  ·have h5b:b.ty=5:=by omega
   simp only [plc,slot,scmp,h5,h5b,if_true,ne_eq,not_true_eq_false,if_false,or_true]
   rw [e0 5,e0 0,z0]
   by_cases hk:ordS a.key b.key=0 <;> simp [hk]
  ·have h5b:¬ b.ty=5:=by omega
   simp only [plc,slot,scmp,if_neg h5b,h,e0]
   have s1:(a.side ≠ b.side) ↔ ci a.side b.side ≠ 0:=by rw [Ne,← zbS]
   have s2:(a.who ≠ b.who) ↔ ci a.who b.who ≠ 0:=by rw [Ne,← zbS]
   simp only [s1,s2,h5b,or_false,ne_eq,not_true_eq_false,if_false]
   rfl
 ·have hc:ci a.ty b.ty ≠ 0:=by rw [Ne,zbS];exact h
  have e1:(slot a).ty=a.ty:=by unfold slot;split <;> rfl
  have e2:(slot b).ty=b.ty:=by unfold slot;split <;> rfl
  simp only [plc,scmp,e1,e2,if_pos hc]
  rw [if_pos h];rfl
theorem zeh (a b:At)(h:a.ty=b.ty):grd a b=gcmp (grade a) (grade b):=by
 have e0:∀ x,ci x x=0:=fun x=>(zbS x x).2 rfl
 have z0:∀ x,ordS x x=0:=fun x=>(zhS x x).2 rfl
 have s1:(a.n ≠ b.n) ↔ ci a.n b.n ≠ 0:=by rw [Ne,← zbS]
 have s2:(a.who ≠ b.who) ↔ ci a.who b.who ≠ 0:=by rw [Ne,← zbS]
 by_cases h5:a.ty=5
 ·have h5b:b.ty=5:=by omega
  simp only [grd,grade,gcmp,h5,h5b,s1,s2,if_true,ne_eq,not_true_eq_false,if_false]
  rfl
 ·have h5b:¬ b.ty=5:=by omega
  simp only [grd,grade,gcmp,if_neg h5b,e0,z0,s1,s2,ne_eq,not_true_eq_false,if_false,h5,not_false_eq_true,if_true]
  rfl
theorem zlK (a:At):(slot a).ty=a.ty:=by unfold slot;split <;> rfl
theorem zm8 (a:At)(h:mayB a=true):unite (slot a) (grade a)=a:=by
 obtain ⟨ty,key,side,who,elem,n⟩:=a
 simp only [mayB,decide_eq_true_eq] at h
 unfold unite
 rw [zlK]
 by_cases h5:ty=5
 ·have:side=0:=by omega
  simp [slot,grade,h5,this]
 ·simp [slot,grade,h5]
structure IsTold (l out:List At):Prop where
 sorted:out.Pairwise (fun x y=>plc x y<0)
 great:∀ x∈out,x∈l∧∀ y∈l,plc y x=0→grd y x≤0
 all:∀ y∈l,∃ x∈out,plc y x=0
theorem ziC:TP plc:=by
 have:plc=fun a b=>scmp (slot a) (slot b):=by funext a b;exact zix a b
 rw [this];exact zk3.comap slot
theorem ziF {a b:At}(h:plc a b=0):a.ty=b.ty:=by
 rw [zix,zk4] at h
 rw [← zlK a,← zlK b,h]
theorem zk1 {a b:At}(ha:mayB a=true)(hb:mayB b=true)(h:plc a b=0)(hg:grd a b=0):a=b:=by
 have ht:=ziF h
 rw [zix,zk4] at h
 rw [zeh a b ht,zd5] at hg
 rw [← zm8 a ha,← zm8 b hb,h,hg]
theorem zeg {a b:At}(h:a.ty=b.ty):grd b a = - grd a b:=by
 rw [zeh a b h,zeh b a h.symm];exact zd4.anti _ _
theorem zlQ {c:At→At→Int}(hc:TP c):∀ {l r:List At},l.Pairwise (fun x y=>c x y<0)→r.Pairwise (fun x y=>c x y<0)→(∀ x,x∈l ↔ x∈r)→l=r
 | [],[],_,_,_=>rfl
 | [],y :: r,_,_,h=>by have:=(h y).2 (by simp);simp at this
 | x :: l,[],_,_,h=>by have:=(h x).1 (by simp);simp at this
 | x :: l,y :: r,hl,hr,h=>by
  rw [List.pairwise_cons] at hl hr
  have hxy:x=y:=by
   have h1:x=y∨x∈r:=by simpa using (h x).1 (by simp)
   have h2:y=x∨y∈l:=by simpa using (h y).2 (by simp)
   rcases h1 with h1 | h1
   ·exact h1
   ·rcases h2 with h2 | h2
    ·exact h2.symm
    ·have a1:=hl.1 y h2
     have a2:=hr.1 x h1
     have:=hc.anti x y
     omega
  subst hxy
  congr 1
  refine zlQ hc hl.2 hr.2 fun z => ?_
  constructor
  ·intro hz
   have h1:z=x∨z∈r:=by simpa using (h z).1 (by simp [hz])
   rcases h1 with h1 | h1
   ·have:=hl.1 z hz;rw [h1,hc.refl] at this;omega
   ·exact h1
  ·intro hz
   have h1:z=x∨z∈l:=by simpa using (h z).2 (by simp [hz])
   rcases h1 with h1 | h1
   ·have:=hr.1 z hz;rw [h1,hc.refl] at this;omega
   ·exact h1
theorem IsTold.sub {l a b:List At}(hl:∀ x∈l,mayB x=true)(ha:IsTold l a)(hb:IsTold l b):∀ x∈a,x∈b:=by
 intro x hx
 obtain ⟨hxl,hxm⟩:=ha.great x hx
 obtain ⟨y,hy,hxy⟩:=hb.all x hxl
 obtain ⟨hyl,hym⟩:=hb.great y hy
 have h1:=hym x hxl hxy
 have hyx:plc y x=0:=by rw [ziC.anti x y,hxy];rfl
 have h2:=hxm y hyl hyx
 rw [zeg (ziF hxy)] at h2
 rw [zk1 (hl x hxl) (hl y hyl) hxy (by omega)]
 exact hy
theorem IsTold.unique {l a b:List At}(hl:∀ x∈l,mayB x=true)(ha:IsTold l a)(hb:IsTold l b):a=b :=
 zlQ ziC ha.sorted hb.sorted fun x=>⟨ha.sub hl hb x,hb.sub hl ha x⟩
open Go.RowKit Go.Maps
set_option maxRecDepth 100000
theorem zfD:laidOutB Tryz.prog=true:=by kernel_rfl
theorem zm5:decide (2≤Tryz.prog.types.size)=true:=by kernel_rfl
theorem zm4:∃ d,Tryz.prog.types.size+1=d+2:=⟨Tryz.prog.types.size - 1,by have:=of_decide_eq_true zm5;omega⟩
theorem zfB:Tryz.prog.keyType 211=true:=by kernel_rfl
theorem zbG:Tryz.prog.cellsOf 211=5:=by kernel_rfl
theorem zbB:Tryz.prog.cellsOf 3=1:=by kernel_rfl
theorem zbI:Tryz.prog.cellsOf 9=1:=by kernel_rfl
theorem zlE:Keyed Tryz.prog 211 :=
 Keyed.of_law (deep_law_laid zfD (m:=4) (by omega) (of_decide_eq_true (by kernel_rfl)) (by kernel_rfl) (by kernel_rfl))
def Sl.val (s:Sl):Value := .agg #[.int .i64 s.ty,.string s.key,.int .i64 s.side,.int .i64 s.who,.string s.elem]
def Gr.val (g:Gr):Value := .agg #[.int .i64 g.n,.int .i64 g.who,.string g.elem]
def Sl.lit (s:Sl):Lit := .string (keyBytes [.int .i64 s.ty,.string s.key.data.toList,.int .i64 s.side,.int .i64 s.who,.string s.elem.data.toList])
def Sl.ok (s:Sl):Prop:=(Lit.int .i64 s.ty).wf=true∧s.key.size≤maxLen∧(Lit.int .i64 s.side).wf=true∧(Lit.int .i64 s.who).wf=true∧s.elem.size≤maxLen
theorem zfA (s:Sl)(h:s.ok):keyOf Tryz.prog 211 s.val=some s.lit:=by
 obtain ⟨h1,h2,h3,h4,h5⟩:=h
 unfold keyOf
 rw [Tryz.underlying211]
 have hf:s.val.formed Tryz.prog 211=true:=by simp [Sl.val,Value.formed,Tryz.underlying211,zbG]
 simp only [zfB,hf,Bool.and_self,if_true]
 obtain ⟨d,hd⟩:=zm4
 rw [hd]
 simp [Program.keyLits,Tryz.underlying211,zbG,Sl.val,Value.cells,zbB,zbI,Tryz.underlying3,Tryz.underlying9,h1,h2,h3,h4,h5,Sl.lit]
theorem zfn (d:Nat)(c:Value)(ls:List Lit)(h:Tryz.prog.keyLits (d+1) 3 [c]=some ls):∃ n,c = .int .i64 n:=by
 unfold Program.keyLits at h
 rw [Tryz.underlying3] at h
 cases c <;> simp at h
 obtain ⟨⟨rfl,_⟩,_⟩:=h
 exact ⟨_,rfl⟩
theorem zl3 (d:Nat)(c:Value)(ls:List Lit)(h:Tryz.prog.keyLits (d+1) 9 [c]=some ls):∃ s,c = .string s:=by
 unfold Program.keyLits at h
 rw [Tryz.underlying9] at h
 cases c <;> simp at h
 exact ⟨_,rfl⟩
theorem zlF (d:Nat)(c0 c1 c2 c3 c4:Value)(ls:List Lit)(h:Tryz.prog.keyLits (d+2) 211 [c0,c1,c2,c3,c4]=some ls):∃ s:Sl,Value.agg #[c0,c1,c2,c3,c4]=s.val:=by
 unfold Program.keyLits at h
 simp only [Tryz.underlying211,zbG] at h
 split at h
 ·simp only [List.mapM_cons,List.mapM_nil,Option.map_eq_some_iff,Option.bind_eq_bind,Option.bind_eq_some_iff,zbB,zbI,List.drop_zero,List.take_succ_cons,List.take_zero,List.drop_succ_cons,Option.pure_def] at h
  obtain ⟨xs,⟨x0,k0,y0,⟨x1,k1,y1,⟨x2,k2,y2,⟨x3,k3,y3,⟨x4,k4,_⟩,_⟩,_⟩,_⟩,_⟩,_⟩:=h
  obtain ⟨n0,rfl⟩:=zfn d c0 _ k0
  obtain ⟨n1,rfl⟩:=zl3 d c1 _ k1
  obtain ⟨n2,rfl⟩:=zfn d c2 _ k2
  obtain ⟨n3,rfl⟩:=zfn d c3 _ k3
  obtain ⟨n4,rfl⟩:=zl3 d c4 _ k4
  exact ⟨⟨n0,n1,n2,n3,n4⟩,rfl⟩
 ·cases h
theorem zlH (key:Value)(kl:Lit)(h:keyOf Tryz.prog 211 key=some kl):∃ s:Sl,key=s.val:=by
 unfold keyOf at h
 simp only [Tryz.underlying211,zfB,Bool.true_and] at h
 split at h
 ·rename_i hf
  cases key with
  | agg cs =>
   simp only [Value.formed,Tryz.underlying211,zbG,beq_iff_eq] at hf
   obtain ⟨d,hd⟩:=zm4
   rw [hd] at h
   obtain ⟨l⟩:=cs
   match l,hf with
   | [c0,c1,c2,c3,c4],_ =>
    rw [Option.map_eq_some_iff] at h
    obtain ⟨ls,hls,_⟩:=h
    exact zlF d c0 c1 c2 c3 c4 ls hls
  | _=>simp [Value.formed,Tryz.underlying211] at hf
 ·cases h
def Gr.dat (g:Gr):DataW Unit := .agg [.lit (.int .i64 g.n),.lit (.int .i64 g.who),.lit (.string g.elem.data.toList)]
def grElem (v:Value):Option (DataW Unit × List MemPlace) :=
 match v with
 | .agg cs=>match cs.toList with
  | [.int .i64 n,.int .i64 who,.string e]=>some (.agg [.lit (.int .i64 n),.lit (.int .i64 who),.lit (.string e.data.toList)],[])
  | _=>none
 | _=>none
theorem zed (g:Gr):grElem g.val=some (g.dat,[]):=rfl
theorem zec {v:Value}{z:DataW Unit × List MemPlace}(h:grElem v=some z):∃ g:Gr,v=g.val∧z=(g.dat,[]):=by
 unfold grElem at h
 split at h
 ·rename_i cs
  obtain ⟨l⟩:=cs
  split at h
  ·rename_i n who e hl
   simp only at hl
   subst hl
   cases h
   exact ⟨⟨n,who,e⟩,rfl,rfl⟩
  ·cases h
 ·cases h
theorem Gr.dat_inj {g h:Gr}(e:g.dat=h.dat):g=h:=by
 obtain ⟨n,w,x⟩:=g
 obtain ⟨n',w',x'⟩:=h
 simp only [Gr.dat,DataW.agg.injEq,List.cons.injEq,DataW.lit.injEq,Lit.int.injEq,Lit.string.injEq,and_true,true_and] at e
 obtain ⟨rfl,rfl,e⟩:=e
 have:x=x' := ByteArray.ext (Array.toList_inj.1 e)
 rw [this]
theorem znW (w:World):(zeroValue 213).run Tryz.prog w = .ok (Gr.val ⟨0,0,ByteArray.empty⟩) w:=by kernel_rfl
theorem Sl.val_inj {s t:Sl}(h:s.val=t.val):s=t:=by
 obtain ⟨a,b,c,d,e⟩:=s
 obtain ⟨a',b',c',d',e'⟩:=t
 simp [Sl.val] at h
 obtain ⟨rfl,rfl,rfl,rfl,rfl⟩:=h
 rfl
theorem Sl.lit_inj {s t:Sl}(hs:s.ok)(ht:t.ok)(h:s.lit=t.lit):s=t :=
 Sl.val_inj (zlE.inj (zfA s hs) (by rw [h];exact zfA t ht))
def StMap (w:World)(b n:Nat)(M:Sl→Option Gr):Prop :=
 ∃ D:DataW Unit,w.ownsMap Tryz.prog 211 grElem b n D∧(∀ s,s.ok→M s=none→Maps.has D s.lit=false) ∧
  (∀ s g,M s=some g→s.ok∧Maps.has D s.lit=true∧∀ z,D.atKey s.lit z=g.dat)
def upd (M:Sl→Option Gr)(s:Sl)(g:Gr):Sl→Option Gr:=fun t=>if scmp t s=0 then some g else M t
theorem zlW (w:World):StMap (w.alloc (.map #[] 0)) w.heap.size 0 (fun _=>none) :=
 ⟨.map [],World.ownsMap_made w _ _ _,fun s _ _=>rfl,fun s g h=>by cases h⟩
theorem StMap.kept {w w' : World}{b n:Nat}{M:Sl→Option Gr}{row:Option Nat}(h:StMap w b n M)(hg:w.grownBy w' row)(hne:some b ≠ row):StMap w' b n M:=by
 obtain ⟨D,h1,h2⟩:=h
 exact ⟨D,h1.kept hg hne,h2⟩
theorem StMap.lt {w:World}{b n:Nat}{M:Sl→Option Gr}(h:StMap w b n M):b<w.heap.size:=by
 obtain ⟨D,h1,_⟩:=h
 exact h1.lt
theorem znh {w' : World}{b n:Nat}{D:DataW Unit}{M:Sl→Option Gr}{s:Sl}{g:Gr}(hs:s.ok)(hm:Maps.IsMap D)
  (h2:∀ t,t.ok→M t=none→Maps.has D t.lit=false) (h3:∀ t g,M t=some g→t.ok∧Maps.has D t.lit=true∧∀ z,D.atKey t.lit z=g.dat)
  (h1:w'.ownsMap Tryz.prog 211 grElem b n (D.put s.lit g.dat)):StMap w' b n (upd M s g):=by
 have hkl:WideAt.IsKeyLit s.lit:=zlE.key (zfA s hs)
 refine ⟨_,h1,fun t ht hn => ?_,fun t g' hg' => ?_⟩
 ·unfold upd at hn
  split at hn
  ·cases hn
  ·rename_i hne
   have hl:t.lit ≠ s.lit:=fun e=>hne ((zk4 t s).2 (Sl.lit_inj ht hs e))
   rw [Maps.has_put_other hl]
   exact h2 t ht hn
 ·unfold upd at hg'
  split at hg'
  ·rename_i he
   obtain rfl:=(zk4 t s).1 he
   cases hg'
   exact ⟨hs,Maps.has_put_same hm hkl _,fun z=>Maps.atKey_put_same hm hkl _ z⟩
  ·rename_i hne
   obtain ⟨ht,hh,ha⟩:=h3 t g' hg'
   have hl:t.lit ≠ s.lit:=fun e=>hne ((zk4 t s).2 (Sl.lit_inj ht hs e))
   exact ⟨ht,by rw [Maps.has_put_other hl];exact hh,fun z=>by rw [Maps.atKey_put_other hl];exact ha z⟩
def got (M:Sl→Option Gr)(s:Sl):Gr:=(M s).getD ⟨0,0,ByteArray.empty⟩
section
variable (w:World) {ops:Array Oper} {rest:List Oper} {o:Oper} {a:Act} {Q:Exit→Act→World→Prop}
theorem znK (hg:o.guard=none)(m x:Operand)(t:TypeId)(hop:o.op=Op.lookup t m x true)(ht:Tryz.prog.underlying t=some (.map 211 213))(b n:Nat)(M:Sl→Option Gr)
  (hm:a.eval m = .map (some b)) (hown:StMap w b n M) (s:Sl) (hs:s.ok) (hx:a.eval x=s.val)
  (hK:wpList Tryz.prog ops Q rest (a.put o.dst (.tuple #[(got M s).val,.bool (M s).isSome])) w) :
  wpList Tryz.prog ops Q (o :: rest) a w:=by
 obtain ⟨D,h1,h2,h3⟩:=hown
 refine wpList_lookup_own_ok w hg m x t hop 211 213 zlE ht grElem (znW w) (Gr.dat ⟨0,0,ByteArray.empty⟩) [] (zed _) b n D hm h1 s.val s.lit hx (zfA s hs) ?_
 intro v ps hv
 obtain ⟨g,rfl,hz⟩:=zec hv
 simp only [Prod.mk.injEq] at hz
 cases hM:M s with
 | none =>
  have hh:=h2 s hs hM
  rw [hh]
  rw [Maps.atKey_of_not_has hh] at hz
  have:g=got M s:=by unfold got;rw [hM];exact (Gr.dat_inj hz.1).symm
  rw [this]
  rw [hM] at hK
  exact hK
 | some g' =>
  obtain ⟨_,hh,ha⟩:=h3 s g' hM
  rw [hh]
  rw [ha] at hz
  have:g=got M s:=by unfold got;rw [hM];exact (Gr.dat_inj hz.1).symm
  rw [this]
  rw [hM] at hK
  exact hK
theorem znM (hg:o.guard=none)(m x v:Operand)(t:TypeId)(hop:o.op=Op.mapUpdate t m x v)(ht:Tryz.prog.underlying t=some (.map 211 213))(b n:Nat)(M:Sl→Option Gr)
  (hm:a.eval m = .map (some b)) (hown:StMap w b n M) (hn:n<maxLen) (s:Sl) (g:Gr) (hs:s.ok) (hx:a.eval x=s.val) (hv:a.eval v=g.val)
  (hK:∀ w',StMap w' b (n+1) (upd M s g)→w.grownBy w' (some b)→wpList Tryz.prog ops Q rest (a.put o.dst undef) w') :
  wpList Tryz.prog ops Q (o :: rest) a w:=by
 obtain ⟨D,h1,h2,h3⟩:=hown
 refine wpList_mapUpdate_own w hg m x v t hop 211 213 zlE ht grElem b n D hm h1 hn s.val g.val s.lit hx hv (zfA s hs) g.dat [] (zed g) ?_
 intro w' r1 r2
 exact hK w' (znh hs h1.isMap h2 h3 r1) r2
end
theorem zaP {w w' : World}(h:Below w.heap.size w w')(row:Option Nat):w.grownBy w' row:=⟨h.os,h.tape,h.output,h.size,fun i hi _=>h.block i hi⟩
theorem zev {a b c:World}{row:Option Nat}(h:a.grownBy b row)(k:b.grownBy c row):a.grownBy c row :=
 ⟨k.os.trans h.os,k.tape.trans h.tape,k.output.trans h.output,Nat.le_trans h.size k.size,fun i hi hne=>(k.block i (Nat.lt_of_lt_of_le hi h.size) hne).trans (h.block i hi hne)⟩
theorem StMap.below {w w' : World}{b n:Nat}{M:Sl→Option Gr}(h:StMap w b n M)(hb:Below w.heap.size w w'):StMap w' b n M:=h.kept (zaP hb none) (by simp)
theorem StMap.ne_cell {w:World}{b n:Nat}{M:Sl→Option Gr}(h:StMap w b n M){b' o:Nat}{v:Value}(hc:w.cell? ⟨b',o,none⟩=some v):b' ≠ b:=by
 rintro rfl
 obtain ⟨D,⟨es,clock,hb,_⟩,_⟩:=h
 simp [World.cell?,hb] at hc
def addA (M:Sl→Option Gr)(a:At):Sl→Option Gr:=upd M (slot a) (match M (slot a) with | none=>grade a | some g=>if gcmp g (grade a)<0 then grade a else g)
def addTo (M:Sl→Option Gr)(l:List At):Sl→Option Gr:=l.foldl addA M
theorem zam (M:Sl→Option Gr)(l:List At)(k:Nat)(h:k<l.length):addTo M (l.take (k+1))=addA (addTo M (l.take k)) l[k]:=by
 unfold addTo
 rw [List.take_succ_eq_append_getElem h,List.foldl_append]
 rfl
theorem znr {n:Int}(h1 : -4294967296≤n)(h2:n≤4294967296):(Lit.int .i64 n).wf=true:=by
 simp [Lit.wf,IntKind.min,IntKind.max,IntKind.bits,IntKind.signed];omega
theorem zlI {a:At}(h:fits a):(slot a).ok:=by
 obtain ⟨a1,a2,a3,a4,a5,a6,a7,a8,a9,a10⟩:=h
 unfold slot Sl.ok maxLen
 split
 ·dsimp only
  exact ⟨znr a1 a2,by omega,by decide,by decide,by simp⟩
 ·dsimp only
  exact ⟨znr a1 a2,by omega,znr a3 a4,znr a5 a6,by omega⟩
def zAt:At:=⟨0,ByteArray.empty,0,0,ByteArray.empty,0⟩
def nth (l:List At)(k:Nat):At:=l.getD k zAt
theorem zg5 (l:List At)(k:Nat)(h:k<l.length):nth l k=l[k]:=by simp [nth,h]
theorem zg6 (l:List At)(k:Nat)(h:k<l.length):nth l k∈l:=by rw [zg5 l k h];exact List.getElem_mem h
theorem RowAt.nth {w:World}{b off:Nat}{l:List At}(hr:RowAt w b off l){k:Nat}(h:k<l.length):cellsAt w b (off+k*6) (nth l k):=by
 rw [zg5 l k h];exact hr k h
def SliceOf (w:World)(v:Value)(l:List At):Prop :=
 ∃ ad cap,v = .slice ad l.length cap∧l.length≤cap∧(0<l.length→∃ b off,ad=some ⟨b,off,none⟩∧b<w.heap.size∧RowAt w b off l)
def bad (x y:At)(ahead:Bool):Bool:=plc x y == 0 && (decide (0<grd x y) || (grd x y == 0 && ahead))
def cntTo (l:List At)(i k:Nat):Bool:=(List.range k).all fun j => !bad (nth l j) (nth l i) (decide (j<i))
theorem zb3 (l:List At)(i k:Nat):cntTo l i (k+1)=(cntTo l i k && !bad (nth l k) (nth l i) (decide (k<i))):=by
 simp [cntTo,List.range_succ]
theorem zb2 (l:List At)(i k n:Nat)(h:k<n)(hb:bad (nth l k) (nth l i) (decide (k<i))=true):cntTo l i n=false:=by
 unfold cntTo
 rw [List.all_eq_false]
 exact ⟨k,List.mem_range.2 h,by simp [hb]⟩
theorem zaG {W w1:World}(hb:Below W.heap.size W w1):(∀ b o,b<W.heap.size→w1.cell? ⟨b,o,none⟩=W.cell? ⟨b,o,none⟩)∧(∀ b o,b<W.heap.size→w1.frozen? ⟨b,o,none⟩=W.frozen? ⟨b,o,none⟩) :=
 ⟨fun b o h=>hb.cell (p:=⟨b,o,none⟩) h,fun b o h=>hb.frozen (p:=⟨b,o,none⟩) h⟩
theorem zdx (l:List At)(k j:Nat)(h:k<l.length)(hj:j<6):(flat l)[k*6+j]? = (enc l[k])[j]? := by
 induction l generalizing k with
 | nil=>simp at h
 | cons a l ih =>
  have hl:(enc a).length=6:=rfl
  cases k with
  | zero=>simp [flat,List.getElem?_append_left (by rw [hl];omega:j<(enc a).length)]
  | succ k =>
   have:=ih k (by simpa using h)
   simp only [flat,List.flatMap_cons,List.getElem_cons_succ]
   rw [List.getElem?_append_right (by rw [hl];omega),hl,show (k+1)*6+j - 6=k*6+j by omega]
   exact this
theorem zdy (l:List At):(flat l).length=l.length*6:=by
 induction l with
 | nil=>rfl
 | cons a l ih=>simp only [flat,List.flatMap_cons,List.length_append,List.length_cons];rw [show (List.flatMap enc l)=flat l from rfl,ih,show (enc a).length=6 from rfl];omega
theorem zdB (l:List At)(a:At):flat (l ++ [a])=flat l ++ enc a:=by simp [flat]
theorem zcS (a:At):∀ u∈enc a,u.oneCell' = true:=by
 intro u hu
 simp only [enc,List.mem_cons,List.not_mem_nil,or_false] at hu
 rcases hu with rfl | rfl | rfl | rfl | rfl | rfl <;> rfl
theorem zkP {w:World}{g:Nat}{cur:Array Value}{e:TypeId}{fz:Nat × Nat}{l:List At}(hb:w.heap[g]? = some (.cells cur e fz))(h:cur.toList.take (l.length*6)=flat l):RowAt w g 0 l:=by
 intro k hk
 have hc:∀ j,j<6→w.cell? ⟨g,0+k*6+j,none⟩=(enc l[k])[j]? := by
  intro j hj
  have h1:w.cell? ⟨g,0+k*6+j,none⟩=cur[0+k*6+j]? := by simp [World.cell?,hb]
  rw [h1,← zdx l k j hk hj,← h,List.getElem?_take,if_pos (by omega),Nat.zero_add]
  simp
 exact ⟨by have:=hc 0 (by omega);simpa [enc] using this,by have:=hc 1 (by omega);simpa [enc] using this,by have:=hc 2 (by omega);simpa [enc] using this,by have:=hc 3 (by omega);simpa [enc] using this,by have:=hc 4 (by omega);simpa [enc] using this,by have:=hc 5 (by omega);simpa [enc] using this⟩
theorem zlC (w:World):SliceOf w (.slice none 0 0) []:=⟨none,0,rfl,Nat.le_refl _,fun h=>by simp at h⟩
theorem zlD {w:World}{base:Nat}{e:TypeId}{v:Value}{l:List At}{n:Nat}(hn:n=l.length)(h:w.ownsRow base e 6 v n (flat l)):SliceOf w v l:=by
 subst hn
 obtain ⟨_,h⟩:=h
 rcases h with ⟨rfl,h0⟩ | ⟨g,cap,cur,rfl,hg,hb,h1,h2,h3,h4⟩
 ·obtain rfl:=List.length_eq_zero_iff.1 h0
  exact zlC w
 ·exact ⟨_,cap,rfl,h1,fun _=>⟨g,0,rfl,(Array.getElem?_eq_some_iff.1 hb).1,zkP hb h4⟩⟩
theorem SliceOf.below {w w' : World}{v:Value}{l:List At}(h:SliceOf w v l)(hb:Below w.heap.size w w'):SliceOf w' v l:=by
 obtain ⟨ad,cap,rfl,hcap,h⟩:=h
 refine ⟨ad,cap,rfl,hcap,fun h0 => ?_⟩
 obtain ⟨b,off,rfl,hlt,hrow⟩:=h h0
 exact ⟨b,off,rfl,Nat.lt_of_lt_of_le hlt hb.size,hrow.below hb hlt⟩
theorem zgZ (w:World)(x:At)(e:TypeId):∀ j u,(enc x)[j]? = some u→(w.alloc (.cells #[.int .i64 x.ty,.string x.key,.int .i64 x.side,.int .i64 x.who,.string x.elem,.int .i64 x.n] e)).cell? ((⟨w.heap.size,0,none⟩:Addr).add j)=some u :=
 fun j u hu=>World.news_of_block (heap_alloc_new w _) j u hu
theorem zh4 {w:World}{base:Nat}{e:TypeId}{s n:Nat}{v:Value}{xs:List Value}(h:w.ownsRow base e s v n xs):∀ q,v.ownBlock=some q→base≤q:=by
 intro q hq
 obtain ⟨_,h⟩:=h
 rcases h with ⟨rfl,_⟩ | ⟨g,cap,cur,rfl,hg,_⟩
 ·simp [Value.ownBlock] at hq
 ·simp [Value.ownBlock] at hq;omega
theorem zh5 {w w' : World}{base:Nat}{e:TypeId}{s n:Nat}{v:Value}{xs:List Value}(h:w.ownsRow base e s v n xs)(hb:Below w.heap.size w w'):w'.ownsRow base e s v n xs:=by
 obtain ⟨h0,h⟩:=h
 refine ⟨h0,?_⟩
 rcases h with h | ⟨g,cap,cur,hv,hg,hh,r⟩
 ·exact .inl h
 ·exact .inr ⟨g,cap,cur,hv,hg,by rw [hb.block g (Array.getElem?_eq_some_iff.1 hh).1];exact hh,r⟩
def lenOf:Value→Nat | .slice _ n _=>n | _=>0
theorem zic {w:World}{base base' : Nat}{e:TypeId}{s n:Nat}{v:Value}{xs:List Value}(h:w.ownsRow base e s v n xs)(hb:base' ≤ base):w.ownsRow base' e s v n xs:=by
 obtain ⟨h0,h⟩:=h
 refine ⟨h0,?_⟩
 rcases h with h | ⟨g,cap,cur,hv,hg,hh,r⟩
 ·exact .inl h
 ·exact .inr ⟨g,cap,cur,hv,Nat.le_trans hb hg,hh,r⟩
theorem zaO {w w1:World}(h:Below w.heap.size w w1)(o:Obj):Below w.heap.size w (w1.alloc o):=h.alloc h.size o
theorem zfr (s:ByteArray):s.toList.isEmpty=true ↔ s.size=0:=by
 rw [← decide_eq_emptyBytes,decide_eq_true_eq]
 simp
theorem zfs (s:ByteArray):s.toList.isEmpty=false ↔ ¬ s.size=0:=by
 rw [← zfr];simp
theorem zaa (a:At)(w:World)(ha:short a) :
  Calls Tryz.prog 219 #[a.val] w fun e w' => e = .returned (.bool (mayB a))∧Below w.heap.size w w' := by
 obtain ⟨ty,key,side,who,elem,n⟩:=a
 simp only [short] at ha
 obtain ⟨hk,he⟩:=ha
 unfold At.val
 simp only
 go_enter Tryz.func219,Tryz.ntmps219
 go_wp2
 all_goals
  go_ret
  refine ⟨zkL ?_,by repeat (first | exact Below.refl _ _ | refine below_drewN ?_ _ | refine Below.alloc ?_ (by simp) _)⟩
 all_goals go_light
 all_goals rw [Bool.eq_iff_iff]
 all_goals simp only [mayB,decide_eq_true_eq,beq_iff_eq,beq_eq_false_iff_ne,ne_eq,Bool.false_eq_true,zfr,false_iff] at *
 all_goals first | omega | (simp_all;try omega;done)
end Go.Proofs.YtahdlejgjcjeoabGreatDoor
