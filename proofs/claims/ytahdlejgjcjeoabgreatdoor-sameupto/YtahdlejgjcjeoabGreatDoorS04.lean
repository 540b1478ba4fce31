/- A store of an atom into a row of the call's own. -/
import Derived.Test.YtahdlejgjcjeoabGreatDoorS03
import Derived.Test.YtahdlejgjcjeoabGreatDoorProg
import Derived.Conc.MuLone
import Derived.KernelRfl
import Derived.Test.YtahdlejgjcjeoabGreatDoorS01
import Derived.Deep.Light
import Derived.Laws.CopyOwn
import Derived.Deep.RegionHeld3
import Derived.Shelf.SlSortFuncK.RowK2
namespace Go.Proofs.YtahdlejgjcjeoabGreatDoor

theorem told_self {d : List At} (h : d.Pairwise (fun x y => plc x y < 0)) : IsTold d d where
  sorted := h
  great x hx := ⟨hx, fun y hy hp => by
    by_cases e : y = x
    · subst e
      have := grd_anti (a := y) (b := y) rfl
      omega
    · exact absurd hp (by
        obtain ⟨i, hi, rfl⟩ := List.getElem_of_mem hy
        obtain ⟨j, hj, rfl⟩ := List.getElem_of_mem hx
        rw [List.pairwise_iff_getElem] at h
        by_cases hij : i < j
        · have := h i j hi hj hij; omega
        · by_cases hji : j < i
          · have := h j i hj hi hji
            have := plc_tp.anti d[i] d[j]
            omega
          · exact absurd (by congr 1; omega) e)⟩
  all y hy := ⟨y, hy, plc_tp.refl y⟩
theorem ToldMay.filter {d : List At} (h : ToldMay d) (q : At → Bool) : ToldMay (d.filter q) :=
  ⟨told_self (h.1.sorted.filter q), fun a ha => h.2 a (List.mem_filter.1 ha).1⟩
theorem ToldMay.length {d U : List At} (h : ToldMay d) (hs : ∀ a ∈ d, a ∈ U) : d.length ≤ U.length := length_le_of_sub (sorted_ne h.1.sorted) hs
theorem tell_sub {l U : List At} (h : ∀ a ∈ l, a ∈ U) : ∀ a ∈ tell l, a ∈ U := fun a ha => h a ((tell_told l).great a ha).1
theorem toldMay_nil : ToldMay [] := ⟨told_self .nil, fun a ha => by cases ha⟩
theorem fresh_told {d m : List At} (h : ToldMay d) : ToldMay (fresh d m) := by unfold fresh; rw [h.tell]; exact h.filter _
theorem fresh_sub {d m : List At} (h : ToldMay d) : ∀ a ∈ fresh d m, a ∈ d := fun a ha => by unfold fresh at ha; rw [h.tell] at ha; exact (List.mem_filter.1 ha).1

structure Rep.ok (U : List At) (N n room : Nat) (p : Rep) : Prop where
  sub : ∀ a ∈ p.atoms, a ∈ U
  alen : p.atoms.length ≤ (N + 1) * U.length
  num : p.num ≤ N
  base : p.base ≤ p.num
  buf : ∀ e ∈ p.buf, ToldMay e.d ∧ (∀ a ∈ e.d, a ∈ U) ∧ e.num ≤ p.num ∧ p.base < e.num ∧ e.org < n
  bufS : p.buf.Pairwise fun a b => a.num < b.num
  bufL : p.buf.length ≤ room
  ackL : p.acked.length = n
  ack : ∀ k ∈ p.acked, k ≤ p.num
  up : p.down = false → p.num = lastNum p.log
  log : ∀ r ∈ p.log, ToldMay r.d ∧ (∀ a ∈ r.d, a ∈ U) ∧ r.num ≤ N ∧ (r.kind = 1 ∨ r.kind = 2)
  logL : p.log.length ≤ N + 1
  fr : p.frames ≤ N
  wt : p.weight ≤ N * U.length
  torn : p.torn = [] ∨ p.down = true ∧ ∃ r k, ToldMay r.d ∧ (∀ a ∈ r.d, a ∈ U) ∧ r.num ≤ N ∧ (r.kind = 1 ∨ r.kind = 2) ∧ k < (recBytes r).length ∧ p.torn = (recBytes r).take k
  dn : p.down = true → p.atoms = [] ∧ p.num = 0 ∧ p.base = 0 ∧ p.buf = [] ∧ p.acked = List.replicate n 0

structure Frm.ok (U : List At) (N n : Nat) (f : Frm) : Prop where
  told : ToldMay f.d
  sub : ∀ a ∈ f.d, a ∈ U
  upto : f.upto ≤ N
  src : f.src < n
  dst : f.dst < n
  kind : f.kind = 1 ∨ f.kind = 2 ∨ f.kind = 3
/-- Whose Number a frame tells. -/
def Frm.whose (f : Frm) : Nat := if f.kind = 3 then f.dst else f.src

structure Clu.ok (U : List At) (N : Nat) (c : Clu) : Prop where
  n1 : 1 ≤ c.reps.length
  n6 : c.reps.length ≤ 6
  room1 : 1 ≤ c.room
  room8 : c.room ≤ 8
  may : ∀ a ∈ U, mayB a = true
  reps : ∀ p ∈ c.reps, p.ok U N c.reps.length c.room
  net : ∀ f ∈ c.net, f.ok U N c.reps.length
  netT : ∀ f ∈ c.net, f.upto ≤ lastNum (c.rep f.whose).log
  netL : c.net.length ≤ 200

theorem Rep.ok.mono {U U' : List At} {N N' n room : Nat} {p : Rep} (h : p.ok U N n room) (hU : ∀ a ∈ U, a ∈ U') (hL : U.length ≤ U'.length) (hN : N ≤ N') : p.ok U' N' n room where
  sub a ha := hU a (h.sub a ha)
  alen := Nat.le_trans h.alen (Nat.mul_le_mul (by omega) hL)
  num := Nat.le_trans h.num hN
  base := h.base
  buf e he := ⟨(h.buf e he).1, fun a ha => hU a ((h.buf e he).2.1 a ha), (h.buf e he).2.2⟩
  bufS := h.bufS
  bufL := h.bufL
  ackL := h.ackL
  ack := h.ack
  up := h.up
  log r hr := ⟨(h.log r hr).1, fun a ha => hU a ((h.log r hr).2.1 a ha), Nat.le_trans (h.log r hr).2.2.1 hN, (h.log r hr).2.2.2⟩
  logL := Nat.le_trans h.logL (by omega)
  fr := Nat.le_trans h.fr hN
  wt := Nat.le_trans h.wt (Nat.mul_le_mul hN hL)
  torn := by
    rcases h.torn with e | ⟨e, r, k, h1, h2, h3, h4, h5, h6⟩
    · exact .inl e
    · exact .inr ⟨e, r, k, h1, fun a ha => hU a (h2 a ha), Nat.le_trans h3 hN, h4, h5, h6⟩
  dn := h.dn
theorem Frm.ok.mono {U U' : List At} {N N' n : Nat} {f : Frm} (h : f.ok U N n) (hU : ∀ a ∈ U, a ∈ U') (hN : N ≤ N') : f.ok U' N' n :=
  ⟨h.told, fun a ha => hU a (h.sub a ha), Nat.le_trans h.upto hN, h.src, h.dst, h.kind⟩

theorem Rep.ok.tornUp {U : List At} {N n room : Nat} {p : Rep} (h : p.ok U N n room) (hu : p.down = false) : p.torn = [] := by
  rcases h.torn with e | ⟨e, _⟩
  · exact e
  · rw [hu] at e; cases e

theorem mul_succ_le (N u d : Nat) (h : d ≤ u) : (N + 1) * u + d ≤ (N + 1 + 1) * u := by
  rw [Nat.add_mul (N + 1) 1 u]; omega

theorem Rep.ok.drop {U : List At} {N n room : Nat} {p : Rep} (h : p.ok U N n room) (m : Nat) (hm : m ≤ p.num) (hu : p.down = false) : (p.drop m).ok U N n room :=
  { h with
    base := by show max p.base m ≤ p.num; have := h.base; omega
    buf := fun e he => by
      have hf := List.mem_filter.1 he
      have := h.buf e hf.1
      have hlt : m < e.num := by simpa using hf.2
      exact ⟨this.1, this.2.1, this.2.2.1, by show max p.base m < e.num; omega, this.2.2.2.2⟩
    bufS := h.bufS.filter _
    bufL := Nat.le_trans (List.length_filter_le _ _) h.bufL
    dn := fun hd => by
      have : p.down = true := hd
      rw [hu] at this
      cases this }

theorem filter_tail {l : List Ent} (h : l.Pairwise fun a b => a.num < b.num) (e : Ent) (r : List Ent) (hl : l = e :: r) : l.filter (fun x => decide (e.num < x.num)) = r := by
  subst hl
  rw [List.pairwise_cons] at h
  rw [List.filter_cons, if_neg (by simp), List.filter_eq_self]
  intro a ha
  simpa using h.1 a ha

theorem Rep.ok.bufS' {U : List At} {N n room : Nat} {p : Rep} (h : p.ok U N n room) (d : List At) (org : Nat) : (p.buf ++ [(⟨p.num + 1, org, d⟩ : Ent)]).Pairwise fun a b : Ent => a.num < b.num := by
  rw [List.pairwise_append]
  refine ⟨h.bufS, by simp, fun a ha b hb => ?_⟩
  obtain rfl := List.mem_singleton.1 hb
  have := (h.buf a ha).2.2.1
  show a.num < p.num + 1
  omega
/-- Where a delta is taken in and there are too many entries then, just the first one goes. -/
theorem Rep.ok.take_eq {U : List At} {N n room : Nat} {p : Rep} (h : p.ok U N n room) (d : List At) (org : Nat) (hr : 1 ≤ room) :
    p.take room d org = if room < p.buf.length + 1 then { p.take1 d org with buf := (p.buf ++ [(⟨p.num + 1, org, d⟩ : Ent)]).tail, base := (p.buf.head?.map (·.num)).getD 0 } else p.take1 d org := by
  unfold Rep.take
  split
  · rename_i hlt
    match hbf : p.buf with
    | [] => rw [hbf] at hlt; simp at hlt; omega
    | e :: r =>
      have hs := h.bufS' d org
      have ht := filter_tail hs e (r ++ [(⟨p.num + 1, org, d⟩ : Ent)]) (by rw [hbf]; rfl)
      have hbe := (h.buf e (by rw [hbf]; simp)).2.2.2.1
      have hm : (p.buf.head?.map (·.num)).getD (p.num + 1) = e.num := by rw [hbf]; rfl
      have hm0 : ((e :: r).head?.map (·.num)).getD 0 = e.num := rfl
      have e1 : (p.take1 d org).drop e.num = { p.take1 d org with buf := r ++ [(⟨p.num + 1, org, d⟩ : Ent)], base := e.num } := by
        unfold Rep.drop
        have hx : (p.take1 d org).buf = p.buf ++ [(⟨p.num + 1, org, d⟩ : Ent)] := rfl
        have hy : (p.take1 d org).base = p.base := rfl
        rw [hx, ht, hy, Nat.max_eq_right (Nat.le_of_lt hbe)]
      rw [hbf] at hm
      rw [hm, e1, hm0]
      rfl
  · rfl

theorem Rep.ok.take {U : List At} {N n room : Nat} {p : Rep} (h : p.ok U N n room) (hu : p.down = false) {d : List At} {org : Nat} (hd : ToldMay d) (hs : ∀ a ∈ d, a ∈ U) (ho : org < n) (hr : 1 ≤ room) : (p.take room d org).ok U (N + 1) n room := by
  have hB : ∀ e ∈ p.buf ++ [(⟨p.num + 1, org, d⟩ : Ent)], ToldMay e.d ∧ (∀ a ∈ e.d, a ∈ U) ∧ e.num ≤ p.num + 1 ∧ p.base < e.num ∧ e.org < n := by
    intro e he
    rcases List.mem_append.1 he with he | he
    · have := h.buf e he
      exact ⟨this.1, this.2.1, by omega, this.2.2.2⟩
    · obtain rfl := List.mem_singleton.1 he
      have := h.base
      exact ⟨hd, hs, Nat.le_refl _, by show p.base < p.num + 1; omega, ho⟩
  have hS := h.bufS' d org
  have hnum := h.num
  have hbase := h.base
  have key : ∀ (b : List Ent) (m : Nat), m ≤ p.num + 1 → (∀ e ∈ b, e ∈ p.buf ++ [(⟨p.num + 1, org, d⟩ : Ent)] ∧ m < e.num) → b.Pairwise (fun a b : Ent => a.num < b.num) → b.length ≤ room → ({ p.take1 d org with buf := b, base := m } : Rep).ok U (N + 1) n room := by
    intro b m hm hb hbs hbl
    refine ⟨fun a ha => ?_, ?_, ?_, hm, fun e he => ?_, hbs, hbl, h.ackL, fun k hk => ?_, fun _ => ?_, fun r hr => ?_, ?_, ?_, ?_, .inl (h.tornUp hu), fun hd' => ?_⟩
    · rcases List.mem_append.1 ha with ha | ha
      · exact h.sub a ha
      · exact hs a ha
    · show (p.atoms ++ d).length ≤ _
      rw [List.length_append]
      have := mul_succ_le N U.length d.length (hd.length hs)
      have := h.alen
      omega
    · show p.num + 1 ≤ _
      omega
    · have h1 := hB e (hb e he).1
      exact ⟨h1.1, h1.2.1, h1.2.2.1, (hb e he).2, h1.2.2.2.2⟩
    · have := h.ack k hk
      show k ≤ p.num + 1
      omega
    · show p.num + 1 = lastNum (p.log ++ [_])
      simp [lastNum]
    · rcases List.mem_append.1 hr with hr | hr
      · have := h.log r hr
        exact ⟨this.1, this.2.1, by omega, this.2.2.2⟩
      · obtain rfl := List.mem_singleton.1 hr
        exact ⟨hd, hs, by show p.num + 1 ≤ _; omega, .inl rfl⟩
    · show (p.log ++ [_]).length ≤ _
      rw [List.length_append]
      have := h.logL
      simp
      omega
    · have := h.fr
      show p.frames ≤ _
      omega
    · exact Nat.le_trans h.wt (Nat.mul_le_mul (by omega) (Nat.le_refl _))
    · have : p.down = true := hd'
      rw [hu] at this
      cases this
  rw [h.take_eq d org hr]
  have hbl := h.bufL
  split
  · rename_i hlt
    match hbf : p.buf with
    | [] => rw [hbf] at hlt; simp at hlt; omega
    | e :: r =>
      rw [hbf] at hS hbl
      have hee := h.buf e (by rw [hbf]; simp)
      refine key _ _ ?_ (fun x hx => ?_) ?_ ?_
      · simp; omega
      · simp only [List.cons_append, List.tail_cons] at hx
        refine ⟨by rw [hbf]; exact List.mem_cons_of_mem _ hx, ?_⟩
        simp only [List.cons_append, List.pairwise_cons] at hS
        simpa using hS.1 x hx
      · simp only [List.cons_append, List.tail_cons]
        simp only [List.cons_append, List.pairwise_cons] at hS
        exact hS.2
      · simp only [List.cons_append, List.tail_cons, List.length_append]
        simp at hbl ⊢
        omega
  · rename_i hlt
    exact key _ _ (by omega) (fun e he => ⟨he, (hB e he).2.2.2.1⟩) hS (by rw [List.length_append]; simp; omega)

/-- Down. -/
theorem Rep.ok.fall {U : List At} {N n room : Nat} {p : Rep} (h : p.ok U N n room) : p.fall.ok U N n room :=
  { h with
    sub := fun a ha => by cases ha
    alen := by show ([] : List At).length ≤ _; simp
    num := Nat.zero_le _
    base := Nat.le_refl _
    buf := fun e he => by cases he
    bufS := .nil
    bufL := Nat.zero_le _
    ackL := by show (List.replicate _ _).length = n; simp [h.ackL]
    ack := fun k hk => by
      have : k = 0 := List.eq_of_mem_replicate hk
      omega
    up := fun e => by cases e
    torn := by
      rcases h.torn with e | ⟨_, e⟩
      · exact .inl e
      · exact .inr ⟨rfl, e⟩
    dn := fun _ => ⟨rfl, rfl, rfl, rfl, by show List.replicate p.acked.length 0 = _; rw [h.ackL]⟩ }
theorem Rep.ok.tear {U : List At} {N n room : Nat} {p : Rep} (h : p.ok U N n room) (_hu : p.down = false) {d : List At} (hd : ToldMay d) (hs : ∀ a ∈ d, a ∈ U) (keep : Int) : (p.tear d keep).fall.ok U (N + 1) n room := by
  have hnum := h.num
  unfold Rep.tear
  split
  · rename_i hk
    refine { (h.mono (fun _ h => h) (Nat.le_refl _) (Nat.le_succ N)).fall with torn := ?_ }
    refine .inr ⟨rfl, ⟨1, p.num + 1, d⟩, keep.toNat, hd, hs, by show p.num + 1 ≤ _; omega, .inl rfl, ?_, rfl⟩
    have : 0 < (recBytes ⟨1, p.num + 1, d⟩).length := by rw [recBytes_length]; omega
    omega
  · refine { (h.mono (fun _ h => h) (Nat.le_refl _) (Nat.le_succ N)).fall with up := fun e => (by cases e), log := fun r hr => ?_, logL := ?_ }
    · rcases List.mem_append.1 hr with hr | hr
      · have := h.log r hr
        exact ⟨this.1, this.2.1, by omega, this.2.2.2⟩
      · obtain rfl := List.mem_singleton.1 hr
        exact ⟨hd, hs, by show p.num + 1 ≤ _; omega, .inl rfl⟩
    · show (p.log ++ [_]).length ≤ _
      rw [List.length_append]
      have := h.logL
      simp
      omega
theorem lastNum_le {l : List Rec} {N : Nat} (h : ∀ r ∈ l, r.num ≤ N) : lastNum l ≤ N := by
  unfold lastNum
  cases hl : l.getLast? with
  | none => simp
  | some r => simpa using h r (List.mem_of_getLast? hl)
theorem flatten_le {l : List Rec} {u : Nat} (h : ∀ r ∈ l, r.d.length ≤ u) : ((l.map (·.d)).flatten).length ≤ l.length * u := by
  induction l with
  | nil => simp
  | cons r l ih =>
    have h1 := h r (by simp)
    have h2 := ih fun x hx => h x (by simp [hx])
    simp only [List.map_cons, List.flatten_cons, List.length_append, List.length_cons]
    rw [Nat.add_mul]
    omega
theorem Rep.ok.rise {U : List At} {N n room : Nat} {p : Rep} (h : p.ok U N n room) (hu : p.down = true) : p.rise.ok U N n room := by
  obtain ⟨d1, d2, d3, d4, d5⟩ := h.dn hu
  refine { h with sub := fun a ha => ?_, alen := ?_, num := ?_, base := Nat.le_refl _, buf := fun e he => ?_, ack := fun k hk => ?_, up := fun _ => rfl, torn := .inl rfl, dn := fun e => ?_ }
  · rcases List.mem_append.1 ha with ha | ha
    · exact h.sub a ha
    · obtain ⟨l, hl, ha⟩ := List.mem_flatten.1 ha
      obtain ⟨r, hr, rfl⟩ := List.mem_map.1 hl
      exact (h.log r hr).2.1 a ha
  · show (p.atoms ++ _).length ≤ _
    rw [d1, List.nil_append]
    refine Nat.le_trans (flatten_le fun r hr => (h.log r hr).1.length (h.log r hr).2.1) (Nat.mul_le_mul h.logL (Nat.le_refl _))
  · exact lastNum_le fun r hr => (h.log r hr).2.2.1
  · have he' : e ∈ p.buf := he
    rw [d4] at he'
    cases he'
  · have hk' : k ∈ p.acked := hk
    rw [d5] at hk'
    have : k = 0 := List.eq_of_mem_replicate hk'
    omega
  · cases e
theorem Rep.ok.compact {U : List At} {N n room : Nat} {p : Rep} (h : p.ok U N n room) (hU : ∀ a ∈ U, mayB a = true) : p.compact.ok U N n room :=
  { h with
    up := fun _ => rfl
    log := fun r hr => by
      obtain rfl := List.mem_singleton.1 hr
      exact ⟨toldMay_tell fun a ha => hU a (h.sub a ha), tell_sub h.sub, h.num, .inr rfl⟩
    logL := by show ([_] : List Rec).length ≤ _; simp }

theorem least_le (near : Nat → Bool) (acked : List Nat) (m : Nat) : leastAcked near acked m ≤ m := by
  unfold leastAcked
  generalize List.range acked.length = l
  induction l generalizing m with
  | nil => exact Nat.le_refl _
  | cons q l ih =>
    rw [List.foldl_cons]
    refine Nat.le_trans (ih _) ?_
    split
    · rename_i hq
      simp only [Bool.and_eq_true, decide_eq_true_eq] at hq
      omega
    · exact Nat.le_refl _

theorem Rep.ok.acks {U : List At} {N n room : Nat} {p : Rep} (h : p.ok U N n room) (hu : p.down = false) (near : Nat → Bool) {q upto : Nat} (hm : upto ≤ p.num) : (p.ack near q upto).ok U N n room := by
  have ha : ∀ k ∈ p.acked.set q (max (p.acked.getD q 0) upto), k ≤ p.num := by
    intro k hk
    rcases List.mem_or_eq_of_mem_set hk with hk | rfl
    · exact h.ack k hk
    · have : p.acked.getD q 0 ≤ p.num := by
        rw [List.getD_eq_getElem?_getD]
        cases hq : p.acked[q]? with
        | none => simp
        | some k => exact h.ack k (List.mem_of_getElem? hq)
      omega
  have hok : ({ p with acked := p.acked.set q (max (p.acked.getD q 0) upto) } : Rep).ok U N n room :=
    { h with
      ackL := by show (p.acked.set _ _).length = n; rw [List.length_set]; exact h.ackL
      ack := ha
      dn := fun e => by
        have : p.down = true := e
        rw [hu] at this
        cases this }
  refine hok.drop _ ?_ hu
  refine Nat.le_trans (least_le _ _ _) ?_
  rw [List.getD_eq_getElem?_getD]
  cases hq : (p.acked.set q (max (p.acked.getD q 0) upto))[q]? with
  | none => simp
  | some k => exact ha k (List.mem_of_getElem? hq)

theorem rep_mem {c : Clu} {r : Nat} (h : r < c.reps.length) : c.rep r ∈ c.reps := by
  unfold Clu.rep
  rw [List.getD_eq_getElem?_getD, List.getElem?_eq_getElem h]
  exact List.getElem_mem h
theorem there_lt {c : Clu} {r : Int} (h : c.there r = true) : 0 ≤ r ∧ r.toNat < c.reps.length := by
  simp only [Clu.there, decide_eq_true_eq] at h
  omega
theorem Clu.ok.rep {U : List At} {N : Nat} {c : Clu} (h : c.ok U N) {r : Nat} (hr : r < c.reps.length) : (c.rep r).ok U N c.reps.length c.room := h.reps _ (rep_mem hr)
theorem rep_setRep (c : Clu) (i j : Nat) (p : Rep) (hi : i < c.reps.length) : (c.setRep i p).rep j = if j = i then p else c.rep j := by
  unfold Clu.rep Clu.setRep
  simp only [List.getD_eq_getElem?_getD, List.getElem?_set]
  by_cases e : i = j
  · subst e
    simp [hi]
  · rw [if_neg e, if_neg (Ne.symm e)]

/-- One replica turns: its log is no shorter of Number than it was. -/
theorem Clu.ok.setRep {U U' : List At} {N N' : Nat} {c : Clu} (h : c.ok U N) {i : Nat} {p : Rep} (hi : i < c.reps.length) (hp : p.ok U' N' c.reps.length c.room) (hU : ∀ a ∈ U, a ∈ U') (hL : U.length ≤ U'.length) (hN : N ≤ N') (hm : ∀ a ∈ U', mayB a = true) (hl : lastNum (c.rep i).log ≤ lastNum p.log) : (c.setRep i p).ok U' N' where
  n1 := by simpa [Clu.setRep] using h.n1
  n6 := by simpa [Clu.setRep] using h.n6
  room1 := h.room1
  room8 := h.room8
  may := hm
  reps q hq := by
    have hlen : (c.setRep i p).reps.length = c.reps.length := by simp [Clu.setRep]
    rw [hlen]
    rcases List.mem_or_eq_of_mem_set hq with hq | rfl
    · exact (h.reps q hq).mono hU hL hN
    · exact hp
  net f hf := by
    have hlen : (c.setRep i p).reps.length = c.reps.length := by simp [Clu.setRep]
    rw [hlen]
    exact (h.net f hf).mono hU hN
  netT f hf := by
    have := h.netT f hf
    rw [rep_setRep c i _ p hi]
    split
    · rename_i e
      rw [e] at this
      omega
    · exact this
  netL := h.netL
theorem Clu.ok.mono {U U' : List At} {N N' : Nat} {c : Clu} (h : c.ok U N) (hU : ∀ a ∈ U, a ∈ U') (hL : U.length ≤ U'.length) (hN : N ≤ N') (hm : ∀ a ∈ U', mayB a = true) : c.ok U' N' :=
  ⟨h.n1, h.n6, h.room1, h.room8, hm, fun p hp => (h.reps p hp).mono hU hL hN, fun f hf => (h.net f hf).mono hU hN, h.netT, h.netL⟩
theorem Clu.ok.later {U : List At} {N N' : Nat} {c : Clu} (h : c.ok U N) (hN : N ≤ N') : c.ok U N' := h.mono (fun _ h => h) (Nat.le_refl _) hN h.may
theorem Clu.ok.put {U : List At} {N : Nat} {c : Clu} (h : c.ok U N) {f : Frm} (hf : f.ok U N c.reps.length) (ht : f.upto ≤ lastNum (c.rep f.whose).log) : (c.put f).ok U N := by
  unfold Clu.put
  split
  · rename_i hl
    exact ⟨h.n1, h.n6, h.room1, h.room8, h.may, h.reps, fun g hg => by
      rcases List.mem_append.1 hg with hg | hg
      · exact h.net g hg
      · obtain rfl := List.mem_singleton.1 hg
        exact hf, fun g hg => by
      rcases List.mem_append.1 hg with hg | hg
      · exact h.netT g hg
      · obtain rfl := List.mem_singleton.1 hg
        exact ht, by
      show (c.net ++ [f]).length ≤ 200
      rw [List.length_append]
      simp
      omega⟩
  · exact h
theorem Clu.ok.out {U : List At} {N : Nat} {c : Clu} (h : c.ok U N) (k : Nat) : (c.out k).ok U N :=
  ⟨h.n1, h.n6, h.room1, h.room8, h.may, h.reps, fun f hf => h.net f (List.mem_of_mem_eraseIdx hf), fun f hf => h.netT f (List.mem_of_mem_eraseIdx hf), Nat.le_trans (List.length_eraseIdx_le _ _) h.netL⟩
theorem has_lt {c : Clu} {k : Int} (h : c.has k = true) : 0 ≤ k ∧ k.toNat < c.net.length := by
  simp only [Clu.has, decide_eq_true_eq] at h
  omega
theorem frm_mem {c : Clu} {k : Nat} (h : k < c.net.length) : c.frm k ∈ c.net := by
  unfold Clu.frm
  rw [List.getD_eq_getElem?_getD, List.getElem?_eq_getElem h]
  exact List.getElem_mem h

/-- The atom of an operation is one that may be. -/
theorem hadN_go (a : At) : ∀ (l : List At) (z : Int), 0 ≤ z → 0 ≤ l.foldl (fun n x => if plc x a = 0 ∧ n < x.n then x.n else n) z
  | [], z, h => h
  | x :: l, z, h => by
    rw [List.foldl_cons]
    refine hadN_go a l _ ?_
    split
    · omega
    · exact h
theorem hadN_nonneg (l : List At) (a : At) : 0 ≤ hadN l a := hadN_go a l 0 (Int.le_refl _)
theorem opAtom_may {l : List At} {r : Nat} {o : OpV} (hr : r < 6) (hf : fineOp o = true) (hn : (opAtom l r o).n ≤ 2147483647) : mayB (opAtom l r o) = true := by
  simp only [fineOp, decide_eq_true_eq] at hf
  obtain ⟨h1, h2, h3, h4, h5, h6⟩ := hf
  unfold opAtom at hn ⊢
  rcases h6 with ⟨e, k1, k2, k3, k4⟩ | ⟨e, k1, k2, k3, k4, k5⟩ | ⟨e, k1, k2⟩ | ⟨e, k1, k2⟩ | ⟨e, k1, k2⟩
  · rw [if_pos e] at hn ⊢
    have := hadN_nonneg l ⟨1, o.key, 0, r, o.elem, 0⟩
    simp only at hn
    exact decide_eq_true ⟨h3, h4, .inl ⟨rfl, Int.natCast_nonneg r, (by show (r : Int) ≤ 5; omega), (by show 1 ≤ hadN l _ + o.n; omega), hn, rfl, k2⟩⟩
  · rw [if_neg (by omega), if_pos e] at hn ⊢
    split at hn
    · rename_i hlt
      rw [if_pos hlt]
      have := hadN_nonneg l ⟨2, o.key, 1, r, o.elem, 0⟩
      simp only at hn
      exact decide_eq_true ⟨h3, h4, .inr (.inl ⟨rfl, Int.natCast_nonneg r, (by show (r : Int) ≤ 5; omega), (by show 1 ≤ hadN l _ + -o.n; omega), hn, .inr rfl, k2⟩)⟩
    · rename_i hlt
      rw [if_neg hlt]
      have := hadN_nonneg l ⟨2, o.key, o.side, r, o.elem, 0⟩
      simp only at hn
      exact decide_eq_true ⟨h3, h4, .inr (.inl ⟨rfl, Int.natCast_nonneg r, (by show (r : Int) ≤ 5; omega), (by show 1 ≤ hadN l _ + o.n; omega), hn, .inl k1, k2⟩)⟩
  · rw [if_neg (by omega), if_neg (by omega), if_neg (by omega)]
    exact decide_eq_true ⟨h3, h4, .inr (.inr (.inl ⟨e, h5, k1, rfl, rfl⟩))⟩
  · rw [if_neg (by omega), if_neg (by omega), if_neg (by omega)]
    exact decide_eq_true ⟨h3, h4, .inr (.inr (.inr (.inl ⟨e, h5, k1, rfl, rfl⟩)))⟩
  · rw [if_neg (by omega), if_neg (by omega), if_pos e] at hn ⊢
    have := hadN_nonneg l ⟨5, o.key, o.side, r, o.elem, 0⟩
    simp only at hn
    exact decide_eq_true ⟨h3, h4, .inr (.inr (.inr (.inr ⟨rfl, Int.natCast_nonneg r, (by show (r : Int) ≤ 5; omega), (by show 1 ≤ hadN l _ + 1; omega), hn, h5, k1⟩)))⟩

theorem works_zero {c : Clu} {r : Int} (h : c.works r = 0) : (0 ≤ r ∧ r.toNat < c.reps.length) ∧ (c.rep r.toNat).down = false := by
  unfold Clu.works at h
  cases ht : c.there r
  · rw [ht] at h; simp at h
  · rw [ht] at h
    cases hd : (c.rep r.toNat).down
    · exact ⟨there_lt ht, rfl⟩
    · rw [hd] at h; simp at h
theorem opErr_zero {c : Clu} {r : Int} {o : OpV} (h : c.opErr r o = 0) : c.works r = 0 ∧ fineOp o = true ∧ (opAtom (c.rep r.toNat).atoms r.toNat o).n ≤ 2147483647 := by
  unfold Clu.opErr at h
  split at h
  · rename_i hw; exact absurd h hw
  · rename_i hw
    split at h
    · cases h
    · rename_i hf
      split at h
      · cases h
      · rename_i hn
        exact ⟨by simpa using hw, by simpa using hf, by omega⟩

/-- At most one atom more was ever made. -/
def Clu.grows (U : List At) (N : Nat) (c : Clu) : Prop := ∃ U', U'.length ≤ U.length + 1 ∧ (∀ a ∈ U, a ∈ U') ∧ c.ok U' (N + 1)
theorem Clu.ok.grows {U : List At} {N : Nat} {c : Clu} (h : c.ok U (N + 1)) : c.grows U N := ⟨U, by omega, fun _ h => h, h⟩

theorem Clu.ok.update {U : List At} {N : Nat} {c : Clu} (h : c.ok U N) (r : Int) (o : OpV) : (c.update r o).grows U N := by
  unfold Clu.update
  split
  · rename_i he
    obtain ⟨hw, hf, hn⟩ := opErr_zero he
    obtain ⟨⟨h0, hr⟩, hd⟩ := works_zero hw
    have ha := opAtom_may (l := (c.rep r.toNat).atoms) (r := r.toNat) (o := o) (by have := h.n6; omega) hf hn
    have hok := (h.rep hr).mono (U' := U ++ [opAtom (c.rep r.toNat).atoms r.toNat o]) (fun a ha => List.mem_append_left _ ha) (by simp) (Nat.le_refl N)
    have hmay : ∀ a ∈ U ++ [opAtom (c.rep r.toNat).atoms r.toNat o], mayB a = true := by
      intro a hm
      rcases List.mem_append.1 hm with hm | hm
      · exact h.may a hm
      · obtain rfl := List.mem_singleton.1 hm
        exact ha
    refine ⟨U ++ [opAtom (c.rep r.toNat).atoms r.toNat o], by simp, fun a ha => List.mem_append_left _ ha, h.setRep hr (hok.take hd (toldMay_one ha) (by simp) hr h.room1) (fun a ha => List.mem_append_left _ ha) (by simp) (by omega) hmay ?_⟩
    rw [← (h.rep hr).up hd, ← (hok.take hd (toldMay_one ha) (by simp) hr h.room1).up (by unfold Rep.take; split <;> exact hd)]
    have : (Rep.take c.room (c.rep r.toNat) [opAtom (c.rep r.toNat).atoms r.toNat o] r.toNat).num = (c.rep r.toNat).num + 1 := by unfold Rep.take; split <;> rfl
    omega
  · exact (h.later (by omega)).grows
theorem Clu.ok.tornOp {U : List At} {N : Nat} {c : Clu} (h : c.ok U N) (r : Int) (o : OpV) (keep : Int) : (c.tornOp r o keep).grows U N := by
  unfold Clu.tornOp
  split
  · rename_i he
    obtain ⟨hw, hf, hn⟩ := opErr_zero he
    obtain ⟨⟨h0, hr⟩, hd⟩ := works_zero hw
    have ha := opAtom_may (l := (c.rep r.toNat).atoms) (r := r.toNat) (o := o) (by have := h.n6; omega) hf hn
    have hok := (h.rep hr).mono (U' := U ++ [opAtom (c.rep r.toNat).atoms r.toNat o]) (fun a ha => List.mem_append_left _ ha) (by simp) (Nat.le_refl N)
    have hmay : ∀ a ∈ U ++ [opAtom (c.rep r.toNat).atoms r.toNat o], mayB a = true := by
      intro a hm
      rcases List.mem_append.1 hm with hm | hm
      · exact h.may a hm
      · obtain rfl := List.mem_singleton.1 hm
        exact ha
    refine ⟨U ++ [opAtom (c.rep r.toNat).atoms r.toNat o], by simp, fun a ha => List.mem_append_left _ ha, h.setRep hr (hok.tear hd (toldMay_one ha) (by simp) keep) (fun a ha => List.mem_append_left _ ha) (by simp) (by omega) hmay ?_⟩
    show _ ≤ lastNum (Rep.tear (c.rep r.toNat) [opAtom (c.rep r.toNat).atoms r.toNat o] keep).log
    unfold Rep.tear
    split
    · exact Nat.le_refl _
    · rw [← (h.rep hr).up hd]
      show _ ≤ lastNum (_ ++ [_])
      simp [lastNum]
  · exact (h.later (by omega)).grows
theorem Clu.ok.crash {U : List At} {N : Nat} {c : Clu} (h : c.ok U N) (r : Int) : (c.crash r).ok U N := by
  unfold Clu.crash
  split
  · rename_i hw
    obtain ⟨⟨h0, hr⟩, hd⟩ := works_zero hw
    exact h.setRep hr (h.rep hr).fall (fun _ h => h) (Nat.le_refl _) (Nat.le_refl _) h.may (Nat.le_refl _)
  · exact h
theorem Clu.ok.compact {U : List At} {N : Nat} {c : Clu} (h : c.ok U N) (r : Int) : (c.compact r).ok U N := by
  unfold Clu.compact
  split
  · rename_i hw
    obtain ⟨⟨h0, hr⟩, hd⟩ := works_zero hw
    refine h.setRep hr ((h.rep hr).compact h.may) (fun _ h => h) (Nat.le_refl _) (Nat.le_refl _) h.may ?_
    rw [← (h.rep hr).up hd]
    exact Nat.le_refl _
  · exact h
theorem startErr_zero {c : Clu} {r : Int} (h : c.startErr r = 0) : (0 ≤ r ∧ r.toNat < c.reps.length) ∧ (c.rep r.toNat).down = true := by
  unfold Clu.startErr at h
  cases ht : c.there r
  · rw [ht] at h; simp at h
  · rw [ht] at h
    cases hd : (c.rep r.toNat).down
    · rw [hd] at h; simp at h
    · exact ⟨there_lt ht, rfl⟩
theorem Clu.ok.start {U : List At} {N : Nat} {c : Clu} (h : c.ok U N) (r : Int) : (c.start r).ok U N := by
  unfold Clu.start
  split
  · rename_i hw
    obtain ⟨⟨h0, hr⟩, hd⟩ := startErr_zero hw
    exact h.setRep hr ((h.rep hr).rise hd) (fun _ h => h) (Nat.le_refl _) (Nat.le_refl _) h.may (Nat.le_refl _)
  · exact h
theorem frame_ok {U : List At} {N : Nat} {c : Clu} (h : c.ok U N) {r q : Nat} (hr : r < c.reps.length) (hq : q < c.reps.length) : ((c.rep r).frame c.bp r q).ok U N c.reps.length := by
  have hp := h.rep hr
  unfold Rep.frame
  split
  · exact ⟨toldMay_tell fun a ha => h.may a (hp.sub a ha), tell_sub hp.sub, hp.num, hr, hq, .inr (.inl rfl)⟩
  · have hs : ∀ a ∈ (((c.rep r).toSend c.bp q).map (·.d)).flatten, a ∈ U := by
      intro a ha
      obtain ⟨l, hl, ha⟩ := List.mem_flatten.1 ha
      obtain ⟨e, he, rfl⟩ := List.mem_map.1 hl
      exact (hp.buf e (List.mem_filter.1 he).1).2.1 a ha
    exact ⟨toldMay_tell fun a ha => h.may a (hs a ha), tell_sub hs, hp.num, hr, hq, .inl rfl⟩
theorem frame_head (p : Rep) (bp : Bool) (r q : Nat) : (p.frame bp r q).upto = p.num ∧ (p.frame bp r q).src = r ∧ (p.frame bp r q).dst = q ∧ (p.frame bp r q).kind ≠ 3 := by
  unfold Rep.frame
  split <;> simp
theorem sendErr_zero {c : Clu} {r q : Int} (h : c.sendErr r q = 0) : (0 ≤ r ∧ r.toNat < c.reps.length) ∧ (0 ≤ q ∧ q.toNat < c.reps.length) ∧ c.near r.toNat q.toNat = true ∧ (c.rep r.toNat).down = false := by
  unfold Clu.sendErr at h
  split at h
  · cases h
  · rename_i ht
    split at h
    · cases h
    · rename_i hn
      split at h
      · cases h
      · rename_i hd
        simp only [not_or, Bool.not_eq_false] at ht
        exact ⟨there_lt ht.1, there_lt ht.2, by simpa using hn, by simpa using hd⟩
theorem Clu.ok.send {U : List At} {N : Nat} {c : Clu} (h : c.ok U N) (r q : Int) : (c.send r q).ok U (N + 1) := by
  unfold Clu.send
  split
  · rename_i he
    obtain ⟨⟨h0, hr⟩, ⟨h1, hq⟩, hn, hd⟩ := sendErr_zero he
    have hp := h.rep hr
    have hfo := frame_ok h hr hq
    obtain ⟨f1, f2, f3, f4⟩ := frame_head (c.rep r.toNat) c.bp r.toNat q.toNat
    have hfl := hfo.told.length hfo.sub
    unfold Clu.sent
    have hok : (c.setRep r.toNat { c.rep r.toNat with frames := (c.rep r.toNat).frames + 1, weight := (c.rep r.toNat).weight + ((c.rep r.toNat).frame c.bp r.toNat q.toNat).d.length }).ok U (N + 1) := by
      refine h.setRep hr ?_ (fun _ h => h) (Nat.le_refl _) (by omega) h.may (Nat.le_refl _)
      refine { hp.mono (fun _ h => h) (Nat.le_refl _) (Nat.le_succ N) with fr := ?_, wt := ?_ }
      · have := hp.fr
        show (c.rep r.toNat).frames + 1 ≤ _
        omega
      · have := hp.wt
        show (c.rep r.toNat).weight + _ ≤ _
        rw [Nat.add_mul]
        omega
    refine hok.put ?_ ?_
    · have : (c.setRep r.toNat { c.rep r.toNat with frames := (c.rep r.toNat).frames + 1, weight := (c.rep r.toNat).weight + ((c.rep r.toNat).frame c.bp r.toNat q.toNat).d.length }).reps.length = c.reps.length := by simp [Clu.setRep]
      rw [this]
      exact hfo.mono (fun _ h => h) (by omega)
    · have : Frm.whose ((c.rep r.toNat).frame c.bp r.toNat q.toNat) = r.toNat := by unfold Frm.whose; rw [if_neg f4, f2]
      rw [this, rep_setRep c _ _ _ hr, if_pos rfl, f1]
      show _ ≤ lastNum (c.rep r.toNat).log
      rw [← hp.up hd]
      exact Nat.le_refl _
  · exact h.later (by omega)
theorem Clu.ok.deliver {U : List At} {N : Nat} {c : Clu} (h : c.ok U N) (k : Int) : (c.deliver k).ok U (N + 1) := by
  unfold Clu.deliver
  split
  · rename_i hk
    obtain ⟨h0, hlt⟩ := has_lt hk
    have hf := h.net _ (frm_mem hlt)
    have ht := h.netT _ (frm_mem hlt)
    have ho := (h.out k.toNat).later (Nat.le_succ N)
    generalize c.frm k.toNat = f at hf ht
    have hlen : (c.out k.toNat).reps.length = c.reps.length := rfl
    rw [← hlen] at hf
    have ht' : f.upto ≤ lastNum ((c.out k.toNat).rep f.whose).log := ht
    have hoN := h.out k.toNat
    generalize c.out k.toNat = c' at *
    unfold Clu.arrived
    cases hd : (c'.rep f.dst).down
    · simp only [Bool.false_eq_true, if_false]
      have hp := hoN.rep hf.dst
      split
      · rename_i h3
        have hw : f.whose = f.dst := by unfold Frm.whose; rw [if_pos h3]
        rw [hw, ← hp.up hd] at ht'
        exact ho.setRep hf.dst ((hp.acks hd _ ht').mono (fun _ h => h) (Nat.le_refl _) (Nat.le_succ N)) (fun _ h => h) (Nat.le_refl _) (Nat.le_refl _) h.may (Nat.le_refl _)
      · rename_i h3
        have hw : f.whose = f.src := by unfold Frm.whose; rw [if_neg h3]
        rw [hw] at ht'
        have ha : ((c'.rep f.dst).arrive c'.room c'.rr f.d f.src).ok U (N + 1) c'.reps.length c'.room ∧ lastNum (c'.rep f.dst).log ≤ lastNum ((c'.rep f.dst).arrive c'.room c'.rr f.d f.src).log := by
          unfold Rep.arrive
          split
          · exact ⟨hp.mono (fun _ h => h) (Nat.le_refl _) (Nat.le_succ N), Nat.le_refl _⟩
          · have hx : ∀ d, ToldMay d → (∀ a ∈ d, a ∈ U) → (Rep.take c'.room (c'.rep f.dst) d f.src).ok U (N + 1) c'.reps.length c'.room ∧ lastNum (c'.rep f.dst).log ≤ lastNum (Rep.take c'.room (c'.rep f.dst) d f.src).log := by
              intro d h1 h2
              have hk := hp.take hd h1 h2 hf.src hoN.room1
              refine ⟨hk, ?_⟩
              rw [← hp.up hd, ← hk.up (by unfold Rep.take; split <;> exact hd)]
              have : (Rep.take c'.room (c'.rep f.dst) d f.src).num = (c'.rep f.dst).num + 1 := by unfold Rep.take; split <;> rfl
              omega
            split
            · exact hx _ (fresh_told hf.told) fun a ha => hf.sub a (fresh_sub hf.told a ha)
            · exact hx _ hf.told hf.sub
        refine (ho.setRep hf.dst ha.1 (fun _ h => h) (Nat.le_refl _) (Nat.le_refl _) h.may ha.2).put ?_ ?_
        · have : (c'.setRep f.dst ((c'.rep f.dst).arrive c'.room c'.rr f.d f.src)).reps.length = c'.reps.length := by simp [Clu.setRep]
          rw [this]
          exact ⟨toldMay_nil, (fun a ha => by cases ha), (by have := hf.upto; show f.upto ≤ N + 1; omega), hf.dst, hf.src, .inr (.inr rfl)⟩
        · show f.upto ≤ _
          have : Frm.whose ⟨3, f.dst, f.src, f.upto, []⟩ = f.src := rfl
          rw [this, rep_setRep _ _ _ _ hf.dst]
          split
          · rename_i e
            rw [e] at ht'
            exact Nat.le_trans ht' ha.2
          · exact ht'
    · simpa using ho
  · exact h.later (by omega)
theorem Clu.ok.dropF {U : List At} {N : Nat} {c : Clu} (h : c.ok U N) (k : Int) : (c.dropF k).ok U N := by
  unfold Clu.dropF
  split
  · exact h.out _
  · exact h
theorem Clu.ok.copyF {U : List At} {N : Nat} {c : Clu} (h : c.ok U N) (k : Int) : (c.copyF k).ok U N := by
  unfold Clu.copyF
  split
  · rename_i hk
    obtain ⟨h0, hlt⟩ := has_lt hk
    exact h.put (h.net _ (frm_mem hlt)) (h.netT _ (frm_mem hlt))
  · exact h

end Go.Proofs.YtahdlejgjcjeoabGreatDoor

namespace Go.Proofs.YtahdlejgjcjeoabGreatDoor

def edgeOk (n : Nat) (f : Nat → Nat → Bool) (a b : Int) : Bool := decide (0 ≤ a ∧ 0 ≤ b ∧ a < n ∧ b < n ∧ a ≠ b) && !f a.toNat b.toNat
def addE (f : Nat → Nat → Bool) (a b : Nat) : Nat → Nat → Bool := fun i j => f i j || (decide (i = a) && decide (j = b)) || (decide (i = b) && decide (j = a))
def linkAll (n : Nat) : (Nat → Nat → Bool) → List (Int × Int) → Option (Nat → Nat → Bool)
  | f, [] => some f
  | f, p :: l => if edgeOk n f p.1 p.2 then linkAll n (addE f p.1.toNat p.2.toNat) l else none
def noE : Nat → Nat → Bool := fun _ _ => false
theorem linkAll_step {n : Nat} {f : Nat → Nat → Bool} {l : List (Int × Int)} {k : Nat} (hk : k < l.length) : linkAll n f (l.drop k) = if edgeOk n f l[k].1 l[k].2 then linkAll n (addE f l[k].1.toNat l[k].2.toNat) (l.drop (k + 1)) else none := by
  rw [List.drop_eq_getElem_cons hk, linkAll]
theorem linkAll_end {n : Nat} {f : Nat → Nat → Bool} {l : List (Int × Int)} {k : Nat} (hk : l.length ≤ k) : linkAll n f (l.drop k) = some f := by
  rw [List.drop_of_length_le hk, linkAll]
def SymE (f : Nat → Nat → Bool) : Prop := ∀ i j, f i j = f j i
theorem symE_none : SymE noE := fun _ _ => rfl
theorem symE_add {f : Nat → Nat → Bool} (h : SymE f) (a b : Nat) : SymE (addE f a b) := by
  intro i j
  unfold addE
  rw [h i j, Bool.or_assoc, Bool.or_assoc, Bool.or_comm (decide (i = a) && _), Bool.and_comm (decide (i = b)), Bool.and_comm (decide (i = a))]

/-- What New asks of settings. -/
def newOk (reps room : Int) (es : List (Int × Int)) : Bool := decide (1 ≤ reps ∧ reps ≤ 6 ∧ 1 ≤ room ∧ room ≤ 8) && (linkAll reps.toNat noE es).isSome
/-- A replica that is new. -/
def rep0 (n : Nat) : Rep := ⟨false, [], 0, 0, [], List.replicate n 0, [], [], 0, 0⟩
def clu0 (room : Nat) (bp rr : Bool) (n : Nat) (f : Nat → Nat → Bool) : Clu := ⟨room, bp, rr, f, List.replicate n (rep0 n), []⟩
theorem clu0_ok {room n : Nat} (bp rr : Bool) (f : Nat → Nat → Bool) (h1 : 1 ≤ n) (h6 : n ≤ 6) (r1 : 1 ≤ room) (r8 : room ≤ 8) : (clu0 room bp rr n f).ok [] 0 where
  n1 := by simpa [clu0] using h1
  n6 := by simpa [clu0] using h6
  room1 := r1
  room8 := r8
  may a ha := by cases ha
  reps p hp := by
    have hp := List.eq_of_mem_replicate hp
    subst hp
    have hl : (clu0 room bp rr n f).reps.length = n := by simp [clu0]
    rw [hl]
    refine ⟨fun a ha => (by cases ha), by simp [rep0], Nat.le_refl _, Nat.le_refl _, fun e he => (by cases he), List.Pairwise.nil, by simp [rep0], by simp [rep0], fun k hk => ?_, fun _ => rfl, fun r hr => (by cases hr), by simp [rep0], Nat.le_refl _, by simp [rep0], .inl rfl, fun h => (by cases h)⟩
    exact Nat.le_of_eq (List.eq_of_mem_replicate hk)
  net f hf := by cases hf
  netT f hf := by cases hf
  netL := by simp [clu0]
end Go.Proofs.YtahdlejgjcjeoabGreatDoor

namespace Go.Proofs.YtahdlejgjcjeoabGreatDoor
abbrev mu : Go.Conc.Locks.MuLink := { lock := 44, unlock := 45, ilock := 98, iunlock := 99, lockSlow := 142, unlockSlow := 145, disable := 138, enable := 140, acquire := 141, relMerge := 143, cas32 := 139, add32 := 144, tMutex := 101, tIMutex := 99, tPMutex := 170, tPIMutex := 201, tPI32 := 203, tUP := 205, tNoCopy := 96, tU32 := 97 }
theorem muLib : Go.Conc.Locks.MuLib Tryz.prog mu :=
  ⟨Tryz.func44, Tryz.func45, Tryz.func98, Tryz.func99, Tryz.func138, Tryz.func140, Tryz.func141, Tryz.func143, Tryz.func139, Tryz.func144,
   Tryz.underlying99, Tryz.runUnderlying99, Tryz.sizeOf99, Tryz.isAgg99, Tryz.zeroValue99, Tryz.underlying101, Tryz.runUnderlying101, Tryz.sizeOf101, Tryz.isAgg101, Tryz.zeroValue101, Tryz.underlying170, Tryz.runUnderlying170, Tryz.sizeOf170, Tryz.isAgg170, Tryz.zeroValue170, Tryz.underlying201, Tryz.runUnderlying201, Tryz.sizeOf201, Tryz.isAgg201, Tryz.zeroValue201, Tryz.underlying203, Tryz.runUnderlying203, Tryz.sizeOf203, Tryz.isAgg203, Tryz.zeroValue203, Tryz.underlying205, Tryz.runUnderlying205, Tryz.sizeOf205, Tryz.isAgg205, Tryz.zeroValue205, Tryz.underlying96, Tryz.runUnderlying96, Tryz.sizeOf96, Tryz.isAgg96, Tryz.zeroValue96, Tryz.underlying21, Tryz.runUnderlying21, Tryz.sizeOf21, Tryz.isAgg21, Tryz.zeroValue21, (by kernel_rfl)⟩
end Go.Proofs.YtahdlejgjcjeoabGreatDoor

namespace Go.Proofs.YtahdlejgjcjeoabGreatDoor
open Go.RowKit

set_option maxRecDepth 100000 in
set_option maxHeartbeats 1000000 in
theorem sameAtoms_any (v1 v2 : Value) (l : List At) (w : World) (h1 : SliceOf w v1 l) (h2 : SliceOf w v2 l) (hlen : l.length ≤ 281474976710656) :
    Calls Tryz.prog 17 #[v1, v2] w fun e w' => e = .returned (.bool true) ∧ Below w.heap.size w w' := by
  obtain ⟨ad1, cap1, rfl, hc1, H1⟩ := h1
  obtain ⟨ad2, cap2, rfl, hc2, H2⟩ := h2
  have HR1 : Hid (0 < l.length → ∃ b off, ad1 = some ⟨b, off, none⟩ ∧ b < w.heap.size ∧ RowAt w b off l) := H1
  have HR2 : Hid (0 < l.length → ∃ b off, ad2 = some ⟨b, off, none⟩ ∧ b < w.heap.size ∧ RowAt w b off l) := H2
  clear H1 H2
  go_enter Tryz.func17, Tryz.ntmps17
  go_wp2
  go_loopw [5] (fun j wr => ∃ k : Nat, k ≤ l.length ∧ j = .int .i64 k ∧ Below w.heap.size w wr) (fun j _ => l.length - (intOf j).toNat)
  case atStart => exact ⟨0, Nat.zero_le _, rfl, Below.refl _ _⟩
  case round =>
    obtain ⟨k, hk, rfl, hbw⟩ := hrel
    by_cases hl : k < l.length
    · obtain ⟨b1, off1, rfl, hb1, hrow1⟩ := HR1.out (by omega)
      obtain ⟨b2, off2, rfl, hb2, hrow2⟩ := HR2.out (by omega)
      obtain ⟨c0, c1, c2, c3, c4, c5⟩ := (hrow1.below hbw hb1) k hl
      obtain ⟨d0, d1, d2, d3, d4, d5⟩ := (hrow2.below hbw hb2) k hl
      clear hrow1 hrow2 HR1 HR2
      generalize l[k] = x at *
      have q1 : (0 : Int) ≤ (k : Int) := by omega
      have q2 : (k : Int) < (l.length : Int) := by omega
      go_wp2
      go_quiet (fail)
      go_wp2
      exact ⟨⟨k + 1, by omega, by go_num, below_drewN hbw _⟩, by simp [intOf]; omega⟩
    · go_wp2
      go_ret
      exact ⟨rfl, hbw⟩

end Go.Proofs.YtahdlejgjcjeoabGreatDoor

namespace Go.Proofs.YtahdlejgjcjeoabGreatDoor
open Go.RowKit Go.Sort

theorem heap_setCell_at {w : World} {g o : Nat} {cur : Array Value} {t : TypeId} {fz : Nat × Nat} (hb : w.heap[g]? = some (.cells cur t fz)) (v : Value) : (w.setCell ⟨g, o, none⟩ v).heap[g]? = some (.cells (cur.setIfInBounds o v) t fz) := by
  rw [setCell_eq]
  simp [mapBlock, Array.getElem?_modify, hb, onCells]
theorem heap_setCells_at {g : Nat} {t : TypeId} {fz : Nat × Nat} : ∀ (vs : List Value) (o : Nat) (w : World) (cur : Array Value), w.heap[g]? = some (.cells cur t fz) → (w.setCells g o vs).heap[g]? = some (.cells (setMany cur o vs) t fz)
  | [], _, _, _, hb => hb
  | v :: r, o, w, cur, hb => by
    show ((w.setCell ⟨g, o, none⟩ v).setCells g (o + 1) r).heap[g]? = _
    rw [heap_setCells_at r (o + 1) _ _ (heap_setCell_at hb v)]
    rfl
theorem grown_setCells {g : Nat} : ∀ (vs : List Value) (o : Nat) (w : World), w.grownBy (w.setCells g o vs) (some g)
  | [], _, w => ⟨rfl, rfl, rfl, Nat.le_refl _, fun _ _ _ => rfl⟩
  | v :: r, o, w => by
    have h := grown_setCells (g := g) r (o + 1) (w.setCell ⟨g, o, none⟩ v)
    refine ⟨h.os, h.tape, h.output, Nat.le_trans (by simp [World.setCell]) h.size, fun k hk hne => ?_⟩
    have hk' : k < (w.setCell ⟨g, o, none⟩ v).heap.size := by simpa [World.setCell] using hk
    have := h.block k hk' hne
    have e : (w.setCell ⟨g, o, none⟩ v).heap[k]? = w.heap[k]? := Below.heap_setCell _ _ _ _ (fun e => hne (by rw [e]))
    exact this.trans e

theorem setMany_get? (cur E : Array Value) (vs : List Value) (o t : Nat) (hE : setMany cur o vs = E) (ht : t < cur.size) : E[t]? = if o ≤ t ∧ t < o + vs.length then vs[t - o]? else cur[t]? := by
  have e1 := get_setMany vs o cur t ht
  have hs : t < E.size := by rw [← hE, size_setMany]; exact ht
  rw [hE, getElem!_pos E t hs] at e1
  rw [Array.getElem?_eq_getElem hs, e1]
  split
  · rename_i hc
    have hl : t - o < vs.length := by omega
    rw [getElem!_pos vs (t - o) hl, List.getElem?_eq_getElem hl]
  · rw [getElem!_pos cur t ht, Array.getElem?_eq_getElem ht]

end Go.Proofs.YtahdlejgjcjeoabGreatDoor
