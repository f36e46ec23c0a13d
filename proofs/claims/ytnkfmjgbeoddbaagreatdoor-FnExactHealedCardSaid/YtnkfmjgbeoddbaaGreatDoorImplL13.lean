/- What the program's Healed and HealedAll return. -/
import Derived.Test.YtnkfmjgbeoddbaaGreatDoorImplL10b
import Derived.Test.YtnkfmjgbeoddbaaGreatDoorLawX
import Derived.StillTail
import Derived.Deep.Quiet
import Derived.Deep.RegionHeld3
namespace Go.Proofs.YtnkfmjgbeoddbaaGreatDoor
open Go.ChangeShapes Go.WideShapes Go.ChangeAt Go.RowKit

section
variable {ops : Array Oper} {md : Region.Mode}
/-- each operation behind number n waits for one that stands between -/
def behindB (md : Region.Mode) (ops : Array Oper) (n : Nat) : Bool :=
  (List.range ops.size).all fun t => decide (t ≤ n) || (List.range t).any fun s => decide (n ≤ s) && Region.waitsFor md ops t s
theorem ready_not {listed : Array Bool} {t s : Nat} (h : Region.waitsFor md ops t s = true) (hs : listed.getD s true = false) : t ∉ Region.ready md ops listed := fun hr => by
  obtain ⟨_, ot, hot, hall⟩ := mem_ready.1 hr
  obtain ⟨o2, ho2, e, he, hb, hon⟩ := Region.waitsFor_spec h
  cases hot.symm.trans ho2
  have := hall e he hb
  rw [hon, getD_both hs] at this
  cases this
/-- while one of the first n has not come up, none behind them comes up -/
theorem none_behind {n : Nat} {listed : Array Bool} (hk : Region.sinkB md ops n = true) (hb : behindB md ops n = true) (inv : HeadInv md ops n listed) {i : Nat} (hi : i < n) (hu : listed.getD i true = false) {t : Nat} (ht : n ≤ t) : t ∉ Region.ready md ops listed := by
  have atN : ∀ (m j : Nat), n - j ≤ m → j < n → listed.getD j true = false → n ∉ Region.ready md ops listed := by
    intro m
    induction m with
    | zero => intro j h1 h2; omega
    | succ m ih =>
      intro j hm hj hju
      obtain ⟨k, hk1, hk2⟩ := List.any_eq_true.1 (List.all_eq_true.1 hk j (List.mem_range.2 hj))
      simp only [Bool.and_eq_true, decide_eq_true_eq, List.mem_range] at hk1 hk2
      by_cases hkn : k = n
      · subst hkn; exact ready_not hk2.2 hju
      · cases hl : listed.getD k false with
        | false => exact ih k (by omega) (by omega) (getD_in (by rw [inv.size]; obtain ⟨o, ho, _⟩ := Region.waitsFor_spec hk2.2; exact (Array.getElem?_eq_some_iff.1 ho).1) hl)
        | true =>
          obtain ⟨o, ho, e, he, hbe, hon⟩ := Region.waitsFor_spec hk2.2
          have := inv.closed k o ho hl e he hbe
          rw [hon, getD_both hju] at this
          cases this
  intro hr
  by_cases htn : t = n
  · subst htn; exact atN _ i (Nat.le_refl _) hi hu hr
  · have hts : t < ops.size := by obtain ⟨_, o, ho, _⟩ := mem_ready.1 hr; exact (Array.getElem?_eq_some_iff.1 ho).1
    have q := List.all_eq_true.1 hb t (List.mem_range.2 hts)
    simp only [Bool.or_eq_true, decide_eq_true_eq, List.any_eq_true, Bool.and_eq_true, List.mem_range] at q
    rcases q with q | ⟨s, hs, h1, h2⟩
    · omega
    · exact ready_not h2 (inv.tail s h1 (by omega)) hr
end
/-- what is asked of one operation's answer -/
def relUpon (post : Value → World → Prop) : Result Next → Prop
  | .ok (.value u) w' => post u w'
  | .ok .skip w' => post undef w'
  | .ok (.enter f args) w' => Calls Tryz.prog f args w' fun e w'' => ∃ v, e = .returned v ∧ post v w''
  | _ => False
theorem wp_of_rel {o : Oper} {a : Act} {w : World} {post : Value → World → Prop} {K : Act → World → Prop} {Q : Exit → Act → World → Prop} (h : relUpon post ((execOp a.eval o).run Tryz.prog w)) (hk : ∀ v w', post v w' → K (a.put o.dst v) w') : o.wp Tryz.prog a w K Q := by
  unfold Oper.wp
  generalize (execOp a.eval o).run Tryz.prog w = r at *
  cases r with
  | ok x w' =>
    cases x <;> simp only [relUpon] at h <;> simp only [Oper.upon]
    case value u => exact hk _ _ h
    case skip => exact hk _ _ h
    case enter f args => exact h.mono fun e w'' ⟨v, he, hp⟩ => by subst he; exact hk _ _ hp
  | halt x w' => simp only [relUpon] at h
section
variable {ops : Array Oper} {md : Region.Mode}
def dstOf (ops : Array Oper) (i : Nat) : Option Tmp := (ops[i]?).bind (·.dst)
theorem dstOf_at {i : Nat} {o : Oper} (h : ops[i]? = some o) : dstOf ops i = o.dst := by simp [dstOf, h]
/-- the frame when these have come up, in this order -/
def actOf (ops : Array Oper) (vs : Nat → Value) (a : Act) (h : List Nat) : Act := h.foldl (fun a i => a.put (dstOf ops i) (vs i)) a
theorem actOf_put {dst : Option Tmp} {v : Value} {vs : Nat → Value} (h : List Nat) (hd : ∀ j ∈ h, ∀ d, dst = some d → dstOf ops j ≠ some d) (a : Act) : actOf ops vs (a.put dst v) h = (actOf ops vs a h).put dst v := by
  induction h generalizing a with
  | nil => rfl
  | cons j h ih =>
    show actOf ops vs ((a.put dst v).put (dstOf ops j) (vs j)) h = (actOf ops vs (a.put (dstOf ops j) (vs j)) h).put dst v
    rw [Act.put_comm a v (vs j) (hd j (by simp))]
    exact ih (fun k hk => hd k (by simp [hk])) _
/-- two operations write to different places -/
def Parted (ops : Array Oper) (n : Nat) : Prop := ∀ i j, i < n → j < n → i ≠ j → ∀ d, dstOf ops i = some d → dstOf ops j ≠ some d
theorem actOf_perm {n : Nat} (hP : Parted ops n) {vs : Nat → Value} {h h' : List Nat} (p : h.Perm h') (hn : ∀ i ∈ h, i < n) (a : Act) : actOf ops vs a h = actOf ops vs a h' :=
  p.foldl_eq' (fun x hx y hy z => by
    by_cases e : x = y
    · rw [e]
    · exact Act.put_comm z _ _ (hP x y (hn x hx) (hn y hy) e)) a
theorem actOf_vs {vs vs' : Nat → Value} (h : List Nat) (e : ∀ i ∈ h, vs i = vs' i) (a : Act) : actOf ops vs a h = actOf ops vs' a h := by
  induction h generalizing a with
  | nil => rfl
  | cons j h ih =>
    show actOf ops vs (a.put (dstOf ops j) (vs j)) h = actOf ops vs' (a.put (dstOf ops j) (vs' j)) h
    rw [e j (by simp)]
    exact ih (fun k hk => e k (by simp [hk])) _
/-- what an operation does not look at makes no difference to it -/
theorem exec_act {n : Nat} (hP : Parted ops n) {o : Oper} (hs : ∀ cs b, o.op ≠ .select cs b) {vs : Nat → Value} {D : List Nat} (h : List Nat) (hnd : h.Nodup) (hn : ∀ i ∈ h, i < n) (hD : ∀ j ∈ h, j ∉ D → ∀ d, dstOf ops j = some d → d ∉ o.looksAt ops) (a : Act) :
    execOp (actOf ops vs a h).eval o = execOp (actOf ops vs a (h.filter fun j => D.contains j)).eval o := by
  induction h generalizing a with
  | nil => rfl
  | cons j h ih =>
    have hnd' := List.nodup_cons.1 hnd
    have ih' := fun b => ih hnd'.2 (fun k hk => hn k (by simp [hk])) (fun k hk => hD k (by simp [hk])) b
    show execOp (actOf ops vs (a.put (dstOf ops j) (vs j)) h).eval o = _
    by_cases hj : j ∈ D
    · rw [List.filter_cons_of_pos (by simpa using hj)]
      exact ih' _
    · rw [List.filter_cons_of_neg (by simpa using hj), ← ih' a, actOf_put h (fun k hk => hP j k (hn j (by simp)) (hn k (by simp [hk])) (fun e => hnd'.1 (e ▸ hk))) a]
      exact execOp_put o hs _ _ _ (hD j (by simp) hj)
/-- what has come up -/
def listOf (m : Nat) (h : List Nat) : Array Bool := h.foldl (fun l i => l.setIfInBounds i true) (Array.replicate m false)
theorem listOf_snoc (m : Nat) (h : List Nat) (i : Nat) : listOf m (h ++ [i]) = (listOf m h).setIfInBounds i true := by simp [listOf]
theorem foldl_get (h : List Nat) (l : Array Bool) : (h.foldl (fun l i => l.setIfInBounds i true) l).size = l.size ∧ ∀ j, j < l.size → ((h.foldl (fun l i => l.setIfInBounds i true) l).getD j false = true ↔ (j ∈ h ∨ l.getD j false = true)) := by
  induction h generalizing l with
  | nil => exact ⟨rfl, fun j _ => by simp⟩
  | cons i h ih =>
    obtain ⟨s, q⟩ := ih (l.setIfInBounds i true)
    refine ⟨by simpa using s, fun j hj => ?_⟩
    have := q j (by simpa using hj)
    simp only [List.foldl_cons, List.mem_cons]
    rw [this]
    by_cases e : i = j
    · subst e
      simp [hj]
    · rw [getD_set_ne false e]
      constructor
      · rintro (x | x)
        · exact .inl (.inr x)
        · exact .inr x
      · rintro ((x | x) | x)
        · exact absurd x.symm e
        · exact .inl x
        · exact .inr x
theorem listOf_get {m : Nat} {h : List Nat} {j : Nat} (hj : j < m) : (listOf m h).getD j false = true ↔ j ∈ h := by
  have := (foldl_get h (Array.replicate m false)).2 j (by simpa using hj)
  unfold listOf
  rw [this, getD_replicate_false]; simp
theorem listOf_size (m : Nat) (h : List Nat) : (listOf m h).size = m := by
  have := (foldl_get h (Array.replicate m false)).1
  simpa [listOf] using this
theorem listOf_same {m : Nat} {h h' : List Nat} (e : ∀ j, j < m → (j ∈ h ↔ j ∈ h')) : listOf m h = listOf m h' := by
  apply Array.ext
  · rw [listOf_size, listOf_size]
  · intro j h1 h2
    have hj : j < m := by rw [listOf_size] at h1; exact h1
    have p := listOf_get (h := h) hj
    have q := listOf_get (h := h') hj
    simp only [Array.getD_eq_getD_getElem?, Array.getElem?_eq_getElem h1, Array.getElem?_eq_getElem h2, Option.getD_some] at p q
    have := e j hj
    cases x : (listOf m h)[j] <;> cases y : (listOf m h')[j] <;> simp_all
end
section
variable {ops : Array Oper} {md : Region.Mode} {Q : Exit → Act → World → Prop}
/-- each operation of the first n waits for earlier ones alone -/
def lowB (md : Region.Mode) (ops : Array Oper) (n : Nat) : Bool :=
  (List.range n).all fun i => ((ops[i]?).map fun o => o.after.all fun e => !Region.binds md e || decide (e.on < i)).getD false
theorem lowB_at {n i : Nat} (h : lowB md ops n = true) (hi : i < n) : ∃ o, ops[i]? = some o ∧ ∀ e ∈ o.after, Region.binds md e = true → e.on < i := by
  have := List.all_eq_true.1 h i (List.mem_range.2 hi)
  cases ho : ops[i]? with
  | none => rw [ho] at this; cases this
  | some o =>
    rw [ho] at this
    refine ⟨o, rfl, fun e he hb => ?_⟩
    simp only [Option.map_some, Option.getD_some, Array.all_eq_true_iff_forall_mem, Bool.or_eq_true, Bool.not_eq_true', decide_eq_true_eq] at this
    rcases this e he with q | q
    · rw [hb] at q; cases q
    · exact q
theorem least (r : List Nat) (h : r ≠ []) : ∃ i ∈ r, ∀ j ∈ r, i ≤ j := by
  induction r with
  | nil => exact absurd rfl h
  | cons x r ih =>
    by_cases hr : r = []
    · subst hr; exact ⟨x, by simp, fun j hj => by simp at hj; omega⟩
    · obtain ⟨i, hi, hm⟩ := ih hr
      by_cases hx : x ≤ i
      · exact ⟨x, by simp, fun j hj => by
          rcases List.mem_cons.1 hj with e | e
          · omega
          · have := hm j e; omega⟩
      · exact ⟨i, by simp [hi], fun j hj => by
          rcases List.mem_cons.1 hj with e | e
          · omega
          · exact hm j e⟩
theorem rel_any {n g : Nat} {a : Act} {W : World} {R : Nat → Value → World → Prop} {D : Nat → List Nat}
    (hst : ∀ i v w w', R i v w → w.grownBy w' none → R i v w')
    (hsel : ∀ (j : Nat) (o : Oper) cs b, ops[j]? = some o → o.op ≠ .select cs b)
    (hgd : ∀ i o, i < n → ops[i]? = some o → o.guard = none)
    (hP : Parted ops n)
    (hDn : ∀ i, i < n → (D i).Nodup ∧ ∀ j ∈ D i, j < n ∧ Region.waitsFor md ops i j = true)
    (hDl : ∀ i o, i < n → ops[i]? = some o → ∀ j, j < n → j ∉ D i → ∀ d, dstOf ops j = some d → d ∉ o.looksAt ops)
    (hk : Region.sinkB md ops n = true) (hb : behindB md ops n = true) (hlow : lowB md ops n = true)
    (hop : ∀ i o, i < n → ops[i]? = some o → ∀ (vs : Nat → Value) w, W.grownBy w none → (∀ j ∈ D i, R j (vs j) w) → relUpon (fun v w' => w.grownBy w' none ∧ R i v w') ((execOp (actOf ops vs a (D i)).eval o).run Tryz.prog w))
    (hend : ∀ (vs : Nat → Value) w, W.grownBy w none → (∀ i, i < n → R i (vs i) w) → wpAny Tryz.prog md ops Q g (listOf ops.size (List.range n)) (actOf ops vs a (List.range n)) w) :
    ∀ (m : Nat) (h r : List Nat) (vs : Nat → Value) (w : World), r.length = m → (h ++ r).Perm (List.range n) → HeadInv md ops n (listOf ops.size h) → W.grownBy w none → (∀ i ∈ h, R i (vs i) w) →
      wpAny Tryz.prog md ops Q (m + g) (listOf ops.size h) (actOf ops vs a h) w := by
  intro m
  induction m with
  | zero =>
    intro h r vs w hr hp inv G hR
    obtain rfl : r = [] := List.eq_nil_of_length_eq_zero hr
    rw [List.append_nil] at hp
    rw [listOf_same (h := h) (h' := List.range n) (fun j _ => hp.mem_iff), actOf_perm hP hp (fun i hi => List.mem_range.1 (hp.mem_iff.1 hi)), Nat.zero_add]
    exact hend vs w G (fun i hi => hR i (hp.mem_iff.2 (List.mem_range.2 hi)))
  | succ m ih =>
    intro h r vs w hr hp inv G hR
    have hnd : (h ++ r).Nodup := hp.nodup_iff.2 List.nodup_range
    have hmem : ∀ i, i < n ↔ (i ∈ h ∨ i ∈ r) := fun i => by rw [← List.mem_range, ← hp.mem_iff, List.mem_append]
    obtain ⟨hndh, hndr, hdis⟩ := List.nodup_append.1 hnd
    have hlth : ∀ i ∈ h, i < n := fun i hi => (hmem i).2 (.inl hi)
    have hopen : ∀ i, i ∈ r → (listOf ops.size h).getD i true = false := fun i hi => by
      obtain ⟨o, ho, -⟩ := lowB_at hlow ((hmem i).2 (.inr hi))
      have hlt : i < ops.size := (Array.getElem?_eq_some_iff.1 ho).1
      refine getD_in (by rw [listOf_size]; exact hlt) ?_
      cases q : (listOf ops.size h).getD i false
      · rfl
      · exact absurd rfl (hdis i ((listOf_get hlt).1 q) i hi)
    obtain ⟨i0, hi0, hleast⟩ := least r (fun e => by rw [e] at hr; simp at hr)
    have hi0n := (hmem i0).2 (.inr hi0)
    have hready : i0 ∈ Region.ready md ops (listOf ops.size h) := by
      obtain ⟨o, ho, hlo⟩ := lowB_at hlow hi0n
      refine mem_ready.2 ⟨hopen i0 hi0, o, ho, fun e he hbe => ?_⟩
      have h1 := hlo e he hbe
      have h2 : e.on < ops.size := by have := (Array.getElem?_eq_some_iff.1 ho).1; omega
      refine (listOf_get h2).2 ?_
      rcases (hmem e.on).1 (by omega) with q | q
      · exact q
      · have := hleast _ q; omega
    rw [show m + 1 + g = (m + g) + 1 by omega]
    refine ⟨fun e => absurd e (List.ne_nil_of_mem hready), fun i hi => ?_⟩
    have hin : i < n := Nat.lt_of_not_le fun hle => none_behind hk hb inv hi0n (hopen i0 hi0) hle hi
    obtain ⟨hiu, o, ho, hall⟩ := mem_ready.1 hi
    have hlt : i < ops.size := (Array.getElem?_eq_some_iff.1 ho).1
    have hir : i ∈ r := by
      rcases (hmem i).1 hin with q | q
      · have := (listOf_get (h := h) hlt).2 q
        rw [getD_both hiu] at this; cases this
      · exact q
    obtain ⟨hDnd, hDw⟩ := hDn i hin
    have hDh : ∀ j ∈ D i, j ∈ h := fun j hj => by
      obtain ⟨o2, ho2, e, he, hbe, hon⟩ := Region.waitsFor_spec (hDw j hj).2
      cases ho.symm.trans ho2
      have := hall e he hbe
      rw [hon] at this
      obtain ⟨o3, ho3, -⟩ := lowB_at hlow (hDw j hj).1
      exact (listOf_get (Array.getElem?_eq_some_iff.1 ho3).1).1 this
    have hex : execOp (actOf ops vs a h).eval o = execOp (actOf ops vs a (D i)).eval o := by
      rw [exec_act (D := D i) hP (fun cs b => hsel i o cs b ho) h hndh hlth (fun j hj hjD => hDl i o hin ho j (hlth j hj) hjD) a]
      rw [actOf_perm hP (h' := D i) ((List.perm_ext_iff_of_nodup (hndh.filter _) hDnd).2 fun j => by
        simp only [List.mem_filter, List.contains_eq_mem, decide_eq_true_eq]
        exact ⟨fun q => q.2, fun q => ⟨hDh j q, q⟩⟩) (fun j hj => hlth j (List.mem_filter.1 hj).1) a]
    unfold wpOp
    simp only [ho]
    rw [if_pos (by simp [Region.wanted, hgd i o hin ho])]
    refine .inl (wp_of_rel (post := fun v w' => w.grownBy w' none ∧ R i v w') (by rw [hex]; exact hop i o hin ho vs w G (fun j hj => hR j (hDh j hj))) fun v w' ⟨g1, hRi⟩ => ?_)
    have hvs : ∀ j ∈ h, vs j = (fun k => if k = i then v else vs k) j := fun j hj => by
      have : j ≠ i := fun e => hdis j hj i hir e
      simp [this]
    have e1 : (actOf ops vs a h).put o.dst v = actOf ops (fun k => if k = i then v else vs k) a (h ++ [i]) := by
      unfold actOf
      rw [List.foldl_append]
      show _ = (actOf ops (fun k => if k = i then v else vs k) a h).put (dstOf ops i) ((fun k => if k = i then v else vs k) i)
      rw [← actOf_vs h hvs a, dstOf_at ho]
      simp; rfl
    rw [e1, ← listOf_snoc]
    have hrp := List.perm_cons_erase hir
    refine ih (h ++ [i]) (r.erase i) _ w' (by rw [List.length_erase_of_mem hir, hr]; rfl) ?_ (by rw [listOf_snoc]; exact inv.set hi hin) (gtrans G g1) fun j hj => ?_
    · rw [List.append_assoc]
      exact (List.Perm.append_left h hrp.symm).trans hp
    · rcases List.mem_append.1 hj with q | q
      · have hne : j ≠ i := fun e => hdis j q i hir e
        simp only [hne, if_false]
        exact hst j _ _ _ (hR j q) g1
      · rw [List.mem_singleton.1 q]; simpa using hRi
end
/-- one claim for each number below n -/
def below (p : Nat → Prop) : Nat → Prop
  | 0 => True
  | n + 1 => below p n ∧ p n
theorem below_at {p : Nat → Prop} {n : Nat} (h : below p n) (i : Nat) (hi : i < n) : p i := by
  induction n with
  | zero => omega
  | succ n ih =>
    by_cases e : i = n
    · subst e; exact h.2
    · exact ih h.1 (by omega)
/-- which of the first n an operation looks at -/
def depsOf (ops : Array Oper) (n i : Nat) : List Nat :=
  (List.range n).filter fun j => match ops[i]?, dstOf ops j with
    | some o, some d => (o.looksAt ops).contains d
    | _, _ => false
/-- what the kernel reckons of a region -/
def relB (ops : Array Oper) (n : Nat) (D : List (List Nat)) : Bool :=
  Region.noSelect ops && ((List.range n).all (fun i => ((ops[i]?).map (fun o => o.guard.isNone)).getD false) &&
  ((List.range n).all (fun i => (List.range n).all fun j => i == j || (dstOf ops i).isNone || dstOf ops i != dstOf ops j) &&
  ((List.range n).all (fun i => D.getD i [] == depsOf ops n i && (depsOf ops n i).all fun j => Region.waitsFor .any ops i j) &&
  (Region.sinkB .any ops n && (behindB .any ops n && (lowB .any ops n && decide (n < ops.size)))))))
theorem region_rel {id : Nat} {Q : Exit → Act → World → Prop} {a : Act} {w : World} {l : List Oper} (n : Nat) (D : List (List Nat)) (R : Nat → Value → World → Prop) (hm : Tryz.prog.follows .mixedOrders = true) (hB : relB l.toArray n D = true)
    (hst : below (fun i => ∀ v u u', R i v u → u.grownBy u' none → R i v u') n)
    (hop : below (fun i => ∀ o, l.toArray[i]? = some o → ∀ (vs : Nat → Value) u, w.drew.grownBy u none → (∀ j ∈ D.getD i [], R j (vs j) u) → relUpon (fun v u' => u.grownBy u' none ∧ R i v u') ((execOp (actOf l.toArray vs a (D.getD i [])).eval o).run Tryz.prog u)) n)
    (hend : ∀ (vs : Nat → Value) u, w.drew.grownBy u none → below (fun i => R i (vs i) u) n → wpAny Tryz.prog .any l.toArray Q (l.length - n) (listOf l.length (List.range n)) (actOf l.toArray vs a (List.range n)) u) : (Code.region id l.toArray true).wp Tryz.prog Q a w := by
  simp only [relB, Bool.and_eq_true, decide_eq_true_eq] at hB
  obtain ⟨hsel, hgd, hpt, hdp, hk, hb, hlow, hsz⟩ := hB
  have hsz' : n < l.length := by simpa using hsz
  have hD : ∀ i, i < n → D.getD i [] = depsOf l.toArray n i := fun i hi => by
    have := List.all_eq_true.1 hdp i (List.mem_range.2 hi)
    simp only [Bool.and_eq_true, beq_iff_eq] at this
    exact this.1
  refine wp_region_any hm ?_
  have H := rel_any (ops := l.toArray) (md := .any) (Q := Q) (n := n) (g := l.length - n) (a := a) (W := w.drew) (R := fun i v u => i < n → R i v u) (D := fun i => D.getD i [])
    (fun i v u u' h g hi => below_at hst i hi v u u' (h hi) g)
    (Region.noSelect_spec hsel)
    (fun i o hi ho => by
      have := List.all_eq_true.1 hgd i (List.mem_range.2 hi)
      rw [ho] at this
      simpa using this)
    (fun i j hi hj hne d hd => by
      have := List.all_eq_true.1 (List.all_eq_true.1 hpt i (List.mem_range.2 hi)) j (List.mem_range.2 hj)
      simp only [Bool.or_eq_true, beq_iff_eq, bne_iff_ne, ne_eq] at this
      rcases this with (q | q) | q
      · exact absurd q hne
      · rw [hd] at q; cases q
      · exact fun e => q (hd.trans e.symm))
    (fun i hi => by
      rw [hD i hi]
      refine ⟨List.nodup_range.filter _, fun j hj => ?_⟩
      have := List.all_eq_true.1 hdp i (List.mem_range.2 hi)
      simp only [Bool.and_eq_true] at this
      exact ⟨List.mem_range.1 (List.mem_filter.1 hj).1, List.all_eq_true.1 this.2 j hj⟩)
    (fun i o hi ho j hj hjD d hd hl => hjD (by
      rw [hD i hi]
      refine List.mem_filter.2 ⟨List.mem_range.2 hj, ?_⟩
      rw [ho, hd]
      simpa using hl))
    hk hb hlow
    (fun i o hi ho vs u g hR => by
      have q := below_at hop i hi o ho vs u g (fun j hj => hR j hj (by rw [hD i hi] at hj; exact List.mem_range.1 (List.mem_filter.1 hj).1))
      have mono : ∀ {p p' : Value → World → Prop} (r : Result Next), (∀ v u, p v u → p' v u) → relUpon p r → relUpon p' r := fun r hpp hr => by
        cases r with
        | ok x u' =>
          cases x <;> simp only [relUpon] at hr ⊢
          case value v => exact hpp _ _ hr
          case skip => exact hpp _ _ hr
          case enter f args => exact hr.mono fun e u'' ⟨v, he, hv⟩ => ⟨v, he, hpp _ _ hv⟩
        | halt x u' => simp only [relUpon] at hr
      exact mono _ (fun v u' h => ⟨h.1, fun _ => h.2⟩) q)
    (fun vs u g hR => by
      refine hend vs u g ?_
      have : ∀ m, m ≤ n → below (fun i => R i (vs i) u) m := fun m => by
        induction m with
        | zero => intro _; trivial
        | succ m ih => intro hm'; exact ⟨ih (by omega), hR m (by omega) (by omega)⟩
      exact this n (Nat.le_refl _))
    n [] (List.range n) (fun _ => undef) w.drew (by simp) (by simp) ⟨by simp [listOf], fun j oj _ hl => (by unfold listOf at hl; simp only [List.foldl_nil] at hl; rw [getD_replicate_false] at hl; cases hl), fun t _ ht => getD_in (by simpa [listOf] using ht) (by unfold listOf; simp only [List.foldl_nil]; exact getD_replicate_false _ _)⟩ (World.grownBy.refl _ _) (fun i hi => by cases hi)
  have e : n + (l.length - n) = l.toArray.size := by simp; omega
  rw [e] at H
  exact H
attribute [local go_sem] str_list str_size str_add lit_list0 add_lit lit_add str_cut

theorem Own.someB {w : World} {base : Nat} {v : Value} {l : List RZ} (h : Own repE w base v l) (hl : l ≠ []) : v.ownBlock ≠ none := by
  obtain ⟨_, ⟨_, h1⟩ | ⟨g, c, cur, rfl, _⟩⟩ := h
  · exact absurd (List.eq_nil_of_length_eq_zero h1) hl
  · simp [Value.ownBlock]
set_option maxRecDepth 8000 in
set_option maxHeartbeats 4000000 in
theorem waitingIn2_any (v : Value) (a : AZ) (rv : Value) (rows : List Int) (w : World) (h : LD w v a.ds) (hok : disksOkZ a.ds = true) (hr : IR w rv rows) (hn : rows.length ≤ 100) :
    Calls Tryz.prog 52 #[a.val v, rv] w fun e w' => ∃ hb hv L, e = .returned (.pointer (some ⟨hb, 0, none⟩)) ∧ HBox w' hb w.heap.size hv L ∧ w.heap.size ≤ hb ∧ L.Perm (waitZ a rows) ∧ hv.ownBlock ≠ none ∧ w.grownBy w' none := by
  obtain ⟨ra, rc, rfl, -⟩ := hr.form
  obtain ⟨xa, cap, rfl, hm⟩ := h.form
  have B0 := Box5.new w (.slice xa a.ds.length cap) (.string (str a.log)) (.string (str a.next)) (.int .i64 a.stage) (.bool a.up) 26
  have G0 := galloc (grefl w) (.cells #[.slice xa a.ds.length cap, .string (str a.log), .string (str a.next), .int .i64 a.stage, .bool a.up] 26)
  have s0 : w.heap.size < (w.alloc (.cells #[.slice xa a.ds.length cap, .string (str a.log), .string (str a.next), .int .i64 a.stage, .bool a.up] 26)).heap.size := by simp
  go_enter Tryz.func52, Tryz.ntmps52
  go_upto_region 1 with (fail)
  generalize w.alloc (.cells #[.slice xa a.ds.length cap, .string (str a.log), .string (str a.next), .int .i64 a.stage, .bool a.up] 26) = W0 at *
  have K1 : Own repE (W0.alloc (.cells #[] 111)) W0.heap.size (.slice (some ⟨W0.heap.size, 0, none⟩) 0 0) [] := Own.fresh repE W0 [] #[] rfl (by simp) (Nat.le_refl _)
  have g1 := galloc (galloc (grefl W0) (.cells #[] 111)) (.cells #[.slice (some ⟨W0.heap.size, 0, none⟩) 0 0] 109)
  have H1 : HBox ((W0.alloc (.cells #[] 111)).alloc (.cells #[.slice (some ⟨W0.heap.size, 0, none⟩) 0 0] 109)) (W0.heap.size + 1) W0.heap.size (.slice (some ⟨W0.heap.size, 0, none⟩) 0 0) [] :=
    ⟨by simp [At, go_sem], Own.grew K1 (galloc (grefl _) _), by simp [Value.ownBlock]⟩
  have hsW : W0.heap.size + 1 < ((W0.alloc (.cells #[] 111)).alloc (.cells #[.slice (some ⟨W0.heap.size, 0, none⟩) 0 0] 109)).heap.size := by simp
  go_upto_region 2 with (fail)
  generalize (W0.alloc (.cells #[] 111)).alloc (.cells #[.slice (some ⟨W0.heap.size, 0, none⟩) 0 0] 109) = W1 at *
  have G1 := gtrans G0 g1
  have B1 := Lib.hid (B0.kept g1)
  obtain ⟨p0, p1, p2, p3, p4⟩ := B1.out
  generalize hbase : W0.heap.size = base at *
  clear hbase K1 B0
  have HFin := fun (w' : World) (hv : Value) (L : List RZ) (H : HBox w' (base + 1) base hv L) (hp : L.Perm (waitZ a rows)) (ho : hv.ownBlock ≠ none) (g : w.grownBy w' none) => (show ∃ hb hv L, Ending.returned (.pointer (some ⟨base + 1, 0, none⟩)) = .returned (.pointer (some ⟨hb, 0, none⟩)) ∧ HBox w' hb w.heap.size hv L ∧ w.heap.size ≤ hb ∧ L.Perm (waitZ a rows) ∧ hv.ownBlock ≠ none ∧ w.grownBy w' none from
    ⟨_, hv, L, rfl, ⟨H.c, Own.lower H.own (by omega), H.ne⟩, by omega, hp, ho, g⟩)
  cases hu : a.up
  · have HE : Hid (waitZ a rows = []) := by show _ = _; unfold waitZ; rw [hu]; rfl
    rw [hu] at p4
    go_wp2_with fail
    go_ret
    exact HFin _ _ _ H1 (by rw [HE.out]) (by simp [Value.ownBlock]) G1
  rw [hu] at p4
  have HWn : Hid (∀ k (hk : k < rows.length), waitZ a (rows.take (k + 1)) = waitZ a (rows.take k) ++ (repOf a.ds rows[k]).toList) := fun k hk => by
    rw [List.take_succ_eq_append_getElem hk, waitZ_append]
    congr 1
    unfold waitZ; rw [hu]
    cases hq : repOf a.ds rows[k] <;> simp [hq]
  have HWl : Hid (∀ k, (waitZ a (rows.take k)).length ≤ 100) := fun k => by
    have e : waitZ a (rows.take k) = (rows.take k).filterMap (repOf a.ds) := by unfold waitZ; rw [hu]; rfl
    rw [e]
    exact Nat.le_trans (List.length_filterMap_le _ _) (by simp; omega)
  clear hu
  go_wp2_with fail
  go_loopw [18] (fun i wr => ∃ (k : Nat) (hv : Value) (L : List RZ), k ≤ rows.length ∧ i = .int .i64 k ∧ HBox wr (base + 1) base hv L ∧ L.Perm (waitZ a (rows.take k)) ∧ hv.ownBlock ≠ none ∧ Only (fun q => base ≤ q) W1 wr) (fun i _ => rows.length - (intOf i).toNat)
  case atStart => exact ⟨0, _, [], Nat.zero_le _, rfl, H1, by simp [waitZ], by simp [Value.ownBlock], Only.refl _ _⟩
  case round =>
    clear H1 p0 p1 p2 p3 p4
    obtain ⟨k, hv, L, hk, rfl, H, hp, hon, O⟩ := hrel
    have G := O.grew G1 (fun q hq => by omega)
    have hos := O.size
    by_cases hlt : k < rows.length
    · have hki : (k : Int) < rows.length := by omega
      obtain ⟨rg, ro, rfl, r0⟩ := (hr.kept G).at k hlt
      obtain ⟨p0, p1, p2, p3, p4⟩ := B1.out.only O (by omega)
      have hLl : L.length ≤ 100 := by rw [hp.length_eq]; exact HWl.out k
      have HWk := Lib.hid (HWn.out k hlt)
      generalize rows[k] = r at *
      go_wp2_with fail
      go_fit (repairIn_any _ a.ds r _ (h.kept G) hok)
      rintro e w2 ⟨rfl, g2⟩
      have H2 := H.grew g2
      have O2 := O.trans (Only.of g2 (S := fun q => base ≤ q) (fun _ e => by cases e))
      obtain ⟨q0, q1, q2, q3, q4⟩ := B1.out.only O2 (by omega)
      unfold repV
      have e3 := galloc (grefl w2) (.cells #[.int .i64 (repA a.ds r).1, .int .i64 ((repA a.ds r).2.1 : Int), .int .i64 (repA a.ds r).2.2] 111)
      have H3 := H2.grew e3
      have O3 := O2.trans (Only.of e3 (S := fun q => base ≤ q) (fun _ e => by cases e))
      have hx0 : ((w2.alloc (.cells #[.int .i64 (repA a.ds r).1, .int .i64 ((repA a.ds r).2.1 : Int), .int .i64 (repA a.ds r).2.2] 111))).cell? ⟨w2.heap.size, 0, none⟩ = some (.int .i64 (repA a.ds r).1) ∧ ((w2.alloc (.cells #[.int .i64 (repA a.ds r).1, .int .i64 ((repA a.ds r).2.1 : Int), .int .i64 (repA a.ds r).2.2] 111))).cell? ⟨w2.heap.size, 1, none⟩ = some (.int .i64 ((repA a.ds r).2.1 : Int)) ∧ ((w2.alloc (.cells #[.int .i64 (repA a.ds r).1, .int .i64 ((repA a.ds r).2.1 : Int), .int .i64 (repA a.ds r).2.2] 111))).cell? ⟨w2.heap.size, 2, none⟩ = some (.int .i64 (repA a.ds r).2.2) := by simp [go_sem]
      have hs3 : w2.heap.size < (w2.alloc (.cells #[.int .i64 (repA a.ds r).1, .int .i64 ((repA a.ds r).2.1 : Int), .int .i64 (repA a.ds r).2.2] 111)).heap.size := by simp
      clear p0 p1 p2 p3 p4 q0 q1 q2 q3 q4 r0 H2 O2
      go_upto_region 8 with (fail)
      have hs2 := g2.size
      generalize w2.alloc (.cells #[.int .i64 (repA a.ds r).1, .int .i64 ((repA a.ds r).2.1 : Int), .int .i64 (repA a.ds r).2.2] 111) = W3 at *
      generalize w2.heap.size = ob at *
      obtain ⟨o0, o1, o2⟩ := hx0
      cases hsome : (repOf a.ds r).isSome
      · have hnone : repOf a.ds r = none := by simpa using hsome
        have HW' : Hid (waitZ a (rows.take (k + 1)) = waitZ a (rows.take k)) := by show _ = _; rw [HWk.out, hnone]; simp
        clear hnone
        go_wp2_with fail
        go_roundw
        case rel => exact ⟨k + 1, hv, L, by omega, by go_num, H3, by rw [HW'.out]; exact hp, hon, O3⟩
        case measure => simp [intOf]; omega
      · have hsm : repOf a.ds r = some (repA a.ds r) := by
          obtain ⟨x, hx⟩ := Option.isSome_iff_exists.1 hsome
          unfold repA; rw [hx]; rfl
        have HW' : Hid (waitZ a (rows.take (k + 1)) = waitZ a (rows.take k) ++ [repA a.ds r]) := by show _ = _; rw [HWk.out, hsm]; rfl
        have HP := heapPush_any (base + 1) base hv L (repA a.ds r) W3 H3 (by omega) (by omega)
        unfold heapV repI repV at HP
        clear hsm hsome
        generalize repA a.ds r = x at *
        go_wp2_with fail
        go_fit HP
        rintro e w4 ⟨rfl, hv4, L4, hp4, H4, hb4, O4⟩
        have O5 := O3.trans (O4.mono (S' := fun q => base ≤ q) (fun q hq => by
          rcases hq with (hq | hq) | hq
          · omega
          · exact (H3.own.lt q hq).1
          · omega))
        go_wp2_with fail
        go_roundw
        case rel => exact ⟨k + 1, hv4, L4, by omega, by go_num, H4, by rw [HW'.out]; exact hp4.trans (List.Perm.append_right _ hp), H4.own.someB (fun e => by have := hp4.length_eq; rw [e] at this; simp at this), O5⟩
        case measure => simp [intOf]; omega
    · obtain rfl : k = rows.length := by omega
      rw [List.take_length] at hp
      go_wp2_with fail
      go_ret
      exact HFin _ _ _ H hp hon G
theorem IS.at1 (w : World) (x : Int) (n : Nat) (hn : n = w.heap.size) : IS (w.alloc (.cells #[.int .i64 x] 2)) 0 (.slice (some ⟨n, 0, none⟩) 1 1) [x] := by subst hn; exact IS.single w x (Nat.zero_le _)
set_option maxRecDepth 8000 in
set_option maxHeartbeats 4000000 in
theorem implHealed_any (v : Value) (a : AZ) (r : Int) (w : World) (h : LD w v a.ds) (ht : Pow10 w) (hV : LibV w) :
    Calls Tryz.prog 14 #[a.val v, .int .i64 r] w (GotAB (healedZ a r) (healedOk a r) w) := by
  obtain ⟨xa, cap, rfl, hm⟩ := h.form
  obtain ⟨B0, Z0, G0, s0⟩ := two_new w (.slice xa a.ds.length cap) (.string (str a.log)) (.string (str a.next)) (.int .i64 a.stage) (.bool a.up) 26
  go_enter Tryz.func14, Tryz.ntmps14
  go_upto_region 1 with (fail)
  generalize (w.alloc (.cells #[.slice xa a.ds.length cap, .string (str a.log), .string (str a.next), .int .i64 a.stage, .bool a.up] 26)).alloc zero5 = W0 at *
  have HB0 := Lib.hid B0
  obtain ⟨p0, p1, p2, p3, p4⟩ := B0
  cases hok : a.ok
  · have HE : Hid (healedZ a r = .zero ∧ healedOk a r = false) := by constructor <;> simp [healedZ, healedOk, hok]
    go_wp2_with fail
    go_fit (implArrayOk_any _ a _ (h.kept G0) (ht.kept G0) (hV.kept G0))
    rintro e w1 ⟨rfl, g1⟩
    rw [hok]
    obtain ⟨⟨z0, y0⟩, ⟨z1, y1⟩, ⟨z2, y2⟩, ⟨z3, y3⟩, ⟨z4, y4⟩⟩ := Z0.kept g1 (by simp)
    have hs1 := g1.size
    have hR := res5l (OD.nil w1 w1.heap.size) (r := w.heap.size + 1) (by omega) (by omega) (gtrans G0 g1) (.slice none 0 0) (.string ⟨#[]⟩) (.string ⟨#[]⟩) (.int .i64 0) (.bool false)
    go_wp2_with fail
    exact bodyPost_ret (v := .tuple #[.agg #[.slice none 0 0, .string ⟨#[]⟩, .string ⟨#[]⟩, .int .i64 0, .bool false], .bool false]) (by simp [results, Tryz.results14, go_sem, z0, z1, z2, z3, z4]) rfl ⟨_, [], by rw [HE.out.1, HE.out.2]; rfl, by rw [HE.out.1]; exact hR.1, hR.2⟩
  have HE : Hid (healedZ a r = { a with ds := (waitZ a [r]).foldl putR a.ds } ∧ healedOk a r = decide (0 < (waitZ a [r]).length)) := by
    constructor
    · simp only [healedZ, hok, if_true]; rw [healed_else, healed_wait]
    · simp only [healedOk, hok, Bool.true_and]; exact heal_wait hok r
  obtain ⟨hl5, hd16⟩ := ds_small (AZ.ok_ds hok)
  have hll := AZ.ok_len hok
  have HDk : Hid (disksOkZ a.ds = true) := AZ.ok_ds hok
  go_wp2_with fail
  go_fit (implArrayOk_any _ a _ (h.kept G0) (ht.kept G0) (hV.kept G0))
  rintro e w1 ⟨rfl, g1⟩
  rw [hok]
  have G1 := gtrans G0 g1
  have HB1 := Lib.hid (HB0.out.kept g1)
  have hs1 := g1.size
  have Z1 := Z0.kept g1 (by simp)
  clear p0 p1 p2 p3 p4 HB0 g1 Z0
  obtain ⟨p0, p1, p2, p3, p4⟩ := HB1.out
  clear hok
  go_upto_region 3 with (fail)
  refine region_rel 7 [[], [0], [], [], [3], [2, 4], []] (fun i v u => match i with
    | 0 => v = (.agg #[.slice xa a.ds.length cap, .string (str a.log), .string (str a.next), .int .i64 a.stage, .bool a.up])
    | 1 => ∃ va vc, v = a.val (.slice va a.ds.length vc)
    | 2 => v = (.agg #[.slice xa a.ds.length cap, .string (str a.log), .string (str a.next), .int .i64 a.stage, .bool a.up])
    | 3 => v = .int .i64 r
    | 4 => IR u v [r]
    | 5 => ∃ (hb : Nat) (hv : Value) (L : List RZ) (base : Nat), v = .pointer (some ⟨hb, 0, none⟩) ∧ HBox u hb base hv L ∧ w1.heap.size ≤ hb ∧ w1.heap.size ≤ base ∧ L.Perm (waitZ a [r]) ∧ hv.ownBlock ≠ none
    | 6 => ∃ fb : Nat, v = .pointer (some ⟨fb, 0, none⟩) ∧ w1.heap.size ≤ fb ∧ u.heap[fb]? = some (.cells #[.slice none 0 0, .string ⟨#[]⟩, .string ⟨#[]⟩, .int .i64 0, .bool false] 26 (0, 0))
    | _ => True) (by kernel_rfl) (by kernel_rfl) ?hst ?hop ?hend
  case hst =>
    refine ⟨⟨⟨⟨⟨⟨⟨trivial, ?_⟩, ?_⟩, ?_⟩, ?_⟩, ?_⟩, ?_⟩, ?_⟩
    · exact fun v u u' h g => h
    · exact fun v u u' h g => h
    · exact fun v u u' h g => h
    · exact fun v u u' h g => h
    · exact fun v u u' h g => Rd.kept h g
    · exact fun v u u' ⟨hb, hv, L, base, h1, h2, h3, h4, h5, h6⟩ g => ⟨hb, hv, L, base, h1, h2.grew g, h3, h4, h5, h6⟩
    · exact fun v u u' ⟨fb, h1, h2, h3⟩ g => ⟨fb, h1, h2, (g.block fb (Array.getElem?_eq_some_iff.1 h3).1 (by simp)).trans h3⟩
  case hop =>
    have HA : Hid (∀ u, w1.drew.grownBy u none → Box5 u w.heap.size (.slice xa a.ds.length cap) (.string (str a.log)) (.string (str a.next)) (.int .i64 a.stage) (.bool a.up) ∧ w1.grownBy u none) := fun u g => ⟨HB1.out.kept (gtrans (gdrew (grefl _) 1) g), gtrans (gdrew (grefl _) 1) g⟩
    refine ⟨⟨⟨⟨⟨⟨⟨trivial, ?_⟩, ?_⟩, ?_⟩, ?_⟩, ?_⟩, ?_⟩, ?_⟩
    · intro o ho vs u g hd
      obtain ⟨⟨c0, c1, c2, c3, c4⟩, gu⟩ := HA.out u g
      cases ho
      simp only [actOf, dstOf, List.foldl_nil, List.getElem?_toArray, Act.put, List.getD_cons_zero]
      go_simp
      exact ⟨grefl _, rfl⟩
    · intro o ho vs u g hd
      have h0 : vs 0 = _ := hd 0 (by simp)
      obtain ⟨-, gu⟩ := HA.out u g
      cases ho
      simp only [actOf, dstOf, List.foldl_cons, List.foldl_nil, List.getElem?_toArray, List.getElem?_cons_zero, Option.bind_some, Act.put, List.setIfInBounds_toArray, List.set_cons_zero, List.set_cons_succ, List.getD_cons_zero, List.getD_cons_succ]
      rw [h0]
      go_simp
      simp only [relUpon]
      go_fit (copiedArray_any _ a _ (h.kept (gtrans G1 gu)) (by omega) (fun i hi => by have := hd16 i hi; omega) (by omega) (by omega))
      rintro e w2 ⟨v2, raw2, rfl, o2, g2⟩
      obtain ⟨va, vc, rfl, -⟩ := o2.form
      exact ⟨_, rfl, g2, va, vc, rfl⟩
    · intro o ho vs u g hd
      obtain ⟨⟨c0, c1, c2, c3, c4⟩, gu⟩ := HA.out u g
      cases ho
      simp only [actOf, dstOf, List.foldl_nil, List.getElem?_toArray, Act.put, List.getD_cons_zero, List.getD_cons_succ]
      go_simp
      exact ⟨grefl _, rfl⟩
    · intro o ho vs u g hd
      cases ho
      simp only [actOf, dstOf, List.foldl_nil, List.getElem?_toArray, Act.put, List.getD_cons_zero, List.getD_cons_succ]
      go_simp
      exact ⟨grefl _, rfl⟩
    · intro o ho vs u g hd
      have h3 : vs 3 = _ := hd 3 (by simp)
      cases ho
      simp only [actOf, dstOf, List.foldl_cons, List.foldl_nil, List.getElem?_toArray, List.getElem?_cons_zero, List.getElem?_cons_succ, Option.bind_some, Act.put, List.setIfInBounds_toArray, List.set_cons_zero, List.set_cons_succ, List.getD_cons_zero, List.getD_cons_succ]
      rw [h3]
      go_simp
      exact ⟨galloc (grefl _) _, (IS.single _ r (Nat.zero_le _)).rd⟩
    · intro o ho vs u g hd
      have h2 : vs 2 = _ := hd 2 (by simp)
      have h4 : IR u (vs 4) [r] := hd 4 (by simp)
      obtain ⟨-, gu⟩ := HA.out u g
      cases ho
      simp only [actOf, dstOf, List.foldl_cons, List.foldl_nil, List.getElem?_toArray, List.getElem?_cons_zero, List.getElem?_cons_succ, Option.bind_some, Act.put, List.setIfInBounds_toArray, List.set_cons_zero, List.set_cons_succ, List.getD_cons_zero, List.getD_cons_succ]
      rw [h2]
      go_simp
      simp only [relUpon]
      go_fit (waitingIn2_any _ a _ [r] _ (h.kept (gtrans G1 gu)) HDk.out h4 (by simp))
      rintro e w3 ⟨hb, hv, L, rfl, H3, hb3, hp3, ho3, g3⟩
      have hs1 := gu.size
      exact ⟨_, rfl, g3, hb, rfl, hv, L, _, H3, by omega, hs1, hp3, ho3⟩
    · intro o ho vs u g hd
      obtain ⟨-, gu⟩ := HA.out u g
      cases ho
      simp only [actOf, dstOf, List.foldl_nil, List.getElem?_toArray, Act.put, List.getD_cons_zero, List.getD_cons_succ]
      go_simp
      exact ⟨galloc (grefl _) _, _, rfl, gu.size, World.alloc_heap_new u _⟩
  case hend =>
    intro vs u g hR
    obtain ⟨⟨⟨⟨⟨⟨⟨-, h0⟩, h1⟩, h2⟩, h3⟩, h4⟩, h5⟩, h6⟩ := hR
    dsimp only at h0 h1 h2 h3 h4 h5 h6
    obtain ⟨va, vc, h1⟩ := h1
    obtain ⟨hb, hv, L, base, h5, H, hb1, hb2, hp, hon⟩ := h5
    obtain ⟨fb, h6, hf1, hblk⟩ := h6
    have gu : w1.grownBy u none := gtrans (gdrew (grefl _) 1) g
    have F0 : Five u fb (.slice none 0 0) (.string ⟨#[]⟩) (.string ⟨#[]⟩) (.int .i64 0) (.bool false) := ⟨⟨by simp [World.cell?, hblk], by simp [World.frozen?, hblk]⟩, ⟨by simp [World.cell?, hblk], by simp [World.frozen?, hblk]⟩, ⟨by simp [World.cell?, hblk], by simp [World.frozen?, hblk]⟩, ⟨by simp [World.cell?, hblk], by simp [World.frozen?, hblk]⟩, ⟨by simp [World.cell?, hblk], by simp [World.frozen?, hblk]⟩⟩
    have hfb : fb ≠ hb := fun e => by
      subst e
      have e2 := H.c.1.symm.trans F0.c0.1
      cases e2
      exact hon rfl
    have hfv : hv.ownBlock ≠ some fb := fun e => by
      obtain ⟨_, ⟨e2, _⟩ | ⟨g', c, cur, e2, _, hg, _⟩⟩ := H.own
      · rw [e2] at e; cases e
      · rw [e2] at e
        cases e
        rw [hblk] at hg
        injection hg with hg
        injection hg with _ hg _
        exact absurd hg (by decide)
    have F1 : Five (set5 u fb (.slice va a.ds.length vc) (.string (str a.log)) (.string (str a.next)) (.int .i64 a.stage) (.bool a.up)) fb (.slice va a.ds.length vc) (.string (str a.log)) (.string (str a.next)) (.int .i64 a.stage) (.bool a.up) := by
      unfold set5
      exact ⟨((((F0.c0.same _).other (by simp) _).other (by simp) _).other (by simp) _).other (by simp) _, ((((F0.c1.other (by simp) _).same _).other (by simp) _).other (by simp) _).other (by simp) _, ((((F0.c2.other (by simp) _).other (by simp) _).same _).other (by simp) _).other (by simp) _, ((((F0.c3.other (by simp) _).other (by simp) _).other (by simp) _).same _).other (by simp) _, ((((F0.c4.other (by simp) _).other (by simp) _).other (by simp) _).other (by simp) _).same _⟩
    have gS := gset5b (World.grownBy.refl u (some fb)) (.slice va a.ds.length vc) (.string (str a.log)) (.string (str a.next)) (.int .i64 a.stage) (.bool a.up)
    have H1 : HBox (set5 u fb (.slice va a.ds.length vc) (.string (str a.log)) (.string (str a.next)) (.int .i64 a.stage) (.bool a.up)) hb base hv L := H.kept gS (fun e => hfb (by cases e; rfl)) (.inr hfv)
    have GS : w1.grownBy (set5 u fb (.slice va a.ds.length vc) (.string (str a.log)) (.string (str a.next)) (.int .i64 a.stage) (.bool a.up)) none := gsub gu gS (fun k e => by cases e; exact hf1)
    have hbu := H.lt
    have hfu : fb < u.heap.size := cell_lt F0.c0.1
    have hsz : (set5 u fb (.slice va a.ds.length vc) (.string (str a.log)) (.string (str a.next)) (.int .i64 a.stage) (.bool a.up)).heap.size = u.heap.size := by simp [set5, World.setCell]
    obtain ⟨⟨d0, e0⟩, ⟨d1, e1⟩, ⟨d2, e2⟩, ⟨d3, e3⟩, ⟨d4, e4⟩⟩ := F0
    change wpAny _ _ _ _ 2 #[true, true, true, true, true, true, true, false, false] (actOf _ vs _ [0, 1, 2, 3, 4, 5, 6]) _
    simp only [actOf, dstOf, List.foldl_cons, List.foldl_nil, List.getElem?_toArray, List.getElem?_cons_zero, List.getElem?_cons_succ, Option.bind_some, Act.put, List.setIfInBounds_toArray, List.set_cons_zero, List.set_cons_succ]
    rw [h0, h1, h2, h3, h5, h6]
    generalize vs 4 = s4
    refine wpAny_ready (rs := [7]) (by kernel_rfl) (by simp) ?_
    refine AllReady.cons rfl (fun K hK => ?_) AllReady.nil
    go_simp
    refine hK _ _ ?_
    clear hK K
    refine wpAny_ready (rs := [8]) (by kernel_rfl) (by simp) ?_
    refine AllReady.cons rfl (fun K hK => ?_) AllReady.nil
    go_simp
    refine hK _ _ ?_
    clear hK K
    refine wpAny_done (by kernel_rfl) ?_ _
    unfold set5 at F1 H1 GS hsz
    generalize World.setCell _ ⟨fb, 4, none⟩ (.bool a.up) = W5 at *
    have GG := gtrans G1 GS
    have HB5 := Lib.hid (HB1.out.kept GS)
    have ZZ := Lib.hid (Z1.kept GS (by simp))
    have HF := Lib.hid F1
    have hone : OneEach L := (waitZ_one a [r]).sub (fun x hx => hp.subset hx)
    have hbd : ∀ x ∈ L, x.2.1 < a.ds.length := fun x hx => (waitZ_facts (hp.subset hx)).2.2.1
    have hLl : L.length ≤ 900 := by
      rw [hp.length_eq]
      unfold waitZ; split
      · exact Nat.le_trans (List.length_filterMap_le _ _) (by simp)
      · simp
    have hfold := Lib.hid (putAll_perm hp hone a.ds)
    have hlen := Lib.hid hp.length_eq
    have hHS : Hid (∀ k, HS hb hv k → w1.heap.size ≤ k ∧ k ≠ fb) := fun k hk => by
      rcases hk with rfl | hk
      · exact ⟨hb1, fun e => hfb e.symm⟩
      · exact ⟨by have := (H1.own.lt k hk).1; omega, fun e => hfv (e ▸ hk)⟩
    have hs5 : w.heap.size + 1 < w1.heap.size := by omega
    obtain ⟨c0, y0⟩ := H1.c
    obtain ⟨p0, p1, p2, p3, p4⟩ := HB5.out
    clear H h2 h3 h4 hblk gu gS d0 d1 d2 d3 d4 e0 e1 e2 e3 e4 F1
    obtain ⟨xl, xc, rfl, -⟩ := H1.own.form
    go_wp2_with fail
    go_fit (repLen_any _ L _ H1.own)
    rintro e w6 ⟨rfl, rfl⟩
    go_wp2_with fail
    go_fit (repaired_any _ a.ds hb base _ L _ (h.kept GG) HDk.out H1 hLl hone hbd)
    rintro e w7 ⟨v7, raw7, rfl, O7, o7⟩
    obtain ⟨va7, vc7, rfl, -⟩ := O7.form
    have F7 : Five w7 fb (.slice va a.ds.length vc) (.string (str a.log)) (.string (str a.next)) (.int .i64 a.stage) (.bool a.up) := ⟨o7.at (fun hk => (hHS.out _ hk).2 rfl) HF.out.c0, o7.at (fun hk => (hHS.out _ hk).2 rfl) HF.out.c1, o7.at (fun hk => (hHS.out _ hk).2 rfl) HF.out.c2, o7.at (fun hk => (hHS.out _ hk).2 rfl) HF.out.c3, o7.at (fun hk => (hHS.out _ hk).2 rfl) HF.out.c4⟩
    have Z7 := ZZ.out.only o7 (fun hk => by have := (hHS.out _ hk).1; omega)
    have G7 := o7.grew GG (fun k hk => by have := (hHS.out _ hk).1; omega)
    have hl7 : (L.foldl putR a.ds).length = a.ds.length := (putAll_alike L a.ds).1
    have HL7 := Lib.hid hl7
    have HEq : Hid (healedZ a r = { a with ds := L.foldl putR a.ds } ∧ healedOk a r = decide ((0 : Int) < L.length)) := by
      constructor
      · rw [HE.out.1, hfold.out]
      · rw [HE.out.2, hlen.out]; simp
    have hfs : fb < W5.heap.size := by omega
    have hno := O7.not_old (r := fb) hfs
    have hno2 := O7.not_old (r := w.heap.size + 1) (by omega)
    generalize L.foldl putR a.ds = M at *
    clear hl7
    have F8 := F7.put0 (.slice va7 M.length vc7)
    have Z8 := Z7.far (c := fb) (o := 0) (by omega) (.slice va7 M.length vc7)
    have O8 := O7.far (o := 0) hno.1 hno.2 (.slice va7 M.length vc7)
    have G8 : w.grownBy (w7.setCell ⟨fb, 0, none⟩ (.slice va7 M.length vc7)) none := gset1 G7 (by omega) _ _
    obtain ⟨⟨f0, j0⟩, ⟨f1, -⟩, ⟨f2, -⟩, ⟨f3, -⟩, ⟨f4, -⟩⟩ := F7
    go_upto_region 6 with (fail)
    generalize w7.setCell ⟨fb, 0, none⟩ (.slice va7 M.length vc7) = W8 at *
    clear f0 f1 f2 f3 f4
    obtain ⟨⟨f0, -⟩, ⟨f1, -⟩, ⟨f2, -⟩, ⟨f3, -⟩, ⟨f4, -⟩⟩ := F8
    obtain ⟨⟨z0, y0⟩, ⟨z1, y1⟩, ⟨z2, y2⟩, ⟨z3, y3⟩, ⟨z4, y4⟩⟩ := Z8
    have hRes := res5l O8 (r := w.heap.size + 1) (by omega) (by omega) G8 (.slice va7 M.length vc7) (.string (str a.log)) (.string (str a.next)) (.int .i64 a.stage) (.bool a.up)
    unfold set5 at hRes
    have HR9 := Lib.hid hRes
    clear hRes
    go_wp2_with fail
    exact bodyPost_ret (v := .tuple #[.agg #[.slice va7 M.length vc7, .string (str a.log), .string (str a.next), .int .i64 a.stage, .bool a.up], .bool (decide ((0 : Int) < L.length))]) (by simp [results, Tryz.results14, go_sem, z0, z1, z2, z3, z4]) rfl ⟨_, raw7, by rw [HEq.out.1, HEq.out.2], by rw [HEq.out.1]; exact HR9.out.1, HR9.out.2⟩
set_option maxRecDepth 8000 in
set_option maxHeartbeats 4000000 in
theorem implHealedAll_any (v : Value) (a : AZ) (w : World) (h : LD w v a.ds) (ht : Pow10 w) (hV : LibV w) :
    Calls Tryz.prog 30 #[a.val v] w (GotA (healedAllZ a) w) := by
  obtain ⟨xa, cap, rfl, hm⟩ := h.form
  obtain ⟨B0, Z0, G0, s0⟩ := two_new w (.slice xa a.ds.length cap) (.string (str a.log)) (.string (str a.next)) (.int .i64 a.stage) (.bool a.up) 26
  go_enter Tryz.func30, Tryz.ntmps30
  go_upto_region 1 with (fail)
  generalize (w.alloc (.cells #[.slice xa a.ds.length cap, .string (str a.log), .string (str a.next), .int .i64 a.stage, .bool a.up] 26)).alloc zero5 = W0 at *
  have HB0 := Lib.hid B0
  obtain ⟨p0, p1, p2, p3, p4⟩ := B0
  cases hok : a.ok
  · have HE : Hid (healedAllZ a = .zero) := by show _ = _; simp [healedAllZ, hok]
    go_wp2_with fail
    go_fit (implArrayOk_any _ a _ (h.kept G0) (ht.kept G0) (hV.kept G0))
    rintro e w1 ⟨rfl, g1⟩
    rw [hok]
    obtain ⟨⟨z0, y0⟩, ⟨z1, y1⟩, ⟨z2, y2⟩, ⟨z3, y3⟩, ⟨z4, y4⟩⟩ := Z0.kept g1 (by simp)
    have hs1 := g1.size
    have hR := res5l (OD.nil w1 w1.heap.size) (r := w.heap.size + 1) (by omega) (by omega) (gtrans G0 g1) (.slice none 0 0) (.string ⟨#[]⟩) (.string ⟨#[]⟩) (.int .i64 0) (.bool false)
    go_wp2_with fail
    exact bodyPost_ret (v := .agg #[.slice none 0 0, .string ⟨#[]⟩, .string ⟨#[]⟩, .int .i64 0, .bool false]) (by simp [results, Tryz.results30, go_sem, z0, z1, z2, z3, z4]) rfl ⟨_, [], by rw [HE.out]; rfl, by rw [HE.out]; exact hR.1, hR.2⟩
  have hrw := rows_le (AZ.ok_ds hok)
  have hrl := rowsTo_length (rowsZ a.ds)
  have HRl : Hid ((rowsTo (rowsZ a.ds)).length ≤ 100) := by show _ ≤ _; omega
  have HE : Hid (healedAllZ a = { a with ds := flushAll ((waitZ a (rowsTo (rowsZ a.ds))).foldl putR a.ds) }) := by
    show _ = _
    simp only [healedAllZ, hok, if_true, AZ.healedAll]
    rw [healK_wait a (rowsZ a.ds)]
    rw [healK_else a (rowsZ a.ds)]
  clear hrl
  obtain ⟨hl5, hd16⟩ := ds_small (AZ.ok_ds hok)
  have hll := AZ.ok_len hok
  have HDk : Hid (disksOkZ a.ds = true) := AZ.ok_ds hok
  generalize hRW : rowsTo (rowsZ a.ds) = rws at *
  have HRW := Lib.hid hRW
  clear hRW
  go_wp2_with fail
  go_fit (implArrayOk_any _ a _ (h.kept G0) (ht.kept G0) (hV.kept G0))
  rintro e w1 ⟨rfl, g1⟩
  rw [hok]
  have G1 := gtrans G0 g1
  have HB1 := Lib.hid (HB0.out.kept g1)
  have hs1 := g1.size
  have Z1 := Z0.kept g1 (by simp)
  clear p0 p1 p2 p3 p4 HB0 g1 Z0
  obtain ⟨p0, p1, p2, p3, p4⟩ := HB1.out
  clear hok
  go_upto_region 3 with (fail)
  refine region_rel 8 [[], [0], [], [], [3], [4], [2, 5], []] (fun i v u => match i with
    | 0 => v = (.agg #[.slice xa a.ds.length cap, .string (str a.log), .string (str a.next), .int .i64 a.stage, .bool a.up])
    | 1 => ∃ va vc, v = a.val (.slice va a.ds.length vc)
    | 2 => v = (.agg #[.slice xa a.ds.length cap, .string (str a.log), .string (str a.next), .int .i64 a.stage, .bool a.up])
    | 3 => v = .pointer (some ⟨w.heap.size, 0, none⟩)
    | 4 => v = .slice xa a.ds.length cap
    | 5 => IR u v rws
    | 6 => ∃ (hb : Nat) (hv : Value) (L : List RZ) (base : Nat), v = .pointer (some ⟨hb, 0, none⟩) ∧ HBox u hb base hv L ∧ w1.heap.size ≤ hb ∧ w1.heap.size ≤ base ∧ L.Perm (waitZ a rws) ∧ hv.ownBlock ≠ none
    | 7 => ∃ fb : Nat, v = .pointer (some ⟨fb, 0, none⟩) ∧ w1.heap.size ≤ fb ∧ u.heap[fb]? = some (.cells #[.slice none 0 0, .string ⟨#[]⟩, .string ⟨#[]⟩, .int .i64 0, .bool false] 26 (0, 0))
    | _ => True) (by kernel_rfl) (by kernel_rfl) ?hst ?hop ?hend
  case hst =>
    refine ⟨⟨⟨⟨⟨⟨⟨⟨trivial, ?_⟩, ?_⟩, ?_⟩, ?_⟩, ?_⟩, ?_⟩, ?_⟩, ?_⟩
    · exact fun v u u' h g => h
    · exact fun v u u' h g => h
    · exact fun v u u' h g => h
    · exact fun v u u' h g => h
    · exact fun v u u' h g => h
    · exact fun v u u' h g => Rd.kept h g
    · exact fun v u u' ⟨hb, hv, L, base, h1, h2, h3, h4, h5, h6⟩ g => ⟨hb, hv, L, base, h1, h2.grew g, h3, h4, h5, h6⟩
    · exact fun v u u' ⟨fb, h1, h2, h3⟩ g => ⟨fb, h1, h2, (g.block fb (Array.getElem?_eq_some_iff.1 h3).1 (by simp)).trans h3⟩
  case hop =>
    have HA : Hid (∀ u, w1.drew.grownBy u none → Box5 u w.heap.size (.slice xa a.ds.length cap) (.string (str a.log)) (.string (str a.next)) (.int .i64 a.stage) (.bool a.up) ∧ w1.grownBy u none) := fun u g => ⟨HB1.out.kept (gtrans (gdrew (grefl _) 1) g), gtrans (gdrew (grefl _) 1) g⟩
    refine ⟨⟨⟨⟨⟨⟨⟨⟨trivial, ?_⟩, ?_⟩, ?_⟩, ?_⟩, ?_⟩, ?_⟩, ?_⟩, ?_⟩
    · intro o ho vs u g hd
      obtain ⟨⟨c0, c1, c2, c3, c4⟩, gu⟩ := HA.out u g
      cases ho
      simp only [actOf, dstOf, List.foldl_nil, List.getElem?_toArray, Act.put, List.getD_cons_zero]
      go_simp
      exact ⟨grefl _, rfl⟩
    · intro o ho vs u g hd
      have h0 : vs 0 = _ := hd 0 (by simp)
      obtain ⟨-, gu⟩ := HA.out u g
      cases ho
      simp only [actOf, dstOf, List.foldl_cons, List.foldl_nil, List.getElem?_toArray, List.getElem?_cons_zero, Option.bind_some, Act.put, List.setIfInBounds_toArray, List.set_cons_zero, List.set_cons_succ, List.getD_cons_zero, List.getD_cons_succ]
      rw [h0]
      go_simp
      simp only [relUpon]
      go_fit (copiedArray_any _ a _ (h.kept (gtrans G1 gu)) (by omega) (fun i hi => by have := hd16 i hi; omega) (by omega) (by omega))
      rintro e w2 ⟨v2, raw2, rfl, o2, g2⟩
      obtain ⟨va, vc, rfl, -⟩ := o2.form
      exact ⟨_, rfl, g2, va, vc, rfl⟩
    · intro o ho vs u g hd
      obtain ⟨⟨c0, c1, c2, c3, c4⟩, gu⟩ := HA.out u g
      cases ho
      simp only [actOf, dstOf, List.foldl_nil, List.getElem?_toArray, Act.put, List.getD_cons_zero, List.getD_cons_succ]
      go_simp
      exact ⟨grefl _, rfl⟩
    · intro o ho vs u g hd
      cases ho
      simp only [actOf, dstOf, List.foldl_nil, List.getElem?_toArray, Act.put, List.getD_cons_zero, List.getD_cons_succ]
      go_simp
      exact ⟨grefl _, rfl⟩
    · intro o ho vs u g hd
      have h3 : vs 3 = _ := hd 3 (by simp)
      obtain ⟨⟨c0, c1, c2, c3, c4⟩, gu⟩ := HA.out u g
      cases ho
      simp only [actOf, dstOf, List.foldl_cons, List.foldl_nil, List.getElem?_toArray, List.getElem?_cons_zero, List.getElem?_cons_succ, Option.bind_some, Act.put, List.setIfInBounds_toArray, List.set_cons_zero, List.set_cons_succ, List.getD_cons_zero, List.getD_cons_succ]
      rw [h3]
      go_simp
      exact ⟨grefl _, rfl⟩
    · intro o ho vs u g hd
      have h4 : vs 4 = _ := hd 4 (by simp)
      obtain ⟨-, gu⟩ := HA.out u g
      cases ho
      simp only [actOf, dstOf, List.foldl_cons, List.foldl_nil, List.getElem?_toArray, List.getElem?_cons_zero, List.getElem?_cons_succ, Option.bind_some, Act.put, List.setIfInBounds_toArray, List.set_cons_zero, List.set_cons_succ, List.getD_cons_zero, List.getD_cons_succ]
      rw [h4]
      go_simp
      simp only [relUpon]
      go_fit (rowsIn_any _ a.ds _ (h.kept (gtrans G1 gu)) HDk.out)
      rintro e w3 ⟨rv, rfl, I3, g3⟩
      rw [HRW.out] at I3
      exact ⟨_, rfl, g3, Own.rd I3⟩
    · intro o ho vs u g hd
      have h2 : vs 2 = _ := hd 2 (by simp)
      have h4 : IR u (vs 5) rws := hd 5 (by simp)
      obtain ⟨-, gu⟩ := HA.out u g
      cases ho
      simp only [actOf, dstOf, List.foldl_cons, List.foldl_nil, List.getElem?_toArray, List.getElem?_cons_zero, List.getElem?_cons_succ, Option.bind_some, Act.put, List.setIfInBounds_toArray, List.set_cons_zero, List.set_cons_succ, List.getD_cons_zero, List.getD_cons_succ]
      rw [h2]
      go_simp
      simp only [relUpon]
      go_fit (waitingIn2_any _ a _ rws _ (h.kept (gtrans G1 gu)) HDk.out h4 HRl.out)
      rintro e w3 ⟨hb, hv, L, rfl, H3, hb3, hp3, ho3, g3⟩
      have hs1 := gu.size
      exact ⟨_, rfl, g3, hb, rfl, hv, L, _, H3, by omega, hs1, hp3, ho3⟩
    · intro o ho vs u g hd
      obtain ⟨-, gu⟩ := HA.out u g
      cases ho
      simp only [actOf, dstOf, List.foldl_nil, List.getElem?_toArray, Act.put, List.getD_cons_zero, List.getD_cons_succ]
      go_simp
      exact ⟨galloc (grefl _) _, _, rfl, gu.size, World.alloc_heap_new u _⟩
  case hend =>
    intro vs u g hR
    obtain ⟨⟨⟨⟨⟨⟨⟨⟨-, h0⟩, h1⟩, h2⟩, h3⟩, h4⟩, h45⟩, h5⟩, h6⟩ := hR
    dsimp only at h0 h1 h2 h3 h4 h45 h5 h6
    obtain ⟨va, vc, h1⟩ := h1
    obtain ⟨hb, hv, L, base, h5, H, hb1, hb2, hp, hon⟩ := h5
    obtain ⟨fb, h6, hf1, hblk⟩ := h6
    have gu : w1.grownBy u none := gtrans (gdrew (grefl _) 1) g
    have F0 : Five u fb (.slice none 0 0) (.string ⟨#[]⟩) (.string ⟨#[]⟩) (.int .i64 0) (.bool false) := ⟨⟨by simp [World.cell?, hblk], by simp [World.frozen?, hblk]⟩, ⟨by simp [World.cell?, hblk], by simp [World.frozen?, hblk]⟩, ⟨by simp [World.cell?, hblk], by simp [World.frozen?, hblk]⟩, ⟨by simp [World.cell?, hblk], by simp [World.frozen?, hblk]⟩, ⟨by simp [World.cell?, hblk], by simp [World.frozen?, hblk]⟩⟩
    have hfb : fb ≠ hb := fun e => by
      subst e
      have e2 := H.c.1.symm.trans F0.c0.1
      cases e2
      exact hon rfl
    have hfv : hv.ownBlock ≠ some fb := fun e => by
      obtain ⟨_, ⟨e2, _⟩ | ⟨g', c, cur, e2, _, hg, _⟩⟩ := H.own
      · rw [e2] at e; cases e
      · rw [e2] at e
        cases e
        rw [hblk] at hg
        injection hg with hg
        injection hg with _ hg _
        exact absurd hg (by decide)
    have F1 : Five (set5 u fb (.slice va a.ds.length vc) (.string (str a.log)) (.string (str a.next)) (.int .i64 a.stage) (.bool a.up)) fb (.slice va a.ds.length vc) (.string (str a.log)) (.string (str a.next)) (.int .i64 a.stage) (.bool a.up) := by
      unfold set5
      exact ⟨((((F0.c0.same _).other (by simp) _).other (by simp) _).other (by simp) _).other (by simp) _, ((((F0.c1.other (by simp) _).same _).other (by simp) _).other (by simp) _).other (by simp) _, ((((F0.c2.other (by simp) _).other (by simp) _).same _).other (by simp) _).other (by simp) _, ((((F0.c3.other (by simp) _).other (by simp) _).other (by simp) _).same _).other (by simp) _, ((((F0.c4.other (by simp) _).other (by simp) _).other (by simp) _).other (by simp) _).same _⟩
    have gS := gset5b (World.grownBy.refl u (some fb)) (.slice va a.ds.length vc) (.string (str a.log)) (.string (str a.next)) (.int .i64 a.stage) (.bool a.up)
    have H1 : HBox (set5 u fb (.slice va a.ds.length vc) (.string (str a.log)) (.string (str a.next)) (.int .i64 a.stage) (.bool a.up)) hb base hv L := H.kept gS (fun e => hfb (by cases e; rfl)) (.inr hfv)
    have GS : w1.grownBy (set5 u fb (.slice va a.ds.length vc) (.string (str a.log)) (.string (str a.next)) (.int .i64 a.stage) (.bool a.up)) none := gsub gu gS (fun k e => by cases e; exact hf1)
    have hbu := H.lt
    have hfu : fb < u.heap.size := cell_lt F0.c0.1
    have hsz : (set5 u fb (.slice va a.ds.length vc) (.string (str a.log)) (.string (str a.next)) (.int .i64 a.stage) (.bool a.up)).heap.size = u.heap.size := by simp [set5, World.setCell]
    obtain ⟨⟨d0, e0⟩, ⟨d1, e1⟩, ⟨d2, e2⟩, ⟨d3, e3⟩, ⟨d4, e4⟩⟩ := F0
    change wpAny _ _ _ _ 2 #[true, true, true, true, true, true, true, true, false, false] (actOf _ vs _ [0, 1, 2, 3, 4, 5, 6, 7]) _
    simp only [actOf, dstOf, List.foldl_cons, List.foldl_nil, List.getElem?_toArray, List.getElem?_cons_zero, List.getElem?_cons_succ, Option.bind_some, Act.put, List.setIfInBounds_toArray, List.set_cons_zero, List.set_cons_succ]
    rw [h0, h1, h2, h3, h4, h5, h6]
    generalize vs 5 = s4
    refine wpAny_ready (rs := [8]) (by kernel_rfl) (by simp) ?_
    refine AllReady.cons rfl (fun K hK => ?_) AllReady.nil
    go_simp
    refine hK _ _ ?_
    clear hK K
    refine wpAny_ready (rs := [9]) (by kernel_rfl) (by simp) ?_
    refine AllReady.cons rfl (fun K hK => ?_) AllReady.nil
    go_simp
    refine hK _ _ ?_
    clear hK K
    refine wpAny_done (by kernel_rfl) ?_ _
    unfold set5 at F1 H1 GS hsz
    generalize World.setCell _ ⟨fb, 4, none⟩ (.bool a.up) = W5 at *
    have GG := gtrans G1 GS
    have HB5 := Lib.hid (HB1.out.kept GS)
    have ZZ := Lib.hid (Z1.kept GS (by simp))
    have HF := Lib.hid F1
    have hone : OneEach L := (waitZ_one a rws).sub (fun x hx => hp.subset hx)
    have hbd : ∀ x ∈ L, x.2.1 < a.ds.length := fun x hx => (waitZ_facts (hp.subset hx)).2.2.1
    have hLl : L.length ≤ 900 := by
      rw [hp.length_eq]
      unfold waitZ; split
      · exact Nat.le_trans (List.length_filterMap_le _ _) (by have := HRl.out; omega)
      · simp
    have hfold := Lib.hid (putAll_perm hp hone a.ds)
    have hlen := Lib.hid hp.length_eq
    have hHS : Hid (∀ k, HS hb hv k → w1.heap.size ≤ k ∧ k ≠ fb) := fun k hk => by
      rcases hk with rfl | hk
      · exact ⟨hb1, fun e => hfb e.symm⟩
      · exact ⟨by have := (H1.own.lt k hk).1; omega, fun e => hfv (e ▸ hk)⟩
    have hs5 : w.heap.size + 1 < w1.heap.size := by omega
    obtain ⟨c0, y0⟩ := H1.c
    obtain ⟨p0, p1, p2, p3, p4⟩ := HB5.out
    clear H h2 h3 h4 h45 hblk gu gS d0 d1 d2 d3 d4 e0 e1 e2 e3 e4 F1
    obtain ⟨xl, xc, rfl, -⟩ := H1.own.form
    go_wp2_with fail
    go_fit (repaired_any _ a.ds hb base _ L _ (h.kept GG) HDk.out H1 hLl hone hbd)
    rintro e w7 ⟨v7, raw7, rfl, O7, o7⟩
    obtain ⟨va7, vc7, rfl, -⟩ := O7.form
    have F7 : Five w7 fb (.slice va a.ds.length vc) (.string (str a.log)) (.string (str a.next)) (.int .i64 a.stage) (.bool a.up) := ⟨o7.at (fun hk => (hHS.out _ hk).2 rfl) HF.out.c0, o7.at (fun hk => (hHS.out _ hk).2 rfl) HF.out.c1, o7.at (fun hk => (hHS.out _ hk).2 rfl) HF.out.c2, o7.at (fun hk => (hHS.out _ hk).2 rfl) HF.out.c3, o7.at (fun hk => (hHS.out _ hk).2 rfl) HF.out.c4⟩
    have Z7 := ZZ.out.only o7 (fun hk => by have := (hHS.out _ hk).1; omega)
    have G7 := o7.grew GG (fun k hk => by have := (hHS.out _ hk).1; omega)
    have hM7 : disksOkZ (L.foldl putR a.ds) = true := (putAll_alike L a.ds).disksOk HDk.out
    have HEq : Hid (healedAllZ a = { a with ds := flushAll (L.foldl putR a.ds) }) := by show _ = _; rw [HE.out, hfold.out]
    generalize L.foldl putR a.ds = M at *
    have hMl : M.length ≤ 1000 := by have := (ds_small hM7).1; omega
    have HFl := Lib.hid (flushed_all hM7)
    clear hM7
    have Zk := Lib.hid Z7
    have Fk := Lib.hid F7
    have hs7 := o7.size
    obtain ⟨⟨f0, -⟩, ⟨f1, -⟩, ⟨f2, -⟩, ⟨f3, -⟩, ⟨f4, -⟩⟩ := F7
    go_wp2_with fail
    go_fit (flushedDisks_any _ M _ O7.ld hMl)
    rintro e w8 ⟨v8, raw8, rfl, O8, g8⟩
    rw [HFl.out] at O8
    clear HFl
    generalize flushAll M = M2 at *
    obtain ⟨va8, vc8, rfl, -⟩ := O8.form
    have F8 := Fk.out.kept g8
    have Z8 := Zk.out.kept g8 (by simp)
    have hno := O8.not_old (r := fb) (by omega)
    have F9 := F8.put0 (.slice va8 M2.length vc8)
    have Z9 := Z8.far (c := fb) (o := 0) (by omega) (.slice va8 M2.length vc8)
    have O9 := O8.far (o := 0) hno.1 hno.2 (.slice va8 M2.length vc8)
    have G9 : w.grownBy (w8.setCell ⟨fb, 0, none⟩ (.slice va8 M2.length vc8)) none := gset1 (gtrans G7 g8) (by omega) _ _
    clear f0 f1 f2 f3 f4
    obtain ⟨⟨f0, j0⟩, ⟨f1, -⟩, ⟨f2, -⟩, ⟨f3, -⟩, ⟨f4, -⟩⟩ := F8
    go_upto_region 5 with (fail)
    generalize w8.setCell ⟨fb, 0, none⟩ (.slice va8 M2.length vc8) = W9 at *
    clear f0 f1 f2 f3 f4
    obtain ⟨⟨f0, -⟩, ⟨f1, -⟩, ⟨f2, -⟩, ⟨f3, -⟩, ⟨f4, -⟩⟩ := F9
    obtain ⟨⟨z0, y0⟩, ⟨z1, y1⟩, ⟨z2, y2⟩, ⟨z3, y3⟩, ⟨z4, y4⟩⟩ := Z9
    have hRes := res5l O9 (r := w.heap.size + 1) (by omega) (by omega) G9 (.slice va8 M2.length vc8) (.string (str a.log)) (.string (str a.next)) (.int .i64 a.stage) (.bool a.up)
    unfold set5 at hRes
    have HR9 := Lib.hid hRes
    clear hRes
    go_wp2_with fail
    exact bodyPost_ret (v := .agg #[.slice va8 M2.length vc8, .string (str a.log), .string (str a.next), .int .i64 a.stage, .bool a.up]) (by simp [results, Tryz.results30, go_sem, z0, z1, z2, z3, z4]) rfl ⟨_, raw8, by rw [HEq.out], by rw [HEq.out]; exact HR9.out.1, HR9.out.2⟩
end Go.Proofs.YtnkfmjgbeoddbaaGreatDoor
