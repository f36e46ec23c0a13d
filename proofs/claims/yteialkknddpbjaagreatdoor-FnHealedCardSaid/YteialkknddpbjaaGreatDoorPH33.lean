/- A region that draws its order and whose first n operations only make memory: what each of them answers is told by a relation that stays as memory grows. Whatever order they come up in, all relations hold behind them; what is left is walked then. A row of disks in which one cell at most is lost, as plain mathematics: what is told of it, and what a write makes of it. What the places of an array hold in whose rows one cell at most is lost: what is read, what a write makes of it. -/
import Derived.StillTail
import Derived.Deep.Quiet
import Derived.Test.YteialkknddpbjaaGreatDoorPH01
import Derived.Test.YteialkknddpbjaaGreatDoorPH29
import Derived.Test.YteialkknddpbjaaGreatDoorPH32
namespace Go.Proofs.YteialkknddpbjaaGreatDoor
open Go.ChangeShapes Go.WideShapes Go.ChangeAt Go.RowKit

section
variable {ops : Array Oper} {md : Region.Mode}
/-- each operation behind number n waits for one that stands between -/
def behindB (md : Region.Mode) (ops : Array Oper) (n : Nat) : Bool :=
  (List.range ops.size).all fun t => decide (t ≤ n) || (List.range t).any fun s => decide (n ≤ s) && Region.waitsFor md ops t s
theorem ready_not {listed : Array Bool} {t s : Nat} (h : Region.waitsFor md ops t s = true) (hs : listed.getD s true = false) : t ∉ Region.ready md ops listed := fun hr => by
  obtain ⟨_, ot, hot, hall⟩ := mem_ready.1 hr
  obtain ⟨o2, ho2, e, he, hb, hon⟩ := Region.waitsFor_spec h
  cases hot.symm.trans ho2
  have := hall e he hb
  rw [hon, getD_both hs] at this
  cases this
/-- while one of the first n has not come up, none behind them comes up -/
theorem none_behind {n : Nat} {listed : Array Bool} (hk : Region.sinkB md ops n = true) (hb : behindB md ops n = true) (inv : HeadInv md ops n listed) {i : Nat} (hi : i < n) (hu : listed.getD i true = false) {t : Nat} (ht : n ≤ t) : t ∉ Region.ready md ops listed := by
  have atN : ∀ (m j : Nat), n - j ≤ m → j < n → listed.getD j true = false → n ∉ Region.ready md ops listed := by
    intro m
    induction m with
    | zero => intro j h1 h2; omega
    | succ m ih =>
      intro j hm hj hju
      obtain ⟨k, hk1, hk2⟩ := List.any_eq_true.1 (List.all_eq_true.1 hk j (List.mem_range.2 hj))
      simp only [Bool.and_eq_true, decide_eq_true_eq, List.mem_range] at hk1 hk2
      by_cases hkn : k = n
      · subst hkn; exact ready_not hk2.2 hju
      · cases hl : listed.getD k false with
        | false => exact ih k (by omega) (by omega) (getD_in (by rw [inv.size]; obtain ⟨o, ho, _⟩ := Region.waitsFor_spec hk2.2; exact (Array.getElem?_eq_some_iff.1 ho).1) hl)
        | true =>
          obtain ⟨o, ho, e, he, hbe, hon⟩ := Region.waitsFor_spec hk2.2
          have := inv.closed k o ho hl e he hbe
          rw [hon, getD_both hju] at this
          cases this
  intro hr
  by_cases htn : t = n
  · subst htn; exact atN _ i (Nat.le_refl _) hi hu hr
  · have hts : t < ops.size := by obtain ⟨_, o, ho, _⟩ := mem_ready.1 hr; exact (Array.getElem?_eq_some_iff.1 ho).1
    have q := List.all_eq_true.1 hb t (List.mem_range.2 hts)
    simp only [Bool.or_eq_true, decide_eq_true_eq, List.any_eq_true, Bool.and_eq_true, List.mem_range] at q
    rcases q with q | ⟨s, hs, h1, h2⟩
    · omega
    · exact ready_not h2 (inv.tail s h1 (by omega)) hr
end
/-- what is asked of one operation's answer -/
def relUpon (post : Value → World → Prop) : Result Next → Prop
  | .ok (.value u) w' => post u w'
  | .ok .skip w' => post undef w'
  | .ok (.enter f args) w' => Calls Tryz.prog f args w' fun e w'' => ∃ v, e = .returned v ∧ post v w''
  | _ => False
theorem wp_of_rel {o : Oper} {a : Act} {w : World} {post : Value → World → Prop} {K : Act → World → Prop} {Q : Exit → Act → World → Prop} (h : relUpon post ((execOp a.eval o).run Tryz.prog w)) (hk : ∀ v w', post v w' → K (a.put o.dst v) w') : o.wp Tryz.prog a w K Q := by
  unfold Oper.wp
  generalize (execOp a.eval o).run Tryz.prog w = r at *
  cases r with
  | ok x w' =>
    cases x <;> simp only [relUpon] at h <;> simp only [Oper.upon]
    case value u => exact hk _ _ h
    case skip => exact hk _ _ h
    case enter f args => exact h.mono fun e w'' ⟨v, he, hp⟩ => by subst he; exact hk _ _ hp
  | halt x w' => simp only [relUpon] at h
section
variable {ops : Array Oper} {md : Region.Mode}
def dstOf (ops : Array Oper) (i : Nat) : Option Tmp := (ops[i]?).bind (·.dst)
theorem dstOf_at {i : Nat} {o : Oper} (h : ops[i]? = some o) : dstOf ops i = o.dst := by simp [dstOf, h]
/-- the frame when these have come up, in this order -/
def actOf (ops : Array Oper) (vs : Nat → Value) (a : Act) (h : List Nat) : Act := h.foldl (fun a i => a.put (dstOf ops i) (vs i)) a
theorem actOf_put {dst : Option Tmp} {v : Value} {vs : Nat → Value} (h : List Nat) (hd : ∀ j ∈ h, ∀ d, dst = some d → dstOf ops j ≠ some d) (a : Act) : actOf ops vs (a.put dst v) h = (actOf ops vs a h).put dst v := by
  induction h generalizing a with
  | nil => rfl
  | cons j h ih =>
    show actOf ops vs ((a.put dst v).put (dstOf ops j) (vs j)) h = (actOf ops vs (a.put (dstOf ops j) (vs j)) h).put dst v
    rw [Act.put_comm a v (vs j) (hd j (by simp))]
    exact ih (fun k hk => hd k (by simp [hk])) _
/-- two operations write to different places -/
def Parted (ops : Array Oper) (n : Nat) : Prop := ∀ i j, i < n → j < n → i ≠ j → ∀ d, dstOf ops i = some d → dstOf ops j ≠ some d
theorem actOf_perm {n : Nat} (hP : Parted ops n) {vs : Nat → Value} {h h' : List Nat} (p : h.Perm h') (hn : ∀ i ∈ h, i < n) (a : Act) : actOf ops vs a h = actOf ops vs a h' :=
  p.foldl_eq' (fun x hx y hy z => by
    by_cases e : x = y
    · rw [e]
    · exact Act.put_comm z _ _ (hP x y (hn x hx) (hn y hy) e)) a
theorem actOf_vs {vs vs' : Nat → Value} (h : List Nat) (e : ∀ i ∈ h, vs i = vs' i) (a : Act) : actOf ops vs a h = actOf ops vs' a h := by
  induction h generalizing a with
  | nil => rfl
  | cons j h ih =>
    show actOf ops vs (a.put (dstOf ops j) (vs j)) h = actOf ops vs' (a.put (dstOf ops j) (vs' j)) h
    rw [e j (by simp)]
    exact ih (fun k hk => e k (by simp [hk])) _
/-- what an operation does not look at makes no difference to it -/
theorem exec_act {n : Nat} (hP : Parted ops n) {o : Oper} (hs : ∀ cs b, o.op ≠ .select cs b) {vs : Nat → Value} {D : List Nat} (h : List Nat) (hnd : h.Nodup) (hn : ∀ i ∈ h, i < n) (hD : ∀ j ∈ h, j ∉ D → ∀ d, dstOf ops j = some d → d ∉ o.looksAt ops) (a : Act) :
    execOp (actOf ops vs a h).eval o = execOp (actOf ops vs a (h.filter fun j => D.contains j)).eval o := by
  induction h generalizing a with
  | nil => rfl
  | cons j h ih =>
    have hnd' := List.nodup_cons.1 hnd
    have ih' := fun b => ih hnd'.2 (fun k hk => hn k (by simp [hk])) (fun k hk => hD k (by simp [hk])) b
    show execOp (actOf ops vs (a.put (dstOf ops j) (vs j)) h).eval o = _
    by_cases hj : j ∈ D
    · rw [List.filter_cons_of_pos (by simpa using hj)]
      exact ih' _
    · rw [List.filter_cons_of_neg (by simpa using hj), ← ih' a, actOf_put h (fun k hk => hP j k (hn j (by simp)) (hn k (by simp [hk])) (fun e => hnd'.1 (e ▸ hk))) a]
      exact execOp_put o hs _ _ _ (hD j (by simp) hj)
/-- what has come up -/
def listOf (m : Nat) (h : List Nat) : Array Bool := h.foldl (fun l i => l.setIfInBounds i true) (Array.replicate m false)
theorem listOf_snoc (m : Nat) (h : List Nat) (i : Nat) : listOf m (h ++ [i]) = (listOf m h).setIfInBounds i true := by simp [listOf]
theorem foldl_get (h : List Nat) (l : Array Bool) : (h.foldl (fun l i => l.setIfInBounds i true) l).size = l.size ∧ ∀ j, j < l.size → ((h.foldl (fun l i => l.setIfInBounds i true) l).getD j false = true ↔ (j ∈ h ∨ l.getD j false = true)) := by
  induction h generalizing l with
  | nil => exact ⟨rfl, fun j _ => by simp⟩
  | cons i h ih =>
    obtain ⟨s, q⟩ := ih (l.setIfInBounds i true)
    refine ⟨by simpa using s, fun j hj => ?_⟩
    have := q j (by simpa using hj)
    simp only [List.foldl_cons, List.mem_cons]
    rw [this]
    by_cases e : i = j
    · subst e
      simp [hj]
    · rw [getD_set_ne false e]
      constructor
      · rintro (x | x)
        · exact .inl (.inr x)
        · exact .inr x
      · rintro ((x | x) | x)
        · exact absurd x.symm e
        · exact .inl x
        · exact .inr x
theorem listOf_get {m : Nat} {h : List Nat} {j : Nat} (hj : j < m) : (listOf m h).getD j false = true ↔ j ∈ h := by
  have := (foldl_get h (Array.replicate m false)).2 j (by simpa using hj)
  unfold listOf
  rw [this, getD_replicate_false]; simp
theorem listOf_size (m : Nat) (h : List Nat) : (listOf m h).size = m := by
  have := (foldl_get h (Array.replicate m false)).1
  simpa [listOf] using this
theorem listOf_same {m : Nat} {h h' : List Nat} (e : ∀ j, j < m → (j ∈ h ↔ j ∈ h')) : listOf m h = listOf m h' := by
  apply Array.ext
  · rw [listOf_size, listOf_size]
  · intro j h1 h2
    have hj : j < m := by rw [listOf_size] at h1; exact h1
    have p := listOf_get (h := h) hj
    have q := listOf_get (h := h') hj
    simp only [Array.getD_eq_getD_getElem?, Array.getElem?_eq_getElem h1, Array.getElem?_eq_getElem h2, Option.getD_some] at p q
    have := e j hj
    cases x : (listOf m h)[j] <;> cases y : (listOf m h')[j] <;> simp_all
end
section
variable {ops : Array Oper} {md : Region.Mode} {Q : Exit → Act → World → Prop}
/-- each operation of the first n waits for earlier ones alone -/
def lowB (md : Region.Mode) (ops : Array Oper) (n : Nat) : Bool :=
  (List.range n).all fun i => ((ops[i]?).map fun o => o.after.all fun e => !Region.binds md e || decide (e.on < i)).getD false
theorem lowB_at {n i : Nat} (h : lowB md ops n = true) (hi : i < n) : ∃ o, ops[i]? = some o ∧ ∀ e ∈ o.after, Region.binds md e = true → e.on < i := by
  have := List.all_eq_true.1 h i (List.mem_range.2 hi)
  cases ho : ops[i]? with
  | none => rw [ho] at this; cases this
  | some o =>
    rw [ho] at this
    refine ⟨o, rfl, fun e he hb => ?_⟩
    simp only [Option.map_some, Option.getD_some, Array.all_eq_true_iff_forall_mem, Bool.or_eq_true, Bool.not_eq_true', decide_eq_true_eq] at this
    rcases this e he with q | q
    · rw [hb] at q; cases q
    · exact q
theorem least (r : List Nat) (h : r ≠ []) : ∃ i ∈ r, ∀ j ∈ r, i ≤ j := by
  induction r with
  | nil => exact absurd rfl h
  | cons x r ih =>
    by_cases hr : r = []
    · subst hr; exact ⟨x, by simp, fun j hj => by simp at hj; omega⟩
    · obtain ⟨i, hi, hm⟩ := ih hr
      by_cases hx : x ≤ i
      · exact ⟨x, by simp, fun j hj => by
          rcases List.mem_cons.1 hj with e | e
          · omega
          · have := hm j e; omega⟩
      · exact ⟨i, by simp [hi], fun j hj => by
          rcases List.mem_cons.1 hj with e | e
          · omega
          · exact hm j e⟩
theorem rel_any {n g : Nat} {a : Act} {W : World} {R : Nat → Value → World → Prop} {D : Nat → List Nat}
    (hst : ∀ i v w w', R i v w → w.grownBy w' none → R i v w')
    (hsel : ∀ (j : Nat) (o : Oper) cs b, ops[j]? = some o → o.op ≠ .select cs b)
    (hgd : ∀ i o, i < n → ops[i]? = some o → o.guard = none)
    (hP : Parted ops n)
    (hDn : ∀ i, i < n → (D i).Nodup ∧ ∀ j ∈ D i, j < n ∧ Region.waitsFor md ops i j = true)
    (hDl : ∀ i o, i < n → ops[i]? = some o → ∀ j, j < n → j ∉ D i → ∀ d, dstOf ops j = some d → d ∉ o.looksAt ops)
    (hk : Region.sinkB md ops n = true) (hb : behindB md ops n = true) (hlow : lowB md ops n = true)
    (hop : ∀ i o, i < n → ops[i]? = some o → ∀ (vs : Nat → Value) w, W.grownBy w none → (∀ j ∈ D i, R j (vs j) w) → relUpon (fun v w' => w.grownBy w' none ∧ R i v w') ((execOp (actOf ops vs a (D i)).eval o).run Tryz.prog w))
    (hend : ∀ (vs : Nat → Value) w, W.grownBy w none → (∀ i, i < n → R i (vs i) w) → wpAny Tryz.prog md ops Q g (listOf ops.size (List.range n)) (actOf ops vs a (List.range n)) w) :
    ∀ (m : Nat) (h r : List Nat) (vs : Nat → Value) (w : World), r.length = m → (h ++ r).Perm (List.range n) → HeadInv md ops n (listOf ops.size h) → W.grownBy w none → (∀ i ∈ h, R i (vs i) w) →
      wpAny Tryz.prog md ops Q (m + g) (listOf ops.size h) (actOf ops vs a h) w := by
  intro m
  induction m with
  | zero =>
    intro h r vs w hr hp inv G hR
    obtain rfl : r = [] := List.eq_nil_of_length_eq_zero hr
    rw [List.append_nil] at hp
    rw [listOf_same (h := h) (h' := List.range n) (fun j _ => hp.mem_iff), actOf_perm hP hp (fun i hi => List.mem_range.1 (hp.mem_iff.1 hi)), Nat.zero_add]
    exact hend vs w G (fun i hi => hR i (hp.mem_iff.2 (List.mem_range.2 hi)))
  | succ m ih =>
    intro h r vs w hr hp inv G hR
    have hnd : (h ++ r).Nodup := hp.nodup_iff.2 List.nodup_range
    have hmem : ∀ i, i < n ↔ (i ∈ h ∨ i ∈ r) := fun i => by rw [← List.mem_range, ← hp.mem_iff, List.mem_append]
    obtain ⟨hndh, hndr, hdis⟩ := List.nodup_append.1 hnd
    have hlth : ∀ i ∈ h, i < n := fun i hi => (hmem i).2 (.inl hi)
    have hopen : ∀ i, i ∈ r → (listOf ops.size h).getD i true = false := fun i hi => by
      obtain ⟨o, ho, -⟩ := lowB_at hlow ((hmem i).2 (.inr hi))
      have hlt : i < ops.size := (Array.getElem?_eq_some_iff.1 ho).1
      refine getD_in (by rw [listOf_size]; exact hlt) ?_
      cases q : (listOf ops.size h).getD i false
      · rfl
      · exact absurd rfl (hdis i ((listOf_get hlt).1 q) i hi)
    obtain ⟨i0, hi0, hleast⟩ := least r (fun e => by rw [e] at hr; simp at hr)
    have hi0n := (hmem i0).2 (.inr hi0)
    have hready : i0 ∈ Region.ready md ops (listOf ops.size h) := by
      obtain ⟨o, ho, hlo⟩ := lowB_at hlow hi0n
      refine mem_ready.2 ⟨hopen i0 hi0, o, ho, fun e he hbe => ?_⟩
      have h1 := hlo e he hbe
      have h2 : e.on < ops.size := by have := (Array.getElem?_eq_some_iff.1 ho).1; omega
      refine (listOf_get h2).2 ?_
      rcases (hmem e.on).1 (by omega) with q | q
      · exact q
      · have := hleast _ q; omega
    rw [show m + 1 + g = (m + g) + 1 by omega]
    refine ⟨fun e => absurd e (List.ne_nil_of_mem hready), fun i hi => ?_⟩
    have hin : i < n := Nat.lt_of_not_le fun hle => none_behind hk hb inv hi0n (hopen i0 hi0) hle hi
    obtain ⟨hiu, o, ho, hall⟩ := mem_ready.1 hi
    have hlt : i < ops.size := (Array.getElem?_eq_some_iff.1 ho).1
    have hir : i ∈ r := by
      rcases (hmem i).1 hin with q | q
      · have := (listOf_get (h := h) hlt).2 q
        rw [getD_both hiu] at this; cases this
      · exact q
    obtain ⟨hDnd, hDw⟩ := hDn i hin
    have hDh : ∀ j ∈ D i, j ∈ h := fun j hj => by
      obtain ⟨o2, ho2, e, he, hbe, hon⟩ := Region.waitsFor_spec (hDw j hj).2
      cases ho.symm.trans ho2
      have := hall e he hbe
      rw [hon] at this
      obtain ⟨o3, ho3, -⟩ := lowB_at hlow (hDw j hj).1
      exact (listOf_get (Array.getElem?_eq_some_iff.1 ho3).1).1 this
    have hex : execOp (actOf ops vs a h).eval o = execOp (actOf ops vs a (D i)).eval o := by
      rw [exec_act (D := D i) hP (fun cs b => hsel i o cs b ho) h hndh hlth (fun j hj hjD => hDl i o hin ho j (hlth j hj) hjD) a]
      rw [actOf_perm hP (h' := D i) ((List.perm_ext_iff_of_nodup (hndh.filter _) hDnd).2 fun j => by
        simp only [List.mem_filter, List.contains_eq_mem, decide_eq_true_eq]
        exact ⟨fun q => q.2, fun q => ⟨hDh j q, q⟩⟩) (fun j hj => hlth j (List.mem_filter.1 hj).1) a]
    unfold wpOp
    simp only [ho]
    rw [if_pos (by simp [Region.wanted, hgd i o hin ho])]
    refine .inl (wp_of_rel (post := fun v w' => w.grownBy w' none ∧ R i v w') (by rw [hex]; exact hop i o hin ho vs w G (fun j hj => hR j (hDh j hj))) fun v w' ⟨g1, hRi⟩ => ?_)
    have hvs : ∀ j ∈ h, vs j = (fun k => if k = i then v else vs k) j := fun j hj => by
      have : j ≠ i := fun e => hdis j hj i hir e
      simp [this]
    have e1 : (actOf ops vs a h).put o.dst v = actOf ops (fun k => if k = i then v else vs k) a (h ++ [i]) := by
      unfold actOf
      rw [List.foldl_append]
      show _ = (actOf ops (fun k => if k = i then v else vs k) a h).put (dstOf ops i) ((fun k => if k = i then v else vs k) i)
      rw [← actOf_vs h hvs a, dstOf_at ho]
      simp; rfl
    rw [e1, ← listOf_snoc]
    have hrp := List.perm_cons_erase hir
    refine ih (h ++ [i]) (r.erase i) _ w' (by rw [List.length_erase_of_mem hir, hr]; rfl) ?_ (by rw [listOf_snoc]; exact inv.set hi hin) (gtrans G g1) fun j hj => ?_
    · rw [List.append_assoc]
      exact (List.Perm.append_left h hrp.symm).trans hp
    · rcases List.mem_append.1 hj with q | q
      · have hne : j ≠ i := fun e => hdis j q i hir e
        simp only [hne, if_false]
        exact hst j _ _ _ (hR j q) g1
      · rw [List.mem_singleton.1 q]; simpa using hRi
end
/-- one claim for each number below n -/
def below (p : Nat → Prop) : Nat → Prop
  | 0 => True
  | n + 1 => below p n ∧ p n
theorem below_at {p : Nat → Prop} {n : Nat} (h : below p n) (i : Nat) (hi : i < n) : p i := by
  induction n with
  | zero => omega
  | succ n ih =>
    by_cases e : i = n
    · subst e; exact h.2
    · exact ih h.1 (by omega)
/-- which of the first n an operation looks at -/
def depsOf (ops : Array Oper) (n i : Nat) : List Nat :=
  (List.range n).filter fun j => match ops[i]?, dstOf ops j with
    | some o, some d => (o.looksAt ops).contains d
    | _, _ => false
/-- what the kernel reckons of a region -/
def relB (ops : Array Oper) (n : Nat) (D : List (List Nat)) : Bool :=
  Region.noSelect ops && ((List.range n).all (fun i => ((ops[i]?).map (fun o => o.guard.isNone)).getD false) &&
  ((List.range n).all (fun i => (List.range n).all fun j => i == j || (dstOf ops i).isNone || dstOf ops i != dstOf ops j) &&
  ((List.range n).all (fun i => D.getD i [] == depsOf ops n i && (depsOf ops n i).all fun j => Region.waitsFor .any ops i j) &&
  (Region.sinkB .any ops n && (behindB .any ops n && (lowB .any ops n && decide (n < ops.size)))))))
theorem region_rel {id : Nat} {Q : Exit → Act → World → Prop} {a : Act} {w : World} {l : List Oper} (n : Nat) (D : List (List Nat)) (R : Nat → Value → World → Prop) (hm : Tryz.prog.follows .mixedOrders = true) (hB : relB l.toArray n D = true)
    (hst : below (fun i => ∀ v u u', R i v u → u.grownBy u' none → R i v u') n)
    (hop : below (fun i => ∀ o, l.toArray[i]? = some o → ∀ (vs : Nat → Value) u, w.drew.grownBy u none → (∀ j ∈ D.getD i [], R j (vs j) u) → relUpon (fun v u' => u.grownBy u' none ∧ R i v u') ((execOp (actOf l.toArray vs a (D.getD i [])).eval o).run Tryz.prog u)) n)
    (hend : ∀ (vs : Nat → Value) u, w.drew.grownBy u none → below (fun i => R i (vs i) u) n → wpAny Tryz.prog .any l.toArray Q (l.length - n) (listOf l.length (List.range n)) (actOf l.toArray vs a (List.range n)) u) : (Code.region id l.toArray true).wp Tryz.prog Q a w := by
  simp only [relB, Bool.and_eq_true, decide_eq_true_eq] at hB
  obtain ⟨hsel, hgd, hpt, hdp, hk, hb, hlow, hsz⟩ := hB
  have hsz' : n < l.length := by simpa using hsz
  have hD : ∀ i, i < n → D.getD i [] = depsOf l.toArray n i := fun i hi => by
    have := List.all_eq_true.1 hdp i (List.mem_range.2 hi)
    simp only [Bool.and_eq_true, beq_iff_eq] at this
    exact this.1
  refine wp_region_any hm ?_
  have H := rel_any (ops := l.toArray) (md := .any) (Q := Q) (n := n) (g := l.length - n) (a := a) (W := w.drew) (R := fun i v u => i < n → R i v u) (D := fun i => D.getD i [])
    (fun i v u u' h g hi => below_at hst i hi v u u' (h hi) g)
    (Region.noSelect_spec hsel)
    (fun i o hi ho => by
      have := List.all_eq_true.1 hgd i (List.mem_range.2 hi)
      rw [ho] at this
      simpa using this)
    (fun i j hi hj hne d hd => by
      have := List.all_eq_true.1 (List.all_eq_true.1 hpt i (List.mem_range.2 hi)) j (List.mem_range.2 hj)
      simp only [Bool.or_eq_true, beq_iff_eq, bne_iff_ne, ne_eq] at this
      rcases this with (q | q) | q
      · exact absurd q hne
      · rw [hd] at q; cases q
      · exact fun e => q (hd.trans e.symm))
    (fun i hi => by
      rw [hD i hi]
      refine ⟨List.nodup_range.filter _, fun j hj => ?_⟩
      have := List.all_eq_true.1 hdp i (List.mem_range.2 hi)
      simp only [Bool.and_eq_true] at this
      exact ⟨List.mem_range.1 (List.mem_filter.1 hj).1, List.all_eq_true.1 this.2 j hj⟩)
    (fun i o hi ho j hj hjD d hd hl => hjD (by
      rw [hD i hi]
      refine List.mem_filter.2 ⟨List.mem_range.2 hj, ?_⟩
      rw [ho, hd]
      simpa using hl))
    hk hb hlow
    (fun i o hi ho vs u g hR => by
      have q := below_at hop i hi o ho vs u g (fun j hj => hR j hj (by rw [hD i hi] at hj; exact List.mem_range.1 (List.mem_filter.1 hj).1))
      have mono : ∀ {p p' : Value → World → Prop} (r : Result Next), (∀ v u, p v u → p' v u) → relUpon p r → relUpon p' r := fun r hpp hr => by
        cases r with
        | ok x u' =>
          cases x <;> simp only [relUpon] at hr ⊢
          case value v => exact hpp _ _ hr
          case skip => exact hpp _ _ hr
          case enter f args => exact hr.mono fun e u'' ⟨v, he, hv⟩ => ⟨v, he, hpp _ _ hv⟩
        | halt x u' => simp only [relUpon] at hr
      exact mono _ (fun v u' h => ⟨h.1, fun _ => h.2⟩) q)
    (fun vs u g hR => by
      refine hend vs u g ?_
      have : ∀ m, m ≤ n → below (fun i => R i (vs i) u) m := fun m => by
        induction m with
        | zero => intro _; trivial
        | succ m ih => intro hm'; exact ⟨ih (by omega), hR m (by omega) (by omega)⟩
      exact this n (Nat.le_refl _))
    n [] (List.range n) (fun _ => undef) w.drew (by simp) (by simp) ⟨by simp [listOf], fun j oj _ hl => (by unfold listOf at hl; simp only [List.foldl_nil] at hl; rw [getD_replicate_false] at hl; cases hl), fun t _ ht => getD_in (by simpa [listOf] using ht) (by unfold listOf; simp only [List.foldl_nil]; exact getD_replicate_false _ _)⟩ (World.grownBy.refl _ _) (fun i hi => by cases hi)
  have e : n + (l.length - n) = l.toArray.size := by simp; omega
  rw [e] at H
  exact H
end Go.Proofs.YteialkknddpbjaaGreatDoor
namespace Go.Proofs.YteialkknddpbjaaGreatDoor
open Go.ChangeShapes Go.WideShapes Go.ChangeAt Go.RowKit

/-- f tells what each disk holds in the row, or held before it was lost; their parity is right -/
structure RowIs (l : List DZ) (r : Int) (f : Nat → Int) : Prop where
  b : ∀ i, i < l.length → okv (f i) = true
  val : ∀ i, i < l.length → (l.getD i .zero).can r = true → canV (l.getD i .zero) r = f i
  one : (badZ l r).length ≤ 1
  par : foldX ((List.range l.length).map f) = 0
theorem mem_bad {l : List DZ} {r : Int} {i : Nat} (hi : i < l.length) (hc : (l.getD i .zero).can r = false) : (i : Int) ∈ badZ l r := by
  unfold badZ badL
  exact List.mem_map.2 ⟨i, List.mem_filter.2 ⟨List.mem_range.2 hi, by rw [hc]; rfl⟩, rfl⟩
theorem map_range (l : List DZ) (g : DZ → Int) : l.map g = (List.range l.length).map fun i => g (l.getD i .zero) := by
  apply List.ext_getElem (by simp)
  intro i h1 h2
  simp only [List.getElem_map, List.getElem_range]
  rw [getD_at (by simpa using h1)]
theorem xor_back {a b : Nat} (h : a ^^^ b = 0) : a = b := by
  have : (a ^^^ b) ^^^ b = a := by rw [Nat.xor_assoc, Nat.xor_self, Nat.xor_zero]
  rw [h, Nat.zero_xor] at this; exact this.symm
section
variable {l : List DZ} {r : Int} {f : Nat → Int}
theorem RowIs.tell (h : RowIs l r f) {i : Nat} (hi : i < l.length) : tellOk l i r = true ∧ tellV l i r = f i := by
  unfold tellOk tellV
  simp only [Int.toNat_natCast]
  cases hc : (l.getD i .zero).can r
  · have hm := mem_bad hi hc
    have hlen : (badZ l r).length = 1 := by have := h.one; have := List.length_pos_of_mem hm; omega
    have honly : ∀ j, j < l.length → j ≠ i → (l.getD j .zero).can r = true := fun j hj hne => by
      cases hcj : (l.getD j .zero).can r
      · have hmj := mem_bad hj hcj
        obtain ⟨x, hx⟩ := List.length_eq_one_iff.1 hlen
        rw [hx] at hm hmj
        simp only [List.mem_singleton] at hm hmj
        omega
      · rfl
    have e1 : l.map (fun d => canV d r) = ((List.range l.length).map f).set i 0 := by
      rw [map_range]
      apply List.ext_getElem (by simp)
      intro j h1 h2
      have h3 : j < l.length := by simpa using h1
      by_cases e : i = j
      · subst e
        rw [List.getElem_set_self]
        simp only [List.getElem_map, List.getElem_range, canV, hc]
        rfl
      · rw [List.getElem_set_ne e]
        simp only [List.getElem_map, List.getElem_range]
        exact h.val j h3 (honly j h3 (Ne.symm e))
    have hX : rowX l r ^^^ (f i).toNat = 0 := by
      unfold rowX
      rw [e1, foldX_set _ _ _ (by simpa using hi), h.par]
      simp
    have hE := xor_back hX
    have hb := okv_iff.1 (h.b i hi)
    refine ⟨by simp [hlen], ?_⟩
    simp only [Bool.false_eq_true, if_false, hlen, beq_self_eq_true, if_true, hE]
    omega
  · exact ⟨by simp, by simp only [if_true]; exact h.val i hi hc⟩
end
/-- a patch changes each of its disks once -/
theorem patch_at (l : List DZ) (row : Int) (F : List Nat) (g : Nat → Int) (hF : F.Nodup) (hlt : ∀ i ∈ F, i < l.length) (k : Nat) (hk : k ≤ F.length) (i : Nat) :
    (patchK l ⟨row, F.map fun i : Nat => (i : Int), F.map g⟩ k).getD i .zero = if i ∈ F.take k then (l.getD i .zero).put row (g i) else l.getD i .zero := by
  induction k generalizing i with
  | zero => simp [patchK]
  | succ k ih =>
    have hkl : k < F.length := by omega
    have h1 : (F.map fun i : Nat => (i : Int)).getD k 0 = (F[k] : Int) := by simp [List.getD_eq_getElem?_getD, List.getElem?_eq_getElem hkl]
    have h2 : (F.map g).getD k 0 = g F[k] := by simp [List.getD_eq_getElem?_getD, List.getElem?_eq_getElem hkl]
    have h3 := hlt F[k] (List.getElem_mem hkl)
    have hnot : F[k] ∉ F.take k := by
      intro hm
      obtain ⟨j, hj, e⟩ := List.getElem_of_mem hm
      rw [List.getElem_take] at e
      have hjk : j < k := by simp at hj; omega
      have := (List.nodup_iff_pairwise_ne.1 hF)
      exact (List.pairwise_iff_getElem.1 this j k (by omega) hkl hjk) e
    unfold patchK
    simp only [h1, h2]
    rw [if_pos (by omega), Int.toNat_natCast]
    have hlen := patchK_length l ⟨row, F.map fun i : Nat => (i : Int), F.map g⟩ k
    have hT := List.take_succ_eq_append_getElem hkl
    by_cases e : i = F[k]
    · subst e
      rw [getD_at (by rw [List.length_set, hlen]; exact h3), List.getElem_set_self, ih (by omega), if_neg hnot, if_pos (by rw [hT]; exact List.mem_append_right _ (List.mem_singleton.2 rfl))]
    · have hs : ((patchK l ⟨row, F.map fun i : Nat => (i : Int), F.map g⟩ k).set F[k] (((patchK l ⟨row, F.map fun i : Nat => (i : Int), F.map g⟩ k).getD F[k] .zero).put row (g F[k]))).getD i .zero = (patchK l ⟨row, F.map fun i : Nat => (i : Int), F.map g⟩ k).getD i .zero := by
        simp only [List.getD_eq_getElem?_getD, List.getElem?_set_ne (Ne.symm e)]
      rw [hs, ih (by omega), hT]
      simp only [List.mem_append, List.mem_singleton, e, or_false]
theorem for_at {l : List DZ} {p v : Int} (h : forOk l p v = true) (i : Nat) :
    (patchZ l (forP l p v)).getD i .zero = if i < l.length ∧ pickI l (forD l p) (forE l p) i = true then (l.getD i .zero).put (forRow l p) (if ((i : Int) == forD l p) = true then v else forSum l p v) else l.getD i .zero := by
  have hA : forAll l p v = true := by simp only [forOk, Bool.and_eq_true] at h; exact h.1
  rw [(for_yes hA).1]
  have := patch_at l (forRow l p) ((List.range l.length).filter (pickI l (forD l p) (forE l p))) (fun i : Nat => if ((i : Int) == forD l p) = true then v else forSum l p v)
    (List.Pairwise.filter _ List.nodup_range) (fun i hi => by simpa using (List.mem_filter.1 hi).1) ((List.range l.length).filter (pickI l (forD l p) (forE l p))).length (Nat.le_refl _) i
  rw [List.take_length] at this
  unfold patchZ
  simp only [dsF, vsF, List.length_map]
  rw [this]
  simp only [List.mem_filter, List.mem_range]
/-- what a write leaves alone -/
theorem put_else (d : DZ) {p r : Int} (v : Int) (h : r ≠ p) : (d.put p v).can r = d.can r ∧ canV (d.put p v) r = canV d r := by
  have hc : (d.put p v).can r = d.can r ∧ (d.can r = true → (d.put p v).cell r = d.cell r) := by
    unfold DZ.put
    split
    · rename_i hm
      have hp : 0 ≤ p := by simp [DZ.may, DZ.has] at hm; omega
      have hcell : ∀ q : Int, 0 ≤ q → q ≠ p → DZ.cell { d with m := d.m.set p.toNat (cofV d.n p v, cofS d.n p v) } q = d.cell q := fun q hq hne => by
        simp only [DZ.cell, List.getD_eq_getElem?_getD]
        rw [List.getElem?_set_ne (by omega)]
      by_cases hr : 0 ≤ r
      · refine ⟨?_, fun _ => hcell r hr h⟩
        simp only [DZ.can, DZ.has, List.length_set, hcell r hr h]
      · refine ⟨?_, fun e => absurd e (by simp [DZ.can, DZ.has, hr])⟩
        simp [DZ.can, DZ.has, hr]
    · exact ⟨rfl, fun _ => rfl⟩
  refine ⟨hc.1, ?_⟩
  unfold canV
  rw [hc.1]
  split
  · rename_i h1; rw [hc.2 h1]
  · rfl
theorem bad_le {l m : List DZ} {r : Int} (hl : m.length = l.length) (h : ∀ i, i < l.length → (l.getD i .zero).can r = true → (m.getD i .zero).can r = true) : (badZ m r).length ≤ (badZ l r).length := by
  unfold badZ badL
  rw [List.length_map, List.length_map, ← List.countP_eq_length_filter, ← List.countP_eq_length_filter, hl]
  apply List.countP_mono_left
  intro i hi hb
  have hi' : i < l.length := by simpa using hi
  cases hc : (l.getD i .zero).can r
  · rfl
  · rw [h i hi' hc] at hb; exact absurd hb (by simp)
theorem ok_at {l : List DZ} (h : disksOkZ l = true) {i : Nat} (hi : i < l.length) : (l.getD i .zero).ok = true ∧ (l.getD i .zero).n = i ∧ ((l.getD i .zero).dead = false → (l.getD i .zero).m.length = rowsZ l) := by
  simp only [disksOkZ, Bool.and_eq_true, List.all_eq_true, List.mem_range] at h
  have := h.2.1 i hi
  simp only [DZ.fitsIn, Bool.and_eq_true, Bool.or_eq_true, beq_iff_eq] at this
  exact ⟨this.1, this.2.1, fun hd => by rcases this.2.2 with e | e; rw [hd] at e; cases e; exact e⟩
theorem can_of_read {d : DZ} {p : Int} (h : d.canRead p = true) : d.can p = true := by simp only [DZ.canRead, Bool.and_eq_true] at h; exact h.2
theorem canV_of_read {d : DZ} {p : Int} (h : d.canRead p = true) : canV d p = d.readV p := by simp [canV, DZ.readV, h, can_of_read h]
theorem can_dead {d : DZ} {p : Int} (h : d.dead = true) : d.can p = false := by simp [DZ.can, h]
/-- where a write goes -/
structure ForAt (l : List DZ) (p v : Int) (d e : Nat) : Prop where
  dl : d < l.length
  el : e < l.length
  ne : d ≠ e
  fd : forD l p = d
  fe : forE l p = e
  r0 : 0 ≤ forRow l p
  r1 : forRow l p < rowsZ l
  vb : okv v = true
section
variable {l : List DZ} {p v : Int} {d e : Nat} {f g : Nat → Int}
theorem RowIs.keep {r : Int} (hf : forOk l p v = true) (hr : r ≠ forRow l p) (h : RowIs l r g) : RowIs (patchZ l (forP l p v)) r g := by
  have hlen : (patchZ l (forP l p v)).length = l.length := patchK_length _ _ _
  have hq : ∀ i, ((patchZ l (forP l p v)).getD i .zero).can r = (l.getD i .zero).can r ∧ canV ((patchZ l (forP l p v)).getD i .zero) r = canV (l.getD i .zero) r := fun i => by
    rw [for_at hf i]
    split
    · exact put_else _ _ hr
    · exact ⟨rfl, rfl⟩
  refine ⟨fun i hi => h.b i (by omega), fun i hi hc => ?_, ?_, by rw [hlen]; exact h.par⟩
  · rw [(hq i).1] at hc
    rw [(hq i).2]; exact h.val i (by omega) hc
  · exact Nat.le_trans (bad_le hlen fun i _ hc => by rw [(hq i).1]; exact hc) h.one
end
/-- a place that is there has its row and its two disks -/
theorem row_in {n p : Int} (h : 0 ≤ rowZ n p) : inB p 0 (16 * (n - 1) - 1) = true := by
  cases hi : inB p 0 (16 * (n - 1) - 1)
  · rw [rowZ_no (.inr hi)] at h; omega
  · rfl
theorem disks_n {l : List DZ} (h : disksOkZ l = true) : inB l.length 3 5 = true := by simp only [disksOkZ, Bool.and_eq_true] at h; exact h.1
/-- two lost ones are the same one -/
theorem one_bad {l : List DZ} {r : Int} (h : (badZ l r).length ≤ 1) {i j : Nat} (hi : i < l.length) (hj : j < l.length) (ci : (l.getD i .zero).can r = false) (cj : (l.getD j .zero).can r = false) : i = j := by
  have m1 := mem_bad hi ci
  have m2 := mem_bad hj cj
  have : (badZ l r).length = 1 := by have := List.length_pos_of_mem m1; omega
  obtain ⟨x, hx⟩ := List.length_eq_one_iff.1 this
  rw [hx] at m1 m2
  simp only [List.mem_singleton] at m1 m2
  omega
/-- where one at most is lost a write goes through -/
theorem RowIs.forOk {l : List DZ} {p v : Int} {d e : Nat} {f : Nat → Int} (F : ForAt l p v d e) (h : RowIs l (forRow l p) f) : forOk l p v = true := by
  have hA : forAll l p v = true := by
    simp only [forAll, forHas, Bool.and_eq_true, decide_eq_true_eq]
    refine ⟨⟨⟨F.r0, F.r1⟩, F.vb⟩, ?_⟩
    unfold othersK
    rw [List.all_eq_true]
    intro i hi
    rw [(h.tell (i := i) (by simpa using hi)).1]
    simp
  simp only [Go.Proofs.YteialkknddpbjaaGreatDoor.forOk, hA, Bool.true_and, decide_eq_true_eq]
  have hlive : (l.getD d .zero).dead = false ∨ (l.getD e .zero).dead = false := by
    cases h1 : (l.getD d .zero).dead
    · exact .inl rfl
    cases h2 : (l.getD e .zero).dead
    · exact .inr rfl
    exact absurd (one_bad h.one F.dl F.el (can_dead h1) (can_dead h2)) F.ne
  unfold dsF
  rw [List.length_map]
  rcases hlive with hl | hl
  · exact List.length_pos_of_mem (a := d) (List.mem_filter.2 ⟨List.mem_range.2 F.dl, by unfold pickI; rw [hl, F.fd]; simp⟩)
  · exact List.length_pos_of_mem (a := e) (List.mem_filter.2 ⟨List.mem_range.2 F.el, by unfold pickI; rw [hl, F.fe]; simp⟩)
/-- of a row in which none is lost one disk is changed: what it then tells is the same, or it is lost -/
theorem RowIs.lose {l : List DZ} {r : Int} {f : Nat → Int} (h : RowIs l r f) (hf : badZ l r = []) (i : Nat) (z : DZ) (hz : i < l.length → z.can r = true → canV z r = f i) : RowIs (l.set i z) r f := by
  have hget : ∀ j, j ≠ i → (l.set i z).getD j .zero = l.getD j .zero := fun j hj => by simp only [List.getD_eq_getElem?_getD, List.getElem?_set_ne (Ne.symm hj)]
  have hcan : ∀ j, j < l.length → (l.getD j .zero).can r = true := fun j hj => by
    cases hc : (l.getD j .zero).can r
    · have := mem_bad hj hc; rw [hf] at this; cases this
    · rfl
  refine ⟨fun j hj => h.b j (by simpa using hj), fun j hj hc => ?_, ?_, by rw [List.length_set]; exact h.par⟩
  · have hj' : j < l.length := by simpa using hj
    by_cases e : j = i
    · subst e
      rw [getD_at hj, List.getElem_set_self] at hc ⊢
      exact hz hj' hc
    · rw [hget j e] at hc ⊢; exact h.val j hj' hc
  · unfold badZ badL
    rw [List.length_map, List.length_set]
    rcases two_of (x := i) (y := i) (F := (List.range l.length).filter fun j => !(((l.set i z).getD j .zero).can r)) (List.Pairwise.filter _ (range_sorted _)) (fun j hj => by
      obtain ⟨h1, h2⟩ := List.mem_filter.1 hj
      by_cases e : j = i
      · exact .inl e
      · rw [hget j e, hcan j (by simpa using h1)] at h2; cases h2) with e | ⟨a, e⟩ | ⟨a, b, e, hab⟩
    · rw [e]; simp
    · rw [e]; simp
    · exfalso
      have ha : a ∈ (List.range l.length).filter fun j => !(((l.set i z).getD j .zero).can r) := by rw [e]; simp
      have hb : b ∈ (List.range l.length).filter fun j => !(((l.set i z).getD j .zero).can r) := by rw [e]; simp
      have q : ∀ j, j ∈ ((List.range l.length).filter fun j => !(((l.set i z).getD j .zero).can r)) → j = i := fun j hj => by
        obtain ⟨h1, h2⟩ := List.mem_filter.1 hj
        by_cases e : j = i
        · exact e
        · rw [hget j e, hcan j (by simpa using h1)] at h2; cases h2
      have := q a ha
      have := q b hb
      omega
theorem RowIs.same {l m : List DZ} {r : Int} {f : Nat → Int} (h : RowIs l r f) (hl : m.length = l.length) (hc : ∀ i, i < l.length → (m.getD i .zero).can r = (l.getD i .zero).can r ∧ canV (m.getD i .zero) r = canV (l.getD i .zero) r) : RowIs m r f := by
  refine ⟨fun i hi => h.b i (by omega), fun i hi hh => ?_, ?_, by rw [hl]; exact h.par⟩
  · have q := hc i (by omega)
    rw [q.1] at hh; rw [q.2]; exact h.val i (by omega) hh
  · exact Nat.le_trans (bad_le hl fun i hi hh => by rw [(hc i hi).1]; exact hh) h.one
end Go.Proofs.YteialkknddpbjaaGreatDoor
namespace Go.Proofs.YteialkknddpbjaaGreatDoor
open Go.ChangeShapes Go.WideShapes Go.ChangeAt Go.RowKit

theorem flush_at {l : List DZ} {i : Nat} (h : i < l.length) : (flushAll l).getD i .zero = (l.getD i .zero).withK (l.getD i .zero).m := by
  rw [getD_at h, getD_at (by simpa [flushAll] using h)]
  simp [flushAll]
theorem bad_same {l m : List DZ} {r : Int} (hl : m.length = l.length) (hc : ∀ i, i < l.length → (m.getD i .zero).can r = (l.getD i .zero).can r) : badZ m r = badZ l r := by
  unfold badZ badL
  rw [hl]
  congr 1
  apply List.filter_congr
  intro i hi
  rw [hc i (by simpa using hi)]
theorem flush_bad (l : List DZ) (r : Int) : badZ (flushAll l) r = badZ l r := bad_same (by simp [flushAll]) fun i hi => by rw [flush_at hi]; rfl
theorem RowIs.flush {l : List DZ} {r : Int} {f : Nat → Int} (h : RowIs l r f) : RowIs (flushAll l) r f := h.same (by simp [flushAll]) fun i hi => by rw [flush_at hi]; exact ⟨rfl, rfl⟩
theorem rows_le {l : List DZ} (h : disksOkZ l = true) : 0 < rowsZ l ∧ rowsZ l ≤ 16 := by
  have hp : 0 < rowsZ l := by simp only [disksOkZ, Bool.and_eq_true, decide_eq_true_eq] at h; exact h.2.2
  refine ⟨hp, ?_⟩
  have : ∀ (m : List DZ), 0 < rowsZ m → ∃ i, ∃ hi : i < m.length, m[i].dead = false ∧ m[i].m.length = rowsZ m := by
    intro m
    induction m with
    | nil => intro h; simp [rowsZ] at h
    | cons d r ih =>
      intro h
      cases hd : d.dead
      · exact ⟨0, by simp, by simpa using hd, by simp [rowsZ, hd]⟩
      · simp only [rowsZ, hd, if_true] at h ⊢
        obtain ⟨i, hi, h1, h2⟩ := ih h
        exact ⟨i + 1, by simpa using hi, by simpa using h1, by simpa using h2⟩
  obtain ⟨i, hi, h1, h2⟩ := this l hp
  have := (ok_at h hi).1
  rw [getD_at hi] at this
  have hl := l[i].ok_len this
  omega
/-- in each row one at most is lost -/
structure RowsAre (l : List DZ) (F : Int → Nat → Int) : Prop where
  ok : disksOkZ l = true
  row : ∀ r : Int, 0 ≤ r → r < rowsZ l → RowIs l r (F r)
/-- none is lost -/
def NoBad (l : List DZ) : Prop := ∀ r : Int, 0 ≤ r → r < rowsZ l → badZ l r = []
section
variable {l : List DZ} {F : Int → Nat → Int} {p v : Int} {d e : Nat}
theorem RowsAre.forOk (h : RowsAre l F) (A : ForAt l p v d e) : forOk l p v = true := (h.row _ A.r0 A.r1).forOk A
theorem RowsAre.flush (h : RowsAre l F) : RowsAre (flushAll l) F := by
  have hal := flushAll_alike l
  refine ⟨hal.disksOk h.ok, fun r h0 h1 => ?_⟩
  rw [hal.rows] at h1
  exact (h.row r h0 h1).flush
theorem NoBad.flush (h : NoBad l) : NoBad (flushAll l) := fun r h0 h1 => by
  rw [(flushAll_alike l).rows] at h1
  rw [flush_bad]; exact h r h0 h1
end
/-- the logical places of a list of disks hold p -/
structure Holds (l : List DZ) (F : Int → Nat → Int) (p : List Int) : Prop where
  rows : RowsAre l F
  len : p.length = (l.length - 1) * rowsZ l
  at' : ∀ i : Nat, ∀ h : i < p.length, F (rowZ l.length i) (diskZ l.length i).toNat = p[i]
section
variable {l : List DZ} {F : Int → Nat → Int} {p : List Int}
theorem Holds.where' (h : Holds l F p) {i : Nat} (hi : i < p.length) : inB l.length 3 5 = true ∧ 0 ≤ rowZ l.length i ∧ rowZ l.length i < rowsZ l := by
  have hn := disks_n h.rows.ok
  have hr := rows_le h.rows.ok
  have hlen := h.len
  have hn' := inB_iff.1 hn
  have h3 : l.length = 3 ∨ l.length = 4 ∨ l.length = 5 := by omega
  have hin : inB (i : Int) 0 (16 * ((l.length : Int) - 1) - 1) = true := by
    rcases h3 with e | e | e <;> rw [e] at hlen ⊢ <;> exact inB_yes (by omega) (by omega)
  refine ⟨hn, ?_⟩
  rw [rowZ_yes hn hin]
  rcases h3 with e | e | e <;> rw [e] at hlen ⊢ <;> omega
theorem Holds.tell (h : Holds l F p) {i : Nat} (hi : i < p.length) : cellAtOk l (diskZ l.length i) (rowZ l.length i) = true ∧ cellAtV l (diskZ l.length i) (rowZ l.length i) = p[i] := by
  obtain ⟨hn, k0, k1⟩ := h.where' hi
  obtain ⟨b1, b2, b3, b4, b5, b6, b7⟩ := layout_at hn (row_in k0)
  have q := (h.rows.row _ k0 k1).tell (i := (diskZ l.length i).toNat) (by omega)
  rw [show (((diskZ l.length i).toNat : Nat) : Int) = diskZ l.length i by omega] at q
  have hc : cellAtOk l (diskZ l.length i) (rowZ l.length i) = true := by
    simp only [cellAtOk, hasZ, h.rows.ok, q.1, Bool.and_eq_true, decide_eq_true_eq, and_true, true_and]
    exact ⟨⟨k0, k1⟩, b3, b4⟩
  exact ⟨hc, by rw [cellAtV, if_pos hc, q.2]; exact h.at' i hi⟩
theorem Holds.flush (h : Holds l F p) : Holds (flushAll l) F p := by
  have hal := flushAll_alike l
  exact ⟨h.rows.flush, by rw [hal.1, hal.rows]; exact h.len, by rw [hal.1]; exact h.at'⟩
end
/-- an idle array whose places hold p -/
structure Held (a : AZ) (F : Int → Nat → Int) (p : List Int) : Prop where
  holds : Holds a.ds F p
  up : a.up = true
  stage : a.stage = 0
  log : a.log = []
  next : a.next = []
section
variable {a : AZ} {F : Int → Nat → Int} {p : List Int}
theorem Held.ok (h : Held a F p) : a.ok = true := by
  refine AZ.ok_mk h.holds.rows.ok (by simp [h.log]) (by simp [h.next]) (by rw [h.stage]; omega) h.up ?_
  simp [AZ.textsOk, h.stage, h.log, h.next]
theorem Held.begins (h : Held a F p) {i : Int} {v : Int} {d e : Nat} (A : ForAt a.ds i v d e) : beginOk a i v = true := by
  simp only [beginOk, h.up, h.stage, h.holds.rows.forOk A]; rfl
theorem Held.written (h : Held a F p) {i : Nat} {v : Int} {d e : Nat} (A : ForAt a.ds i v d e) : a.written i v = { a with ds := flushAll (patchZ a.ds (forP a.ds i v)), log := [], next := [], stage := 0 } := by simp [AZ.written, h.begins A]
end
end Go.Proofs.YteialkknddpbjaaGreatDoor
