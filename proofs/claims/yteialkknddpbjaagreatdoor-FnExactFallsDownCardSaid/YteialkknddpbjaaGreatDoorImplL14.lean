/- What the program's FallsDown returns: a crash as one more fault of a disk, and the array that falls down. -/
import Derived.Test.YteialkknddpbjaaGreatDoorImplL11r
import Derived.Test.YteialkknddpbjaaGreatDoorImplTn
import Derived.Test.YteialkknddpbjaaGreatDoorImplL03f
import Derived.Test.YteialkknddpbjaaGreatDoorMathFill
import Derived.Laws.EntriesVeiled
namespace Go.Proofs.YteialkknddpbjaaGreatDoor
open Go.ChangeShapes Go.WideShapes Go.ChangeAt Go.RowKit

/-- the array when one disk has fallen -/
def crashZ (a : AZ) (i : Nat) (s : Int) : AZ := { a with ds := a.ds.set i ((a.ds.getD i .zero).fall s) }
theorem disk_fine {a : AZ} (h : a.ok = true) {i : Nat} (hi : i < a.ds.length) : a.ds[i].ok = true := disksOk_at (AZ.ok_ds h) i hi
theorem crash_dead {a : AZ} (h : a.ok = true) {i : Nat} (hi : i < a.ds.length) (s : Int) (hd : a.ds[i].dead = true) : crashZ a i s = a := by
  have ho := disk_fine h hi
  have e : a.ds[i].fall s = a.ds[i] := by
    generalize a.ds[i] = d at *
    obtain ⟨n, dead, k, m⟩ := d
    dsimp only at hd
    subst hd
    simp only [DZ.ok, if_true, Bool.and_eq_true, beq_iff_eq] at ho
    obtain ⟨-, hk, hm⟩ := ho
    obtain rfl := List.eq_nil_of_length_eq_zero hk
    obtain rfl := List.eq_nil_of_length_eq_zero hm
    rfl
  unfold crashZ
  rw [getD_at hi, e, List.set_getElem_self]
theorem crash_live {a : AZ} (h : a.ok = true) {i : Nat} (hi : i < a.ds.length) {s : Int} (hs : inB s 0 65535 = true) : crashZ a i s = { a with ds := a.ds.set i (a.ds[i].fallen s) } := by
  unfold crashZ DZ.fallen
  rw [getD_at hi, if_pos (disk_fine h hi), if_pos hs]
/-- what one strike of a crash hands back -/
def FellR (a : AZ) (L : List DZ) (base : Nat) (v : Value) (u : World) : Prop := ∃ (xv : Value) (raw : List DV) (t : Value), v = .tuple #[.agg #[xv, .string (str a.log), .string (str a.next), .int .i64 a.stage, .bool a.up], t] ∧ OD u base xv L raw
theorem FellR.grew {a : AZ} {L : List DZ} {base : Nat} {v : Value} {u u' : World} (h : FellR a L base v u) (g : u.grownBy u' none) : FellR a L base v u' := by
  obtain ⟨xv, raw, t, h1, h2⟩ := h
  exact ⟨xv, raw, t, h1, h2.grew g⟩
theorem FellR.of {a : AZ} {L : List DZ} {base b2 : Nat} {xv t : Value} {raw : List DV} {u : World} (h : OD u b2 xv L raw) (hb : base ≤ b2) : FellR a L base (.tuple #[({ a with ds := L } : AZ).val xv, t]) u := ⟨xv, raw, t, rfl, h.lower hb⟩
theorem setAt_in (sets : List Int) (i : Nat) : inB (setAt sets i) 0 65535 = true := inB_yes (setAt_b sets i).1 (setAt_b sets i).2

set_option maxRecDepth 8000 in
set_option maxHeartbeats 4000000 in
theorem crashCan_any (kv nv : Value) (D : DZ) (c : Bool) (w : World) (hc : (!D.dead) = c) (h : IsD w 0 kv nv D) :
    Calls Tryz.prog 171 #[.agg #[.int .i64 D.n, .bool D.dead, kv, nv]] w (Pure (.bool c) w) := by
  obtain ⟨ka, km, kc, rfl⟩ := h.1.sl
  obtain ⟨na, nm, nc, rfl⟩ := h.2.sl
  have e0 := galloc (grefl w) (.cells #[.int .i64 D.n, .bool D.dead, .slice ka km kc, .slice na nm nc] 37)
  have b0 := Box4.new w (.int .i64 D.n) (.bool D.dead) (.slice ka km kc) (.slice na nm nc) 37
  subst hc
  go_enter Tryz.func171, Tryz.ntmps171
  go_upto_region 1 with (fail)
  generalize w.alloc (.cells #[.int .i64 D.n, .bool D.dead, .slice ka km kc, .slice na nm nc] 37) = W at *
  obtain ⟨x0, x1, x2, x3⟩ := b0
  clear h
  go_wp2_with fail
  go_ret
  exact ⟨rfl, e0⟩
set_option maxRecDepth 8000 in
set_option maxHeartbeats 4000000 in
theorem crashLeft_any (b : Nat) (s : Int) (kv nv : Value) (D : DZ) (w : World) (h : IsD w 0 kv nv D) (hb : w.cell? ⟨b, 0, none⟩ = some (.int .i64 s)) :
    Calls Tryz.prog 172 #[.agg #[.int .i64 D.n, .bool D.dead, kv, nv], .pointer (some ⟨b, 0, none⟩)] w (GotD (D.fallen s) w) := by
  obtain ⟨ka, km, kc, rfl⟩ := h.1.sl
  obtain ⟨na, nm, nc, rfl⟩ := h.2.sl
  obtain ⟨B0, Z0, g0, s0⟩ := boxed2 w (.int .i64 D.n) (.bool D.dead) (.slice ka km kc) (.slice na nm nc) 37
  have hb1 := gkc g0 hb
  have HC := fun (W : World) (g : w.grownBy W none) => implFallen_any (.slice ka km kc) (.slice na nm nc) D s W ⟨Own.grew h.1 g, Own.grew h.2 g⟩
  generalize D.fallen s = E at *
  go_enter Tryz.func172, Tryz.ntmps172
  go_upto_region 1 with (fail)
  generalize (w.alloc (.cells #[.int .i64 D.n, .bool D.dead, .slice ka km kc, .slice na nm nc] 37)).alloc (.cells #[.int .i64 0, .bool false, .slice none 0 0, .slice none 0 0] 37) = W0 at *
  obtain ⟨⟨c0, -⟩, ⟨c1, -⟩, ⟨c2, -⟩, ⟨c3, -⟩⟩ := B0
  go_wp2_with fail
  go_fit (HC _ g0)
  rintro e w2 ⟨kv2, nv2, rfl, I2, ap2, g2⟩
  obtain ⟨ka2, km2, kc2, rfl⟩ := I2.1.sl
  obtain ⟨na2, nm2, nc2, rfl⟩ := I2.2.sl
  have G2 := gtrans g0 g2
  have hs2 := g2.size
  obtain ⟨⟨z0, y0⟩, ⟨z1, y1⟩, ⟨z2, y2⟩, ⟨z3, y3⟩⟩ := Z0.kept g2 (by simp)
  have hR : NewD w (set4 w2 (w.heap.size + 1) (.int .i64 E.n) (.bool E.dead) (.slice ka2 km2 kc2) (.slice na2 nm2 nc2)) (.slice ka2 km2 kc2) (.slice na2 nm2 nc2) E :=
    ⟨⟨CS.set4 (Own.lower I2.1 (by omega)) (not_own I2.1 (by omega)) _ _ _ _, CS.set4 (Own.lower I2.2 (by omega)) (not_own I2.2 (by omega)) _ _ _ _⟩, ap2, gset4 G2 (by omega) _ _ _ _⟩
  clear c0 c1 c2 c3 h HC
  go_wp2_with fail
  exact bodyPost_ret (v := .agg #[.int .i64 E.n, .bool E.dead, .slice ka2 km2 kc2, .slice na2 nm2 nc2]) (by simp [results, Tryz.results172, go_sem, z0, z1, z2, z3]) rfl ⟨_, _, rfl, hR⟩
set_option maxRecDepth 8000 in
set_option maxHeartbeats 1000000 in
theorem crashing_any (s : Int) (w : World) :
    Calls Tryz.prog 107 #[.int .i64 s] w fun e w' => ∃ b : Nat, e = .returned (.agg #[.func (.func 171) #[] #[], .func (.func 172) #[] #[.pointer (some ⟨b, 0, none⟩)]]) ∧ w'.cell? ⟨b, 0, none⟩ = some (.int .i64 s) ∧ w.grownBy w' none := by
  go_enter Tryz.func107, Tryz.ntmps107
  go_wp2_with fail
  refine bodyPost_ret (v := .agg #[.func (.func 171) #[] #[], .func (.func 172) #[] #[.pointer (some ⟨w.heap.size, 0, none⟩)]]) (by simp [results, Tryz.results107, go_sem]) rfl ⟨w.heap.size, rfl, by simp [go_sem], ?_⟩
  repeat (first | exact grefl _ | refine galloc ?_ _ | refine gdrew ?_ _ | refine gsetN ?_ (by simp) _ _)
set_option maxRecDepth 8000 in
set_option maxHeartbeats 1000000 in
theorem setFor_any (v : Value) (l : List Int) (k : Nat) (w : World) (h : IR w v l) :
    Calls Tryz.prog 108 #[v, .int .i64 (k : Int)] w (Pure (.int .i64 (setAt l k)) w) := by
  obtain ⟨a, cap, rfl, hm⟩ := Rd.form h
  cases h1 : inB (k : Int) 0 ((l.length : Int) - 1)
  · have HN : Hid (0 = setAt l k) := by
      show _ = _
      have := inB_nf h1
      have e : decide (k < l.length) = false := decide_eq_false (by omega)
      unfold setAt; rw [e, if_neg (by simp)]
    go_enter Tryz.func108, Tryz.ntmps108
    go_wp2_with (first | (go_at_call 140; go_fit (between_any _ _ _ _); rintro e w2 ⟨rfl, rfl⟩; rw [h1]))
    go_ret
    exact ⟨ret_int HN.out, grefl _⟩
  · have h2 := inB_iff.1 h1
    have hk : k < l.length := by omega
    have hki : (k : Int) < l.length := by omega
    obtain ⟨g, o, rfl, hc⟩ := Rd.at h k hk
    have eD : l.getD k 0 = l[k] := by rw [List.getD_eq_getElem?_getD, List.getElem?_eq_getElem hk]; rfl
    cases h3 : inB l[k] 0 65535
    · have HN : Hid (0 = setAt l k) := by
        show _ = _
        unfold setAt; rw [eD, h3, Bool.and_false, if_neg (by simp)]
      generalize l[k] = x at *
      go_enter Tryz.func108, Tryz.ntmps108
      go_wp2_with (first | (go_at_call 140; go_fit (between_any _ _ _ _); rintro e w2 ⟨rfl, rfl⟩; first | rw [h1] | rw [h3]))
      go_ret
      exact ⟨ret_int HN.out, grefl _⟩
    · have HN : Hid (l[k] = setAt l k) := by
        show _ = _
        unfold setAt; rw [eD, h3, decide_eq_true hk, if_pos (by rfl)]
      generalize l[k] = x at *
      go_enter Tryz.func108, Tryz.ntmps108
      go_wp2_with (first | (go_at_call 140; go_fit (between_any _ _ _ _); rintro e w2 ⟨rfl, rfl⟩; first | rw [h1] | rw [h3]))
      go_ret
      exact ⟨ret_int HN.out, grefl _⟩
section
attribute [local go_sem] str_list str_size str_add lit_list0 add_lit lit_add str_cut
set_option maxRecDepth 8000 in
set_option maxHeartbeats 4000000 in
theorem struckFall_any (v : Value) (a : AZ) (i b : Nat) (s : Int) (c : Bool) (w : World) (hc : (!(a.ds.getD i .zero).dead) = c) (h : LD w v a.ds) (ht : Pow10 w) (hV : LibV w) (hok : a.ok = true) (hi : i < a.ds.length) (hsb : inB s 0 65535 = true) (hb : w.cell? ⟨b, 0, none⟩ = some (.int .i64 s)) :
    Calls Tryz.prog 106 #[a.val v, .int .i64 (i : Int), .agg #[.func (.func 171) #[] #[], .func (.func 172) #[] #[.pointer (some ⟨b, 0, none⟩)]]] w (GotAB (crashZ a i s) c w) := by
  have HCc := Lib.hid hc
  clear hc
  obtain ⟨xa, cap, rfl, hm⟩ := h.form
  have G0 := galloc (galloc (galloc (grefl w) (.cells #[.slice xa a.ds.length cap, .string (str a.log), .string (str a.next), .int .i64 a.stage, .bool a.up] 26)) (.cells #[.func (.func 171) #[] #[], .func (.func 172) #[] #[.pointer (some ⟨b, 0, none⟩)]] 107)) zero5
  have B0 := ((Box5.new w (.slice xa a.ds.length cap) (.string (str a.log)) (.string (str a.next)) (.int .i64 a.stage) (.bool a.up) 26).kept (galloc (grefl _) (.cells #[.func (.func 171) #[] #[], .func (.func 172) #[] #[.pointer (some ⟨b, 0, none⟩)]] 107))).kept (galloc (grefl _) zero5)
  have FB : (((w.alloc (.cells #[.slice xa a.ds.length cap, .string (str a.log), .string (str a.next), .int .i64 a.stage, .bool a.up] 26)).alloc (.cells #[.func (.func 171) #[] #[], .func (.func 172) #[] #[.pointer (some ⟨b, 0, none⟩)]] 107)).alloc zero5).cell? ⟨w.heap.size + 1, 0, none⟩ = some (.func (.func 171) #[] #[]) ∧ (((w.alloc (.cells #[.slice xa a.ds.length cap, .string (str a.log), .string (str a.next), .int .i64 a.stage, .bool a.up] 26)).alloc (.cells #[.func (.func 171) #[] #[], .func (.func 172) #[] #[.pointer (some ⟨b, 0, none⟩)]] 107)).alloc zero5).cell? ⟨w.heap.size + 1, 1, none⟩ = some (.func (.func 172) #[] #[.pointer (some ⟨b, 0, none⟩)]) := by simp [go_sem]
  have Z0 : Zero5 (((w.alloc (.cells #[.slice xa a.ds.length cap, .string (str a.log), .string (str a.next), .int .i64 a.stage, .bool a.up] 26)).alloc (.cells #[.func (.func 171) #[] #[], .func (.func 172) #[] #[.pointer (some ⟨b, 0, none⟩)]] 107)).alloc zero5) (w.heap.size + 2) := ⟨by simp [At, go_sem, zero5], by simp [At, go_sem, zero5]; rfl, by simp [At, go_sem, zero5]; rfl, by simp [At, go_sem, zero5], by simp [At, go_sem, zero5]⟩
  have s0 : (((w.alloc (.cells #[.slice xa a.ds.length cap, .string (str a.log), .string (str a.next), .int .i64 a.stage, .bool a.up] 26)).alloc (.cells #[.func (.func 171) #[] #[], .func (.func 172) #[] #[.pointer (some ⟨b, 0, none⟩)]] 107)).alloc zero5).heap.size = w.heap.size + 3 := by simp
  go_enter Tryz.func106, Tryz.ntmps106
  go_upto_region 1 with (fail)
  generalize ((w.alloc (.cells #[.slice xa a.ds.length cap, .string (str a.log), .string (str a.next), .int .i64 a.stage, .bool a.up] 26)).alloc (.cells #[.func (.func 171) #[] #[], .func (.func 172) #[] #[.pointer (some ⟨b, 0, none⟩)]] 107)).alloc zero5 = W0 at *
  have HB0 := Lib.hid B0
  obtain ⟨p0, p1, p2, p3, p4⟩ := B0
  have HA : Hid (a.ok = true) := hok
  obtain ⟨hl5, hd16⟩ := ds_small (AZ.ok_ds hok)
  have hll := AZ.ok_len hok
  have HDk : Hid (disksOkZ a.ds = true) := AZ.ok_ds hok
  go_wp2_with fail
  go_fit (implArrayOk_any _ a _ (h.kept G0) (ht.kept G0) (hV.kept G0))
  rintro e w1 ⟨rfl, g1⟩
  rw [hok]
  have G1 := gtrans G0 g1
  have HB1 := Lib.hid (HB0.out.kept g1)
  have hs1 := g1.size
  have Z1 := Z0.kept g1 (by simp)
  have FB1 := Lib.hid (And.intro (gkc g1 FB.1) (gkc g1 FB.2))
  clear p0 p1 p2 p3 p4 HB0 g1 Z0 FB
  obtain ⟨p0, p1, p2, p3, p4⟩ := HB1.out
  clear hok
  go_wp2_with fail
  go_fit (copiedArray_any _ a _ (h.kept G1) (by omega) (fun i hi => by have := hd16 i hi; omega) (by omega) (by omega))
  rintro e w2 ⟨v2, raw2, rfl, o2, g2⟩
  obtain ⟨va, vc, rfl, -⟩ := o2.form
  have hs2 := g2.size
  have e3 := galloc (grefl w2) (.cells #[.slice va a.ds.length vc, .string (str a.log), .string (str a.next), .int .i64 a.stage, .bool a.up] 26)
  have P3 : Put5 w (w2.alloc (.cells #[.slice va a.ds.length vc, .string (str a.log), .string (str a.next), .int .i64 a.stage, .bool a.up] 26)) w2.heap.size (w.heap.size + 2) w1.heap.size (.slice va a.ds.length vc) a raw2 :=
    ⟨Five.new w2 _ _ _ _ _ _, (Z1.kept g2 (by simp)).kept e3 (by simp), o2.grew e3, gtrans (gtrans G1 g2) e3, fun e => by have := (o2.own.lt _ e).2; omega, by omega, by omega⟩
  have HB3 := Lib.hid ((HB1.out.kept g2).kept e3)
  have FB3 := Lib.hid (And.intro (gkc e3 (gkc g2 FB1.out.1)) (gkc e3 (gkc g2 FB1.out.2)))
  clear p0 p1 p2 p3 p4 Z1 o2 FB1
  go_upto_region 4 with (fail)
  generalize w2.alloc (.cells #[.slice va a.ds.length vc, .string (str a.log), .string (str a.next), .int .i64 a.stage, .bool a.up] 26) = W3 at *
  generalize w2.heap.size = fb at *
  have G3 := P3.G
  have HP3 := Lib.hid P3
  obtain ⟨p0, p1, p2, p3, p4⟩ := HB3.out
  obtain ⟨fc1, fc2⟩ := FB3.out
  have HEnd : Hid (∀ W', W3.grownBy W' none → Put5 w W' fb (w.heap.size + 2) w1.heap.size (.slice va a.ds.length vc) a raw2) := fun W' g => HP3.out.kept g
  have hii : (i : Int) < a.ds.length := by omega
  have hdk : inB (i : Int) 0 (a.ds.length - 1) = true := inB_yes (by omega) (by omega)
  obtain ⟨ag, ao, ka, km, kc, na, nm, nc, rfl, x0, x1, x2, x3, DI⟩ := (h.kept G3).at i hi
  have C0 : StkS W3 W3.drew w.heap.size (.slice (some ⟨ag, ao, none⟩) a.ds.length cap) (.func (.func 171) #[] #[]) ag (ao + i * 4) (.int .i64 a.ds[i].n) (.bool a.ds[i].dead) (.slice ka km kc) (.slice na nm nc) := ⟨⟨p0, fc1, x0, x1, x2, x3⟩, gdrew (grefl _) 1⟩
  have hgi : a.ds.getD i .zero = a.ds[i] := getD_at hi
  have HD := crash_dead HA.out hi s
  have HL := crash_live HA.out hi hsb
  rw [hgi] at HCc
  cases hcan : a.ds[i].dead
  rotate_left
  · have hno := Lib.hid (HD hcan)
    have HCN := Lib.hid hcan
    clear hcan
    obtain rfl : c = false := by rw [← HCc.out, HCN.out]; rfl
    clear HCc
    clear p0 p1 p2 p3 p4 fc1 fc2 x0 x1 x2 x3 hgi
    go_wp2_with fail
    refine region_calm (fun w' => StkS W3 w' w.heap.size (.slice (some ⟨ag, ao, none⟩) a.ds.length cap) (.func (.func 171) #[] #[]) ag (ao + i * 4) (.int .i64 a.ds[i].n) (.bool a.ds[i].dead) (.slice ka km kc) (.slice na nm nc)) (by kernel_rfl) (by kernel_rfl) (C0) ?_
    repeat (first
      | (refine calm_skip (by rfl) ?_; simp only [Act.put, List.setIfInBounds_toArray, List.set_cons_zero, List.set_cons_succ])
      | (refine calm_step (by rfl) ?_
         apply Exists.intro
         refine ⟨fun w' hw' => ?_, ?_⟩
         · go_simp
           first | done | exact rfl | (go_at_call 73; go_fit (hasDisk_any _ _ _ _ _ hm); rintro e w8 ⟨rfl, rfl⟩; exact And.intro (by rw [hdk]) hw') | (go_at_call 171; go_fit (crashCan_any _ _ a.ds[i] false _ (by rw [HCN.out]; rfl) (DI.kept9 hw'.2)); rintro e w8 ⟨rfl, g8⟩; exact And.intro rfl (hw'.kept g8))
         simp only [Act.put, List.setIfInBounds_toArray, List.set_cons_zero, List.set_cons_succ]))
    refine calm_nil ?_
    intro w9 hw9
    have PE := HEnd.out _ hw9.2
    obtain ⟨⟨f0, -⟩, ⟨f1, -⟩, ⟨f2, -⟩, ⟨f3, -⟩, ⟨f4, -⟩⟩ := PE.F
    obtain ⟨⟨z0, y0⟩, ⟨z1, y1⟩, ⟨z2, y2⟩, ⟨z3, y3⟩, ⟨z4, y4⟩⟩ := PE.Z
    have HRe := Lib.hid (res5l PE.O (r := w.heap.size + 2) (by omega) (by omega) PE.G (.slice va a.ds.length vc) (.string (str a.log)) (.string (str a.next)) (.int .i64 a.stage) (.bool a.up))
    go_wp2_with fail
    exact bodyPost_ret (v := .tuple #[a.val (.slice va a.ds.length vc), .bool false]) (by simp [results, Tryz.results106, go_sem, z0, z1, z2, z3, z4]) rfl ⟨_, raw2, (by rw [hno.out]; first | done | rfl), by rw [hno.out]; exact HRe.out.1, HRe.out.2⟩
  have HCN := Lib.hid hcan
  clear hcan
  obtain rfl : c = true := by rw [← HCc.out, HCN.out]; rfl
  clear HCc
  have HYes : Hid (crashZ a i s = { a with ds := a.ds.set i (a.ds[i].fallen s) }) := HL
  have hir : i < raw2.length := by rw [P3.O.len]; exact hi
  have hval : Hid ((Value.slice va a.ds.length vc).ownBlock = (Value.slice va a.ds.length vc).ownBlock) := rfl
  go_wp2_with fail
  refine region_calm (fun w' => StkS W3 w' w.heap.size (.slice (some ⟨ag, ao, none⟩) a.ds.length cap) (.func (.func 171) #[] #[]) ag (ao + i * 4) (.int .i64 a.ds[i].n) (.bool a.ds[i].dead) (.slice ka km kc) (.slice na nm nc)) (by kernel_rfl) (by kernel_rfl) (C0) ?_
  repeat (first
    | (refine calm_skip (by rfl) ?_; simp only [Act.put, List.setIfInBounds_toArray, List.set_cons_zero, List.set_cons_succ])
    | (refine calm_step (by rfl) ?_
       apply Exists.intro
       refine ⟨fun w' hw' => ?_, ?_⟩
       · go_simp
         first | done | exact rfl | (go_at_call 73; go_fit (hasDisk_any _ _ _ _ _ hm); rintro e w8 ⟨rfl, rfl⟩; exact And.intro (by rw [hdk]) hw') | (go_at_call 171; go_fit (crashCan_any _ _ a.ds[i] true _ (by rw [HCN.out]; rfl) (DI.kept9 hw'.2)); rintro e w8 ⟨rfl, g8⟩; exact And.intro rfl (hw'.kept g8))
       simp only [Act.put, List.setIfInBounds_toArray, List.set_cons_zero, List.set_cons_succ]))
  refine calm_nil ?_
  intro w9 hw9
  have g39 := hw9.2
  have P9 := HP3.out.kept g39
  have DI9 := DI.kept9 g39
  obtain ⟨g, e', hgB, hgl, ⟨k0, m0⟩, ⟨k1, m1⟩, ⟨k2, m2⟩, ⟨k3, m3⟩⟩ := P9.O.at i hir hi
  cases e'
  have hgf : g ≠ fb := fun e => P9.vf (by rw [e]; rfl)
  have HFin : Hid (∀ (w8 : World) (kv nv : Value), w9.grownBy w8 none → IsD w8 w9.heap.size kv nv (a.ds[i].fallen s) → Apart kv nv → ∃ raw8, Put5 w (set4At w8 g (i * 4) (.int .i64 (a.ds[i].fallen s).n) (.bool (a.ds[i].fallen s).dead) kv nv) fb (w.heap.size + 2) w1.heap.size (.slice (some ⟨g, 0, none⟩) a.ds.length vc) { a with ds := a.ds.set i (a.ds[i].fallen s) } raw8) := by
    intro w8 kv nv g8 I8 ap8
    obtain ⟨ka8, km8, kc8, rfl⟩ := I8.1.sl
    obtain ⟨na8, nm8, nc8, rfl⟩ := I8.2.sl
    have hlo : w1.heap.size ≤ w9.heap.size := by have := e3.size; have := g39.size; omega
    exact ⟨_, P9.put i hir ⟨(a.ds[i].fallen s).n, (a.ds[i].fallen s).dead, ka8, km8, kc8, na8, nm8, nc8⟩ (a.ds[i].fallen s) g8 ⟨rfl, rfl, Own.lower I8.1 hlo, Own.lower I8.2 hlo⟩ ap8 (fun k hk => by
      rcases hk with hk | hk
      · exact (Own.lt I8.1 k hk).1
      · exact (Own.lt I8.2 k hk).1)⟩
  obtain ⟨⟨p0', fc1', x0', x1', x2', x3'⟩, -⟩ := hw9
  have fc2' := gkc g39 FB3.out.2
  obtain ⟨⟨f0, -⟩, ⟨f1, -⟩, ⟨f2, -⟩, ⟨f3, -⟩, ⟨f4, -⟩⟩ := P9.F
  have GG := gtrans G3 g39
  have HLf := crashLeft_any b s (.slice ka km kc) (.slice na nm nc) a.ds[i] w9.drew (DI9.kept9 (gdrew (grefl _) 1)) (gkc (gdrew GG 1) hb)
  clear HP3 P3 P9 HA HEnd C0 p0 p1 p2 p3 p4 fc1 fc2 x0 x1 x2 x3 hgi DI HD HL
  generalize (a.ds[i].fallen s) = LZ at *
  go_wp2_with fail
  go_region_with (first | (go_at_call 172; go_fit HLf; rintro e w6 ⟨kv, nv, rfl, I6, ap6, g6⟩; have gg6 : w9.grownBy w6 none := gtrans (gdrew (grefl _) 1) g6; have f0'' := gkc gg6 f0; have q0 := gkc gg6 k0; have q1 := gkc gg6 k1; have q2 := gkc gg6 k2; have q3 := gkc gg6 k3; have n0 := (gk gg6 ⟨k0, m0⟩).2; have n1 := (gk gg6 ⟨k1, m1⟩).2; have n2 := (gk gg6 ⟨k2, m2⟩).2; have n3 := (gk gg6 ⟨k3, m3⟩).2; obtain ⟨ka6, km6, kc6, rfl⟩ := I6.1.sl; obtain ⟨na6, nm6, nc6, rfl⟩ := I6.2.sl; have hF := Lib.hid (HFin.out w6 _ _ gg6 ⟨Own.lower I6.1 (Nat.le_refl _), Own.lower I6.2 (Nat.le_refl _)⟩ ap6)))
  all_goals (
    obtain ⟨raw8, P8⟩ := hF.out
    obtain ⟨⟨u0, -⟩, ⟨u1, -⟩, ⟨u2, -⟩, ⟨u3, -⟩, ⟨u4, -⟩⟩ := P8.F
    obtain ⟨⟨z0, y0⟩, ⟨z1, y1⟩, ⟨z2, y2⟩, ⟨z3, y3⟩, ⟨z4, y4⟩⟩ := P8.Z
    have hR := res5l P8.O (r := w.heap.size + 2) (by omega) (by omega) P8.G (.slice (some ⟨g, 0, none⟩) a.ds.length vc) (.string (str a.log)) (.string (str a.next)) (.int .i64 a.stage) (.bool a.up)
    dsimp only at u0 u1 u2 u3 u4
    unfold set5 set4At at hR
    have HR := Lib.hid hR
    clear hR
    unfold set4At at z0 z1 z2 z3 z4 y0 y1 y2 y3 y4 u0 u1 u2 u3 u4
    go_wp2_with fail
    exact bodyPost_ret (v := .tuple #[.agg #[.slice (some ⟨g, 0, none⟩) a.ds.length vc, .string (str a.log), .string (str a.next), .int .i64 a.stage, .bool a.up], .bool true]) (by simp [results, Tryz.results106, go_sem, z0, z1, z2, z3, z4]) rfl ⟨_, raw8, (by rw [HYes.out]; first | done | rfl), by rw [HYes.out]; exact HR.out.1, HR.out.2⟩)
set_option maxRecDepth 8000 in
set_option maxHeartbeats 4000000 in
theorem implFallsDown_any (v : Value) (a : AZ) (sv : Value) (sets : List Int) (keep : Int) (w : World) (h : LD w v a.ds) (hs : IR w sv sets) (hkp : -9223372036854775808 ≤ keep ∧ keep ≤ 9223372036854775807) (ht : Pow10 w) (hV : LibV w) :
    Calls Tryz.prog 40 #[a.val v, sv, .int .i64 keep] w (GotAB (fellZ a sets keep) (fellOk a sets keep) w) := by
  obtain ⟨xa, cap, rfl, hm⟩ := h.form
  obtain ⟨sa, sc, rfl, hsm⟩ := Rd.form hs
  obtain ⟨B0, Z0, G0, s0⟩ := two_new w (.slice xa a.ds.length cap) (.string (str a.log)) (.string (str a.next)) (.int .i64 a.stage) (.bool a.up) 26
  go_enter Tryz.func40, Tryz.ntmps40
  go_upto_region 1 with (fail)
  generalize (w.alloc (.cells #[.slice xa a.ds.length cap, .string (str a.log), .string (str a.next), .int .i64 a.stage, .bool a.up] 26)).alloc zero5 = W0 at *
  have HB0 := Lib.hid B0
  obtain ⟨p0, p1, p2, p3, p4⟩ := B0
  cases hok : a.ok
  · have HE : Hid (fellZ a sets keep = .zero ∧ fellOk a sets keep = false) := by constructor <;> simp [fellZ, fellOk, hok]
    go_wp2_with fail
    go_fit (implArrayOk_any _ a _ (h.kept G0) (ht.kept G0) (hV.kept G0))
    rintro e w1 ⟨rfl, g1⟩
    rw [hok]
    obtain ⟨⟨z0, y0⟩, ⟨z1, y1⟩, ⟨z2, y2⟩, ⟨z3, y3⟩, ⟨z4, y4⟩⟩ := Z0.kept g1 (by simp)
    have hs1 := g1.size
    have hR := res5l (OD.nil w1 w1.heap.size) (r := w.heap.size + 1) (by omega) (by omega) (gtrans G0 g1) (.slice none 0 0) (.string ⟨#[]⟩) (.string ⟨#[]⟩) (.int .i64 0) (.bool false)
    go_wp2_with fail
    exact bodyPost_ret (v := .tuple #[.agg #[.slice none 0 0, .string ⟨#[]⟩, .string ⟨#[]⟩, .int .i64 0, .bool false], .bool false]) (by simp [results, Tryz.results40, go_sem, z0, z1, z2, z3, z4]) rfl ⟨_, [], by rw [HE.out.1, HE.out.2]; rfl, by rw [HE.out.1]; exact hR.1, hR.2⟩
  have HE0 : Hid (fellZ a sets keep = a.fell sets keep ∧ fellOk a sets keep = a.up) := by constructor <;> simp [fellZ, fellOk, hok]
  have HA : Hid (a.ok = true) := hok
  obtain ⟨hl5, hd16⟩ := ds_small (AZ.ok_ds hok)
  have hll := AZ.ok_len hok
  go_wp2_with fail
  go_fit (implArrayOk_any _ a _ (h.kept G0) (ht.kept G0) (hV.kept G0))
  rintro e w1 ⟨rfl, g1⟩
  rw [hok]
  have G1 := gtrans G0 g1
  have HB1 := Lib.hid (HB0.out.kept g1)
  have hs1 := g1.size
  have Z1 := Z0.kept g1 (by simp)
  clear p0 p1 p2 p3 p4 HB0 g1 Z0
  obtain ⟨p0, p1, p2, p3, p4⟩ := HB1.out
  clear hok
  go_wp2_with fail
  go_fit (copiedArray_any _ a _ (h.kept G1) (by omega) (fun i hi => by have := hd16 i hi; omega) (by omega) (by omega))
  rintro e w2 ⟨v2, raw2, rfl, o2, g2⟩
  obtain ⟨va, vc, rfl, -⟩ := o2.form
  have hs2 := g2.size
  have A2 := ABox.new o2 26
  have e3 := galloc (grefl w2) (.cells #[.slice va a.ds.length vc, .string (str a.log), .string (str a.next), .int .i64 a.stage, .bool a.up] 26)
  have G2 := gtrans (gtrans G1 g2) e3
  have HB3 := Lib.hid ((HB1.out.kept g2).kept e3)
  have Z2 := (Z1.kept g2 (by simp)).kept e3 (by simp)
  have hs3 : w2.heap.size < (w2.alloc (.cells #[.slice va a.ds.length vc, .string (str a.log), .string (str a.next), .int .i64 a.stage, .bool a.up] 26)).heap.size := by simp
  clear p0 p1 p2 p3 p4 Z1 o2 e3 HB1
  go_upto_region 4 with (fail)
  generalize w2.alloc (.cells #[.slice va a.ds.length vc, .string (str a.log), .string (str a.next), .int .i64 a.stage, .bool a.up] 26) = W2 at *
  generalize hbb : w2.heap.size = bb at *
  obtain ⟨p0, p1, p2, p3, p4⟩ := HB3.out
  cases hup : a.up
  · have HE : Hid (fellZ a sets keep = a ∧ fellOk a sets keep = false) := by
      show _ ∧ _
      rw [HE0.out.1, HE0.out.2, hup]; exact ⟨by simp [AZ.fell, hup], rfl⟩
    obtain ⟨k0, k1, k2, k3, k4⟩ := A2.box
    obtain ⟨⟨z0, y0⟩, ⟨z1, y1⟩, ⟨z2, y2⟩, ⟨z3, y3⟩, ⟨z4, y4⟩⟩ := Z2
    have HRe := Lib.hid (res5 A2.od (r := w.heap.size + 1) (by omega) (by omega) G2 (.slice va a.ds.length vc) (.string (str a.log)) (.string (str a.next)) (.int .i64 a.stage) (.bool a.up))
    rw [hup] at p4
    clear hup
    go_wp2_with fail
    exact bodyPost_ret (v := .tuple #[a.val (.slice va a.ds.length vc), .bool false]) (by simp [results, Tryz.results40, go_sem, z0, z1, z2, z3, z4]) rfl ⟨_, raw2, by rw [HE.out.1, HE.out.2], by rw [HE.out.1]; exact HRe.out.1, HRe.out.2⟩
  have HE : Hid (fellZ a sets keep = ⟨fallK a.ds sets a.ds.length, if a.stage = 1 then tornT a.next keep else a.log, [], 0, false⟩ ∧ fellOk a sets keep = true) := by
    show _ ∧ _
    rw [HE0.out.1, HE0.out.2, hup]; exact ⟨by simp [AZ.fell, hup, fallZ], rfl⟩
  have HK0 : Hid (∀ k, ({ a with ds := fallK a.ds sets k } : AZ).ok = true) := fun k => AZ.ok_alike HA.out (fallK_alike (ok_good HA.out) sets k)
  have HKl : Hid (∀ k, (fallK a.ds sets k).length = a.ds.length) := fun k => fallK_length _ _ _
  have HKs : Hid (∀ k, crashZ { a with ds := fallK a.ds sets k } k (setAt sets k) = { a with ds := fallK a.ds sets (k + 1) }) := fun k => rfl
  rw [hup] at p4
  clear HE0 hup HB3 HA
  have HBx := Lib.hid (And.intro p2 p3)
  have HX := fun (W : World) (g : W2.grownBy W (some bb)) => Lib.hid (show Box5 W w.heap.size (.slice xa a.ds.length cap) (.string (str a.log)) (.string (str a.next)) (.int .i64 a.stage) (.bool true) from ⟨gkr0 g (by intro e; cases e; omega) p0, gkr0 g (by intro e; cases e; omega) p1, gkr0 g (by intro e; cases e; omega) p2, gkr0 g (by intro e; cases e; omega) p3, gkr0 g (by intro e; cases e; omega) p4⟩)
  go_wp2_with fail
  go_loopw [23] (fun i wr => ∃ (k : Nat) (v' : Value) (raw' : List DV), k ≤ a.ds.length ∧ i = .int .i64 (k : Int) ∧ ABox wr bb w1.heap.size { a with ds := fallK a.ds sets k } v' raw' ∧ W2.grownBy wr (some bb)) (fun i _ => a.ds.length - (intOf i).toNat)
  case atStart => exact ⟨0, _, _, Nat.zero_le _, rfl, A2, World.grownBy.refl _ _⟩
  case round =>
    clear A2 p0 p1 p2 p3 p4
    obtain ⟨k, v', raw', hk, rfl, A, GX⟩ := hrel
    obtain ⟨ya, yc, rfl, -⟩ := A.od.form
    have hsx := GX.size
    have GG : w.grownBy wr none := gsub G2 GX (fun q e => by cases e; omega)
    have HLn := Lib.hid (HKl.out k)
    by_cases hlt : k < a.ds.length
    · have hki : (k : Int) < a.ds.length := by omega
      have HOk := Lib.hid (HK0.out k)
      have HNx := Lib.hid (HKs.out k)
      have HAb := Lib.hid A
      have LA := A.od.ld
      have HIn : Hid (k < (fallK a.ds sets k).length) := by rw [HLn.out]; exact hlt
      generalize hL' : fallK a.ds sets (k + 1) = L' at *
      generalize fallK a.ds sets k = L at *
      dsimp only at LA
      clear A
      go_upto_region 9 with (fail)
      refine region_rel 7 [[], [], [], [], [2, 3], [4], [0, 1, 5]] (fun i v u => match i with
        | 0 => v = (.agg #[.slice ya L.length yc, .string (str a.log), .string (str a.next), .int .i64 a.stage, .bool a.up])
        | 1 => v = .int .i64 (k : Int)
        | 2 => v = .slice sa sets.length sc
        | 3 => v = .int .i64 (k : Int)
        | 4 => v = .int .i64 (setAt sets k)
        | 5 => ∃ b : Nat, v = .agg #[.func (.func 171) #[] #[], .func (.func 172) #[] #[.pointer (some ⟨b, 0, none⟩)]] ∧ u.cell? ⟨b, 0, none⟩ = some (.int .i64 (setAt sets k))
        | 6 => FellR a L' wr.heap.size v u
        | _ => True) (by kernel_rfl) (by kernel_rfl) ?hst ?hop ?hend
      case hst =>
        refine ⟨⟨⟨⟨⟨⟨⟨trivial, ?_⟩, ?_⟩, ?_⟩, ?_⟩, ?_⟩, ?_⟩, ?_⟩
        · exact fun v u u' h g => h
        · exact fun v u u' h g => h
        · exact fun v u u' h g => h
        · exact fun v u u' h g => h
        · exact fun v u u' h g => h
        · exact fun v u u' ⟨b, h1, h2⟩ g => ⟨b, h1, gkc g h2⟩
        · exact fun v u u' h g => FellR.grew h g
      case hop =>
        have HU : Hid (∀ u, wr.drew.grownBy u none → Box5 u bb (.slice ya L.length yc) (.string (str a.log)) (.string (str a.next)) (.int .i64 a.stage) (.bool a.up) ∧ wr.grownBy u none) := fun u g => ⟨HAb.out.box.kept (gtrans (gdrew (grefl _) 1) g), gtrans (gdrew (grefl _) 1) g⟩
        refine ⟨⟨⟨⟨⟨⟨⟨trivial, ?_⟩, ?_⟩, ?_⟩, ?_⟩, ?_⟩, ?_⟩, ?_⟩
        · intro o ho vs u g hd
          obtain ⟨⟨c0, c1, c2, c3, c4⟩, gu⟩ := HU.out u g
          cases ho
          simp only [actOf, dstOf, List.foldl_nil, List.getElem?_toArray, Act.put, List.getD_cons_zero]
          go_simp
          exact ⟨grefl _, rfl⟩
        · intro o ho vs u g hd
          cases ho
          simp only [actOf, dstOf, List.foldl_nil, List.getElem?_toArray, Act.put, List.getD_cons_zero, List.getD_cons_succ]
          go_simp
          exact ⟨grefl _, rfl⟩
        · intro o ho vs u g hd
          cases ho
          simp only [actOf, dstOf, List.foldl_nil, List.getElem?_toArray, Act.put, List.getD_cons_zero, List.getD_cons_succ]
          go_simp
          exact ⟨grefl _, rfl⟩
        · intro o ho vs u g hd
          cases ho
          simp only [actOf, dstOf, List.foldl_nil, List.getElem?_toArray, Act.put, List.getD_cons_zero, List.getD_cons_succ]
          go_simp
          exact ⟨grefl _, rfl⟩
        · intro o ho vs u g hd
          have h2 : vs 2 = _ := hd 2 (by simp)
          have h3 : vs 3 = _ := hd 3 (by simp)
          obtain ⟨-, gu⟩ := HU.out u g
          cases ho
          simp only [actOf, dstOf, List.foldl_cons, List.foldl_nil, List.getElem?_toArray, List.getElem?_cons_zero, List.getElem?_cons_succ, Option.bind_some, Act.put, List.setIfInBounds_toArray, List.set_cons_zero, List.set_cons_succ, List.getD_cons_zero, List.getD_cons_succ]
          rw [h2, h3]
          go_simp
          simp only [relUpon]
          go_fit (setFor_any _ sets k _ (hs.kept (gtrans GG gu)))
          rintro e w3 ⟨rfl, g3⟩
          exact ⟨_, rfl, g3, rfl⟩
        · intro o ho vs u g hd
          have h4 : vs 4 = _ := hd 4 (by simp)
          cases ho
          simp only [actOf, dstOf, List.foldl_cons, List.foldl_nil, List.getElem?_toArray, List.getElem?_cons_zero, List.getElem?_cons_succ, Option.bind_some, Act.put, List.setIfInBounds_toArray, List.set_cons_zero, List.set_cons_succ, List.getD_cons_zero, List.getD_cons_succ]
          rw [h4]
          go_simp
          simp only [relUpon]
          go_fit (crashing_any (setAt sets k) _)
          rintro e w3 ⟨b, rfl, hb, g3⟩
          exact ⟨_, rfl, g3, b, rfl, hb⟩
        · intro o ho vs u g hd
          have h0 : vs 0 = _ := hd 0 (by simp)
          have h1 : vs 1 = _ := hd 1 (by simp)
          obtain ⟨b, h5, hb⟩ : ∃ b : Nat, vs 5 = .agg #[.func (.func 171) #[] #[], .func (.func 172) #[] #[.pointer (some ⟨b, 0, none⟩)]] ∧ u.cell? ⟨b, 0, none⟩ = some (.int .i64 (setAt sets k)) := hd 5 (by simp)
          obtain ⟨-, gu⟩ := HU.out u g
          cases ho
          simp only [actOf, dstOf, List.foldl_cons, List.foldl_nil, List.getElem?_toArray, List.getElem?_cons_zero, List.getElem?_cons_succ, Option.bind_some, Act.put, List.setIfInBounds_toArray, List.set_cons_zero, List.set_cons_succ, List.getD_cons_zero, List.getD_cons_succ]
          rw [h0, h1, h5]
          go_simp
          simp only [relUpon]
          go_fit (struckFall_any _ { a with ds := L } k b (setAt sets k) _ _ rfl (LA.kept gu) (ht.kept (gtrans GG gu)) (hV.kept (gtrans GG gu)) HOk.out HIn.out (setAt_in sets k) hb)
          rintro e w3 ⟨v3, raw3, rfl, o3, g3⟩
          rw [HNx.out] at o3 ⊢
          have hs3 := gu.size
          exact ⟨_, rfl, g3, FellR.of o3 hs3⟩
      case hend =>
        intro vs u g hR
        obtain ⟨⟨⟨⟨⟨⟨⟨-, h0⟩, h1⟩, h2⟩, h3⟩, h4⟩, h5⟩, h6⟩ := hR
        dsimp only at h6
        obtain ⟨xv, rx, t, h6, ox⟩ := h6
        have gu : wr.grownBy u none := gtrans (gdrew (grefl _) 1) g
        obtain ⟨xb, xc, rfl, -⟩ := ox.form
        have A9 := HAb.out.put (a' := { a with ds := L' }) gu ox HAb.out.lt (by omega)
        have G9 := gset5b (gsub' GX gu) (.slice xb L'.length xc) (.string (str a.log)) (.string (str a.next)) (.int .i64 a.stage) (.bool a.up)
        obtain ⟨⟨d0, f0⟩, ⟨d1, f1⟩, ⟨d2, f2⟩, ⟨d3, f3⟩, ⟨d4, f4⟩⟩ : Five u bb (.slice ya L.length yc) (.string (str a.log)) (.string (str a.next)) (.int .i64 a.stage) (.bool a.up) := ⟨gk gu HAb.out.c0, gk gu HAb.out.c1, gk gu HAb.out.c2, gk gu HAb.out.c3, gk gu HAb.out.c4⟩
        change wpAny _ _ _ _ 4 #[true, true, true, true, true, true, true, false, false, false, false] (actOf _ vs _ [0, 1, 2, 3, 4, 5, 6]) _
        simp only [actOf, dstOf, List.foldl_cons, List.foldl_nil, List.getElem?_toArray, List.getElem?_cons_zero, List.getElem?_cons_succ, Option.bind_some, Act.put, List.setIfInBounds_toArray, List.set_cons_zero, List.set_cons_succ]
        rw [h6]
        clear h0 h1 h2 h3 h4 h5 h6
        generalize vs 0 = s0
        generalize vs 1 = s1
        generalize vs 2 = s2
        generalize vs 3 = s3
        generalize vs 4 = s4
        generalize vs 5 = s5
        refine wpAny_ready (rs := [7]) (by kernel_rfl) (by simp) ?_
        refine AllReady.cons rfl (fun K hK => ?_) AllReady.nil
        go_simp
        refine hK _ _ ?_
        clear hK K
        refine wpAny_take (i := 8) (v := ?_) rfl (by kernel_rfl) (by kernel_rfl) (by kernel_rfl) (fun _ _ _ h => h) (Or.inl ⟨by rfl, ?_⟩) ?_
        rotate_left
        · intro w; go_simp; first | done | with_reducible rfl
        refine wpAny_take (i := 9) (v := ?_) rfl (by kernel_rfl) (by kernel_rfl) (by kernel_rfl) (fun _ _ _ h => h) (Or.inl ⟨by rfl, ?_⟩) ?_
        rotate_left
        · intro w; go_simp; first | done | with_reducible rfl
        refine wpAny_ready (rs := [10]) (by kernel_rfl) (by simp) ?_
        refine AllReady.cons rfl (fun K hK => ?_) AllReady.nil
        go_simp
        refine hK _ _ ?_
        clear hK K
        refine wpAny_done (by kernel_rfl) ?_ _
        go_wp2_with fail
        go_roundw
        case rel => exact ⟨k + 1, _, rx, by omega, by go_num, by rw [hL']; exact A9, G9⟩
        case measure => simp [intOf]; omega
    · obtain rfl : k = a.ds.length := by omega
      have hki : ¬ (a.ds.length : Int) < a.ds.length := by omega
      have ZX := Z2.kept GX (by simp; omega)
      obtain ⟨p0, p1, p2, p3, p4⟩ := (HX wr GX).out
      clear HK0 HKs HKl HX HBx Z2
      generalize fallK a.ds sets a.ds.length = L at *
      by_cases hst : a.stage = 1
      · rw [if_pos hst] at HE
        rw [hst] at p3
        clear hst
        go_wp2_with fail
        go_fit (implTorn_any a.next keep _ (by omega) hkp)
        rintro e w5 ⟨rfl, B5⟩
        have g5 := gbelow0 B5
        have A5 := A.kept g5
        have Z5 := ZX.kept g5 (by simp)
        have hs5 := g5.size
        have HAx := Lib.hid (((((A5.setLog (tornT a.next keep)).setNext []).setStage 0).setUp false))
        have Z6 := (((Z5.far (c := bb) (o := 1) (by omega) (.string (str (tornT a.next keep)))).far (c := bb) (o := 2) (by omega) (.string (str []))).far (c := bb) (o := 3) (by omega) (.int .i64 0)).far (c := bb) (o := 4) (by omega) (.bool false)
        have G6 := gset1 (gset1 (gset1 (gset1 (gtrans GG g5) (show w.heap.size ≤ bb by omega) 1 (.string (str (tornT a.next keep)))) (show w.heap.size ≤ bb by omega) 2 (.string (str []))) (show w.heap.size ≤ bb by omega) 3 (.int .i64 0)) (show w.heap.size ≤ bb by omega) 4 (.bool false)
        obtain ⟨m1, f1⟩ := A5.c1
        obtain ⟨m2, f2⟩ := A5.c2
        obtain ⟨m3, f3⟩ := A5.c3
        obtain ⟨m4, f4⟩ := A5.c4
        clear p0 p1 p2 p3 p4 A A5 ZX Z5 GX GG
        go_upto_region 14 with (fail)
        change Code.wp _ _ _ _ ((((w5.setCell ⟨bb, 1, none⟩ (.string (str (tornT a.next keep)))).setCell ⟨bb, 2, none⟩ (.string (str []))).setCell ⟨bb, 3, none⟩ (.int .i64 0)).setCell ⟨bb, 4, none⟩ (.bool false))
        generalize (((w5.setCell ⟨bb, 1, none⟩ (.string (str (tornT a.next keep)))).setCell ⟨bb, 2, none⟩ (.string (str []))).setCell ⟨bb, 3, none⟩ (.int .i64 0)).setCell ⟨bb, 4, none⟩ (.bool false) = W6 at *
        clear m1 f1 m2 f2 m3 f3 m4 f4
        obtain ⟨k0, k1, k2, k3, k4⟩ := HAx.out.box
        dsimp only at k0 k1 k2 k3 k4
        obtain ⟨⟨z0, y0⟩, ⟨z1, y1⟩, ⟨z2, y2⟩, ⟨z3, y3⟩, ⟨z4, y4⟩⟩ := Z6
        have HR := Lib.hid (res5l HAx.out.od (r := w.heap.size + 1) (by omega) (by omega) G6 (.slice ya L.length yc) (.string (str (tornT a.next keep))) (.string (str [])) (.int .i64 0) (.bool false))
        go_wp2_with fail
        exact bodyPost_ret (v := .tuple #[.agg #[.slice ya L.length yc, .string (str (tornT a.next keep)), .string (str []), .int .i64 0, .bool false], .bool true]) (by simp [results, Tryz.results40, go_sem, z0, z1, z2, z3, z4]) rfl ⟨_, raw', (by rw [HE.out.1, HE.out.2]; first | done | rfl), by rw [HE.out.1]; exact HR.out.1, HR.out.2⟩
      · rw [if_neg hst] at HE
        have HAx := Lib.hid ((((A.setNext []).setStage 0).setUp false))
        have Z6 := ((ZX.far (c := bb) (o := 2) (by omega) (.string (str []))).far (c := bb) (o := 3) (by omega) (.int .i64 0)).far (c := bb) (o := 4) (by omega) (.bool false)
        have G6 := gset1 (gset1 (gset1 GG (show w.heap.size ≤ bb by omega) 2 (.string (str []))) (show w.heap.size ≤ bb by omega) 3 (.int .i64 0)) (show w.heap.size ≤ bb by omega) 4 (.bool false)
        obtain ⟨m2, f2⟩ := A.c2
        obtain ⟨m3, f3⟩ := A.c3
        obtain ⟨m4, f4⟩ := A.c4
        clear A ZX GX GG
        go_upto_region 14 with (fail)
        change Code.wp _ _ _ _ (((wr.setCell ⟨bb, 2, none⟩ (.string (str []))).setCell ⟨bb, 3, none⟩ (.int .i64 0)).setCell ⟨bb, 4, none⟩ (.bool false))
        generalize ((wr.setCell ⟨bb, 2, none⟩ (.string (str []))).setCell ⟨bb, 3, none⟩ (.int .i64 0)).setCell ⟨bb, 4, none⟩ (.bool false) = W6 at *
        clear m2 f2 m3 f3 m4 f4 p0 p1 p2 p3 p4
        obtain ⟨k0, k1, k2, k3, k4⟩ := HAx.out.box
        dsimp only at k0 k1 k2 k3 k4
        obtain ⟨⟨z0, y0⟩, ⟨z1, y1⟩, ⟨z2, y2⟩, ⟨z3, y3⟩, ⟨z4, y4⟩⟩ := Z6
        have HR := Lib.hid (res5l HAx.out.od (r := w.heap.size + 1) (by omega) (by omega) G6 (.slice ya L.length yc) (.string (str a.log)) (.string (str [])) (.int .i64 0) (.bool false))
        go_wp2_with fail
        exact bodyPost_ret (v := .tuple #[.agg #[.slice ya L.length yc, .string (str a.log), .string (str []), .int .i64 0, .bool false], .bool true]) (by simp [results, Tryz.results40, go_sem, z0, z1, z2, z3, z4]) rfl ⟨_, raw', (by rw [HE.out.1, HE.out.2]; first | done | rfl), by rw [HE.out.1]; exact HR.out.1, HR.out.2⟩
end
end Go.Proofs.YteialkknddpbjaaGreatDoor
