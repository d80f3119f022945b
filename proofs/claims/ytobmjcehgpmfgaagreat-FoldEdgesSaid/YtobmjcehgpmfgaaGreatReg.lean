/-
  A helper of ours: no claim of its own. A region that draws its order and whose operations make memory: if each operation, in whatever grown world, leaves a value of which a fact holds that further growth does not end, then behind the region all the facts hold, whatever the order was.
-/
import Derived.Test.YtobmjcehgpmfgaaGreatMem
import Derived.Test.YtobmjcehgpmfgaaGreatEdgS
import Derived.Test.YtobmjcehgpmfgaaGreatStepA
import Derived.Test.YtobmjcehgpmfgaaGreatRowA
import Derived.Lib.AppendZerosOnto
import Derived.Lib.LazyBuf
import Derived.WalkLawsBesides
import Derived.Test.YtobmjcehgpmfgaaGreatMapV
import Derived.Test.YtobmjcehgpmfgaaGreatRowC
import Derived.Orders
set_option linter.unusedVariables false
set_option linter.unusedSimpArgs false
namespace Go.Proofs.YtobmjcehgpmfgaaGreat
open Go.RowKit
/-- What one's own block is, as a list. -/
abbrev ob (v : Value) : List Nat := v.ownBlock.toList
theorem own_fr {w w' : World} {base e size n : Nat} {v : Value} {xs : List Value} {S : List Nat} (h : w.ownsRow base e size v n xs) (k : Fr S w w') (hS : ∀ x ∈ S, x < base) : w'.ownsRow base e size v n xs := by
  refine ⟨h.1, ?_⟩
  rcases h.2 with h2 | ⟨g, cap, cur, rfl, hb, hg, hr⟩
  · exact .inl h2
  · exact .inr ⟨g, cap, cur, rfl, hb, (k.block g (lt_of_block hg) (fun m => by have := hS g m; omega)).trans hg, hr⟩
theorem ob_ge {w : World} {base e size n : Nat} {v : Value} {xs : List Value} (h : w.ownsRow base e size v n xs) : ∀ k ∈ ob v, base ≤ k ∧ k < w.heap.size := by
  intro k hk
  have hk' : v.ownBlock = some k := by simpa [ob] using hk
  rcases h.2 with ⟨rfl, _⟩ | ⟨g, cap, cur, rfl, hb, hg, _⟩
  · cases hk'
  · have : k = g := by simpa [Value.ownBlock] using hk'.symm
    subst this
    exact ⟨hb, lt_of_block hg⟩
theorem fr_grown {w w' : World} {v : Value} (h : w.grownBy w' v.ownBlock) : Fr (ob v) w w' :=
  (Fr.refl (ob v) w).grown h (fun k hk => .inl (by simp [ob, hk]))
end Go.Proofs.YtobmjcehgpmfgaaGreat
set_option linter.unusedVariables false
set_option linter.unusedSimpArgs false
namespace Go.Proofs.YtobmjcehgpmfgaaGreat
open Go.RowKit
attribute [local go_sem] GW.cell GW.frozen In.eq_true In.le_true In.ne In.ne' In.ne_add In.ne_add' In.lt_add Upto.le_true Upto.le_add Upto.lt_add
/-- An edge as it lies: its row's slice, and the edge. -/
abbrev Ve := Value × Ed
def ec1 (p : Ve) : List Value := [p.1, .int .i64 p.2.2.1, .int .i64 p.2.2.2]
def ec (L : List Ve) : List Value := L.flatMap ec1
theorem ec_length (L : List Ve) : (ec L).length = L.length * 3 := by
  induction L with
  | nil => rfl
  | cons p r ih => simp only [ec, ec1, List.flatMap_cons, List.length_append, List.length_cons, List.length_nil] at ih ⊢; omega
theorem ec_append (L M : List Ve) : ec (L ++ M) = ec L ++ ec M := by simp [ec]
theorem ec_cons (p : Ve) (L : List Ve) : ec (p :: L) = ec1 p ++ ec L := by simp [ec]
theorem ec_drop : ∀ (L : List Ve) (n : Nat), (ec L).drop (n * 3) = ec (L.drop n)
  | [], n => by simp [ec]
  | p :: L, 0 => by simp
  | p :: L, n + 1 => by
    rw [ec_cons, show (n + 1) * 3 = (ec1 p).length + n * 3 by simp [ec1]; omega, List.drop_append, List.drop_of_length_le (by omega), List.nil_append, Nat.add_sub_cancel_left, ec_drop L n, List.drop_succ_cons]
theorem ec_one {L : List Ve} (h : ∀ p ∈ L, p.1.oneCell' = true) : ∀ u ∈ ec L, u.oneCell' = true := by
  intro u hu
  simp only [ec, List.mem_flatMap, ec1] at hu
  obtain ⟨p, hp, hu⟩ := hu
  simp at hu
  rcases hu with rfl | rfl | rfl
  · exact h p hp
  · rfl
  · rfl
theorem ec_get : ∀ (L : List Ve) (i : Nat) (p : Ve), L[i]? = some p → ∀ j v, (ec1 p)[j]? = some v → (ec L)[i * 3 + j]? = some v
  | q :: r, 0, p, h, j, v, hv => by
    simp at h; subst h
    have hj : j < (ec1 q).length := (List.getElem?_eq_some_iff.1 hv).1
    rw [ec_cons, List.getElem?_append_left (by omega), show 0 * 3 + j = j by omega]; exact hv
  | q :: r, i + 1, p, h, j, v, hv => by
    have := ec_get r i p (by simpa using h) j v hv
    rw [ec_cons, show (i + 1) * 3 + j = (ec1 q).length + (i * 3 + j) by simp [ec1]; omega, List.getElem?_append_right (by omega), Nat.add_sub_cancel_left]
    exact this
abbrev eds (L : List Ve) : List Ed := L.map Prod.snd
/-- Edges, where they lie; neither they nor their rows lie in a block of S. -/
def Ew (w : World) (S : List Nat) (v : Value) (L : List Ve) : Prop := Sl w S 3 v L.length (ec L) ∧ ∀ p ∈ L, Rw w S p.1 p.2.1
section
variable {w w' : World} {S S' : List Nat} {v : Value} {L : List Ve}
theorem Ew.ext (h : Ew w S v L) (k : Ext w w') : Ew w' S v L := ⟨Sl.ext h.1 k, fun p hp => Sl.ext (h.2 p hp) k⟩
theorem Ew.fr (h : Ew w S v L) (k : Fr S' w w') (hs : ∀ b, b ∈ S' → b ∈ S) : Ew w' S v L := ⟨Sl.fr h.1 k hs, fun p hp => Sl.fr (h.2 p hp) k hs⟩
theorem Ew.less (h : Ew w S v L) (hs : ∀ b, b ∈ S' → b ∈ S) : Ew w S' v L := ⟨Sl.less h.1 hs, fun p hp => Sl.less (h.2 p hp) hs⟩
theorem row_one {r : List Vl} {u : Value} (h : Rw w S u r) : u.oneCell' = true := by obtain ⟨A, cap, rfl, _⟩ := h; rfl
theorem Ew.one (h : Ew w S v L) : ∀ u ∈ ec L, u.oneCell' = true := ec_one fun p hp => row_one (h.2 p hp)
theorem ew_form (h : Ew w S v L) : ∃ A cap, v = .slice A L.length cap ∧ L.length ≤ cap ∧ cap ≤ maxLen ∧
    ∀ (i : Nat) (p : Ve), L[i]? = some p → ∃ b o, A = some ⟨b, o, none⟩ ∧ b ∉ S ∧ b < w.heap.size ∧ w.cell? ⟨b, o + i * 3, none⟩ = some p.1 ∧ w.cell? ⟨b, o + i * 3 + 1, none⟩ = some (.int .i64 p.2.2.1) ∧ w.cell? ⟨b, o + i * 3 + 1 + 1, none⟩ = some (.int .i64 p.2.2.2) := by
  obtain ⟨A, cap, rfl, h1, h2, h3, h4⟩ := h.1
  refine ⟨A, cap, rfl, h1, h2, fun i p hp => ?_⟩
  have hg := ec_get L i p hp
  rcases h4 with h4 | ⟨b, o, rfl, hb, hc⟩
  · have := hg 0 _ rfl; rw [h4] at this; cases this
  · have c0 := hc _ _ (hg 0 _ rfl)
    have c1 := hc _ _ (hg 1 _ rfl)
    have c2 := hc _ _ (hg 2 _ rfl)
    exact ⟨b, o, rfl, hb, block_lt_of_cell c0, c0, c1, c2⟩
end
/-- An edge, by value. -/
abbrev em (v : Value) (x : Jp) : Value := .agg #[v, .int .i64 x.1, .int .i64 x.2]
theorem rw_val {w : World} {S : List Nat} {v : Value} {l : List Vl} (h : Rw w S v l) : ∃ A cap, v = .slice A l.length cap := by obtain ⟨A, cap, e, _⟩ := h; exact ⟨A, cap, e⟩
set_option maxHeartbeats 1000000 in
theorem hasNoRow_c (q : List Vl) (j : Jp) (v : Value) (w : World) (h : Rw w [] v q) : Calls Tryz.prog 136 #[em v j] w fun e w' => e = .returned (.bool (!mayR q)) ∧ Ext w w' := by
  obtain ⟨jp, jn⟩ := j
  have h1 := hide (fun w' (hX : Ext w w') => rowMay_c q v w' (Sl.ext h hX))
  obtain ⟨A, cap, rfl⟩ := rw_val h
  have hX0 := hide ((Ext.refl w).alloc (.cells #[.slice A q.length cap, .int .i64 jp, .int .i64 jn] 115))
  generalize mayR q = m at *
  clear h
  go_enter Tryz.func136, Tryz.ntmps136
  go_wp2_with (go_at_call 105; (with_reducible refine seq_gw (h1.out _ hX0.out) ?_); intro g)
  go_returns
  exact ⟨rfl, hX0.out.trans g.grown⟩
set_option maxHeartbeats 1000000 in
theorem isTooE_c (q : List Vl) (j : Jp) (v : Value) (w : World) (h : Rw w [] v q) : Calls Tryz.prog 173 #[em v j] w fun e w' => e = .returned (.bool (tooJ j)) ∧ Ext w w' := by
  obtain ⟨jp, jn⟩ := j
  obtain ⟨A, cap, rfl⟩ := rw_val h
  clear h
  obtain ⟨R, hR⟩ : ∃ R, R = tooJ (jp, jn) := ⟨_, rfl⟩
  rw [← hR]
  unfold tooJ at hR
  simp only at hR
  by_cases h1 : 1048576 < jn
  · have hf := hide (show R = true by rw [hR]; simp; omega)
    clear hR
    go_enter Tryz.func173, Tryz.ntmps173
    go_wp2_with fail
    go_returns
    exact ⟨by rw [hf.out]; first | rfl | simp, (Ext.refl w).alloc _⟩
  · by_cases h2 : jn < -1048576
    · have hf := hide (show R = true by rw [hR]; simp; omega)
      clear hR
      go_enter Tryz.func173, Tryz.ntmps173
      go_wp2_with fail
      go_returns
      exact ⟨by rw [hf.out]; first | rfl | simp [h2], (Ext.refl w).alloc _⟩
    · have hf := hide (show R = false by rw [hR]; simp; omega)
      clear hR
      go_enter Tryz.func173, Tryz.ntmps173
      go_wp2_with fail
      go_returns
      exact ⟨by rw [hf.out]; first | rfl | simp [h2], (Ext.refl w).alloc _⟩
set_option maxHeartbeats 1000000 in
theorem isNowE_c (q : List Vl) (j : Jp) (v : Value) (w : World) (h : Rw w [] v q) : Calls Tryz.prog 174 #[em v j] w fun e w' => e = .returned (.bool (nowJ j)) ∧ Ext w w' := by
  obtain ⟨jp, jn⟩ := j
  obtain ⟨A, cap, rfl⟩ := rw_val h
  clear h
  obtain ⟨R, hR⟩ : ∃ R, R = nowJ (jp, jn) := ⟨_, rfl⟩
  rw [← hR]
  unfold nowJ at hR
  simp only at hR
  by_cases h1 : jp < -1
  · have hf := hide (show R = true by rw [hR]; simp; omega)
    clear hR
    go_enter Tryz.func174, Tryz.ntmps174
    go_wp2_with fail
    go_returns
    exact ⟨by rw [hf.out]; first | rfl | simp, (Ext.refl w).alloc _⟩
  · by_cases h2 : 1125899906842624 < jp
    · have hf := hide (show R = true by rw [hR]; simp; omega)
      clear hR
      go_enter Tryz.func174, Tryz.ntmps174
      go_wp2_with fail
      go_returns
      exact ⟨by rw [hf.out]; first | rfl | simp [h2], (Ext.refl w).alloc _⟩
    · have hf := hide (show R = false by rw [hR]; simp; omega)
      clear hR
      go_enter Tryz.func174, Tryz.ntmps174
      go_wp2_with fail
      go_returns
      exact ⟨by rw [hf.out]; first | rfl | simp [h2], (Ext.refl w).alloc _⟩
set_option maxHeartbeats 1000000 in
theorem byRow_c (q : List Vl) (j : Jp) (v : Value) (r : List Vl) (k : Jp) (u : Value) (w : World) (hq : Rw w [] v q) (hr : Rw w [] u r) : Calls Tryz.prog 138 #[em v j, em u k] w fun e w' => e = .returned (.int .i64 (cmpR q r)) ∧ Ext w w' := by
  obtain ⟨jp, jn⟩ := j
  obtain ⟨kp, kn⟩ := k
  have h1 := hide (fun w' (hX : Ext w w') => rowCompare_c (Sl.ext hq hX) (Sl.ext hr hX))
  obtain ⟨A, cap, rfl⟩ := rw_val hq
  obtain ⟨B, cap2, rfl⟩ := rw_val hr
  have hX0 := hide (((Ext.refl w).alloc (.cells #[.slice A q.length cap, .int .i64 jp, .int .i64 jn] 115)).alloc (.cells #[.slice B r.length cap2, .int .i64 kp, .int .i64 kn] 115))
  generalize cmpR q r = m at *
  clear hq hr
  go_enter Tryz.func138, Tryz.ntmps138
  go_wp2_with (go_at_call 157; (with_reducible refine seq_gw (h1.out _ hX0.out) ?_); intro g)
  go_returns
  exact ⟨rfl, hX0.out.trans g.grown⟩
end Go.Proofs.YtobmjcehgpmfgaaGreat
set_option linter.unusedVariables false
set_option linter.unusedSimpArgs false
namespace Go.Proofs.YtobmjcehgpmfgaaGreat
open Go.RowKit
attribute [local go_sem] GW.cell GW.frozen In.eq_true In.le_true In.ne In.ne' In.ne_add In.ne_add' In.lt_add Upto.le_true Upto.le_add Upto.lt_add
theorem tVal : ElemT Tryz.prog 24 113 (.agg #[.int .i64 0, .int .i64 0, .string ⟨#[]⟩]) 3 32 := ElemT.mk' Tryz.underlying24 (by kernel_rfl) rfl (by omega)
theorem own_appR {w : World} {B : Nat} {v : Value} {l m : List Vl} (h : w.ownsRow B 113 3 v (l.length + m.length) (rc l ++ rc m)) : OwnR w B v (l ++ m) := by
  unfold OwnR; rw [List.length_append, rc_append]; exact h
set_option maxHeartbeats 1000000 in
set_option maxRecDepth 100000 in
theorem rowClone_c (l : List Vl) (v : Value) (w : World) (h : Rw w [] v l) (hz : l.length * 32 ≤ 140737488351232) : Calls Tryz.prog 166 #[v] w fun e w' => ∃ v', e = .returned v' ∧ OwnR w' w.heap.size v' l ∧ Ext w w' := by
  obtain ⟨A, cap, rfl, hl, hm, -⟩ := rw_form h
  have hq := fun w => Lib.run_eql_slice_nil (P := Tryz.prog) w 24 113 A l.length cap 0 0 Tryz.underlying24
  cases A with
  | none =>
    have hl0 : l = [] := by
      obtain ⟨A', cap', e, _, _, h3, h4⟩ := h
      rcases h4 with h4 | ⟨b, o, rfl, _⟩
      · have := congrArg List.length h4; rw [rc_length] at this; exact List.eq_nil_of_length_eq_zero (by simp at this; omega)
      · cases e
    subst hl0
    clear h hq
    have hq0 := fun w => Lib.run_eql_slice_nil (P := Tryz.prog) w 24 113 none 0 cap 0 0 Tryz.underlying24
    show Calls Tryz.prog 166 #[.slice none 0 cap] w fun e w' => ∃ v', e = .returned v' ∧ OwnR w' w.heap.size v' [] ∧ Ext w w'
    go_enter Tryz.func166, Tryz.ntmps166
    go_wp2_with fail
    go_returns
    exact ⟨_, rfl, World.ownsRow_nil _ _ _ _, Ext.refl w⟩
  | some a =>
    have hlit := hide (World.ownsRow_lit (base := w.heap.size) (e := 113) (size := 3) w #[] 0 (Nat.le_refl _) (by decide) rfl)
    have hv := hide h
    clear h
    go_enter Tryz.func166, Tryz.ntmps166
    go_wp2_with (at_builtin; (refine wpl_app tVal rfl (.tmp 5) (.tmp 6) rfl rfl hlit.out rfl (src_sl Tryz.underlying24 (Sl.ext hv.out ((Ext.refl w).alloc _)) (rc_one _) (by omega)) (by unfold maxLen; omega) (by omega) (by simp) ?_; intro v1 w1 ho1 hg1 _))
    go_returns
    have ho2 : OwnR w1 w.heap.size v1 l := by have := own_appR (l := []) ho1; simpa using this
    exact ⟨_, rfl, ho2, ext_grown ((Ext.refl w).alloc _) hg1 (fun k hk => (hlit.out.lt k hk).1)⟩
set_option maxHeartbeats 1000000 in
theorem rowCopy_c (l : List Vl) (v : Value) (w : World) (h : Rw w [] v l) (hz : l.length * 32 ≤ 140737488351232) : Calls Tryz.prog 98 #[v] w fun e w' => ∃ v', e = .returned v' ∧ OwnR w' w.heap.size v' l ∧ Ext w w' := by
  have hc := hide (rowClone_c l v w h hz)
  clear h
  go_enter Tryz.func98, Tryz.ntmps98
  go_wp2_with (go_at_call 166; refine hc.out.mono ?_; rintro ee w1 ⟨v1, rfl, ho1, hx1⟩)
  go_returns
  exact ⟨_, rfl, ho1, hx1⟩
/-- Rows one behind the other: what is wrong, and the row. -/
def joinE (l m : List Vl) : Int := if mayR l && mayR m then (if 8 < l.length + m.length then 6 else 0) else 2
def joinV (l m : List Vl) : List Vl := if joinE l m = 0 then l ++ m else []
end Go.Proofs.YtobmjcehgpmfgaaGreat
set_option linter.unusedVariables false
set_option linter.unusedSimpArgs false
namespace Go.Proofs.YtobmjcehgpmfgaaGreat
open Go.RowKit
attribute [local go_sem] GW.cell GW.frozen In.eq_true In.le_true In.ne In.ne' In.ne_add In.ne_add' In.lt_add Upto.le_true Upto.le_add Upto.lt_add
/-- The first tick of which it changes something. -/
def msync (k i f t : Int) (l : List Vl) : Int := if mchk k i f t l = 0 then (if k = 2 then t else f) else 0
set_option maxHeartbeats 4000000 in
set_option maxRecDepth 100000 in
theorem sync_c (k i f t : Int) (l : List Vl) (v : Value) (w : World) (hl : Rw w [] v l) : Calls Tryz.prog 222 #[mg k i f t v] w fun e w' => e = .returned (.int .i64 (msync k i f t l)) ∧ Ext w w' := by
  have hc := hide (fun w' (hX : Ext w w') => check_c k i f t l v w' (Sl.ext hl hX))
  obtain ⟨A, cap, rfl, hlc, hlm, -⟩ := rw_form hl
  have hX0 := hide ((Ext.refl w).alloc (mO k i f t (.slice A l.length cap)))
  unfold msync
  generalize mchk k i f t l = x at *
  clear hl
  by_cases hx : x = 0
  · subst hx
    rw [if_pos rfl]
    by_cases h2 : k = 2
    · subst h2
      rw [if_pos rfl]
      go_enter Tryz.func222, Tryz.ntmps222
      go_wp2_with (go_at_call 191; (with_reducible refine seq_gw (hc.out _ hX0.out) ?_); intro g)
      go_returns
      exact ⟨rfl, hX0.out.trans g.grown⟩
    · rw [if_neg h2]
      have e2 : (k == 2) = false := by simp [h2]
      clear h2
      go_enter Tryz.func222, Tryz.ntmps222
      go_wp2_with (go_at_call 191; (with_reducible refine seq_gw (hc.out _ hX0.out) ?_); intro g)
      go_returns
      exact ⟨rfl, hX0.out.trans g.grown⟩
  · rw [if_neg hx]
    have e0 : (x != 0) = true := by simp [hx]
    clear hx
    go_enter Tryz.func222, Tryz.ntmps222
    go_wp2_with (go_at_call 191; (with_reducible refine seq_gw (hc.out _ hX0.out) ?_); intro g)
    go_returns
    exact ⟨rfl, hX0.out.trans g.grown⟩
def msame (k i f t : Int) (l : List Vl) (k' i' f' t' : Int) (m : List Vl) : Bool := decide (k = k' ∧ i = i' ∧ f = f' ∧ t = t' ∧ l = m)
end Go.Proofs.YtobmjcehgpmfgaaGreat
set_option linter.unusedVariables false
set_option linter.unusedSimpArgs false
namespace Go.Proofs.YtobmjcehgpmfgaaGreat
open Go.RowKit

/-- Each operation waits for earlier ones alone. -/
def acycB (ops : Array Oper) : Bool := (List.range ops.size).all fun i => match ops[i]? with
  | some o => o.after.all fun e => !Region.binds .any e || decide (e.on < i)
  | none => true
def dstsOf (ops : Array Oper) : List Tmp := ops.toList.filterMap (·.dst)
/-- No two operations write one slot, and all slots are there. -/
def dstsB (ops : Array Oper) (n : Nat) : Bool := (dstsOf ops).all (fun d => decide (d < n)) && (List.range ops.size).all fun i => (List.range ops.size).all fun j =>
  i == j || match ops[i]?, ops[j]? with
    | some o, some p => (match o.dst, p.dst with | some d, some c => d != c | _, _ => true)
    | _, _ => true
def depB (ops : Array Oper) (i j : Nat) : Bool := match ops[i]? with
  | some o => o.after.any fun e => Region.binds .any e && e.on == j
  | none => false

def cntF : List Bool → Nat
  | [] => 0
  | b :: r => (if b then 0 else 1) + cntF r
theorem cntF_set : ∀ (l : List Bool) (i : Nat), l[i]? = some false → cntF (l.set i true) + 1 = cntF l
  | b :: r, 0, h => by simp at h; subst h; simp [cntF]; omega
  | b :: r, i + 1, h => by have := cntF_set r i (by simpa using h); simp only [List.set_cons_succ, cntF]; omega
theorem cntF_rep (n : Nat) : cntF (List.replicate n false) = n := by induction n with
  | zero => rfl
  | succ n ih => simp [List.replicate_succ, cntF, ih]; omega

theorem getD_some {l : Array Bool} {i : Nat} {d : Bool} (h : i < l.size) : l[i]? = some (l.getD i d) := by
  simp [Array.getD, h]

section
variable {P : Program} {ops : Array Oper} {Φ : Nat → Value → World → Prop} {Q : Exit → Act → World → Prop} {a : Act} {W : World}

/-- What holds of the frame b and the world w behind the listed operations. -/
structure RInv (ops : Array Oper) (Φ : Nat → Value → World → Prop) (a : Act) (W : World) (listed : Array Bool) (b : Act) (w : World) : Prop where
  ext : Ext W w
  defers : b.defers = a.defers
  size : b.tmps.size = a.tmps.size
  len : listed.size = ops.size
  else_ : ∀ t, t ∉ dstsOf ops → b.tmps.getD t undef = a.tmps.getD t undef
  fact : ∀ j o d, ops[j]? = some o → listed.getD j false = true → o.dst = some d → Φ j (b.tmps.getD d undef) w

/-- What an operation finds. -/
structure RAt (ops : Array Oper) (Φ : Nat → Value → World → Prop) (a : Act) (W : World) (i : Nat) (b : Act) (w : World) : Prop where
  ext : Ext W w
  defers : b.defers = a.defers
  size : b.tmps.size = a.tmps.size
  else_ : ∀ t, t ∉ dstsOf ops → b.tmps.getD t undef = a.tmps.getD t undef
  dep : ∀ j o d, depB ops i j = true → ops[j]? = some o → o.dst = some d → Φ j (b.tmps.getD d undef) w

/-- What an operation must do. -/
def RGood (P : Program) (ops : Array Oper) (Φ : Nat → Value → World → Prop) (Q : Exit → Act → World → Prop) (i : Nat) (o : Oper) (b : Act) (w : World) : Prop :=
  (Region.wanted o (yielded ops b.tmps) = true ∧ o.wp P b w (fun b' w' => ∃ v, b' = b.put o.dst v ∧ Φ i v w' ∧ Ext w w') Q) ∨ (Region.wanted o (yielded ops b.tmps) = false ∧ Φ i undef w)

theorem all_listed (hB : acycB ops = true) {listed : Array Bool} (hl : listed.size = ops.size) (hr : Region.ready .any ops listed = []) : ∀ j, j < ops.size → listed.getD j false = true := by
  intro j
  induction j using Nat.strongRecOn with
  | ind j ih =>
    intro hj
    cases h : listed.getD j false with
    | true => rfl
    | false =>
      exfalso
      have hjl : j < listed.size := by omega
      have ho : ops[j]? = some ops[j] := Array.getElem?_eq_getElem hj
      have hacy := List.all_eq_true.1 hB j (List.mem_range.2 hj)
      rw [ho] at hacy
      have : j ∈ Region.ready .any ops listed := mem_ready.2 ⟨by
        have e1 := getD_some (l := listed) (d := false) hjl
        have e2 := getD_some (l := listed) (d := true) hjl
        rw [e1] at e2; rw [← Option.some.inj e2]; exact h, _, ho, fun e he hb => by
        have h2 := Array.all_eq_true_iff_forall_mem.1 hacy e he
        simp [hb] at h2
        exact ih e.on h2 (by omega)⟩
      rw [hr] at this; cases this

theorem put_other {b : Act} {dst : Option Tmp} {v : Value} {t : Nat} (h : dst ≠ some t) : (b.put dst v).tmps.getD t undef = b.tmps.getD t undef := by
  cases dst with
  | none => rfl
  | some d =>
    have : d ≠ t := fun e => h (by rw [e])
    simp [Act.put, Array.getD_eq_getD_getElem?, Array.getElem?_setIfInBounds, this]
theorem put_same {b : Act} {d : Nat} {v : Value} (h : d < b.tmps.size) : (b.put (some d) v).tmps.getD d undef = v := by
  simp [Act.put, Array.getD_eq_getD_getElem?, Array.getElem?_setIfInBounds, h]
theorem put_defers {b : Act} {dst : Option Tmp} {v : Value} : (b.put dst v).defers = b.defers := by cases dst <;> rfl
theorem put_size {b : Act} {dst : Option Tmp} {v : Value} : (b.put dst v).tmps.size = b.tmps.size := by cases dst <;> simp [Act.put]

/-- A frame that differs in the slots D alone. -/
theorem frame_puts {b a : Act} {D : List Tmp} (hd : b.defers = a.defers) (hz : b.tmps.size = a.tmps.size) (he : ∀ t, t ∉ D → b.tmps.getD t undef = a.tmps.getD t undef) :
    b = D.foldl (fun f d => f.put (some d) (b.tmps.getD d undef)) a := by
  have key : ∀ (D : List Tmp) (f : Act), f.defers = b.defers → f.tmps.size = b.tmps.size → (∀ t, t ∉ D → b.tmps.getD t undef = f.tmps.getD t undef) → b = D.foldl (fun f d => f.put (some d) (b.tmps.getD d undef)) f := by
    intro D
    induction D with
    | nil =>
      intro f h1 h2 h3
      obtain ⟨bt, bd⟩ := b
      obtain ⟨ft, fd⟩ := f
      simp only at h1 h2 h3
      subst h1
      have : bt = ft := by
        apply Array.ext
        · exact h2.symm
        · intro i hi hj
          have := h3 i (by simp)
          rw [Array.getD_eq_getD_getElem?, Array.getD_eq_getD_getElem?, Array.getElem?_eq_getElem hi, Array.getElem?_eq_getElem hj] at this
          simpa using this
      rw [this]; rfl
    | cons d D ih =>
      intro f h1 h2 h3
      refine ih _ (put_defers.trans h1) (put_size.trans h2) fun t ht => ?_
      by_cases htd : t = d
      · subst htd
        by_cases hlt : t < f.tmps.size
        · rw [put_same hlt]
        · have e1 : ∀ (c : Act), ¬ t < c.tmps.size → c.tmps.getD t undef = undef := fun c h => by simp [Array.getD, h]
          rw [e1 b (by rw [← h2]; exact hlt), e1 _ (by rw [put_size]; exact hlt)]
      · rw [put_other (fun e => htd (Option.some.inj e).symm)]
        exact h3 t (by simp [htd, ht])
  exact key D a hd.symm hz.symm he
/-- All operations of a list, each by itself. -/
def RSteps (S : Nat → Oper → Prop) : Nat → List Oper → Prop
  | _, [] => True
  | k, o :: r => S k o ∧ RSteps S (k + 1) r
theorem RSteps.get {S : Nat → Oper → Prop} : ∀ (k : Nat) (l : List Oper), RSteps S k l → ∀ j o, l[j]? = some o → S (k + j) o
  | k, [], _, j, o, h => by simp at h
  | k, p :: r, ⟨h0, h1⟩, 0, o, h => by simp at h; subst h; exact h0
  | k, p :: r, ⟨h0, h1⟩, j + 1, o, h => by
    have := RSteps.get (k + 1) r h1 j o (by simpa using h)
    rwa [show k + 1 + j = k + (j + 1) by omega] at this

/-- What may be known of a value: it stays known in grown worlds. -/
inductive Fact where
  | is (v : Value)
  | bytes (l : List UInt8)
  | st (p : Value → World → Prop) (h : ∀ v w w', p v w → Ext w w' → p v w')
  | any
def Fact.holds : Fact → Value → World → Prop
  | .is u, v, _ => v = u
  | .bytes l, v, w => By w [] v l
  | .st p _, v, w => p v w
  | .any, _, _ => True
theorem Fact.stays (f : Fact) (v : Value) (w w' : World) (h : f.holds v w) (hx : Ext w w') : f.holds v w' := by
  cases f with
  | is u => exact h
  | bytes l => exact Sl.ext h hx
  | st p hp => exact hp v w w' h hx
  | any => trivial
def factsOf (L : List Fact) (i : Nat) (v : Value) (w : World) : Prop := (L.getD i .any).holds v w

section
variable {i : Nat} {o : Oper} {b : Act} {w : World}
theorem good_run {v : Value} (hg : Region.wanted o (yielded ops b.tmps) = true) (hr : (execOp b.eval o).run P w = .ok (.value v) w) (hΦ : Φ i v w) : RGood P ops Φ Q i o b w :=
  .inl ⟨hg, by unfold Oper.wp; rw [hr]; exact ⟨v, rfl, hΦ, Ext.refl w⟩⟩
theorem good_move {x : Operand} (hg : Region.wanted o (yielded ops b.tmps) = true) (ho : o.op = .move x) (hΦ : Φ i (b.eval x) w) : RGood P ops Φ Q i o b w :=
  good_run hg (by simp [execOp, ho, Sem.run_pure]) hΦ
theorem exec_binOp {ρ : Operand → Value} {op : BinOp} {t ty : TypeId} {x y : Operand} {u1 u2 v : Value} (ho : o.op = .binOp op t x y ty) (hx : ρ x = u1) (hy : ρ y = u2)
    (hg : (eqGuard op t x y u1 u2).run P w = .ok () w) (hr : (binOp op t u1 u2).run P w = .ok v w) : (execOp ρ o).run P w = .ok (.value v) w := by
  simp only [execOp, ho, hx, hy, Sem.run_bind, hg, hr, Sem.run_pure, Result.andThen_ok]
theorem good_bin {op : BinOp} {t ty : TypeId} {x y : Operand} {u1 u2 v : Value} (hg : Region.wanted o (yielded ops b.tmps) = true) (ho : o.op = .binOp op t x y ty) (hx : b.eval x = u1) (hy : b.eval y = u2)
    (he : (eqGuard op t x y u1 u2).run P w = .ok () w) (hr : (binOp op t u1 u2).run P w = .ok v w) (hΦ : Φ i v w) : RGood P ops Φ Q i o b w :=
  good_run hg (exec_binOp ho hx hy he hr) hΦ
def boolOf : Value → Option Bool
  | .bool c => some c
  | _ => none
theorem wanted_none (hg : o.guard = none) : Region.wanted o (yielded ops b.tmps) = true := by unfold Region.wanted; rw [hg]
theorem enters {f : FuncId} {fn : Func} {c : Code} (hf : P.funcs[f]? = some fn) (hname : (fn.name == "runtime.NumGoroutine") = false) (hb : fn.body = some c) : ∀ args w, (callFunc f args).run P w = .ok (.enter f args) w := by
  intro args w
  have h1 : fn.name ≠ "runtime.NumGoroutine" := by simpa using hname
  simp [callFunc, hf, h1, hb, mark]
theorem exec_field {ρ : Operand → Value} {t : TypeId} {x : Operand} {k : Nat} {u v : Value} (ho : o.op = .fieldAddr t x k) (hx : ρ x = u) (hr : (Instr.fieldAt t u k).run P w = .ok v w) : (execOp ρ o).run P w = .ok (.value v) w := by
  simp only [execOp, ho, hx, Sem.run_bind, hr, Sem.run_pure, Result.andThen_ok]
theorem good_field {t : TypeId} {x : Operand} {k : Nat} {u v : Value} (hg : Region.wanted o (yielded ops b.tmps) = true) (ho : o.op = .fieldAddr t x k) (hx : b.eval x = u) (hr : (Instr.fieldAt t u k).run P w = .ok v w) (hΦ : Φ i v w) : RGood P ops Φ Q i o b w :=
  good_run hg (exec_field ho hx hr) hΦ
theorem exec_index {ρ : Operand → Value} {t : TypeId} {x y : Operand} {u u' v : Value} (ho : o.op = .indexAddr t x y) (hx : ρ x = u) (hy : ρ y = u') (hr : (Instr.indexAt t u u').run P w = .ok v w) : (execOp ρ o).run P w = .ok (.value v) w := by
  simp only [execOp, ho, hx, hy, Sem.run_bind, hr, Sem.run_pure, Result.andThen_ok]
theorem good_index {t : TypeId} {x y : Operand} {u u' v : Value} (hg : Region.wanted o (yielded ops b.tmps) = true) (ho : o.op = .indexAddr t x y) (hx : b.eval x = u) (hy : b.eval y = u') (hr : (Instr.indexAt t u u').run P w = .ok v w) (hΦ : Φ i v w) : RGood P ops Φ Q i o b w :=
  good_run hg (exec_index ho hx hy hr) hΦ
theorem exec_load {ρ : Operand → Value} {t : TypeId} {x : Operand} {u v : Value} (ho : o.op = .load t x) (hx : ρ x = u) (hr : (Instr.loadAt t u).run P w = .ok v w) : (execOp ρ o).run P w = .ok (.value v) w := by
  simp only [execOp, ho, hx, Sem.run_bind, hr, Sem.run_pure, Result.andThen_ok]
theorem good_load {t : TypeId} {x : Operand} {u v : Value} (hg : Region.wanted o (yielded ops b.tmps) = true) (ho : o.op = .load t x) (hx : b.eval x = u) (hr : (Instr.loadAt t u).run P w = .ok v w) (hΦ : Φ i v w) : RGood P ops Φ Q i o b w :=
  good_run hg (exec_load ho hx hr) hΦ
theorem exec_len {ρ : Operand → Value} {t ty : TypeId} {x : Operand} {A : Option Addr} {n c : Nat} {e : TypeId} (ho : o.op = .call { callee := .builtin .len, args := #[x], argTypes := #[t] }) (ht : P.underlying t = some (.slice e)) (hx : ρ x = .slice A n c) : (execOp ρ o).run P w = .ok (.value (.int .i64 n)) w := by
  simp [execOp, ho, resolve, invoke, builtin, hx, go_sem, ht, Builtin.len_, run_underlying ht, goInt]
theorem good_len {t : TypeId} {x : Operand} {A : Option Addr} {n c : Nat} {e : TypeId} (hg : Region.wanted o (yielded ops b.tmps) = true) (ho : o.op = .call { callee := .builtin .len, args := #[x], argTypes := #[t] }) (ht : P.underlying t = some (.slice e)) (hx : b.eval x = .slice A n c) (hΦ : Φ i (.int .i64 n) w) : RGood P ops Φ Q i o b w :=
  good_run hg (exec_len (ty := 0) ho ht hx) hΦ
theorem good_call {f : FuncId} {xs : Array Operand} {ats : Array TypeId} (hg : Region.wanted o (yielded ops b.tmps) = true) (ho : o.op = .call { callee := .value (.func f), args := xs, argTypes := ats })
    (he : ∀ args w, (callFunc f args).run P w = .ok (.enter f args) w) (hc : Calls P f (xs.map b.eval) w fun e w' => ∃ v, e = .returned v ∧ Φ i v w' ∧ Ext w w') : RGood P ops Φ Q i o b w := by
  refine .inl ⟨hg, ?_⟩
  unfold Oper.wp
  have : (execOp b.eval o).run P w = .ok (.enter f (xs.map b.eval)) w := by
    simp [execOp, ho, resolve, Act.eval, Deferred.ofValue, invoke, he, go_sem]
  rw [this]
  exact hc.mono fun e w' ⟨v, he, h1, h2⟩ => by subst he; exact ⟨v, rfl, h1, h2⟩
end
end
end Go.Proofs.YtobmjcehgpmfgaaGreat
