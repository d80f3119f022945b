/-
  A helper of ours: no claim of its own. Layer 16 (align): an align in memory; edges ahead of a tick; what an input takes in, and its clock, by the code.
-/
import Derived.Test.YtjmoifbajjemmaaGreatRows
import Derived.Test.YtjmoifbajjemmaaGreatGw
import Derived.Test.YtjmoifbajjemmaaGreatFloats
import Derived.Handy
import Derived.Test.YtjmoifbajjemmaaGreatEdgN
import Derived.Test.YtjmoifbajjemmaaGreatEdgG
import Derived.Test.YtjmoifbajjemmaaGreatEdgO
import Derived.Deep.OwnRows
set_option linter.unusedVariables false
set_option linter.unusedSimpArgs false
namespace Go.Proofs.YtjmoifbajjemmaaGreat
open Go.RowKit
attribute [local go_sem] GW.cell GW.frozen In.eq_true In.le_true In.ne In.ne' In.ne_add In.ne_add' In.lt_add Upto.le_true Upto.le_add Upto.lt_add


def isTickB (t : Int) : Bool := decide (0 ≤ t) && decide (t ≤ 1125899906842624)
def smayB (a b : Int) : Bool := isTickB a && isTickB b && decide (a < b)
/-- A number, if there is one. -/
def okF (ok : Bool) (a : Int) : Int := if ok then a else 0
def mkE (a b : Int) : Int := if isTickB a && isTickB b then (if a < b then 0 else 14) else 13
def hasB (a b t : Int) : Bool := smayB a b && decide (a ≤ t) && decide (t < b)

theorem mayB_lt {a b : Int} (h : smayB a b = true) : a < b ∧ 0 ≤ a ∧ a ≤ 1125899906842624 ∧ 0 ≤ b ∧ b ≤ 1125899906842624 := by
  simp [smayB, isTickB] at h; omega
theorem mayB_mk {a b : Int} (h : a < b ∧ 0 ≤ a ∧ a ≤ 1125899906842624 ∧ 0 ≤ b ∧ b ≤ 1125899906842624) : smayB a b = true := by
  simp [smayB, isTickB]; omega


theorem tick_c (t : Int) (w : World) : Calls Tryz.prog 30 #[.int .i64 t] w fun e w' => e = .returned (.bool (isTickB t)) ∧ w = w' := by
  by_cases h0 : 0 ≤ t <;> by_cases h1 : t ≤ 1125899906842624
  all_goals
    go_enter Tryz.func30, Tryz.ntmps30
    go_wp2_with fail
    all_goals
      go_returns
      refine ⟨by first | rfl | (simp [isTickB, h0, h1]; done) | (simp [isTickB, h0, h1]; omega), ?_⟩
      exact rfl









def meetB (a b c d : Int) : Bool := smayB a b && smayB c d && decide (max a c < min b d)
def aheadB (a b t : Int) : Bool := smayB a b && decide (a < t)
def restB (a b t : Int) : Bool := smayB a b && decide (t < b)






end Go.Proofs.YtjmoifbajjemmaaGreat
set_option linter.unusedVariables false
set_option linter.unusedSimpArgs false
namespace Go.Proofs.YtjmoifbajjemmaaGreat
open Go.RowKit
attribute [local go_sem] GW.cell GW.frozen In.eq_true In.le_true In.ne In.ne' In.ne_add In.ne_add' In.lt_add Upto.le_true Upto.le_add Upto.lt_add
theorem jmps_le (l : List Ed) (r : List Vl) : (jmps l r).length ≤ l.length := by unfold jmps; rw [List.length_map]; exact List.length_filter_le _ _
theorem mayE_len {l : List Ed} (h : mayE l = true) : l.length ≤ 4096 := (mayE_iff.1 h).1
theorem mayE_jl {l : List Ed} (h : mayE l = true) (r : List Vl) : (jmps l r).length ≤ 1024 := by
  obtain ⟨-, h2, h3⟩ := mayE_iff.1 h
  obtain ⟨-, k2⟩ := rowsL_ok h2.1
  by_cases hr : r ∈ rowsL l
  · have := h3 (r, jmps l r) (by rw [grp_eq h2]; exact List.mem_map.2 ⟨r, hr, rfl⟩)
    exact mayJ_len this
  · have : jmps l r = [] := by
      apply List.eq_nil_iff_forall_not_mem.2
      intro j hj
      exact hr ((k2 r).2 ⟨_, jmps_mem.1 hj, rfl⟩)
    rw [this]; simp
theorem lit2 (u : Value) (r : List Vl) (j k : Jp) (w : World) (h : Rw w [] u r) : Ew (w.alloc (.cells #[u, .int .i64 j.1, .int .i64 j.2, u, .int .i64 k.1, .int .i64 k.2] 44)) [] (.slice (some ⟨w.heap.size, 0, none⟩) 2 2) [(u, r, j), (u, r, k)] := by
  refine ⟨Sl.own (World.ownsRow_lit (base := w.heap.size) (e := 44) (size := 3) w #[u, .int .i64 j.1, .int .i64 j.2, u, .int .i64 k.1, .int .i64 k.2] 2 (Nat.le_refl _) (by decide) rfl) (by simp), fun p hp => ?_⟩
  simp only [List.mem_cons, List.not_mem_nil, or_false] at hp
  rcases hp with rfl | rfl <;> exact Sl.ext h ((Ext.refl w).alloc _)
/-- A row once, from one tick to another. -/
def ofE (r : List Vl) (f t : Int) : Int := if mayR r then (if smayB f t then neE [(r, (f, 1)), (r, (t, -1))] else 14) else 2
def ofR (r : List Vl) (f t : Int) : List Ed := if ofE r f t = 0 then neR [(r, (f, 1)), (r, (t, -1))] else []
theorem neR_bad {l : List Ed} (h : neE l ≠ 0) : neR l = [] := by unfold neR; rw [if_neg h]
/-- A sum. -/
def adE (a b : List Ed) : Int := if mayE a && mayE b then neE (a ++ b) else 2
def adR (a b : List Ed) : List Ed := if adE a b = 0 then neR (a ++ b) else []
set_option maxHeartbeats 4000000 in
set_option maxRecDepth 100000 in
theorem edgeAdd_c (L M : List Ve) (v u : Value) (w : World) (hl : Ew w [] v L) (hm : Ew w [] u M) : Calls Tryz.prog 27 #[v, u] w fun e w' => ∃ v' N, e = .returned (.tuple #[v', .int .i64 (adE (eds L) (eds M))]) ∧ eds N = adR (eds L) (eds M) ∧ OwnEr w' w.heap.size v' N ∧ Ext w w' := by
  have h1 := hide (fun w' (hX : Ext w w') => edgeMay_c L v w' (hl.ext hX))
  have h2 := hide (fun w' (hX : Ext w w') => edgeMay_c M u w' (hm.ext hX))
  have hX0 := hide (Ext.refl w)
  have hl' := hide hl
  have hm' := hide hm
  obtain ⟨A, cap, rfl, hlc, hlm, -⟩ := ew_form hl
  obtain ⟨B, cap2, rfl, hmc, hmm, -⟩ := ew_form hm
  obtain ⟨E, hE⟩ : ∃ E, E = adE (eds L) (eds M) := ⟨_, rfl⟩
  obtain ⟨R, hR⟩ : ∃ R, R = adR (eds L) (eds M) := ⟨_, rfl⟩
  rw [← hE, ← hR]
  unfold adR at hR
  rw [← hE] at hR
  unfold adE at hE
  clear hl hm
  cases ha : mayE (eds L)
  · rw [ha, Bool.false_and, if_neg (by decide)] at hE
    rw [ha] at h1
    subst hE
    replace hR : R = [] := by rw [hR, if_neg (by decide)]
    replace hR := hide hR
    go_enter Tryz.func27, Tryz.ntmps27
    go_wp2_with (go_at_call 25; (with_reducible refine seq_gw (h1.out _ hX0.out) ?_); intro g)
    go_returns
    exact ⟨_, [], rfl, by rw [hR.out]; rfl, OwnEr.nil _ _, g.grown⟩
  cases hb : mayE (eds M)
  · rw [ha, hb, Bool.true_and, if_neg (by decide)] at hE
    rw [ha] at h1
    rw [hb] at h2
    subst hE
    replace hR : R = [] := by rw [hR, if_neg (by decide)]
    replace hR := hide hR
    go_enter Tryz.func27, Tryz.ntmps27
    go_wp2_with (first | (go_at_call 25; (with_reducible refine seq_gw (h1.out _ hX0.out) ?_); intro g) | (go_at_call 25; (with_reducible refine seq_gw' (h2.out _ g.grown) ?_); intro g2))
    go_returns
    exact ⟨_, [], rfl, by rw [hR.out]; rfl, OwnEr.nil _ _, g2.grown⟩
  rw [ha, hb, Bool.true_and, if_pos rfl] at hE
  rw [ha] at h1
  rw [hb] at h2
  have hR2 : Hid (R = neR (eds L ++ eds M)) := by
    show R = _
    rw [hR]
    split
    · rfl
    · rename_i h; rw [hE] at h; rw [neR_bad h]
  have hll : L.length ≤ 4096 := by have := mayE_len ha; simpa [eds] using this
  have hml : M.length ≤ 4096 := by have := mayE_len hb; simpa [eds] using this
  have hjl : Hid (∀ r, (jmps (eds (L ++ M)) r).length ≤ 8192) := fun r => by
    rw [show eds (L ++ M) = eds L ++ eds M by simp [eds], jmps_append, List.length_append]
    have := mayE_jl ha r
    have := mayE_jl hb r
    omega
  have heq : Hid (eds (L ++ M) = eds L ++ eds M) := by show _ = _; simp [eds]
  replace hE := hide hE
  clear hR ha hb
  go_enter Tryz.func27, Tryz.ntmps27
  go_wp2_with (first | (go_at_call 25; (with_reducible refine seq_gw (h1.out _ hX0.out) ?_); intro g) | (go_at_call 25; (with_reducible refine seq_gw' (h2.out _ g.grown) ?_); intro g2) | (go_at_call 46; refine (concatE_c L M _ _ _ _ (hl'.out.ext (g2.grown.alloc _)) (hm'.out.ext (g2.grown.alloc _)) (by omega) (Ob.new g2.val 34 [_, _])).mono ?_; rintro ee w3 ⟨v3, rfl, ho3, hX3⟩; have hX4 := (g2.grown.alloc (.cells #[.slice A L.length cap, .slice B M.length cap2] 34)).trans hX3) | (go_at_call 20; refine (edgeNorm_c (L ++ M) (by rw [List.length_append]; omega) hjl.out _ _ ⟨Sl.own ho3 (by simp), fun p hp => by rcases List.mem_append.1 hp with hp | hp; exact Sl.ext (hl'.out.2 p hp) hX4; exact Sl.ext (hm'.out.2 p hp) hX4⟩).mono ?_; rintro ee w5 ⟨v5, N, rfl, hN, ho5, hX5⟩))
  go_returns
  exact ⟨_, N, by rw [hE.out]; rfl, by rw [hN, hR2.out, heq.out], ho5.lower hX4.size, hX4.trans hX5⟩
end Go.Proofs.YtjmoifbajjemmaaGreat
set_option linter.unusedVariables false
set_option linter.unusedSimpArgs false
namespace Go.Proofs.YtjmoifbajjemmaaGreat
open Go.RowKit
/-- An input: its clock, and what is held. -/
abbrev Xi := Int × List Ed
def ahT (t : Int) (j : Jp) : Bool := decide (j.1 < t)
def lateE (t : Int) (l : List Ed) : Bool := l.any fun e => ahT t e.2
def putE (X : List Xi) (k : Int) (l : List Ed) : Int :=
  if k < 0 ∨ (X.length : Int) ≤ k then 3 else if mayE l = false then 2 else match X[k.toNat]? with
    | none => 3
    | some p => if lateE p.1 l = true then 16 else adE p.2 l
def putX (X : List Xi) (k : Int) (l : List Ed) : List Xi := if putE X k l = 0 then match X[k.toNat]? with
    | some p => X.set k.toNat (p.1, adR p.2 l)
    | none => X
  else X
def raiE (X : List Xi) (k t : Int) : Int :=
  if k < 0 ∨ (X.length : Int) ≤ k then 3 else if t < 0 ∨ 1125899906842624 < t then 13 else match X[k.toNat]? with
    | none => 3
    | some p => if t < p.1 then 16 else 0
def raiX (X : List Xi) (k t : Int) : List Xi := if raiE X k t = 0 then match X[k.toNat]? with
    | some p => X.set k.toNat (t, p.2)
    | none => X
  else X
def clkX (X : List Xi) : Int := X.foldl (fun t p => min t p.1) 1125899906842624
def sureX (t : Int) (X : List Xi) : List (List Ed) := X.map fun p => p.2.filter fun e => ahT t e.2
def openX (t : Int) (X : List Xi) : List Xi := X.map fun p => (p.1, p.2.filter fun e => !ahT t e.2)
def heldN (X : List Xi) : Nat := (X.map fun p => p.2.length).sum
/-- Clocks are ticks. -/
def InvX (X : List Xi) : Prop := ∀ p ∈ X, 0 ≤ p.1 ∧ p.1 ≤ 1125899906842624
theorem put_len (X : List Xi) (k : Int) (l : List Ed) : (putX X k l).length = X.length := by
  unfold putX
  split
  · split <;> simp
  · rfl
theorem rai_len (X : List Xi) (k t : Int) : (raiX X k t).length = X.length := by
  unfold raiX
  split
  · split <;> simp
  · rfl
theorem open_len (t : Int) (X : List Xi) : (openX t X).length = X.length := by simp [openX]
theorem mem_set_of {α : Type} {l : List α} {i : Nat} {x y : α} (h : y ∈ l.set i x) : y = x ∨ y ∈ l := by
  rcases List.mem_or_eq_of_mem_set h with h | h
  · exact .inr h
  · exact .inl h
theorem put_inv {X : List Xi} (h : InvX X) (k : Int) (l : List Ed) : InvX (putX X k l) := by
  unfold putX
  split
  · split
    · rename_i p hp
      intro q hq
      rcases mem_set_of hq with rfl | hq
      · exact h p (List.mem_of_getElem? hp)
      · exact h q hq
    · exact h
  · exact h
theorem rai_inv {X : List Xi} (h : InvX X) (k t : Int) : InvX (raiX X k t) := by
  unfold raiX
  split
  · rename_i he
    split
    · rename_i p hp
      intro q hq
      rcases mem_set_of hq with rfl | hq
      · unfold raiE at he
        split at he
        · cases he
        · split at he
          · cases he
          · simp only; omega
      · exact h q hq
    · exact h
  · exact h
theorem open_inv {X : List Xi} (h : InvX X) (t : Int) : InvX (openX t X) := by
  intro q hq
  obtain ⟨p, hp, rfl⟩ := List.mem_map.1 hq
  exact h p hp
end Go.Proofs.YtjmoifbajjemmaaGreat
set_option linter.unusedVariables false
set_option linter.unusedSimpArgs false
namespace Go.Proofs.YtjmoifbajjemmaaGreat
open Go.RowKit
attribute [local go_sem] GW.cell GW.frozen In.eq_true In.le_true In.ne In.ne' In.ne_add In.ne_add' In.lt_add Upto.le_true Upto.le_add Upto.lt_add
/-- An input as it lies: its clock, the slice that it holds, and the edges. -/
abbrev Hi := Int × Value × List Ve
def hic (st : List Hi) : List Value := st.flatMap fun p => [.int .i64 p.1, p.2.1]
abbrev absX (st : List Hi) : List Xi := st.map fun p => (p.1, eds p.2.2)
theorem hic_length (st : List Hi) : (hic st).length = st.length * 2 := by
  induction st with
  | nil => rfl
  | cons p r ih => simp only [hic, List.flatMap_cons, List.length_append, List.length_cons, List.length_nil] at ih ⊢; omega
theorem hic_get : ∀ (st : List Hi) (i : Nat) (p : Hi), st[i]? = some p → (hic st)[i * 2]? = some (.int .i64 p.1) ∧ (hic st)[i * 2 + 1]? = some p.2.1
  | q :: r, 0, p, h => by simp at h; subst h; exact ⟨rfl, rfl⟩
  | q :: r, i + 1, p, h => by
    have := hic_get r i p (by simpa using h)
    rw [show (i + 1) * 2 = i * 2 + 1 + 1 by omega]
    simpa [hic] using this
theorem hic_set : ∀ (st : List Hi) (i : Nat) (c : Int) (v : Value) (L : List Ve), i < st.length → hic (st.set i (c, v, L)) = ((hic st).set (i * 2) (.int .i64 c)).set (i * 2 + 1) v
  | [], i, c, v, L, h => by simp at h
  | q :: r, 0, c, v, L, h => by simp [hic]
  | q :: r, i + 1, c, v, L, h => by
    have ih := hic_set r i c v L (by simpa using h)
    rw [List.set_cons_succ, show (i + 1) * 2 = i * 2 + 1 + 1 by omega]
    simp only [hic, List.flatMap_cons, List.cons_append, List.nil_append, List.set_cons_succ] at ih ⊢
    rw [ih]
/-- An align: its block, its inputs' block; what is held lies in no block of S. -/
def IA (w : World) (S : List Nat) (a ia : Nat) (st : List Hi) : Prop :=
  (Ob w a 50 [.slice (some ⟨ia, 0, none⟩) st.length st.length] ∧ Ob w ia 55 (hic st)) ∧ (∀ p ∈ st, Ew w S p.2.1 p.2.2) ∧ (a ∉ S ∧ ia ∈ S) ∧ a ≠ ia
theorem IA.ext {w w' : World} {S : List Nat} {a ia : Nat} {st : List Hi} (h : IA w S a ia st) (k : Ext w w') : IA w' S a ia st :=
  ⟨⟨h.1.1.ext k, h.1.2.ext k⟩, fun p hp => (h.2.1 p hp).ext k, h.2.2⟩
theorem IA.fr {w w' : World} {S S' : List Nat} {a ia : Nat} {st : List Hi} (h : IA w S a ia st) (k : Fr S' w w') (hs : ∀ b, b ∈ S' → b ∈ S) (hi : ia ∉ S') : IA w' S a ia st :=
  ⟨⟨h.1.1.fr k (fun m => h.2.2.1.1 (hs _ m)), h.1.2.fr k hi⟩, fun p hp => (h.2.1 p hp).fr k hs, h.2.2⟩
theorem ew_one {w : World} {S : List Nat} {v : Value} {L : List Ve} (h : Ew w S v L) : ∃ A cap, v = .slice A L.length cap := by obtain ⟨A, cap, e, _⟩ := ew_form h; exact ⟨A, cap, e⟩
set_option maxHeartbeats 1000000 in
theorem ahd_c (q : List Vl) (j : Jp) (v : Value) (cb : Nat) (t : Int) (w : World) (h : Ob w cb 3 [.int .i64 t]) (hq : Rw w [] v q) : Calls Tryz.prog 41 #[em v j, .pointer (some ⟨cb, 0, none⟩)] w fun e w' => e = .returned (.bool (ahT t j)) ∧ Ext w w' := by
  obtain ⟨jp, jn⟩ := j
  obtain ⟨A, cap, rfl⟩ := rw_val hq
  have c0 := h.cell 0 rfl
  have hlt := h.lt
  haveI : In cb w := ⟨hlt⟩
  clear h hq
  unfold ahT
  go_enter Tryz.func41, Tryz.ntmps41
  go_wp2_with fail
  go_returns
  exact ⟨rfl, (Ext.refl w).alloc _⟩
set_option maxHeartbeats 2000000 in
theorem indexAh_c (t : Int) (cb : Nat) (L : List Ve) (v : Value) (w : World) (hcb0 : Ob w cb 3 [.int .i64 t]) (h : Ew w [] v L) : Calls Tryz.prog 45 #[v, .func (.func 41) #[] #[.pointer (some ⟨cb, 0, none⟩)]] w fun e w' => e = .returned (.int .i64 (idxP (fun x : Ve => !ahT t x.2.2) 0 L)) ∧ Ext w w' := by
  obtain ⟨A, cap, rfl, hl, hm, hat⟩ := ew_form h
  unfold maxLen at hm
  replace hat := hide hat
  have hcb := hide hcb0
  clear hcb0
  have hrows := hide h.2
  clear h
  obtain ⟨R, hR⟩ : ∃ R, R = idxP (fun x : Ve => !ahT t x.2.2) 0 L := ⟨_, rfl⟩
  rw [← hR]
  replace hR := hide hR
  go_enter Tryz.func45, Tryz.ntmps45
  go_wp2_with fail
  go_loopg [8] L.length (fun gh i wr => ∃ (k : Nat), i = .int .i64 k ∧ k + gh = L.length ∧ Hid (R = idxP (fun x : Ve => !ahT t x.2.2) k (L.drop k)) ∧ Ext w wr)
  case atStart => exact ⟨0, rfl, by omega, by simpa using hR, Ext.refl w⟩
  case round =>
    obtain ⟨k, rfl, hk, hRk, hX⟩ := hrel
    clear hR
    by_cases hlt : k < L.length
    · obtain ⟨x, hx⟩ : ∃ x, L[k]? = some x := ⟨_, List.getElem?_eq_getElem hlt⟩
      obtain ⟨b, o, rfl, -, hb, c0, c1, c2⟩ := hat.out k x hx
      have k0 := cell_later hX c0
      have k1 := cell_later hX c1
      have k2 := cell_later hX c2
      have hbr : b < wr.heap.size := block_lt_of_cell k0
      have hrw := Sl.ext (hrows.out x (List.mem_of_getElem? hx)) hX
      have hR2 := hRk.out
      rw [drop_cons hx] at hR2
      obtain ⟨xv, xq, xa, xn⟩ := x
      simp only at k0 k1 k2 hrw
      have hin := hide (fun w' (hXw : Ext wr w') => ahd_c xq (xa, xn) xv cb t w' (hcb.out.ext (hX.trans hXw)) (Sl.ext hrw hXw))
      have hX00 := hide (Ext.refl wr)
      obtain ⟨XA, xcap, rfl⟩ := rw_val hrw
      clear c0 c1 c2 hat hx hrows hrw
      cases hmx : ahT t (xa, xn)
      · rw [hmx] at hin
        rw [idxP_yes (p := (fun x : Ve => !ahT t x.2.2)) (x := (.slice XA xq.length xcap, xq, xa, xn)) (by simp only; rw [hmx]; rfl)] at hR2
        replace hR2 := hide hR2
        replace hmx := hide hmx
        go_wp2_with (go_at_call 41; (with_reducible refine seq_gw (hin.out _ hX00.out) ?_); intro g)
        go_roundg (L.length - (k + 1))
        case measure => omega
        case rel => exact ⟨k + 1, by go_num, by omega, hR2, hX.trans g.grown⟩
      · rw [hmx] at hin
        rw [idxP_no (p := (fun x : Ve => !ahT t x.2.2)) (x := (.slice XA xq.length xcap, xq, xa, xn)) (by simp only; rw [hmx]; rfl)] at hR2
        replace hR2 := hide hR2
        replace hmx := hide hmx
        go_wp2_with (go_at_call 41; (with_reducible refine seq_gw (hin.out _ hX00.out) ?_); intro g)
        go_returns
        exact ⟨by rw [hR2.out]; rfl, hX.trans g.grown⟩
    · have hk' : k = L.length := by omega
      have hge : (L.length : Int) ≤ k := by omega
      have hR2 := hRk.out
      rw [hk', List.drop_length] at hR2
      replace hR2 := hide hR2
      replace hk' := hide hk'
      go_wp2_with fail
      go_returns
      exact ⟨by rw [hR2.out]; rfl, hX⟩
set_option maxHeartbeats 1000000 in
theorem containsAh_c (t : Int) (cb : Nat) (L : List Ve) (v : Value) (w : World) (hcb0 : Ob w cb 3 [.int .i64 t]) (h : Ew w [] v L) : Calls Tryz.prog 26 #[v, .func (.func 41) #[] #[.pointer (some ⟨cb, 0, none⟩)]] w fun e w' => e = .returned (.bool (!L.all (fun x : Ve => !ahT t x.2.2))) ∧ Ext w w' := by
  have hc := hide (indexAh_c t cb L v w hcb0 h)
  have e := hide (idxP_ge (fun x : Ve => !ahT t x.2.2) 0 L)
  generalize idxP (fun x : Ve => !ahT t x.2.2) 0 L = z at *
  obtain ⟨A, cap, rfl, -, -, -⟩ := ew_form h
  clear h
  go_enter Tryz.func26, Tryz.ntmps26
  go_wp2_with (go_at_call 45; (with_reducible refine seq_gw hc.out ?_); intro g)
  go_returns
  exact ⟨by rw [← e.out]; first | rfl | simp, g.grown⟩
theorem late_all (t : Int) (L : List Ve) : (!L.all (fun x : Ve => !ahT t x.2.2)) = lateE t (eds L) := by
  unfold lateE
  induction L with
  | nil => rfl
  | cons x r ih => simp only [List.all_cons, eds, List.map_cons, List.any_cons, Bool.not_and, Bool.not_not] at ih ⊢; rw [ih]
set_option maxHeartbeats 1000000 in
theorem isAhead_c (t : Int) (w : World) : Calls Tryz.prog 22 #[.int .i64 t] w fun e w' => e = .returned (.func (.func 41) #[] #[.pointer (some ⟨w.heap.size, 0, none⟩)]) ∧ Ob w' w.heap.size 3 [.int .i64 t] ∧ Ext w w' := by
  go_enter Tryz.func22, Tryz.ntmps22
  go_wp2_with fail
  go_returns
  exact ⟨rfl, Ob.new w _ _, (Ext.refl w).alloc _⟩
/-- Is there such an input? -/
def mayK (n : Nat) (k : Int) : Int := if k < 0 ∨ (n : Int) ≤ k then 3 else 0
set_option maxHeartbeats 2000000 in
set_option maxRecDepth 100000 in
theorem alMay_c (S : List Nat) (a ia : Nat) (st : List Hi) (k : Int) (w : World) (h : IA w S a ia st) : Calls Tryz.prog 24 #[.pointer (some ⟨a, 0, none⟩), .int .i64 k] w fun e w' => e = .returned (.int .i64 (mayK st.length k)) ∧ Ext w w' := by
  have a0 := h.1.1.cell 0 rfl
  have hlt := h.1.1.lt
  haveI : In a w := ⟨hlt⟩
  generalize st.length = n at *
  clear h
  unfold mayK
  by_cases h1 : k < 0
  · have d1 : decide (k < 0) = true := decide_eq_true h1
    rw [if_pos (.inl h1)]
    go_enter Tryz.func24, Tryz.ntmps24
    go_wp2_with fail
    go_returns
    exact ⟨rfl, by first | exact Ext.refl _ | exact (Ext.refl _).drewN _⟩
  · have d1 : decide (k < 0) = false := decide_eq_false h1
    by_cases h2 : (n : Int) ≤ k
    · have d2 : decide ((n : Int) ≤ k) = true := decide_eq_true h2
      rw [if_pos (.inr h2)]
      go_enter Tryz.func24, Tryz.ntmps24
      go_wp2_with fail
      go_returns
      exact ⟨rfl, by first | exact Ext.refl _ | exact (Ext.refl _).drewN _⟩
    · have d2 : decide ((n : Int) ≤ k) = false := decide_eq_false h2
      rw [if_neg (by omega)]
      go_enter Tryz.func24, Tryz.ntmps24
      go_wp2_with fail
      go_returns
      exact ⟨rfl, by first | exact Ext.refl _ | exact (Ext.refl _).drewN _⟩
end Go.Proofs.YtjmoifbajjemmaaGreat
