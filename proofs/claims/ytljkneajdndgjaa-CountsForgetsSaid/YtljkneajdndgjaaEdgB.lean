/-
  A helper of ours: no claim of its own. Layer 10 (edge): edges asked one by one, in order, pair by pair; cloned; what ranges over their rows.
-/
import Derived.Test.YtljkneajdndgjaaMem
import Derived.Orders
import Derived.Test.YtljkneajdndgjaaIdx
import Derived.Test.YtljkneajdndgjaaStepC
set_option linter.unusedVariables false
set_option linter.unusedSimpArgs false
namespace Go.Proofs.Ytljkneajdndgjaa
open Go.RowKit

/-- Each operation waits for earlier ones alone. -/
def acycB (ops : Array Oper) : Bool := (List.range ops.size).all fun i => match ops[i]? with
  | some o => o.after.all fun e => !Region.binds .any e || decide (e.on < i)
  | none => true
def dstsOf (ops : Array Oper) : List Tmp := ops.toList.filterMap (·.dst)
/-- No two operations write one slot, and all slots are there. -/
def dstsB (ops : Array Oper) (n : Nat) : Bool := (dstsOf ops).all (fun d => decide (d < n)) && (List.range ops.size).all fun i => (List.range ops.size).all fun j =>
  i == j || match ops[i]?, ops[j]? with
    | some o, some p => (match o.dst, p.dst with | some d, some c => d != c | _, _ => true)
    | _, _ => true
def depB (ops : Array Oper) (i j : Nat) : Bool := match ops[i]? with
  | some o => o.after.any fun e => Region.binds .any e && e.on == j
  | none => false

def cntF : List Bool → Nat
  | [] => 0
  | b :: r => (if b then 0 else 1) + cntF r
theorem cntF_set : ∀ (l : List Bool) (i : Nat), l[i]? = some false → cntF (l.set i true) + 1 = cntF l
  | b :: r, 0, h => by simp at h; subst h; simp [cntF]; omega
  | b :: r, i + 1, h => by have := cntF_set r i (by simpa using h); simp only [List.set_cons_succ, cntF]; omega
theorem cntF_rep (n : Nat) : cntF (List.replicate n false) = n := by induction n with
  | zero => rfl
  | succ n ih => simp [List.replicate_succ, cntF, ih]; omega

theorem getD_some {l : Array Bool} {i : Nat} {d : Bool} (h : i < l.size) : l[i]? = some (l.getD i d) := by
  simp [Array.getD, h]

section
variable {P : Program} {ops : Array Oper} {Φ : Nat → Value → World → Prop} {Q : Exit → Act → World → Prop} {a : Act} {W : World}

/-- What holds of the frame b and the world w behind the listed operations. -/
structure RInv (ops : Array Oper) (Φ : Nat → Value → World → Prop) (a : Act) (W : World) (listed : Array Bool) (b : Act) (w : World) : Prop where
  ext : Ext W w
  defers : b.defers = a.defers
  size : b.tmps.size = a.tmps.size
  len : listed.size = ops.size
  else_ : ∀ t, t ∉ dstsOf ops → b.tmps.getD t undef = a.tmps.getD t undef
  fact : ∀ j o d, ops[j]? = some o → listed.getD j false = true → o.dst = some d → Φ j (b.tmps.getD d undef) w

/-- What an operation finds. -/
structure RAt (ops : Array Oper) (Φ : Nat → Value → World → Prop) (a : Act) (W : World) (i : Nat) (b : Act) (w : World) : Prop where
  ext : Ext W w
  defers : b.defers = a.defers
  size : b.tmps.size = a.tmps.size
  else_ : ∀ t, t ∉ dstsOf ops → b.tmps.getD t undef = a.tmps.getD t undef
  dep : ∀ j o d, depB ops i j = true → ops[j]? = some o → o.dst = some d → Φ j (b.tmps.getD d undef) w

/-- What an operation must do. -/
def RGood (P : Program) (ops : Array Oper) (Φ : Nat → Value → World → Prop) (Q : Exit → Act → World → Prop) (i : Nat) (o : Oper) (b : Act) (w : World) : Prop :=
  (Region.wanted o (yielded ops b.tmps) = true ∧ o.wp P b w (fun b' w' => ∃ v, b' = b.put o.dst v ∧ Φ i v w' ∧ Ext w w') Q) ∨ (Region.wanted o (yielded ops b.tmps) = false ∧ Φ i undef w)

theorem all_listed (hB : acycB ops = true) {listed : Array Bool} (hl : listed.size = ops.size) (hr : Region.ready .any ops listed = []) : ∀ j, j < ops.size → listed.getD j false = true := by
  intro j
  induction j using Nat.strongRecOn with
  | ind j ih =>
    intro hj
    cases h : listed.getD j false with
    | true => rfl
    | false =>
      exfalso
      have hjl : j < listed.size := by omega
      have ho : ops[j]? = some ops[j] := Array.getElem?_eq_getElem hj
      have hacy := List.all_eq_true.1 hB j (List.mem_range.2 hj)
      rw [ho] at hacy
      have : j ∈ Region.ready .any ops listed := mem_ready.2 ⟨by
        have e1 := getD_some (l := listed) (d := false) hjl
        have e2 := getD_some (l := listed) (d := true) hjl
        rw [e1] at e2; rw [← Option.some.inj e2]; exact h, _, ho, fun e he hb => by
        have h2 := Array.all_eq_true_iff_forall_mem.1 hacy e he
        simp [hb] at h2
        exact ih e.on h2 (by omega)⟩
      rw [hr] at this; cases this

theorem put_other {b : Act} {dst : Option Tmp} {v : Value} {t : Nat} (h : dst ≠ some t) : (b.put dst v).tmps.getD t undef = b.tmps.getD t undef := by
  cases dst with
  | none => rfl
  | some d =>
    have : d ≠ t := fun e => h (by rw [e])
    simp [Act.put, Array.getD_eq_getD_getElem?, Array.getElem?_setIfInBounds, this]
theorem put_same {b : Act} {d : Nat} {v : Value} (h : d < b.tmps.size) : (b.put (some d) v).tmps.getD d undef = v := by
  simp [Act.put, Array.getD_eq_getD_getElem?, Array.getElem?_setIfInBounds, h]
theorem put_defers {b : Act} {dst : Option Tmp} {v : Value} : (b.put dst v).defers = b.defers := by cases dst <;> rfl
theorem put_size {b : Act} {dst : Option Tmp} {v : Value} : (b.put dst v).tmps.size = b.tmps.size := by cases dst <;> simp [Act.put]

/-- A frame that differs in the slots D alone. -/
theorem frame_puts {b a : Act} {D : List Tmp} (hd : b.defers = a.defers) (hz : b.tmps.size = a.tmps.size) (he : ∀ t, t ∉ D → b.tmps.getD t undef = a.tmps.getD t undef) :
    b = D.foldl (fun f d => f.put (some d) (b.tmps.getD d undef)) a := by
  have key : ∀ (D : List Tmp) (f : Act), f.defers = b.defers → f.tmps.size = b.tmps.size → (∀ t, t ∉ D → b.tmps.getD t undef = f.tmps.getD t undef) → b = D.foldl (fun f d => f.put (some d) (b.tmps.getD d undef)) f := by
    intro D
    induction D with
    | nil =>
      intro f h1 h2 h3
      obtain ⟨bt, bd⟩ := b
      obtain ⟨ft, fd⟩ := f
      simp only at h1 h2 h3
      subst h1
      have : bt = ft := by
        apply Array.ext
        · exact h2.symm
        · intro i hi hj
          have := h3 i (by simp)
          rw [Array.getD_eq_getD_getElem?, Array.getD_eq_getD_getElem?, Array.getElem?_eq_getElem hi, Array.getElem?_eq_getElem hj] at this
          simpa using this
      rw [this]; rfl
    | cons d D ih =>
      intro f h1 h2 h3
      refine ih _ (put_defers.trans h1) (put_size.trans h2) fun t ht => ?_
      by_cases htd : t = d
      · subst htd
        by_cases hlt : t < f.tmps.size
        · rw [put_same hlt]
        · have e1 : ∀ (c : Act), ¬ t < c.tmps.size → c.tmps.getD t undef = undef := fun c h => by simp [Array.getD, h]
          rw [e1 b (by rw [← h2]; exact hlt), e1 _ (by rw [put_size]; exact hlt)]
      · rw [put_other (fun e => htd (Option.some.inj e).symm)]
        exact h3 t (by simp [htd, ht])
  exact key D a hd.symm hz.symm he
/-- All operations of a list, each by itself. -/
def RSteps (S : Nat → Oper → Prop) : Nat → List Oper → Prop
  | _, [] => True
  | k, o :: r => S k o ∧ RSteps S (k + 1) r
theorem RSteps.get {S : Nat → Oper → Prop} : ∀ (k : Nat) (l : List Oper), RSteps S k l → ∀ j o, l[j]? = some o → S (k + j) o
  | k, [], _, j, o, h => by simp at h
  | k, p :: r, ⟨h0, h1⟩, 0, o, h => by simp at h; subst h; exact h0
  | k, p :: r, ⟨h0, h1⟩, j + 1, o, h => by
    have := RSteps.get (k + 1) r h1 j o (by simpa using h)
    rwa [show k + 1 + j = k + (j + 1) by omega] at this

/-- What may be known of a value: it stays known in grown worlds. -/
inductive Fact where
  | is (v : Value)
  | bytes (l : List UInt8)
  | st (p : Value → World → Prop) (h : ∀ v w w', p v w → Ext w w' → p v w')
  | any
def Fact.holds : Fact → Value → World → Prop
  | .is u, v, _ => v = u
  | .bytes l, v, w => By w [] v l
  | .st p _, v, w => p v w
  | .any, _, _ => True
theorem Fact.stays (f : Fact) (v : Value) (w w' : World) (h : f.holds v w) (hx : Ext w w') : f.holds v w' := by
  cases f with
  | is u => exact h
  | bytes l => exact Sl.ext h hx
  | st p hp => exact hp v w w' h hx
  | any => trivial
def factsOf (L : List Fact) (i : Nat) (v : Value) (w : World) : Prop := (L.getD i .any).holds v w

section
variable {i : Nat} {o : Oper} {b : Act} {w : World}
theorem good_run {v : Value} (hg : Region.wanted o (yielded ops b.tmps) = true) (hr : (execOp b.eval o).run P w = .ok (.value v) w) (hΦ : Φ i v w) : RGood P ops Φ Q i o b w :=
  .inl ⟨hg, by unfold Oper.wp; rw [hr]; exact ⟨v, rfl, hΦ, Ext.refl w⟩⟩
theorem good_move {x : Operand} (hg : Region.wanted o (yielded ops b.tmps) = true) (ho : o.op = .move x) (hΦ : Φ i (b.eval x) w) : RGood P ops Φ Q i o b w :=
  good_run hg (by simp [execOp, ho, Sem.run_pure]) hΦ
theorem exec_binOp {ρ : Operand → Value} {op : BinOp} {t ty : TypeId} {x y : Operand} {u1 u2 v : Value} (ho : o.op = .binOp op t x y ty) (hx : ρ x = u1) (hy : ρ y = u2)
    (hg : (eqGuard op t x y u1 u2).run P w = .ok () w) (hr : (binOp op t u1 u2).run P w = .ok v w) : (execOp ρ o).run P w = .ok (.value v) w := by
  simp only [execOp, ho, hx, hy, Sem.run_bind, hg, hr, Sem.run_pure, Result.andThen_ok]
theorem good_bin {op : BinOp} {t ty : TypeId} {x y : Operand} {u1 u2 v : Value} (hg : Region.wanted o (yielded ops b.tmps) = true) (ho : o.op = .binOp op t x y ty) (hx : b.eval x = u1) (hy : b.eval y = u2)
    (he : (eqGuard op t x y u1 u2).run P w = .ok () w) (hr : (binOp op t u1 u2).run P w = .ok v w) (hΦ : Φ i v w) : RGood P ops Φ Q i o b w :=
  good_run hg (exec_binOp ho hx hy he hr) hΦ
theorem wanted_none (hg : o.guard = none) : Region.wanted o (yielded ops b.tmps) = true := by unfold Region.wanted; rw [hg]
theorem enters {f : FuncId} {fn : Func} {c : Code} (hf : P.funcs[f]? = some fn) (hname : (fn.name == "runtime.NumGoroutine") = false) (hb : fn.body = some c) : ∀ args w, (callFunc f args).run P w = .ok (.enter f args) w := by
  intro args w
  have h1 : fn.name ≠ "runtime.NumGoroutine" := by simpa using hname
  simp [callFunc, hf, h1, hb, mark]
theorem exec_field {ρ : Operand → Value} {t : TypeId} {x : Operand} {k : Nat} {u v : Value} (ho : o.op = .fieldAddr t x k) (hx : ρ x = u) (hr : (Instr.fieldAt t u k).run P w = .ok v w) : (execOp ρ o).run P w = .ok (.value v) w := by
  simp only [execOp, ho, hx, Sem.run_bind, hr, Sem.run_pure, Result.andThen_ok]
theorem good_field {t : TypeId} {x : Operand} {k : Nat} {u v : Value} (hg : Region.wanted o (yielded ops b.tmps) = true) (ho : o.op = .fieldAddr t x k) (hx : b.eval x = u) (hr : (Instr.fieldAt t u k).run P w = .ok v w) (hΦ : Φ i v w) : RGood P ops Φ Q i o b w :=
  good_run hg (exec_field ho hx hr) hΦ
theorem exec_index {ρ : Operand → Value} {t : TypeId} {x y : Operand} {u u' v : Value} (ho : o.op = .indexAddr t x y) (hx : ρ x = u) (hy : ρ y = u') (hr : (Instr.indexAt t u u').run P w = .ok v w) : (execOp ρ o).run P w = .ok (.value v) w := by
  simp only [execOp, ho, hx, hy, Sem.run_bind, hr, Sem.run_pure, Result.andThen_ok]
theorem good_index {t : TypeId} {x y : Operand} {u u' v : Value} (hg : Region.wanted o (yielded ops b.tmps) = true) (ho : o.op = .indexAddr t x y) (hx : b.eval x = u) (hy : b.eval y = u') (hr : (Instr.indexAt t u u').run P w = .ok v w) (hΦ : Φ i v w) : RGood P ops Φ Q i o b w :=
  good_run hg (exec_index ho hx hy hr) hΦ
theorem exec_load {ρ : Operand → Value} {t : TypeId} {x : Operand} {u v : Value} (ho : o.op = .load t x) (hx : ρ x = u) (hr : (Instr.loadAt t u).run P w = .ok v w) : (execOp ρ o).run P w = .ok (.value v) w := by
  simp only [execOp, ho, hx, Sem.run_bind, hr, Sem.run_pure, Result.andThen_ok]
theorem good_load {t : TypeId} {x : Operand} {u v : Value} (hg : Region.wanted o (yielded ops b.tmps) = true) (ho : o.op = .load t x) (hx : b.eval x = u) (hr : (Instr.loadAt t u).run P w = .ok v w) (hΦ : Φ i v w) : RGood P ops Φ Q i o b w :=
  good_run hg (exec_load ho hx hr) hΦ
theorem exec_len {ρ : Operand → Value} {t ty : TypeId} {x : Operand} {A : Option Addr} {n c : Nat} {e : TypeId} (ho : o.op = .call { callee := .builtin .len, args := #[x], argTypes := #[t] }) (ht : P.underlying t = some (.slice e)) (hx : ρ x = .slice A n c) : (execOp ρ o).run P w = .ok (.value (.int .i64 n)) w := by
  simp [execOp, ho, resolve, invoke, builtin, hx, go_sem, ht, Builtin.len_, run_underlying ht, goInt]
theorem good_len {t : TypeId} {x : Operand} {A : Option Addr} {n c : Nat} {e : TypeId} (hg : Region.wanted o (yielded ops b.tmps) = true) (ho : o.op = .call { callee := .builtin .len, args := #[x], argTypes := #[t] }) (ht : P.underlying t = some (.slice e)) (hx : b.eval x = .slice A n c) (hΦ : Φ i (.int .i64 n) w) : RGood P ops Φ Q i o b w :=
  good_run hg (exec_len (ty := 0) ho ht hx) hΦ
theorem run_sub_i64 {t : TypeId} (ht : P.underlying t = some (.int .i64)) (n m r : Int) (hr : n - m = r) (h : -9223372036854775808 ≤ r ∧ r ≤ 9223372036854775807) (w : World) : (binOp .sub t (.int .i64 n) (.int .i64 m)).run P w = .ok (.int .i64 r) w := by
  subst hr
  have := IntWalk.i64_in _ h
  simp [go_sem, ht, this]
theorem good_call {f : FuncId} {xs : Array Operand} {ats : Array TypeId} (hg : Region.wanted o (yielded ops b.tmps) = true) (ho : o.op = .call { callee := .value (.func f), args := xs, argTypes := ats })
    (he : ∀ args w, (callFunc f args).run P w = .ok (.enter f args) w) (hc : Calls P f (xs.map b.eval) w fun e w' => ∃ v, e = .returned v ∧ Φ i v w' ∧ Ext w w') : RGood P ops Φ Q i o b w := by
  refine .inl ⟨hg, ?_⟩
  unfold Oper.wp
  have : (execOp b.eval o).run P w = .ok (.enter f (xs.map b.eval)) w := by
    simp [execOp, ho, resolve, Act.eval, Deferred.ofValue, invoke, he, go_sem]
  rw [this]
  exact hc.mono fun e w' ⟨v, he, h1, h2⟩ => by subst he; exact ⟨v, rfl, h1, h2⟩
end
end
end Go.Proofs.Ytljkneajdndgjaa
set_option linter.unusedVariables false
set_option linter.unusedSimpArgs false
namespace Go.Proofs.Ytljkneajdndgjaa
open Go.RowKit
attribute [local go_sem] GW.cell GW.frozen In.eq_true In.le_true In.ne In.ne' In.ne_add In.ne_add' In.lt_add Upto.le_true Upto.le_add Upto.lt_add
set_option maxHeartbeats 2000000 in
theorem indexERow_c (L : List Ve) (v : Value) (w : World) (h : Ew w [] v L) : Calls Try.prog 67 #[v, .func (.func 44) #[] #[]] w fun e w' => e = .returned (.int .i64 (idxP (fun x : Ve => mayR x.2.1) 0 L)) ∧ Ext w w' := by
  obtain ⟨A, cap, rfl, hl, hm, hat⟩ := ew_form h
  unfold maxLen at hm
  replace hat := hide hat
  have hrows := hide h.2
  clear h
  obtain ⟨R, hR⟩ : ∃ R, R = idxP (fun x : Ve => mayR x.2.1) 0 L := ⟨_, rfl⟩
  rw [← hR]
  replace hR := hide hR
  go_enter Try.func67, Try.ntmps67
  go_wp2_with fail
  go_loopg [8] L.length (fun gh i wr => ∃ (k : Nat), i = .int .i64 k ∧ k + gh = L.length ∧ Hid (R = idxP (fun x : Ve => mayR x.2.1) k (L.drop k)) ∧ Ext w wr)
  case atStart => exact ⟨0, rfl, by omega, by simpa using hR, Ext.refl w⟩
  case round =>
    obtain ⟨k, rfl, hk, hRk, hX⟩ := hrel
    clear hR
    by_cases hlt : k < L.length
    · obtain ⟨x, hx⟩ : ∃ x, L[k]? = some x := ⟨_, List.getElem?_eq_getElem hlt⟩
      obtain ⟨b, o, rfl, -, hb, c0, c1, c2⟩ := hat.out k x hx
      have k0 := cell_later hX c0
      have k1 := cell_later hX c1
      have k2 := cell_later hX c2
      have hbr : b < wr.heap.size := block_lt_of_cell k0
      have hrw := Sl.ext (hrows.out x (List.mem_of_getElem? hx)) hX
      have hR2 := hRk.out
      rw [drop_cons hx] at hR2
      obtain ⟨xv, xq, xa, xn⟩ := x
      simp only at k0 k1 k2 hrw
      have hin := hide (fun w' (hXw : Ext wr w') => hasNoRow_c xq (xa, xn) xv w' (Sl.ext hrw hXw))
      have hX00 := hide (Ext.refl wr)
      obtain ⟨XA, xcap, rfl⟩ := rw_val hrw
      clear c0 c1 c2 hat hx hrows hrw
      cases hmx : mayR xq
      · rw [hmx] at hin
        rw [idxP_no (p := (fun x : Ve => mayR x.2.1)) (x := (.slice XA xq.length xcap, xq, xa, xn)) hmx] at hR2
        replace hR2 := hide hR2
        replace hmx := hide hmx
        go_wp2_with (go_at_call 44; (with_reducible refine seq_gw (hin.out _ hX00.out) ?_); intro g)
        go_returns
        exact ⟨by rw [hR2.out]; rfl, hX.trans g.grown⟩
      · rw [hmx] at hin
        rw [idxP_yes (p := (fun x : Ve => mayR x.2.1)) (x := (.slice XA xq.length xcap, xq, xa, xn)) hmx] at hR2
        replace hR2 := hide hR2
        replace hmx := hide hmx
        go_wp2_with (go_at_call 44; (with_reducible refine seq_gw (hin.out _ hX00.out) ?_); intro g)
        go_roundg (L.length - (k + 1))
        case measure => omega
        case rel => exact ⟨k + 1, by go_num, by omega, hR2, hX.trans g.grown⟩
    · have hk' : k = L.length := by omega
      have hge : (L.length : Int) ≤ k := by omega
      have hR2 := hRk.out
      rw [hk', List.drop_length] at hR2
      replace hR2 := hide hR2
      replace hk' := hide hk'
      go_wp2_with fail
      go_returns
      exact ⟨by rw [hR2.out]; rfl, hX⟩
set_option maxHeartbeats 1000000 in
theorem containsERow_c (L : List Ve) (v : Value) (w : World) (h : Ew w [] v L) : Calls Try.prog 43 #[v, .func (.func 44) #[] #[]] w fun e w' => e = .returned (.bool (!L.all (fun x : Ve => mayR x.2.1))) ∧ Ext w w' := by
  have hc := hide (indexERow_c L v w h)
  have e := hide (idxP_ge (fun x : Ve => mayR x.2.1) 0 L)
  generalize idxP (fun x : Ve => mayR x.2.1) 0 L = z at *
  obtain ⟨A, cap, rfl, -, -, -⟩ := ew_form h
  clear h
  go_enter Try.func43, Try.ntmps43
  go_wp2_with (go_at_call 67; (with_reducible refine seq_gw hc.out ?_); intro g)
  go_returns
  exact ⟨by rw [← e.out]; first | rfl | simp, g.grown⟩
theorem rise_adj : ∀ {l : List Ed}, (∀ e ∈ l, mayR e.1 = true) → (∀ (i : Nat) (a b : Ed), l[i]? = some a → l[i + 1]? = some b → cmpT a.1 b.1 ≤ 0) → l.Pairwise fun a b => cmpT a.1 b.1 ≤ 0
  | [], _, _ => List.Pairwise.nil
  | [a], _, _ => by simp
  | a :: b :: l, hv, h => by
    have ih := rise_adj (l := b :: l) (fun e he => hv e (List.mem_cons_of_mem _ he)) (fun i x y hx hy => h (i + 1) x y (by simpa using hx) (by simpa using hy))
    have hab := h 0 a b rfl rfl
    rw [List.pairwise_cons]
    refine ⟨fun x hx => ?_, ih⟩
    rcases List.mem_cons.1 hx with rfl | hx
    · exact hab
    · have hbx := (List.pairwise_cons.1 ih).1 x hx
      have := cmpT_trans a.1 b.1 x.1 (mayR_iff.1 (hv a (by simp))).2 (mayR_iff.1 (hv b (by simp))).2 (mayR_iff.1 (hv x (by simp [hx]))).2 hab hbx
      omega
theorem riseB_true {l : List Ed} (hv : ∀ e ∈ l, mayR e.1 = true) (h : ∀ (i : Nat) (a b : Ed), l[i]? = some a → l[i + 1]? = some b → cmpT a.1 b.1 ≤ 0) : riseB l = true := by
  unfold riseB; rw [decide_eq_true_iff]; exact rise_adj hv h
theorem riseB_false {l : List Ed} {i : Nat} {a b : Ed} (ha : l[i]? = some a) (hb : l[i + 1]? = some b) (h : 0 < cmpT a.1 b.1) : riseB l = false := by
  unfold riseB
  rw [decide_eq_false_iff_not]
  intro hp
  have hi := (List.getElem?_eq_some_iff.1 hb).1
  have := List.pairwise_iff_getElem.1 hp i (i + 1) (by omega) hi (by omega)
  rw [List.getElem?_eq_getElem (by omega)] at ha hb
  rw [Option.some.inj ha, Option.some.inj hb] at this
  omega
set_option maxHeartbeats 4000000 in
set_option maxRecDepth 100000 in
theorem isSorted_c (L : List Ve) (hv : ∀ p ∈ L, mayR p.2.1 = true) (v : Value) (w : World) (h : Ew w [] v L) : Calls Try.prog 45 #[v, .func (.func 46) #[] #[]] w fun e w' => e = .returned (.bool (riseB (eds L))) ∧ Ext w w' := by
  obtain ⟨A, cap, rfl, hl, hm, hat⟩ := ew_form h
  unfold maxLen at hm
  replace hat := hide hat
  have hrows := hide h.2
  clear h
  obtain ⟨R, hR⟩ : ∃ R, R = riseB (eds L) := ⟨_, rfl⟩
  rw [← hR]
  have hRt : Hid ((∀ (i : Nat) (a b : Ve), L[i]? = some a → L[i + 1]? = some b → cmpT a.2.1 b.2.1 ≤ 0) → R = true) := fun h => by
    rw [hR]
    refine riseB_true (fun e he => ?_) fun i a b ha hb => ?_
    · obtain ⟨p, hp, rfl⟩ := List.mem_map.1 he; exact hv p hp
    · rw [List.getElem?_map] at ha hb
      obtain ⟨p, hp, rfl⟩ := Option.map_eq_some_iff.1 ha
      obtain ⟨q, hq, rfl⟩ := Option.map_eq_some_iff.1 hb
      exact h i p q hp hq
  have hRf : Hid (∀ (i : Nat) (a b : Ve), L[i]? = some a → L[i + 1]? = some b → 0 < cmpT a.2.1 b.2.1 → R = false) := fun i a b ha hb h => by
    rw [hR]
    exact riseB_false (i := i) (a := a.2) (b := b.2) (by rw [List.getElem?_map, ha]; rfl) (by rw [List.getElem?_map, hb]; rfl) h
  replace hv := hide hv
  clear hR
  go_enter Try.func45, Try.ntmps45
  go_wp2_with fail
  go_loopw [5] (fun i wr => ∃ k : Int, i = .int .i64 k ∧ -1 ≤ k ∧ k ≤ (L.length : Int) - 1 ∧ Hid (∀ (j : Nat) (a b : Ve), k ≤ j → L[j]? = some a → L[j + 1]? = some b → cmpT a.2.1 b.2.1 ≤ 0) ∧ Ext w wr) (fun i _ => (intOf i).toNat)
  case atStart => exact ⟨(L.length : Int) - 1, by go_num, by omega, by omega, (fun j a b hj ha hb => by have := (List.getElem?_eq_some_iff.1 hb).1; omega), Ext.refl w⟩
  case round =>
    obtain ⟨k, rfl, hk1, hk, hall, hX⟩ := hrel
    by_cases hlt : 0 < k
    · obtain ⟨m, rfl⟩ : ∃ m : Nat, k = (m : Int) + 1 := ⟨(k - 1).toNat, by omega⟩
      obtain ⟨x, hx⟩ : ∃ x, L[m + 1]? = some x := ⟨_, List.getElem?_eq_getElem (by omega)⟩
      obtain ⟨y, hy⟩ : ∃ y, L[m]? = some y := ⟨_, List.getElem?_eq_getElem (by omega)⟩
      obtain ⟨b, o, rfl, -, hb, c0, c1, c2⟩ := hat.out (m + 1) x hx
      obtain ⟨b', o', e', -, hb', d0, d1, d2⟩ := hat.out m y hy
      injection e' with e'
      injection e' with e1 e2
      subst e1; subst e2
      have k0 := cell_later hX c0
      have k1 := cell_later hX c1
      have k2 := cell_later hX c2
      have j0 := cell_later hX d0
      have j1 := cell_later hX d1
      have j2 := cell_later hX d2
      have hbr : b < wr.heap.size := block_lt_of_cell k0
      have hrx := Sl.ext (hrows.out x (List.mem_of_getElem? hx)) hX
      have hry := Sl.ext (hrows.out y (List.mem_of_getElem? hy)) hX
      have hvx := hv.out x (List.mem_of_getElem? hx)
      have hvy := hv.out y (List.mem_of_getElem? hy)
      have hno := hide (hRf.out m y x hy hx)
      have hyes : Hid (cmpT y.2.1 x.2.1 ≤ 0 → ∀ (j : Nat) (a b : Ve), (m : Int) ≤ j → L[j]? = some a → L[j + 1]? = some b → cmpT a.2.1 b.2.1 ≤ 0) := fun h j a b hj ha hb => by
        by_cases e : j = m
        · subst e
          rw [hy] at ha; rw [hx] at hb
          obtain rfl := Option.some.inj ha
          obtain rfl := Option.some.inj hb
          exact h
        · exact hall.out j a b (by omega) ha hb
      have hsw := cmpT_swap y.2.1 x.2.1
      obtain ⟨xv, xq, xa, xn⟩ := x
      obtain ⟨yv, yq, ya, yn⟩ := y
      simp only at k0 k1 k2 j0 j1 j2 hvx hvy hno hyes hsw hrx hry
      have hin := hide (fun w' (hXw : Ext wr w') => byRow_c xq (xa, xn) xv yq (ya, yn) yv w' (Sl.ext hrx hXw) (Sl.ext hry hXw))
      rw [cmpR_of hvx hvy] at hin
      generalize cmpT yq xq = z at *
      generalize cmpT xq yq = z' at *
      obtain ⟨XA, xcap, rfl⟩ := rw_val hrx
      obtain ⟨YA, ycap, rfl⟩ := rw_val hry
      clear c0 c1 c2 d0 d1 d2 hat hx hy hrows hrx hry hvx hvy hRt hRf hall
      haveI : In b wr := ⟨hbr⟩
      have hm1 : m + 1 < L.length := by omega
      by_cases hz : 0 < z
      · have hf := hide (hno.out hz)
        have hz' : z' < 0 := by omega
        clear hno hyes hsw
        go_wp2_with fail
        refine wp_region_gw (by kernel_rfl) (by kernel_rfl) ?_
        repeat (go_big_quiet_step ((go_at_call 46; with_reducible exact quiet_gw (hin.out _ (GW.grown _)))))
        refine wpQuiet_nil ?_
        intro g
        go_wp2_with fail
        go_returns
        exact ⟨by rw [hf.out]; rfl, hX.trans g.grown⟩
      · have hf := hide (hyes.out (by omega))
        have hz' : ¬ z' < 0 := by omega
        clear hno hyes hsw
        go_wp2_with fail
        refine wp_region_gw (by kernel_rfl) (by kernel_rfl) ?_
        repeat (go_big_quiet_step ((go_at_call 46; with_reducible exact quiet_gw (hin.out _ (GW.grown _)))))
        refine wpQuiet_nil ?_
        intro g
        go_wp2_with fail
        go_roundw
        case rel => exact ⟨m, by go_num, by omega, by omega, hf, hX.trans g.grown⟩
        case measure => first | (simp [intOf]; done) | (simp [intOf]; omega)
    · have hf := hide (hRt.out fun i a b ha hb => hall.out i a b (by omega) ha hb)
      have hle : k ≤ 0 := by omega
      clear hat hrows hall hRt hRf hv
      go_wp2_with fail
      go_returns
      exact ⟨by rw [hf.out]; rfl, hX⟩
theorem eqP_eds : ∀ L M : List Ve, eqP (fun x y : Ve => decide (x.2 = y.2)) L M = decide (eds L = eds M)
  | [], [] => rfl
  | [], _ :: _ => by simp [eqP]
  | _ :: _, [] => by simp [eqP]
  | x :: a, y :: b => by
    show (decide (x.2 = y.2) && eqP (fun x y : Ve => decide (x.2 = y.2)) a b) = _
    rw [eqP_eds a b]
    simp
abbrev OwnE (w : World) (base : Nat) (v : Value) (L : List Ve) : Prop := w.ownsRow base 52 3 v L.length (ec L)
theorem tEdg : ElemT Try.prog 22 52 (.agg #[.slice none 0 0, .int .i64 0, .int .i64 0]) 3 40 := ElemT.mk' Try.underlying22 (by kernel_rfl) rfl (by omega)
theorem own_appE {w : World} {B : Nat} {v : Value} {L M : List Ve} (h : w.ownsRow B 52 3 v (L.length + M.length) (ec L ++ ec M)) : OwnE w B v (L ++ M) := by
  unfold OwnE; rw [List.length_append, ec_append]; exact h
set_option maxHeartbeats 1000000 in
theorem functions_c (A : Option Addr) (n cap : Nat) (w : World) : Calls Try.prog 47 #[.slice A n cap] w fun e w' => ∃ b, e = .returned (.func (.func 70) #[] #[.pointer (some ⟨b, 0, none⟩)]) ∧ Ob w' b 22 [.slice A n cap] ∧ w.heap.size ≤ b ∧ Ext w w' := by
  go_enter Try.func47, Try.ntmps47
  go_wp2_with fail
  go_returns
  exact ⟨_, rfl, Ob.new w _ [.slice A n cap], Nat.le_refl _, (Ext.refl w).alloc _⟩
end Go.Proofs.Ytljkneajdndgjaa
