/-
  A helper of ours: no claim of its own. The first place in a list at which a test fails. No program in it.
-/
import Derived.Test.YtajelkkiijdegaaGreatRf
import Derived.Shelf.RegionOpen
import Derived.Test.YtajelkkiijdegaaGreatSchA
import Derived.Test.YtajelkkiijdegaaGreatRowA

set_option linter.unusedVariables false
set_option linter.unusedSimpArgs false
namespace Go.Proofs.YtajelkkiijdegaaGreat
open Go.RowKit
theorem wide_depth : Fence.wide.depth = none := rfl
theorem wide_fn (f : FuncId) : Fence.wide.fn f = True := rfl
theorem seq_gi {P : Program} {l n : Nat} {f : FuncId} {args : Array Value} {w : World} {v : Value} {R : Ending → World → Prop} (h : Calls P f args w fun e w' => e = .returned v ∧ Ext w w')
    (hr : ∀ g : GW w, R (.returned v) g.val) : CallsIn (Fence.wide.inRound l) n P f args w R := in_round (seq_gw h hr)
/-- What is told of a box across a turn of a block that holds no cells. -/
theorem ob_put {A : World} {l : Nat} {o o' : Obj} (ho : A.heap[l]? = some o) (hc : o.isCells = false) {b : Nat} {T : TypeId} {vs : List Value} (h : Ob A b T vs) : Ob (A.putObj l o') b T vs := put_block ho hc h rfl
end Go.Proofs.YtajelkkiijdegaaGreat
set_option linter.unusedVariables false
set_option linter.unusedSimpArgs false
namespace Go.Proofs.YtajelkkiijdegaaGreat
open Go.RowKit
attribute [local go_sem] GW.cell GW.frozen In.eq_true In.le_true In.ne In.ne' In.ne_add In.ne_add' In.lt_add Upto.le_true Upto.le_add Upto.lt_add Oper.semAt_some wide_depth wide_fn
/-- A column's two cells. -/
def cc (a : Cl) : List Value := [.string a.1, .int .i64 a.2]
def cl (l : List Cl) : List Value := l.flatMap cc
theorem cl_length (l : List Cl) : (cl l).length = l.length * 2 := by
  induction l with
  | nil => rfl
  | cons p r ih => simp only [cl, cc, List.flatMap_cons, List.length_append, List.length_cons, List.length_nil] at ih ⊢; omega
theorem cl_get : ∀ (l : List Cl) (i : Nat) (a : Cl), l[i]? = some a → ∀ j v, (cc a)[j]? = some v → (cl l)[i * 2 + j]? = some v
  | q :: r, 0, a, h, j, v, hv => by
    simp at h; subst h
    have hj : j < (cc q).length := (List.getElem?_eq_some_iff.1 hv).1
    simp only [cl, List.flatMap_cons]
    rw [List.getElem?_append_left (by omega), show 0 * 2 + j = j by omega]; exact hv
  | q :: r, i + 1, a, h, j, v, hv => by
    have := cl_get r i a (by simpa using h) j v hv
    rw [show (i + 1) * 2 + j = i * 2 + j + 1 + 1 by omega]
    simpa [cl, cc] using this
/-- A schema, where it lies. -/
abbrev Cw (w : World) (S : List Nat) (v : Value) (l : List Cl) : Prop := Sl w S 2 v l.length (cl l)
theorem cw_form {w : World} {S : List Nat} {v : Value} {l : List Cl} (h : Cw w S v l) : ∃ A cap, v = .slice A l.length cap ∧ l.length ≤ cap ∧ cap ≤ maxLen ∧
    ∀ (i : Nat) (x : Cl), l[i]? = some x → ∃ b o, A = some ⟨b, o, none⟩ ∧ b ∉ S ∧ b < w.heap.size ∧ w.cell? ⟨b, o + i * 2, none⟩ = some (.string x.1) ∧ w.cell? ⟨b, o + i * 2 + 1, none⟩ = some (.int .i64 x.2) := by
  obtain ⟨A, cap, rfl, h1, h2, h3, h4⟩ := h
  refine ⟨A, cap, rfl, h1, h2, fun i x hx => ?_⟩
  have hg := cl_get l i x hx
  rcases h4 with h4 | ⟨b, o, rfl, hb, hc⟩
  · have := hg 0 _ rfl; rw [h4] at this; cases this
  · have c0 := hc _ _ (hg 0 _ rfl)
    have c1 := hc _ _ (hg 1 _ rfl)
    exact ⟨b, o, rfl, hb, block_lt_of_cell c0, c0, c1⟩
set_option maxHeartbeats 1000000 in
theorem names_c (A : Option Addr) (n cap : Nat) (w : World) : Calls Tryz.prog 140 #[.slice A n cap] w fun e w' => ∃ b, e = .returned (.func (.func 194) #[] #[.pointer (some ⟨b, 0, none⟩)]) ∧ Ob w' b 23 [.slice A n cap] ∧ w.heap.size ≤ b ∧ Ext w w' := by
  go_enter Tryz.func140, Tryz.ntmps140
  go_wp2_with fail
  go_returns
  exact ⟨_, rfl, Ob.new w _ [.slice A n cap], Nat.le_refl _, (Ext.refl w).alloc _⟩
set_option maxHeartbeats 4000000 in
set_option maxRecDepth 100000 in
theorem names_seq (l : List Cl) (v : Value) (w0 w : World) (b : Nat) (hC : Cw w0 [] v l) (hX : Ext w0 w) (hb : Ob w b 23 [v]) :
    Seqs Tryz.prog w0.heap.size 194 #[.pointer (some ⟨b, 0, none⟩)] (fun (x : Cl × Nat) vs _ => vs = #[.int .i64 x.2, .string x.1.1]) l.zipIdx w := by
  intro L J Jx W hW hJ hJx hY h0
  obtain ⟨A, cap, rfl, hlc, hlm, hat⟩ := cw_form hC
  unfold maxLen at hlm
  replace hat := hide hat
  have q0 := (hb.ext hW).cell 0 rfl
  have hz0 := hX.size
  have hz1 := hW.size
  replace hW := hide (hX.trans hW)
  have hJ' := hide hJ
  have hY' := hide hY
  clear hJ hY hb hC hX
  refine (callsIn_wide (n := 1)).1 ?_
  refine callsIn_of_wp Tryz.func194 rfl trivial ?_ rfl
  simp only [Tryz.ntmps194, List.size_toArray, List.length_cons, List.length_nil, Nat.reduceAdd, Nat.reduceSub, Array.replicate_succ, Array.replicate_zero, List.push_toArray, List.append_toArray, List.nil_append, List.cons_append]
  gi_wp2
  gi_loopw [7] (fun i wr => ∃ k : Nat, i = .int .i64 k ∧ k ≤ l.length ∧ Hid (J k wr) ∧ Below w0.heap.size W wr) (fun i _ => l.length - (intOf i).toNat)
  case atStart => exact ⟨0, rfl, Nat.zero_le _, h0, Below.refl _ _⟩
  case round =>
    obtain ⟨k, rfl, hk, hJk, hB⟩ := hrel
    by_cases hlt : k < l.length
    · obtain ⟨x, hx⟩ : ∃ x, l[k]? = some x := ⟨_, List.getElem?_eq_getElem hlt⟩
      obtain ⟨b', o', rfl, -, hb', c0, c1⟩ := hat.out k x hx
      have k0 := (hB.cell (p := ⟨b', o' + k * 2, none⟩) hb').trans (cell_later hW.out c0)
      have k1 := (hB.cell (p := ⟨b', o' + k * 2 + 1, none⟩) hb').trans (cell_later hW.out c1)
      have hbr : b' < wr.heap.size := block_lt_of_cell k0
      obtain ⟨xn, xk⟩ := x
      obtain ⟨fn, tmps, assign, body, hy, hR⟩ := hY'.out k ((xn, xk), k) #[.int .i64 k, .string xn] (wr.alloc (.cells #[.string xn, .int .i64 xk] 87)) (by rw [List.getElem?_zipIdx, hx]; simp) (hJ'.out _ _ _ hJk.out ((Ext.refl wr).alloc _)) rfl
      have hzB := hB.size
      replace hR := hide hR
      clear c0 c1 hat hx q0
      gi_wp2
      refine hR.out.mono ?_
      rintro e W3 (⟨rfl, hJ3, hk3⟩ | ⟨rfl, hJx3⟩)
      · replace hJ3 := hide hJ3
        replace hk3 := hide hk3
        gi_wp2
        go_roundw
        case rel => exact ⟨k + 1, by go_num, by omega, hJ3, hB.trans ((Below.alloc (Below.refl _ _) (by omega) _).trans hk3.out)⟩
        case measure => simp [intOf]; omega
      · replace hJx3 := hide hJx3
        gi_wp2
        refine bodyPost_ret (results_none rfl _ _ _) rfl ?_
        exact ⟨⟨_, rfl⟩, .inr ⟨k + 1, by rw [List.length_zipIdx]; omega, hJx3.out⟩⟩
    · have hk' : k = l.length := by omega
      have hge : (l.length : Int) ≤ k := by omega
      have hJe : Hid (J l.zipIdx.length wr) := by show J _ wr; rw [List.length_zipIdx, ← hk']; exact hJk.out
      replace hk' := hide hk'
      clear q0
      gi_wp2
      go_end0
      exact ⟨⟨_, rfl⟩, .inl hJe.out⟩
theorem str_ne {s t : ByteArray} (h : ¬ s = t) : (s.toList == t.toList) = false := by rw [beq_eq_false_iff_ne]; exact fun e => h (toList_iff.1 e)
set_option maxHeartbeats 1000000 in
theorem index1_c (s n : ByteArray) (b : Nat) (w : World) (hb : Ob w b 9 [.string n]) : Calls Tryz.prog 196 #[.string s, .pointer (some ⟨b, 0, none⟩)] w fun e w' => e = .returned (.bool (decide (s = n))) ∧ Ext w w' := by
  have q0 := hb.cell 0 rfl
  clear hb
  by_cases h : s = n
  · subst h
    rw [decide_eq_true rfl]
    go_enter Tryz.func196, Tryz.ntmps196
    go_wp2_with fail
    go_returns
    exact ⟨by first | rfl | simp, Ext.refl w⟩
  · rw [decide_eq_false h]
    have h2 := str_ne h
    clear h
    go_enter Tryz.func196, Tryz.ntmps196
    go_wp2_with fail
    go_returns
    exact ⟨by first | rfl | simp [h2], Ext.refl w⟩
end Go.Proofs.YtajelkkiijdegaaGreat
set_option linter.unusedVariables false
set_option linter.unusedSimpArgs false
namespace Go.Proofs.YtajelkkiijdegaaGreat
open Go.RowKit
attribute [local go_sem] GW.cell GW.frozen In.eq_true In.le_true In.ne In.ne' In.ne_add In.ne_add' In.lt_add Upto.le_true Upto.le_add Upto.lt_add Oper.semAt_some wide_depth wide_fn
set_option maxHeartbeats 4000000 in
set_option maxRecDepth 100000 in
theorem schFirst_c (l : List Cl) (n : ByteArray) (v : Value) (w : World) (hC : Cw w [] v l) (bn : Nat) (hn : Ob w bn 9 [.string n]) : Calls Tryz.prog 195 #[v, .func (.func 196) #[] #[.pointer (some ⟨bn, 0, none⟩)]] w fun e w' => e = .returned (.int .i64 (ixC l n)) ∧ Ext w w' := by
  obtain ⟨A, cap, rfl, hlc, hlm, -⟩ := cw_form hC
  unfold maxLen at hlm
  refine calls_marks Tryz.func195 rfl ?_
  simp only [Tryz.ntmps195, List.size_toArray, List.length_cons, List.length_nil, Nat.reduceAdd, Nat.reduceSub, Array.replicate_succ, Array.replicate_zero, List.push_toArray, List.append_toArray, List.nil_append, List.cons_append]
  obtain ⟨Wb, hWb⟩ : ∃ Wb, Wb = (w.alloc (.cells #[.func (.func 196) #[] #[.pointer (some ⟨bn, 0, none⟩)]] 155)).alloc (.cells #[.int .i64 0] 3) := ⟨_, rfl⟩
  have hX0 : Ext w Wb := by rw [hWb]; exact ((Ext.refl w).alloc _).alloc _
  have ob0 : Ob Wb w.heap.size 155 [.func (.func 196) #[] #[.pointer (some ⟨bn, 0, none⟩)]] := by rw [hWb]; exact (Ob.new w _ [.func (.func 196) #[] #[.pointer (some ⟨bn, 0, none⟩)]]).alloc _
  have ob1 : Ob Wb (w.heap.size + 1) 3 [.int .i64 0] := by rw [hWb]; have := Ob.new (w.alloc (.cells #[.func (.func 196) #[] #[.pointer (some ⟨bn, 0, none⟩)]] 155)) 3 [.int .i64 0]; rwa [World.size_alloc] at this
  have hWs : Wb.heap.size = w.heap.size + 2 := by rw [hWb]; simp
  replace hX0 := hide hX0
  replace hC := hide hC
  go_wp2_with (go_at_call 140; refine (names_c _ _ _ _).mono ?_; rintro ee w1 ⟨b, rfl, hb, hle, hX1⟩)
  rw [← hWb] at hle hX1
  clear hWb
  have hX2 := hide (hX0.out.trans hX1)
  have hz2 := hX2.out.size
  have hz1 := hX1.size
  refine wp_range (xs := l.zipIdx) rfl (enters_of Tryz.func194 (by kernel_rfl) rfl) (names_seq l _ w w1 b hC.out hX2.out hb) (Ext.refl _) hX2.out.size (by rintro x vs W rfl; rfl) (fun x vs => Stab.pure _)
    (fun k W => (Ob W w.heap.size 155 [.func (.func 196) #[] #[.pointer (some ⟨bn, 0, none⟩)]] ∧ Ob W (w.heap.size + 1) 3 [.int .i64 0]) ∧ (Ext w W ∧ ∀ c ∈ l.take k, c.1 ≠ n))
    (fun c k W => (c = .ret ∧ Ob W (w.heap.size + 1) 3 [.int .i64 (ixC l n)]) ∧ Ext w W)
    (fun k => ((Stab.ob _ _ _).and (Stab.ob _ _ _)).and ((Stab.of_ext hz2).and (Stab.pure _)))
    (fun c k => ((Stab.pure _).and (Stab.ob _ _ _)).and (Stab.of_ext hz2))
    ⟨⟨ob0.ext hX1, ob1.ext hX1⟩, hX2.out, by simp⟩
    (fun k x vs a' _ => a' = { tmps := #[.slice A l.length cap, .func (.func 196) #[] #[.pointer (some ⟨bn, 0, none⟩)], undef, .pointer (some ⟨w.heap.size, 0, none⟩), .pointer (some ⟨w.heap.size + 1, 0, none⟩), .int .i64 x.2, .string x.1.1, .slice A l.length cap, .func (.func 194) #[] #[.pointer (some ⟨b, 0, none⟩)], .int .i64 x.2, .string x.1.1, undef, undef, undef, undef], defers := [] })
    (fun k x vs a' => Stab.pure _) ?assign ?body ?done ?stop
  case assign =>
    rintro L k x vs W K _ rfl hK
    gi_wp2
    exact hK _ _ (Ext.refl _) rfl
  case body =>
    rintro L k x vs a' W hx ⟨⟨o0, o1⟩, hXw, hno⟩ rfl rfl
    rw [List.getElem?_zipIdx] at hx
    obtain ⟨c, hc, rfl⟩ : ∃ c, l[k]? = some c ∧ (c, k) = x := by
      cases h : l[k]? with
      | none => rw [h] at hx; cases hx
      | some c => rw [h] at hx; exact ⟨c, rfl, by simpa using hx⟩
    have q0 := o0.cell 0 rfl
    have q1 := o1.cell 0 rfl
    have hfr := o1.free 0
    have hcall := hide (index1_c c.1 n bn W (hn.ext hXw))
    have hzW := hXw.size
    have hat : Hid (c.1 = n → ixC l n = k) := fun e => ixC_at hc e hno
    have hgo : Hid (¬ c.1 = n → ∀ d ∈ l.take (k + 1), d.1 ≠ n) := fun e d hd => by
      rw [List.take_add_one, hc] at hd
      rcases List.mem_append.1 hd with hd | hd
      · exact hno d hd
      · obtain rfl : d = c := by simpa using hd
        exact e
    have hmem : ∀ y ∈ [w.heap.size + 1], ∃ T vs, Ob W y T vs := by intro y hy; simp at hy; subst hy; exact ⟨_, _, o1⟩
    replace hmem := hide hmem
    replace hno := hide hno
    have hltW := o1.lt
    haveI : In (w.heap.size + 1) W := ⟨hltW⟩
    obtain ⟨cn, ck⟩ := c
    by_cases he : cn = n
    · rw [decide_eq_true he] at hcall
      have hk := hide (hat.out he)
      clear hat hgo he hc hx
      gi_wp2_with (gi_at_call 196; (with_reducible refine seq_gi hcall.out ?_); intro g)
      refine ⟨keeps_fr (S := [w.heap.size + 1]) ((Fr.of_ext g.grown).setCell _ _ (.inl (by simp))) hmem.out, ⟨rfl, ?_⟩, (hXw.trans g.grown).setCell (p := ⟨w.heap.size + 1, 0, none⟩) (by simp) _⟩
      rw [hk.out]
      exact (o1.ext g.grown).set 0 _
    · rw [decide_eq_false he] at hcall
      have hk := hide (hgo.out he)
      clear hat hgo he hc hx
      gi_wp2_with (gi_at_call 196; (with_reducible refine seq_gi hcall.out ?_); intro g)
      exact ⟨keeps_ext g.grown, below_fr (S := []) (Fr.of_ext g.grown) hzW (by simp), ⟨o0.ext g.grown, o1.ext g.grown⟩, hXw.trans g.grown, hk.out⟩
  case done =>
    rintro D W hD ⟨⟨o0, o1⟩, hXw, hno⟩ hK
    rw [List.length_zipIdx, List.take_of_length_le (Nat.le_refl _)] at hno
    have hR := hide (ixC_none hno)
    have q1 := o1.cell 0 rfl
    have hfr := o1.free 0
    clear hno
    go_wp2
    have hK2 := (KeepsOthers.setCell W ⟨w.heap.size + 1, 0, none⟩ (.int .i64 (-1))).same D _ hK rfl
    have o2 : Ob (W.setCell ⟨w.heap.size + 1, 0, none⟩ (.int .i64 (-1))) (w.heap.size + 1) 3 [.int .i64 (-1)] := o1.set 0 _
    have q2 := (ob_put (o' := .deferred none) hK2 rfl o2).cell 0 rfl
    refine ret_mark hK2 (v := .int .i64 (-1)) ?_ ⟨by rw [hR.out], put_ext (hXw.setCell (p := ⟨w.heap.size + 1, 0, none⟩) (by simp) _) (by omega) _⟩
    simp [results, Tryz.f195, go_sem, q2]
  case stop =>
    rintro D c k W hD hk ⟨⟨rfl, o1⟩, hXw⟩ hK
    go_wp2
    have q2 := (ob_put (o' := .deferred none) hK rfl o1).cell 0 rfl
    refine ret_mark hK (v := .int .i64 (ixC l n)) ?_ ⟨rfl, put_ext hXw (by omega) _⟩
    simp [results, Tryz.f195, go_sem, q2]
end Go.Proofs.YtajelkkiijdegaaGreat
set_option linter.unusedVariables false
namespace Go.Proofs.YtajelkkiijdegaaGreat
def idxP {α : Type} (p : α → Bool) : Nat → List α → Int
  | _, [] => -1
  | k, x :: r => if p x then idxP p (k + 1) r else k
theorem idxP_yes {α : Type} {p : α → Bool} {k : Nat} {x : α} {r : List α} (h : p x = true) : idxP p k (x :: r) = idxP p (k + 1) r := by
  show (if p x then _ else _) = _
  rw [h]; rfl
theorem idxP_no {α : Type} {p : α → Bool} {k : Nat} {x : α} {r : List α} (h : p x = false) : idxP p k (x :: r) = k := by
  show (if p x then _ else _) = _
  rw [h]; rfl
theorem idxP_ge {α : Type} (p : α → Bool) : ∀ (k : Nat) (l : List α), decide ((0 : Int) ≤ idxP p k l) = !l.all p
  | _, [] => rfl
  | k, x :: r => by
    rw [List.all_cons]
    cases h : p x
    · rw [idxP_no h]; simp
    · rw [idxP_yes h, Bool.true_and]; exact idxP_ge p (k + 1) r
/-- Are two lists of one length, and does a test hold pair by pair? -/
def eqP {α β : Type} (p : α → β → Bool) : List α → List β → Bool
  | [], [] => true
  | x :: a, y :: b => p x y && eqP p a b
  | [], _ :: _ => false
  | _ :: _, [] => false
theorem eqP_yes {α β : Type} {p : α → β → Bool} {x : α} {y : β} {a : List α} {b : List β} (h : p x y = true) : eqP p (x :: a) (y :: b) = eqP p a b := by
  show (p x y && eqP p a b) = _
  rw [h, Bool.true_and]
theorem eqP_no {α β : Type} {p : α → β → Bool} {x : α} {y : β} {a : List α} {b : List β} (h : p x y = false) : eqP p (x :: a) (y :: b) = false := by
  show (p x y && eqP p a b) = _
  rw [h, Bool.false_and]
theorem eqP_len {α β : Type} {p : α → β → Bool} : ∀ {a : List α} {b : List β}, a.length ≠ b.length → eqP p a b = false
  | [], [], h => absurd rfl h
  | [], _ :: _, _ => rfl
  | _ :: _, [], _ => rfl
  | x :: a, y :: b, h => by
    show (p x y && eqP p a b) = _
    rw [eqP_len (a := a) (b := b) (fun e => h (by simp [e])), Bool.and_false]
theorem eqP_dec {α : Type} [DecidableEq α] : ∀ a b : List α, eqP (fun x y => decide (x = y)) a b = decide (a = b)
  | [], [] => rfl
  | [], _ :: _ => by simp [eqP]
  | _ :: _, [] => by simp [eqP]
  | x :: a, y :: b => by
    show (decide (x = y) && eqP _ a b) = _
    rw [eqP_dec a b]
    by_cases h : x = y
    · subst h; simp
    · rw [decide_eq_false h, Bool.false_and, eq_comm, decide_eq_false_iff_not]
      intro e; injection e with e _; exact h e
end Go.Proofs.YtajelkkiijdegaaGreat
