/-
  A helper of ours: no claim of its own. XValA again, of Compare alone, over the worlds of XDrGw.
-/
import Derived.Test.YtoghgjgaolinaaaStepN
import Derived.Lib.SliceRun
import Derived.Test.YtoghgjgaolinaaaStepU
import Derived.Test.YtoghgjgaolinaaaEdgA
set_option linter.unusedVariables false
set_option linter.unusedSimpArgs false
namespace Go.Proofs.Ytoghgjgaolinaaa
open Go.RowKit
attribute [local go_sem] GW.cell GW.frozen In.eq_true In.le_true In.ne In.ne' In.ne_add In.ne_add' In.lt_add Upto.le_true Upto.le_add Upto.lt_add
theorem ps_set (l : List Jp) (i : Nat) (x : Jp) (hi : i < l.length) : ps (l.set i x) = ((ps l).set (i * 2) (.int .i64 x.1)).set (i * 2 + 1) (.int .i64 x.2) := by
  induction l generalizing i with
  | nil => simp at hi
  | cons a r ih =>
    rcases i with _ | i
    · simp [ps]
    · have := ih i (by simpa using hi)
      rw [List.set_cons_succ, show ps (a :: r.set i x) = .int .i64 a.1 :: .int .i64 a.2 :: ps (r.set i x) from rfl, this, show ps (a :: r) = .int .i64 a.1 :: .int .i64 a.2 :: ps r from rfl, show (i + 1) * 2 = i * 2 + 1 + 1 by omega, show i * 2 + 1 + 1 + 1 = i * 2 + 1 + 1 + 1 from rfl]
      rfl
theorem ps_set_last (m : List Jp) (y : Jp) (z : Int) : (ps (m ++ [y])).set (m.length * 2 + 1) (.int .i64 z) = ps (m ++ [(y.1, z)]) := by
  induction m with
  | nil => simp [ps]
  | cons a r ih =>
    rw [List.cons_append, List.cons_append, show ps (a :: (r ++ [y])) = .int .i64 a.1 :: .int .i64 a.2 :: ps (r ++ [y]) from rfl, show ps (a :: (r ++ [(y.1, z)])) = .int .i64 a.1 :: .int .i64 a.2 :: ps (r ++ [(y.1, z)]) from rfl, ← ih, List.length_cons, show (r.length + 1) * 2 + 1 = r.length * 2 + 1 + 1 + 1 by omega]
    rfl
theorem ps_last (m : List Jp) (y : Jp) : (ps (m ++ [y]))[m.length * 2]? = some (.int .i64 y.1) ∧ (ps (m ++ [y]))[m.length * 2 + 1]? = some (.int .i64 y.2) := ps_get _ m.length y (by simp)
theorem own_block {w : World} {B : Nat} {v : Value} {l : List Jp} (h : OwnJ w B v l) (hne : l ≠ []) : ∃ g cap, v = .slice (some ⟨g, 0, none⟩) l.length cap ∧ B ≤ g ∧ g < w.heap.size := by
  have hpos := List.length_pos_iff.2 hne
  rcases h.2 with ⟨_, hz⟩ | ⟨g, cap, cur, rfl, hb, hg, hn, hc, hcs, ht⟩
  · omega
  · exact ⟨g, cap, rfl, hb, lt_of_block hg⟩
end Go.Proofs.Ytoghgjgaolinaaa
set_option linter.unusedVariables false
set_option linter.unusedSimpArgs false
namespace Go.Proofs.Ytoghgjgaolinaaa
open Go.RowKit
attribute [local go_sem] GW.cell GW.frozen In.eq_true In.le_true In.ne In.ne' In.ne_add In.ne_add' In.lt_add Upto.le_true Upto.le_add Upto.lt_add
theorem run_clear_cells {P : Program} (w : World) (t e ty : TypeId) (z : Value) (zs : List Value) (ht : P.underlying t = some (.slice e)) (hv : ∀ w, (zeroValue e).run P w = .ok z w) (b o n c : Nat) (hn : 0 < n) (hz : (Builtin.zeroCells z.cells n).toList = zs) (h1 : ∀ v ∈ zs, v.oneCell' = true)
    (hc : ∀ j, j < zs.length → (w.cell? ⟨b, o + j, none⟩).isSome = true) (hf : ∀ j, j < zs.length → w.frozen? ⟨b, o + j, none⟩ = false) :
    (Builtin.clear_ #[t] ty #[.slice (some ⟨b, o, none⟩) n c]).run P w = .ok (.tuple #[]) (w.setCells b o zs) := by
  have hst := run_storeCells_cells (P := P) b o zs 0 w (by simpa using hc) (by simpa using hf) h1
  simp only [Nat.add_zero] at hst
  obtain ⟨m, rfl⟩ : ∃ m, n = m + 1 := ⟨n - 1, by omega⟩
  simp [Builtin.clear_, run_underlying ht, hv, hz, hst]
theorem own_take {w : World} {B e : Nat} {g n i cap size : Nat} {xs : List Value} (h : w.ownsRow B e size (.slice (some ⟨g, 0, none⟩) n cap) n xs) (hi : i ≤ n) : w.ownsRow B e size (.slice (some ⟨g, 0, none⟩) i cap) i (xs.take (i * size)) := by
  rcases h.2 with ⟨h', _⟩ | ⟨g', cap', cur, h', hb, hg, hnc, hcm, hcs, htake⟩
  · simp at h'
  · simp only [Value.slice.injEq, Option.some.injEq, Addr.mk.injEq, and_true, true_and] at h'
    obtain ⟨rfl, rfl⟩ := h'
    have hm : i * size ≤ n * size := Nat.mul_le_mul_right _ hi
    refine ⟨by rw [List.length_take, h.1, Nat.min_eq_left hm], .inr ⟨g, cap, cur, rfl, hb, hg, by omega, hcm, hcs, ?_⟩⟩
    rw [← htake, List.take_take, Nat.min_eq_left hm]
theorem own_setCells {w0 : World} {B e : Nat} {g i cap size : Nat} {xs : List Value} : ∀ (vs : List Value) (o : Nat) (w : World), w.ownsRow B e size (.slice (some ⟨g, 0, none⟩) i cap) i xs → i * size ≤ o → (w.setCells g o vs).ownsRow B e size (.slice (some ⟨g, 0, none⟩) i cap) i xs
  | [], _, _, h, _ => h
  | v :: r, o, w, h, ho => by
    have h1 := (World.ownsRow.stored h o v).1
    rw [List.set_eq_of_length_le (by rw [h.1]; exact ho)] at h1
    exact own_setCells (w0 := w0) r (o + 1) _ h1 (by omega)
theorem ext_setCells {W : World} {g : Nat} (hg : W.heap.size ≤ g) : ∀ (vs : List Value) (o : Nat) (w : World), Ext W w → Ext W (w.setCells g o vs)
  | [], _, _, h => h
  | v :: r, o, w, h => ext_setCells hg r (o + 1) _ (h.setCell hg v)
def filt (l : List Jp) : List Jp := l.filter fun j => !dropJ j
theorem filt_next {l : List Jp} {k : Nat} {x : Jp} (hx : l[k]? = some x) : filt (l.take (k + 1)) = if dropJ x = true then filt (l.take k) else filt (l.take k) ++ [x] := by
  unfold filt
  rw [take_snoc hx, List.filter_append]
  cases h : dropJ x <;> simp [h]
theorem idx_none : ∀ (l : List Jp) (k : Nat), jidxP dropJ k l = -1 → filt l = l
  | [], _, _ => rfl
  | x :: r, k, h => by
    unfold jidxP at h
    cases hx : dropJ x
    · rw [hx] at h
      have := idx_none r (k + 1) (by simpa using h)
      unfold filt at this ⊢
      rw [List.filter_cons, hx]
      simp only [Bool.not_false, if_true]
      rw [this]
    · rw [hx, if_pos rfl] at h; omega
theorem idx_some : ∀ (l : List Jp) (k : Nat), jidxP dropJ k l ≠ -1 → ∃ i, jidxP dropJ k l = ((k + i : Nat) : Int) ∧ i < l.length ∧ filt (l.take i) = l.take i ∧ ∃ x, l[i]? = some x ∧ dropJ x = true
  | [], _, h => absurd rfl h
  | x :: r, k, h => by
    unfold jidxP at h ⊢
    cases hx : dropJ x
    · rw [hx] at h
      simp only [Bool.false_eq_true, if_false] at h ⊢
      obtain ⟨i, h1, h2, h3, h4⟩ := idx_some r (k + 1) h
      refine ⟨i + 1, by rw [h1]; congr 1; omega, by simp; omega, ?_, by simpa using h4⟩
      rw [List.take_succ_cons]
      unfold filt at h3 ⊢
      rw [List.filter_cons, hx]
      simp only [Bool.not_false, if_true]
      rw [h3]
    · exact ⟨0, by simp, by simp, rfl, x, rfl, hx⟩
end Go.Proofs.Ytoghgjgaolinaaa
set_option linter.unusedVariables false
set_option linter.unusedSimpArgs false
namespace Go.Proofs.Ytoghgjgaolinaaa
open Go.RowKit
attribute [local go_sem] GW.cell GW.frozen In.eq_true In.le_true In.ne In.ne' In.ne_add In.ne_add' In.lt_add Upto.le_true Upto.le_add Upto.lt_add
theorem any_no {l : List Jp} {p : Jp → Bool} (h : l.any p = false) : ∀ j ∈ l, p j = false := by
  intro j hj
  have := List.any_eq_false.1 h j hj
  simpa using this
theorem net_ok {l : List Jp} (h : l.any tooJ = false) : ∀ j ∈ l, -1048576 ≤ j.2 ∧ j.2 ≤ 1048576 := fun j hj => by
  have := any_no h j hj; unfold tooJ at this; rw [decide_eq_false_iff_not] at this; omega
end Go.Proofs.Ytoghgjgaolinaaa
set_option linter.unusedVariables false
set_option linter.unusedSimpArgs false
namespace Go.Proofs.Ytoghgjgaolinaaa
open Go.RowKit
attribute [local go_sem] GW.cell GW.frozen In.eq_true In.le_true In.ne In.ne' In.ne_add In.ne_add' In.lt_add Upto.le_true Upto.le_add Upto.lt_add Oper.semAt_some wide_depth wide_fn
theorem nmOp_len (f : List Jp) : (nmOp f).2.length ≤ 1024 := by
  unfold nmOp nmR
  simp only
  split
  · rename_i h
    unfold nmE at h
    split at h
    · cases h
    · split at h
      · cases h
      · unfold full at h
        split at h
        · rename_i h2; exact mayJ_len h2
        · cases h
  · simp
theorem evE_ok {op : List Jp → Int × List Jp} : ∀ {G : List Gp}, (∀ g ∈ G, (op g.2).1 = 0) → evE op G = 0
  | [], _ => rfl
  | g :: t, h => by rw [evE, if_pos (h g (by simp)), evE_ok fun x hx => h x (by simp [hx])]
theorem evE_bad {op : List Jp → Int × List Jp} : ∀ {G : List Gp} {k : Nat} {x : Gp}, (∀ g ∈ G.take k, (op g.2).1 = 0) → G[k]? = some x → (op x.2).1 ≠ 0 → evE op G = (op x.2).1
  | g :: t, 0, x, _, hx, h => by
    obtain rfl : g = x := by simpa using hx
    rw [evE, if_neg h]
  | g :: t, k + 1, x, hp, hx, h => by
    rw [evE, if_pos (hp g (by simp)), evE_bad (k := k) (fun y hy => hp y (by simp [hy])) (by simpa using hx) h]
theorem each_bad {op : List Jp → Int × List Jp} {G : List Gp} {k : Nat} {x : Gp} (hp : ∀ g ∈ G.take k, (op g.2).1 = 0) (hx : G[k]? = some x) (h : (op x.2).1 ≠ 0) : eachE op G = (op x.2).1 := by
  unfold eachE
  rw [evE_bad hp hx h, if_neg h]
theorem ob_obj {w : World} {base e size n : Nat} {v : Value} {xs : List Value} (h : w.ownsRow base e size v n xs) : ∀ y ∈ ob v, ∃ T vs, Ob w y T vs := by
  intro y hy
  have hy' : v.ownBlock = some y := by simpa [ob] using hy
  rcases h.2 with ⟨rfl, _⟩ | ⟨g, cap, cur, rfl, hb, hg, _⟩
  · cases hy'
  · have : y = g := by simpa [Value.ownBlock] using hy'.symm
    subst this
    exact ⟨e, cur.toList, by unfold Ob; simpa using hg⟩
def ownF (B : Nat) (q : List Vl) (R : List Jp) : Fact := .st (fun u w => ∃ M2, eds M2 = R.map (fun j => (q, j)) ∧ OwnEr w B u M2) (fun _ _ _ h k => by obtain ⟨M2, h1, h2⟩ := h; exact ⟨M2, h1, h2.ext k⟩)
theorem grp_len : ∀ l : List Ed, (grp l).length ≤ l.length
  | [] => Nat.le_refl _
  | e :: r => by
    have ih := grp_len r
    unfold grp
    split
    · simp
    · rename_i q f t h
      rw [h] at ih
      split <;> simp only [List.length_cons] at ih ⊢ <;> omega

end Go.Proofs.Ytoghgjgaolinaaa
namespace Go.Proofs.Ytoghgjgaolinaaa.Dr
open Go.RowKit
/-- What was there is as it was; there may be more; nor is a draw undone. -/
structure Ext (W w : World) : Prop where
  ext : Go.Proofs.Ytoghgjgaolinaaa.Ext W w
  drawn : W.drawn ≤ w.drawn
instance {W w : World} : Coe (Ext W w) (Go.Proofs.Ytoghgjgaolinaaa.Ext W w) := ⟨Ext.ext⟩
theorem Ext.refl (W : World) : Ext W W := ⟨Go.Proofs.Ytoghgjgaolinaaa.Ext.refl W, Nat.le_refl _⟩
theorem Ext.trans {a b c : World} (h : Ext a b) (k : Ext b c) : Ext a c := ⟨h.ext.trans k.ext, Nat.le_trans h.drawn k.drawn⟩
theorem Ext.alloc {W w : World} (h : Ext W w) (o : Obj) : Ext W (w.alloc o) := ⟨h.ext.alloc o, h.drawn⟩
theorem Ext.drew {W w : World} (h : Ext W w) : Ext W w.drew := ⟨h.ext.drew, Nat.le_succ_of_le h.drawn⟩
theorem Ext.drewN {W w : World} (h : Ext W w) (n : Nat) : Ext W (w.drewN n) := ⟨h.ext.drewN n, Nat.le_trans h.drawn (Nat.le_add_right _ _)⟩
theorem Ext.setCell {W w : World} (h : Ext W w) {p : Addr} (hp : W.heap.size ≤ p.block) (u : Value) : Ext W (w.setCell p u) := ⟨h.ext.setCell hp u, by rw [World.drawn_setCell]; exact h.drawn⟩
theorem Ext.size {W w : World} (h : Ext W w) : W.heap.size ≤ w.heap.size := Below.size h.ext
structure GW (W : World) where
  val : World
  grown : Ext W val
instance GW.some (W : World) : Nonempty (GW W) := ⟨⟨W, Ext.refl W⟩⟩
section
variable {W w : World} {n : Nat}
instance In.gw (g : GW W) [h : In n W] : In n g.val := ⟨Nat.lt_of_lt_of_le h.lt (Below.size g.grown.ext)⟩
instance Upto.gw (g : GW W) [h : Upto n W] : Upto n g.val := ⟨Nat.le_trans h.le (Below.size g.grown.ext)⟩
variable (g : GW W)
theorem GW.cell {b o : Nat} [h : In b W] : g.val.cell? ⟨b, o, none⟩ = W.cell? ⟨b, o, none⟩ := Below.cell (p := ⟨b, o, none⟩) g.grown.ext h.lt
theorem GW.frozen {b o : Nat} [h : In b W] : g.val.frozen? ⟨b, o, none⟩ = W.frozen? ⟨b, o, none⟩ := Below.frozen (p := ⟨b, o, none⟩) g.grown.ext h.lt
theorem GW.size : W.heap.size ≤ g.val.heap.size := Below.size g.grown.ext
end
theorem cell_later {w wr : World} (h : Ext w wr) {b o : Nat} {u : Value} (hc : w.cell? ⟨b, o, none⟩ = some u) : wr.cell? ⟨b, o, none⟩ = some u := Go.Proofs.Ytoghgjgaolinaaa.cell_later h.ext hc
/-- A contract under which the world grows, met in a class of grown worlds. -/
theorem quiet_gw {P : Program} {f : FuncId} {args : Array Value} {W : World} {g : GW W} {v : Value} (h : Calls P f args g.val fun e w' => e = .returned v ∧ Ext g.val w') :
    Calls P f args g.val fun e w'' => e = .returned v ∧ ∃ k : GW W, w'' = k.val :=
  h.mono fun _ _ ⟨he, hm⟩ => ⟨he, ⟨_, g.grown.trans hm⟩, rfl⟩
theorem seq_gw {P : Program} {f : FuncId} {args : Array Value} {w : World} {v : Value} {R : Ending → World → Prop} (h : Calls P f args w fun e w' => e = .returned v ∧ Ext w w')
    (hr : ∀ g : GW w, R (.returned v) g.val) : Calls P f args w R :=
  h.mono fun _ w' ⟨he, hm⟩ => by subst he; exact hr ⟨w', hm⟩
theorem seq_gw' {P : Program} {f : FuncId} {args : Array Value} {W : World} {g : GW W} {v : Value} {R : Ending → World → Prop} (h : Calls P f args g.val fun e w' => e = .returned v ∧ Ext g.val w')
    (hr : ∀ k : GW W, R (.returned v) k.val) : Calls P f args g.val R :=
  h.mono fun _ w' ⟨he, hm⟩ => by subst he; exact hr ⟨w', g.grown.trans hm⟩

section
variable {P : Program} {ops : Array Oper} {md : Region.Mode} {C : World → Prop}
/-- A region that draws: its first n operations yield one value each in every grown world; what is behind them comes in the text's order. -/
theorem wp_region_gw_tail {id : Nat} {Q : Exit → Act → World → Prop} {a : Act} {w : World} {l : List Oper} (n : Nat) (hm : P.follows .mixedOrders = true) (hB : Region.lexTailB .any l.toArray n = true)
    (h : wpQuiet P l.toArray (fun w' => ∃ g : GW w, w' = g.val) (fun a' => ∀ g : GW w, wpList P l.toArray Q (l.drop n) a' g.val) (l.take n) a) : (Code.region id l.toArray true).wp P Q a w := by
  simp only [Region.lexTailB, Bool.and_eq_true, decide_eq_true_eq] at hB
  obtain ⟨⟨⟨⟨hsel, hn⟩, hs⟩, hc⟩, hlex⟩ := hB
  have hn' : n < l.length := by simpa using hn
  have htl : (l.take n).length = n := by simp; omega
  have hdl : (l.drop n).length = l.toArray.size - n := by simp
  have inv0 : HeadInv .any l.toArray n (Array.replicate l.toArray.size false) :=
    ⟨by simp, fun j oj _ hl => (by rw [getD_replicate_false] at hl; cases hl), fun t _ ht => getD_in (by simpa using ht) (getD_replicate_false _ _)⟩
  have H := wpAnyG_lex (md := .any) (g := l.toArray.size - n) hsel hs hc hn (l.take n) 0 _ a (fun j hj => by
    have hj' : j < n := by rw [htl] at hj; exact hj
    simp [hj']) (by simpa using htl) inv0 (by rw [htl]; exact hlex) h
  refine wp_region_any hm ?_
  have := wpAny_of_headG (Q' := Q) (g := l.toArray.size - n) (fun listed a' w' hw' hL => by
    obtain ⟨g, rfl⟩ := hw'
    have := wpAny_of_seq (md := .any) (Q' := Q) (l.drop n) n listed a' g.val (fun j => by simp [List.getElem?_drop]) (by rw [hdl]; exact hL.1) (hL.2 g)
    rwa [hdl] at this) _ _ _ { w with drawn := w.drawn + 1 } ⟨⟨_, (Ext.refl w).drew⟩, rfl⟩ H
  rw [htl, show n + (l.toArray.size - n) = l.toArray.size by omega] at this
  exact this

/-- A region that draws, all of whose operations yield one value each in every grown world. -/
theorem wp_region_gw {id : Nat} {Q : Exit → Act → World → Prop} {a : Act} {w : World} {l : List Oper} (hm : P.follows .mixedOrders = true) (hB : Region.lexB .any l.toArray = true)
    (h : wpQuiet P l.toArray (fun w' => ∃ g : GW w, w' = g.val) (fun a' => ∀ g : GW w, Q .normal a' g.val) l a) : (Code.region id l.toArray true).wp P Q a w := by
  refine wp_region_quiet (C := fun w' => ∃ g : GW w, w' = g.val) hm hB ⟨⟨_, (Ext.refl w).drew⟩, rfl⟩ ?_
  have e : (fun a' => ∀ g : GW w, Q .normal a' g.val) = fun a' => ∀ w', (∃ g : GW w, w' = g.val) → Q .normal a' w' := by
    funext a'; exact propext ⟨fun h w' ⟨g, hg⟩ => hg ▸ h g, fun h g => h _ ⟨g, rfl⟩⟩
  rw [e] at h
  simpa using h
end
end Go.Proofs.Ytoghgjgaolinaaa.Dr
set_option linter.unusedVariables false
set_option linter.unusedSimpArgs false
namespace Go.Proofs.Ytoghgjgaolinaaa.Dr
open Go.RowKit
attribute [local go_sem] GW.cell GW.frozen In.eq_true In.le_true In.ne In.ne' In.ne_add In.ne_add' In.lt_add Upto.le_true Upto.le_add Upto.lt_add
set_option maxHeartbeats 1000000 in
theorem inner_num (n : Int) (s : ByteArray) (hs : s.size = 0) (w : World) : Calls Try.prog 145 #[val 1 n s] w fun e w' => e = .returned (.tuple #[.iface 225 (.int .i64 n), .bool true]) ∧ Ext w w' := by
  have he := empty_yes hs
  go_enter Try.func145, Try.ntmps145
  go_wp2_with fail
  go_returns
  exact ⟨rfl, (Ext.refl w).alloc _⟩
set_option maxHeartbeats 1000000 in
theorem inner_text (s : ByteArray) (hs : s.size ≤ 64) (w : World) : Calls Try.prog 145 #[val 2 0 s] w fun e w' => e = .returned (.tuple #[.iface 226 (.string s), .bool true]) ∧ Ext w w' := by
  have hi : (s.size : Int) ≤ 64 := by omega
  go_enter Try.func145, Try.ntmps145
  go_wp2_with fail
  go_returns
  exact ⟨rfl, (Ext.refl w).alloc _⟩
set_option maxHeartbeats 1000000 in
theorem inner_none (k n : Int) (s : ByteArray) (h : (k = 1 ∧ s.size ≠ 0) ∨ (k ≠ 1 ∧ k ≠ 2) ∨ (k = 2 ∧ n ≠ 0) ∨ (k = 2 ∧ n = 0 ∧ 64 < s.size)) (w : World) : Calls Try.prog 145 #[val k n s] w fun e w' => e = .returned (.tuple #[.nilIface, .bool false]) ∧ Ext w w' := by
  rcases h with ⟨rfl, h⟩ | ⟨h1, h2⟩ | ⟨rfl, h⟩ | ⟨rfl, rfl, h⟩
  · have he := empty_no h
    go_enter Try.func145, Try.ntmps145
    go_wp2_with fail
    go_returns
    exact ⟨rfl, (Ext.refl w).alloc _⟩
  · have e1 : (k == 1) = false := by simpa using h1
    have e2 : (k == 2) = false := by simpa using h2
    go_enter Try.func145, Try.ntmps145
    go_wp2_with fail
    go_returns
    exact ⟨rfl, (Ext.refl w).alloc _⟩
  · have e1 : (n == 0) = false := by simpa using h
    go_enter Try.func145, Try.ntmps145
    go_wp2_with fail
    go_returns
    exact ⟨rfl, (Ext.refl w).alloc _⟩
  · have hi : (64 : Int) < (s.size : Int) := by omega
    go_enter Try.func145, Try.ntmps145
    go_wp2_with fail
    go_returns
    exact ⟨rfl, (Ext.refl w).alloc _⟩
set_option maxHeartbeats 1000000 in
theorem may_c (k n : Int) (s : ByteArray) (w : World) : Calls Try.prog 147 #[val k n s] w fun e w' => e = .returned (.bool (mayB k n s)) ∧ Ext w w' := by
  rcases may_cases (k := k) (n := n) (s := s) with ⟨rfl, h⟩ | ⟨rfl, rfl, h⟩ | ⟨hm, h⟩
  · rw [may_num h]
    have hi := hide (fun w => inner_num n s h w)
    clear h
    go_enter Try.func147, Try.ntmps147
    go_wp2_with (go_at_call 145; refine seq_gw (hi.out _) ?_; intro g)
    go_returns
    exact ⟨rfl, ((Ext.refl w).alloc _).trans g.grown⟩
  · rw [may_text h]
    have hi := hide (fun w => inner_text s h w)
    clear h
    go_enter Try.func147, Try.ntmps147
    go_wp2_with (go_at_call 145; refine seq_gw (hi.out _) ?_; intro g)
    go_returns
    exact ⟨rfl, ((Ext.refl w).alloc _).trans g.grown⟩
  · rw [hm]
    have hi := hide (fun w => inner_none k n s h w)
    clear h hm
    go_enter Try.func147, Try.ntmps147
    go_wp2_with (go_at_call 145; refine seq_gw (hi.out _) ?_; intro g)
    go_returns
    exact ⟨rfl, ((Ext.refl w).alloc _).trans g.grown⟩
end Go.Proofs.Ytoghgjgaolinaaa.Dr
