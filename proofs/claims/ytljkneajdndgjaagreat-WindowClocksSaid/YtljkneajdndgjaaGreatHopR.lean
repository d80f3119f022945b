/-
  A helper of ours: no claim of its own. A range over a function, where a round leaves alone what lies below but for some blocks, and later blocks but those of copies; the rows that are told, each with its function, so.
-/
import Derived.Test.YtljkneajdndgjaaGreatMapV
import Derived.Test.YtljkneajdndgjaaGreatRx
import Derived.Test.YtljkneajdndgjaaGreatIdx
import Derived.Sort.LoopGhostIn
import Derived.Test.YtljkneajdndgjaaGreatHopO
import Derived.Test.YtljkneajdndgjaaGreatEdgEn
import Derived.Test.YtljkneajdndgjaaGreatRowS
import Derived.Test.YtljkneajdndgjaaGreatCouK
set_option linter.unusedVariables false
set_option linter.unusedSimpArgs false
namespace Go.Proofs.YtljkneajdndgjaaGreat
open Go.RowKit
attribute [local go_sem] GW.cell GW.frozen In.eq_true In.le_true In.ne In.ne' In.ne_add In.ne_add' In.lt_add Upto.le_true Upto.le_add Upto.lt_add Oper.semAt_some wide_depth wide_fn
section
variable {α : Type} {f : α → Lit × Value} {P : Program} {k : TypeId} {w : World} {b n : Nat} {M : List α} {ops : Array Oper} {rest : List Oper} {o : Oper} {a : Act} {Q : Exit → Act → World → Prop} {F : Fence} {d : Nat}
theorem Mv.isMap (h : Mv w P k f b n M) : ∃ es c, w.heap[b]? = some (.map es c) := by
  obtain ⟨es, ⟨es', c, h, _⟩, _⟩ := h
  exact ⟨es', c, h⟩
theorem Stab.mv {B : Nat} (hb : b < B) : Stab B fun W => Mv W P k f b n M :=
  ⟨fun A C x e => x.kept (ext_by e) (by simp), fun A l o o' x hl _ _ => x.kept (put_grown A l o') (by simp; omega)⟩
end
section
variable {α : Type} {f : α → Lit × Value} {P : Program} {k : TypeId} {w w' : World} {b n r : Nat} {M rest : List α}
theorem Rgv.of_blocks (h : Rgv w P k f b r n M rest) (hb : w'.heap[b]? = w.heap[b]?) (hr : w'.heap[r]? = w.heap[r]?) : Rgv w' P k f b r n M rest := by
  obtain ⟨es, left, cnt, ⟨e2, clock, since, seen, c0, g1, F, hs, hD, g2, rst⟩, h2⟩ := h
  exact ⟨es, left, cnt, ⟨e2, clock, since, seen, c0, hb.trans g1, F, hs, hD, hr.trans g2, rst⟩, h2⟩
theorem Rgv.iter (h : Rgv w P k f b r n M rest) : ∃ o, w.heap[r]? = some o ∧ o.isCells = false := by
  obtain ⟨es, left, cnt, ⟨e2, clock, since, seen, c0, g1, F, hs, hD, g2, rst⟩, h2⟩ := h
  exact ⟨_, g2, rfl⟩
end
theorem next_stab {B r : Nat} {w w' : World} {p : World → Prop} (hp : Stab B p) (h : p w) (hg : w.grownBy w' (some r)) (hs : w'.heap.size = w.heap.size) (hr : B ≤ r) (ho : ∃ o, w.heap[r]? = some o ∧ o.isCells = false) : p w' := by
  obtain ⟨o, ho, hc⟩ := ho
  have hlt := lt_of_block ho
  obtain ⟨A, hA⟩ : ∃ A : World, A = { w with drawn := w'.drawn } := ⟨_, rfl⟩
  have hXA : Ext w A := by rw [hA]; exact ⟨rfl, rfl, rfl, Nat.le_refl _, fun _ _ => rfl⟩
  have hoA : A.heap[r]? = some o := by rw [hA]; exact ho
  have e : w' = A.putObj r (w'.heap[r]'(by omega)) := by
    have hh : w'.heap = w.heap.setIfInBounds r (w'.heap[r]'(by omega)) := by
      apply Array.ext_getElem?
      intro i
      by_cases hi : i = r
      · subst hi
        rw [Array.getElem?_setIfInBounds_self_of_lt hlt, Array.getElem?_eq_getElem]
      · rw [Array.getElem?_setIfInBounds_ne (Ne.symm hi)]
        by_cases hl : i < w.heap.size
        · exact hg.block i hl (by simpa using hi)
        · rw [Array.getElem?_eq_none (by omega), Array.getElem?_eq_none (by omega)]
    have h1 := hg.os
    have h2 := hg.tape
    have h3 := hg.output
    obtain ⟨wh, wt, wd, wo, wu⟩ := w
    obtain ⟨vh, vt, vd, vo, vu⟩ := w'
    simp only at h1 h2 h3 hh
    subst h1; subst h2; subst h3
    rw [hA]
    unfold World.putObj
    simp only
    rw [← hh]
  rw [e]
  exact hp.put A r o _ (hp.ext _ _ h hXA) hr hoA hc
section
variable {P : Program} {w : World}
theorem wplIn_app {F : Fence} {d : Nat} {ops : Array Oper} {rest : List Oper} {o : Oper} {a : Act} {Q : Exit → Act → World → Prop} {t tx e : TypeId} {z : Value} {size bytes base n m : Nat} {v x : Value} {xs news : List Value} (T : ElemT P t e z size bytes)
    (hgd : o.guard = none) (s y : Operand) (ho : o.op = .call { callee := .builtin .append, args := #[s, y], argTypes := #[t, tx] }) (hv : a.eval s = v) (hown : w.ownsRow base e size v n xs) (hx : a.eval y = x) (hs : Src P size tx x m news w)
    (h63 : n + m ≤ maxLen) (hbytes : (n + m) * bytes ≤ 140737488355328) (hbase : base ≤ w.heap.size)
    (h : ∀ v' w', w'.ownsRow base e size v' (n + m) (xs ++ news) → w.grownBy w' v.ownBlock → (v'.ownBlock = v.ownBlock ∨ v'.ownBlock = some w.heap.size) → wpListIn F d P ops Q rest (a.put o.dst v') w') : wpListIn F d P ops Q (o :: rest) a w := by
  refine wpListIn_plain hgd fun K hK => ?_
  obtain ⟨v', w', hr, h2, h3, h4⟩ := run_app (ty := o.type) T hown hs h63 hbytes hbase
  unfold Oper.wpIn
  refine ⟨?_, ?_⟩
  · simp [Oper.about, ho, resolve, Target.leads, Sem.run_pure]
  · rw [Oper.semAt_plain F _ _ (by rw [ho]; intro c hc'; cases hc')]
    unfold execOp
    simp only [ho, resolve, invoke, builtin, Sem.run_bind, Sem.run_pure, Result.andThen_ok, List.map_toArray, List.map_cons, List.map_nil, hv, hx, hr]
    exact hK _ _ (h v' w' h2 h3 h4)
end
section
variable {α : Type} {f : α → Lit × Value} {P : Program} {k : TypeId} {w : World} {b n : Nat} {M : List α} {ops : Array Oper} {rest : List Oper} {o : Oper} {a : Act} {Q : Exit → Act → World → Prop} {F : Fence} {d : Nat}
theorem wplIn_range {t e : TypeId} (hg : o.guard = none) (m : Operand) (hop : o.op = Op.range t m) (hm : a.eval m = .map (some b)) (K : Go.Maps.Keyed P k) (ht : P.underlying t = some (.map k e)) (h : Mv w P k f b n M)
    (hK : ∀ w', Rgv w' P k f b w.heap.size n M M → w.grownBy w' none → w'.heap.size = w.heap.size + 1 → wpListIn F d P ops Q rest (a.put o.dst (.pointer (some ⟨w.heap.size, 0, none⟩))) w') : wpListIn F d P ops Q (o :: rest) a w := by
  refine wpListIn_plain hg fun K' hK' => ?_
  obtain ⟨w', hrun, r1, r2, r3⟩ := h.range K ht
  unfold Oper.wpIn
  refine ⟨?_, ?_⟩
  · simp [Oper.about, hop]
  · rw [Oper.semAt_plain F _ _ (by rw [hop]; intro c hc'; cases hc')]
    simp [execOp, hop, hm, hrun, Result.andThen]
    exact hK' _ _ (hK w' r1 r2 r3)
theorem wplIn_next {r : Nat} {left : List α} (hg : o.guard = none) (it : Operand) (hop : o.op = Op.next it false) (hit : a.eval it = .pointer (some ⟨r, 0, none⟩)) (K : Go.Maps.Keyed P k) (h : Rgv w P k f b r n M left)
    (hDone : left = [] → wpListIn F d P ops Q rest (a.put o.dst (.tuple #[.bool false])) w)
    (hMore : ∀ key q left' w', keyOf P k key = some (f q).1 → q ∈ M → left.Perm (q :: left') → Rgv w' P k f b r n M left' → w.grownBy w' (some r) → w'.heap.size = w.heap.size → (Instr.entry (.pointer (some ⟨r, 0, none⟩))).run P w' = .ok (.tuple #[key, (f q).2]) w' → wpListIn F d P ops Q rest (a.put o.dst (.tuple #[.bool true, key, (f q).2])) w') : wpListIn F d P ops Q (o :: rest) a w := by
  refine wpListIn_plain hg fun K' hK' => ?_
  unfold Oper.wpIn
  refine ⟨?_, ?_⟩
  · simp [Oper.about, hop]
  · rw [Oper.semAt_plain F _ _ (by rw [hop]; intro c hc'; cases hc')]
    rcases h.next K o.type with ⟨h0, hrun⟩ | ⟨key, q, left', w', hkey, hq, hp, hrun, hr, hgr, hsz, hen⟩
    · simp [execOp, hop, hit, hrun, Result.andThen]
      exact hK' _ _ (hDone h0)
    · simp [execOp, hop, hit, hrun, Result.andThen]
      exact hK' _ _ (hMore key q left' w' hkey hq hp hr hgr hsz hen)
end
end Go.Proofs.YtljkneajdndgjaaGreat
set_option linter.unusedVariables false
set_option linter.unusedSimpArgs false
namespace Go.Proofs.YtljkneajdndgjaaGreat
open Go.RowKit
theorem nodup_len {α : Type} [DecidableEq α] : ∀ (l m : List α), l.Nodup → (∀ x ∈ l, x ∈ m) → l.length ≤ m.length
  | [], m, _, _ => Nat.zero_le _
  | x :: l, m, hn, h => by
    obtain ⟨h1, h2⟩ := List.nodup_cons.1 hn
    have hx := h x (by simp)
    have := nodup_len l (m.erase x) h2 fun y hy => (List.mem_erase_of_ne (fun e => h1 (by rw [← e]; exact hy))).2 (h y (by simp [hy]))
    rw [List.length_erase_of_mem hx] at this
    have := List.length_pos_of_mem hx
    rw [List.length_cons]
    omega
theorem hT_asc {h a e : Int} (hh : 1 ≤ h) : (hT h a e).Pairwise (· < ·) := by
  unfold hT
  rw [List.pairwise_map]
  refine List.pairwise_lt_range.imp fun {i j} hij => ?_
  have : (i : Int) * h < (j : Int) * h := Int.mul_lt_mul_of_pos_right (by omega) (by omega)
  omega
/-- What is told rises, and lies behind where one goes on from. -/
theorem ofSt_asc {s hp r : Int} {J : List Jp} {f : Int} (hs : 1 ≤ s) (hh : 1 ≤ hp) (hr : r ≤ 1125899906842624) (hf : 0 ≤ f ∧ f ≤ 1125899906842624) (hJ : ∀ j ∈ J, j.1 < 1125899906842624) : ∀ k, ((ofSt s hp r J f k).2.Pairwise (· < ·) ∧ ∀ t ∈ (ofSt s hp r J f k).2, (f ≤ t ∧ 0 ≤ t ∧ t < 1125899906842624) ∧ t < (ofSt s hp r J f k).1) ∧ f ≤ (ofSt s hp r J f k).1
  | 0 => ⟨⟨List.Pairwise.nil, by intro t ht; cases ht⟩, Int.le_refl _⟩
  | k + 1 => by
    obtain ⟨⟨i1, i2⟩, i3⟩ := ofSt_asc hs hh hr hf hJ k
    have htk := ofSt_tick (s := s) (J := J) hh hr hf k
    cases hj : J[k]? with
    | none => rw [ofSt, hj]; exact ⟨⟨i1, i2⟩, i3⟩
    | some j =>
      by_cases h0 : js (J.take (k + 1)) = 0
      · rw [ofSt_zero hj h0]; exact ⟨⟨i1, i2⟩, i3⟩
      · rw [ofSt_next hj h0]
        simp only
        have hjx := hJ j (List.mem_of_getElem? hj)
        generalize (ofSt s hp r J f k).1 = F at *
        have hlo : ∀ t ∈ ofU s hp r F J k j.1, F ≤ t := fun t ht => by
          have h1 := (hT_in hh ht).1
          unfold hA at h1
          have h2 := hbeg_in (h := hp) (x := if F ≤ j.1 - s + 1 then j.1 - s + 1 else F) hh (by split <;> omega)
          split at h1 <;> split at h2 <;> omega
        have hin : ∀ t ∈ ofU s hp r F J k j.1, 0 ≤ t ∧ t < 1125899906842624 := fun t ht => ofU_in hh hr ht
        have hasc : (ofU s hp r F J k j.1).Pairwise (· < ·) := hT_asc hh
        generalize ofU s hp r F J k j.1 = U at *
        have hlast : ∀ t ∈ U, t < (U.getLast?.map (· + 1)).getD F := fun t ht => by
          cases hl : U.getLast? with
          | none => rw [List.getLast?_eq_none_iff] at hl; rw [hl] at ht; cases ht
          | some z =>
            simp only [Option.map_some, Option.getD_some]
            obtain ⟨V, rfl⟩ := List.getLast?_eq_some_iff.1 hl
            rcases List.mem_append.1 ht with ht | ht
            · have := (List.pairwise_append.1 hasc).2.2 t ht z (by simp); omega
            · obtain rfl := List.mem_singleton.1 ht; omega
        have hge : F ≤ (U.getLast?.map (· + 1)).getD F := by
          cases hl : U.getLast? with
          | none => simp
          | some z => have := hlo z (List.mem_of_getLast? hl); simp only [Option.map_some, Option.getD_some]; omega
        refine ⟨⟨List.pairwise_append.2 ⟨i1, hasc, fun x hx y hy => ?_⟩, fun t ht => ?_⟩, by omega⟩
        · have := (i2 x hx).2; have := hlo y hy; omega
        · rcases List.mem_append.1 ht with ht | ht
          · have := i2 t ht; omega
          · have := hlo t ht; have := hin t ht; have := hlast t ht; omega
theorem ofL_asc {s hp r : Int} {J : List Jp} {f : Int} (hs : 1 ≤ s) (hh : 1 ≤ hp) (hr : r ≤ 1125899906842624) (hf : 0 ≤ f ∧ f ≤ 1125899906842624) (hJ : mayJ J = true) : (ofL s hp r J f).Pairwise (· < ·) ∧ ∀ t ∈ ofL s hp r J f, f ≤ t ∧ 0 ≤ t ∧ t < 1125899906842624 := by
  have := (ofSt_asc (J := J) (f := f) hs hh hr hf (fun j hj => (mayJ_at hJ j hj).2) J.length).1
  exact ⟨this.1, fun t ht => (this.2 t ht).1⟩
theorem asc_nodup {l : List Int} (h : l.Pairwise (· < ·)) : l.Nodup := h.imp fun {a b} hab e => by omega
theorem asc_fresh {l : List Int} (h : l.Pairwise (· < ·)) {m : Nat} {t : Int} (ht : l[m]? = some t) : t ∉ l.take m := by
  intro hm
  obtain ⟨i, hi⟩ := List.getElem?_of_mem hm
  have hil : i < m := by have := (List.getElem?_eq_some_iff.1 hi).1; rw [List.length_take] at this; omega
  rw [List.getElem?_take_of_lt hil] at hi
  obtain ⟨h1, e1⟩ := List.getElem?_eq_some_iff.1 hi
  obtain ⟨h2, e2⟩ := List.getElem?_eq_some_iff.1 ht
  have := (List.pairwise_iff_getElem.1 h) i m h1 h2 hil
  rw [e1, e2] at this
  omega
/-- The rows of a window. -/
def hrows (s hp f r : Int) (G : List Gp) (t : Int) : List Cp := (G.filter fun g => decide (t ∈ ofL s hp r g.2 f)).map fun g => (g.1, copN g.2 t (hend s t))
theorem hrows_next {s hp f r : Int} {G : List Gp} {k : Nat} {g : Gp} (h : G[k]? = some g) (t : Int) : hrows s hp f r (G.take (k + 1)) t = hrows s hp f r (G.take k) t ++ (if t ∈ ofL s hp r g.2 f then [(g.1, copN g.2 t (hend s t))] else []) := by
  unfold hrows
  rw [List.take_add_one, h, List.filter_append, List.map_append]
  congr 1
  by_cases hb : t ∈ ofL s hp r g.2 f
  · rw [if_pos hb, Option.toList_some, List.filter_cons_of_pos (by simpa using hb)]; rfl
  · rw [if_neg hb, Option.toList_some, List.filter_cons_of_neg (by simpa using hb)]; rfl
theorem hrows_len (s hp f r : Int) (G : List Gp) (t : Int) (k : Nat) : (hrows s hp f r (G.take k) t).length ≤ k := by
  unfold hrows
  rw [List.length_map]
  have := List.length_filter_le (fun g : Gp => decide (t ∈ ofL s hp r g.2 f)) (G.take k)
  rw [List.length_take] at this
  omega
/-- Where the windows begin that have rows, each once, in order. -/
def insAll (l : List Int) : List Int := l.foldl ins []
theorem insAll_gen : ∀ (l a : List Int), a.Pairwise (· < ·) → (l.foldl ins a).Pairwise (· < ·) ∧ ∀ x, x ∈ l.foldl ins a ↔ x ∈ a ∨ x ∈ l
  | [], a, h => ⟨h, by simp⟩
  | t :: l, a, h => by
    obtain ⟨h1, h2⟩ := insAll_gen l (ins a t) (ins_asc t h)
    refine ⟨h1, fun x => ?_⟩
    rw [List.foldl_cons, h2 x, ins_mem, List.mem_cons]
    constructor
    · rintro ((h | h) | h)
      · exact .inr (.inl h)
      · exact .inl h
      · exact .inr (.inr h)
    · rintro (h | h | h)
      · exact .inl (.inr h)
      · exact .inl (.inl h)
      · exact .inr h
theorem insAll_asc (l : List Int) : (insAll l).Pairwise (· < ·) := (insAll_gen l [] List.Pairwise.nil).1
theorem insAll_mem (l : List Int) (x : Int) : x ∈ insAll l ↔ x ∈ l := by have := (insAll_gen l [] List.Pairwise.nil).2 x; simpa [insAll] using this
def hkeys (s hp f r : Int) (G : List Gp) : List Int := insAll (G.flatMap fun g => ofL s hp r g.2 f)
theorem hkeys_asc (s hp f r : Int) (G : List Gp) : (hkeys s hp f r G).Pairwise (· < ·) := insAll_asc _
theorem hkeys_mem {s hp f r : Int} {G : List Gp} {t : Int} : t ∈ hkeys s hp f r G ↔ ∃ g ∈ G, t ∈ ofL s hp r g.2 f := by unfold hkeys; rw [insAll_mem, List.mem_flatMap]
theorem hrows_none {s hp f r : Int} {G : List Gp} {t : Int} : hrows s hp f r G t ≠ [] ↔ t ∈ hkeys s hp f r G := by
  rw [hkeys_mem]
  unfold hrows
  constructor
  · intro h
    cases hf : G.filter fun g => decide (t ∈ ofL s hp r g.2 f) with
    | nil => rw [hf] at h; exact absurd rfl h
    | cons g l =>
      have : g ∈ G.filter fun g => decide (t ∈ ofL s hp r g.2 f) := by rw [hf]; simp
      rw [List.mem_filter, decide_eq_true_iff] at this
      exact ⟨g, this.1, this.2⟩
  · rintro ⟨g, hg, ht⟩ h
    have h1 : g ∈ G.filter fun g => decide (t ∈ ofL s hp r g.2 f) := by rw [List.mem_filter, decide_eq_true_iff]; exact ⟨hg, ht⟩
    rw [List.map_eq_nil_iff] at h
    rw [h] at h1
    cases h1
/-- A window's entry: where it begins, the slice of its copies, the copies. -/
abbrev Eh := Int × Value × List Vc
def kentH (p : Eh) : Lit × Value := (.int .i64 p.1, p.2.1)
theorem kh_same (s : Eh) (t : Int) : (kentH s).1.sameKey (.int .i64 t) = decide (s.1 = t) := by
  unfold kentH
  by_cases h : s.1 = t <;> simp [Lit.sameKey, h]
def getH (T : List Eh) (t : Int) : Option Eh := T.find? fun p => decide (p.1 = t)
theorem getM_h (T : List Eh) (t : Int) : getM kentH T (.int .i64 t) = getH T t := by
  unfold getM getH
  congr 1
  funext p
  exact kh_same p t
theorem getH_put (T : List Eh) (x : Eh) (t : Int) : getH (putM kentH T x) t = if x.1 = t then some x else getH T t := by
  unfold putM delM getH
  rw [List.find?_cons]
  by_cases h : x.1 = t
  · simp [h]
  · rw [if_neg h]
    simp only [h, decide_false]
    induction T with
    | nil => rfl
    | cons p T ih =>
      rw [List.filter_cons, show (kentH p).1.sameKey (kentH x).1 = decide (p.1 = x.1) from kh_same p x.1]
      by_cases h2 : p.1 = x.1
      · rw [if_neg (by simp [h2]), List.find?_cons, show decide (p.1 = t) = false by simp; omega]
        exact ih
      · rw [if_pos (by simp [h2]), List.find?_cons, List.find?_cons]
        split
        · rfl
        · exact ih
theorem putH_mem {T : List Eh} {x p : Eh} (h : p ∈ putM kentH T x) : p = x ∨ (p ∈ T ∧ p.1 ≠ x.1) := by
  unfold putM delM at h
  rcases List.mem_cons.1 h with h | h
  · exact .inl h
  · rw [List.mem_filter, show (kentH p).1.sameKey (kentH x).1 = decide (p.1 = x.1) from kh_same p x.1] at h
    exact .inr ⟨h.1, by simpa using h.2⟩
def rowsH (T : List Eh) (t : Int) : List Cp := ((getH T t).map fun p => cps p.2.2).getD []
theorem rowsH_put (T : List Eh) (x : Eh) (t : Int) : rowsH (putM kentH T x) t = if x.1 = t then cps x.2.2 else rowsH T t := by
  unfold rowsH
  rw [getH_put]
  by_cases h : x.1 = t
  · rw [if_pos h, if_pos h]; rfl
  · rw [if_neg h, if_neg h]
/-- A map of windows in memory. -/
def GrpH (W : World) (B mb n : Nat) (T : List Eh) : Prop := Mv W Tryz.prog 3 kentH mb n T ∧ ((∀ p, ∀ (_ : p ∈ T), OwnC W B p.2.1 p.2.2) ∧ ((∀ p ∈ T, p.2.2 ≠ [] ∧ (0 ≤ p.1 ∧ p.1 < 1125899906842624)) ∧ T.Pairwise fun p q => ∀ b ∈ ob p.2.1, b ∉ ob q.2.1))
theorem OwnC.stab {B B0 : Nat} {v : Value} {L : List Vc} : Stab B fun W => OwnC W B0 v L := (Stab.own _ _ _ _ _ _).and (Stab.all fun p => Stab.all fun _ => Stab.own _ _ _ _ _ _)
theorem GrpH.stab {B B0 mb n : Nat} {T : List Eh} (h : mb < B) : Stab B fun W => GrpH W B0 mb n T := (Stab.mv h).and ((Stab.all fun p => Stab.all fun _ => OwnC.stab).and (Stab.pure _))
theorem hKey : Go.Maps.Keyed Tryz.prog 3 := Go.Maps.int_keyed Tryz.underlying3
theorem hkey_of {t : Int} (h : -9223372036854775808 ≤ t ∧ t ≤ 9223372036854775807) : keyOf Tryz.prog 3 (.int .i64 t) = some (.int .i64 t) := Go.Maps.keyOf_int_mk Tryz.underlying3 (by simp [Lit.wf, IntKind.min, IntKind.max, IntKind.bits, IntKind.signed]; omega)
theorem GrpH.nodup {W : World} {B mb n : Nat} {T : List Eh} (h : GrpH W B mb n T) : (T.map Prod.fst).Nodup := by
  unfold List.Nodup
  rw [List.pairwise_map]
  exact (h.1.apart hKey).1.imp fun hne e => hne (by unfold kentH; rw [e])
theorem getH_mem {T : List Eh} {t : Int} {p : Eh} (h : getH T t = some p) : p ∈ T ∧ p.1 = t := by
  unfold getH at h
  exact ⟨List.mem_of_find?_eq_some h, by simpa using List.find?_some h⟩
theorem getH_of {T : List Eh} (hn : (T.map Prod.fst).Nodup) {p : Eh} (hp : p ∈ T) : getH T p.1 = some p := by
  unfold getH
  induction T with
  | nil => cases hp
  | cons q T ih =>
    rw [List.find?_cons]
    rw [List.map_cons, List.nodup_cons] at hn
    rcases List.mem_cons.1 hp with rfl | hp
    · simp
    · have : q.1 ≠ p.1 := fun e => hn.1 (by rw [e]; exact List.mem_map.2 ⟨p, hp, rfl⟩)
      rw [show decide (q.1 = p.1) = false by simpa using this]
      exact ih hn.2 hp
/-- The keys are where rows are told. -/
theorem keys_of {T : List Eh} (hn : (T.map Prod.fst).Nodup) (he : ∀ p ∈ T, p.2.2 ≠ []) (t : Int) : t ∈ T.map Prod.fst ↔ rowsH T t ≠ [] := by
  constructor
  · intro h
    obtain ⟨p, hp, rfl⟩ := List.mem_map.1 h
    unfold rowsH
    rw [getH_of hn hp]
    simpa using he p hp
  · intro h
    unfold rowsH at h
    cases hg : getH T t with
    | none => rw [hg] at h; exact absurd rfl h
    | some p => obtain ⟨h1, h2⟩ := getH_mem hg; exact List.mem_map.2 ⟨p, h1, h2⟩
end Go.Proofs.YtljkneajdndgjaaGreat
set_option linter.unusedVariables false
set_option linter.unusedSimpArgs false
namespace Go.Proofs.YtljkneajdndgjaaGreat
open Go.RowKit
def SeqsQ {β : Type} (P : Program) (n₀ : Nat) (X : List Nat) (g : Nat) (lb : Array Value) (H : β → Array Value → World → Prop) (xs : List β) (w : World) : Prop :=
  ∀ (l : Nat) (J Jx : Nat → World → Prop) (W : World), Ext w W → (∀ k, Stab W.heap.size (J k)) → (∀ k, Stab W.heap.size (Jx k)) →
    (∀ k x vs W1, xs[k]? = some x → J k W1 → H x vs W1 → YieldAt Fence.wide 0 P l vs W1 fun e W' =>
      (e = .returned (.bool true) ∧ J (k + 1) W' ∧ BelX n₀ X W1 W' ∧ KeepsFrom W.heap.size W1 W' ∧ Qk W.heap.size W1 W') ∨ (e = .returned (.bool false) ∧ Jx (k + 1) W' ∧ KeepsFrom W.heap.size W1 W')) →
    J 0 W → Calls P g (#[.func (.yield l) #[] #[]] ++ lb) W fun e W' => (∃ v, e = .returned v) ∧ (J xs.length W' ∨ ∃ k, k ≤ xs.length ∧ Jx k W')
/-- How the body of a round may be left. -/
def rfPostQ (B n₀ : Nat) (X : List Nat) (I : Nat → World → Prop) (Ix : Code → Nat → World → Prop) (k : Nat) (W : World) : Exit → Act → World → Prop
  | .normal, _, W' => KeepsFrom B W W' ∧ BelX n₀ X W W' ∧ I k W' ∧ Qk B W W'
  | .ret, _, W' => KeepsFrom B W W' ∧ Ix .ret k W'
  | .exit id, _, W' => KeepsFrom B W W' ∧ Ix (.exit id) k W'
  | .goto t, _, W' => KeepsFrom B W W' ∧ Ix (.goto t) k W'
  | .panic _, _, _ => False
  | .outgrown, _, _ => False
section
variable {β : Type} {P : Program} {g : Operand} {ps : Array Tmp} {assign body : Code} {Q : Exit → Act → World → Prop} {a : Act} {w w0 : World} {gf n₀ : Nat} {X : List Nat} {lb : Array Value} {H : β → Array Value → World → Prop} {xs : List β}
/-- The statement 'for .. := range g { .. }'. -/
theorem wp_rangeQ (hg : a.eval g = .func (.func gf) #[] lb) (eg : ∀ args w, (callFunc gf args).run P w = .ok (.enter gf args) w)
    (hseq : SeqsQ P n₀ X gf lb H xs w0) (hb0 : Ext w0 w) (hn : n₀ ≤ w.heap.size) (hps : ∀ x vs W, H x vs W → vs.size = ps.size) (hH : ∀ x vs, Stab w.heap.size (H x vs))
    (I : Nat → World → Prop) (Ix : Code → Nat → World → Prop) (hI : ∀ k, Stab w.heap.size (I k)) (hIx : ∀ c k, Stab w.heap.size (Ix c k)) (h0 : I 0 w)
    (Ax : Nat → β → Array Value → Act → World → Prop) (hAx : ∀ k x vs a', Stab w.heap.size (Ax k x vs a'))
    (hassign : ∀ (l k : Nat) (x : β) (vs : Array Value) (W : World) (K : Act → World → Prop), I k W → H x vs W → (∀ a' W', Ext W W' → Ax k x vs a' W' → K a' W') →
      assign.wpIn (Fence.wide.inRound l) 0 P (Exit.then K fun _ _ _ => False) { tmps := (ps.zip vs).foldl (fun t (p, v) => t.setIfInBounds p v) a.tmps, defers := [] } W)
    (hbody : ∀ (l k : Nat) (x : β) (vs : Array Value) (a' : Act) (W : World), w.heap.size ≤ l → (∃ r, W.heap[l]? = some (.loop r)) → xs[k]? = some x → I k W → H x vs W → Ax k x vs a' W →
      body.wpIn (Fence.wide.inRound l) 0 P (rfPostQ w.heap.size n₀ X I Ix (k + 1) W) a' W)
    (hdone : ∀ (D : Nat) (W : World), w.heap.size ≤ D → I xs.length W → W.heap[D]? = some (.deferred (some [])) → Q .normal { a with defers := { target := .collected D, args := #[] } :: a.defers } W)
    (hstop : ∀ (D : Nat) (c : Code) (k : Nat) (W : World), w.heap.size ≤ D → k ≤ xs.length → Ix c k W → W.heap[D]? = some (.deferred (some [])) → c.wp P Q { a with defers := { target := .collected D, args := #[] } :: a.defers } W) :
    (Code.rangeFunc g ps assign body).wp P Q a w := by
  refine (wpIn_wide (n := 0)).1 (wpIn_rangeFunc fun fn _ => ?_)
  obtain ⟨B, hBe⟩ : ∃ B, B = w.heap.size := ⟨_, rfl⟩
  rw [← hBe] at hn hH hI hIx hAx hbody hdone hstop
  -- the loop's record
  let rc : LoopState → Option Code → Loop := fun st pe => { state := st, pending := pe, fn, tmps := a.tmps, params := ps, assign, body, defers := B }
  have hW1 : ∃ W1, W1 = (w.alloc (.deferred (some []))).alloc (.loop (rc .ready none)) := ⟨_, rfl⟩
  obtain ⟨W1, hW1⟩ := hW1
  have hXW : Ext w W1 := by rw [hW1]; exact ((Ext.refl w).alloc _).alloc _
  have hlp : W1.heap[B + 1]? = some (.loop (rc .ready none)) := by
    have := World.alloc_heap_new (w.alloc (.deferred (some []))) (.loop (rc .ready none))
    rw [World.size_alloc, ← hBe, ← hW1] at this; exact this
  have hdf : W1.heap[B]? = some (.deferred (some [])) := by
    have h1 := World.alloc_heap_new w (.deferred (some []))
    rw [← hBe] at h1
    rw [hW1]
    exact (Below.heap_alloc _ _ _ (lt_of_block h1)).trans h1
  refine ⟨B + 1, [{ target := .collected B, args := #[] }], W1, { target := .fn (.func gf) lb, args := #[.func (.yield (B + 1)) #[] #[]] }, W1, gf, #[.func (.yield (B + 1)) #[] #[]] ++ lb, W1, ?_, ?_, fun _ _ => trivial, ?_, fun h => by simp [Fence.wide] at h, callsIn_wide.2 ?_⟩
  · have h1 := run_enterLoop_outer (P := P) (w := w) fn a.tmps ps assign body
    rw [← hBe] at h1
    rw [hW1]
    exact h1
  · simp only [resolve, hg]
    simp [go_sem]
  · simp [invoke, go_sem, eg]
  have keep : ∀ {A C : World} {k : Nat} {o : Obj}, A.heap[k]? = some o → Ext A C → C.heap[k]? = some o := fun h e => (e.block _ (lt_of_block h)).trans h
  have hWs : W1.heap.size = B + 2 := by rw [hW1]; simp; omega
  have blk : ∀ {A : World} {l k : Nat} {o o' p : Obj}, W1.heap.size ≤ l → A.heap[k]? = some p → k < B + 2 → (A.putObj l o').heap[k]? = some p := fun hl hk hlt => (World.putObj_heap_other (by omega)).trans hk
  refine (hseq (B + 1) (fun k W => I k W ∧ W.heap[B + 1]? = some (.loop (rc .ready none)) ∧ W.heap[B]? = some (.deferred (some [])))
    (fun k W => ∃ c, Ix c k W ∧ W.heap[B + 1]? = some (.loop (rc .done (some c))) ∧ W.heap[B]? = some (.deferred (some []))) W1 (hb0.trans hXW)
    (fun k => ⟨fun A C h e => ⟨(hI k).ext A C h.1 e, keep h.2.1 e, keep h.2.2 e⟩, fun A l o o' h hl ho hc => ⟨(hI k).put A l o o' h.1 (by omega) ho hc, blk (o := o) hl h.2.1 (by omega), blk (o := o) hl h.2.2 (by omega)⟩⟩)
    (fun k => ⟨fun A C ⟨c, h1, h2, h3⟩ e => ⟨c, (hIx c k).ext A C h1 e, keep h2 e, keep h3 e⟩, fun A l o o' ⟨c, h1, h2, h3⟩ hl ho hc => ⟨c, (hIx c k).put A l o o' h1 (by omega) ho hc, blk (o := o) hl h2 (by omega), blk (o := o) hl h3 (by omega)⟩⟩)
    ?_ ⟨(hI 0).ext _ _ h0 hXW, hlp, hdf⟩).mono ?_
  · -- a round
    rintro k x vs W hx ⟨hi, hl, hd⟩ hh
    refine ⟨fn, _, assign, body, run_yield hl (hps x vs W hh), roundIn_of_wpIn trivial (hassign _ k x vs W _ hi hh fun a' Wa hXa hax => ?_)⟩
    have hl1 := keep hl hXa
    have hd1 := keep hd hXa
    have hlt := lt_of_block hl1
    refine ⟨_, run_beginRound hl1 rfl, ?_⟩
    obtain ⟨Wb, hWb⟩ : ∃ Wb, Wb = Wa.putObj (B + 1) (.loop { rc .ready none with state := .busy }) := ⟨_, rfl⟩
    have hl2 : Wb.heap[B + 1]? = some (.loop { rc .ready none with state := .busy }) := by rw [hWb]; exact World.putObj_heap_same hlt
    have hd2 : Wb.heap[B]? = some (.deferred (some [])) := by rw [hWb]; exact (World.putObj_heap_other (by omega)).trans hd1
    have lift : ∀ {p : World → Prop}, Stab B p → p Wa → p Wb := fun hp h => by rw [hWb]; exact hp.put _ _ _ _ h (by omega) hl1 rfl
    have hBw : BelX n₀ X W Wb := by
      have h1 : BelX n₀ X W Wa := belX_fr (S := []) (Fr.of_ext hXa) (by have := lt_of_block hl; omega) (by simp)
      rw [hWb]
      exact h1.trans (BelX.of (belowK_b (w := w) (by omega) _ _ _ _ (by omega) hl1 rfl rfl))
    have hKw : KeepsFrom W1.heap.size W Wb := by
      rw [hWb]
      exact keepsF_trans (keeps_ext hXa) (keepsF_put (by omega) _)
    have hFw : Qk B W Wb := by
      rw [hWb]
      exact (Qk.of_ext hXa).trans (Qk.put hl1 rfl)
    rw [← hWb]
    refine wpIn_mono (hbody _ k x vs a' Wb (by omega) ⟨_, hl2⟩ hx (lift (hI k) ((hI k).ext _ _ hi hXa)) (lift (hH x vs) ((hH x vs).ext _ _ hh hXa)) (lift (hAx k x vs a') hax)) ?_
    have fin : ∀ (jump : Option Code) (W3 : World), KeepsFrom B Wb W3 → ∃ W4, (Instr.endRound (B + 1) jump).run P W3 = .ok (.bool jump.isNone) W4 ∧
        (∀ p : World → Prop, Stab B p → p W3 → p W4) ∧ W4.heap[B + 1]? = some (.loop (rc (if jump.isNone then .ready else .done) jump)) ∧ W4.heap[B]? = some (.deferred (some [])) ∧ BelX n₀ X W3 W4 ∧ KeepsFrom W1.heap.size W3 W4 ∧ Qk B W3 W4 := by
      intro jump W3 hk
      have hl3 := hk.same _ _ (by omega) hl2 rfl
      have hd3 := hk.same _ _ (Nat.le_refl _) hd2 rfl
      exact ⟨_, run_endRound jump hl3, fun p hp h => hp.put _ _ _ _ h (by omega) hl3 rfl, World.putObj_heap_same (lt_of_block hl3), (World.putObj_heap_other (by omega)).trans hd3, BelX.of (belowK_b (w := w) (by omega) _ _ _ _ (by omega) hl3 rfl rfl), keepsF_put (by omega) _, Qk.put hl3 rfl⟩
    rintro e a3 W3 hp
    cases e with
    | normal =>
      obtain ⟨hk3, hb3, hi3, hf3⟩ := hp
      obtain ⟨W4, hr, hs, h4, h5, h6, h7, h8⟩ := fin none W3 hk3
      exact ⟨_, W4, hr, .inl ⟨rfl, ⟨hs _ (hI _) hi3, h4, h5⟩, (hBw.trans hb3).trans h6, keepsF_trans (keepsF_trans hKw (keepsF_mono hk3 (by omega))) h7, ((hFw.trans hf3).trans h8).mono (by omega)⟩⟩
    | ret =>
      obtain ⟨hk3, hi3⟩ := hp
      obtain ⟨W4, hr, hs, h4, h5, -, h7, -⟩ := fin (some .ret) W3 hk3
      exact ⟨_, W4, hr, .inr ⟨rfl, ⟨.ret, hs _ (hIx _ _) hi3, h4, h5⟩, keepsF_trans (keepsF_trans hKw (keepsF_mono hk3 (by omega))) h7⟩⟩
    | exit id =>
      obtain ⟨hk3, hi3⟩ := hp
      obtain ⟨W4, hr, hs, h4, h5, -, h7, -⟩ := fin (some (.exit id)) W3 hk3
      exact ⟨_, W4, hr, .inr ⟨rfl, ⟨.exit id, hs _ (hIx _ _) hi3, h4, h5⟩, keepsF_trans (keepsF_trans hKw (keepsF_mono hk3 (by omega))) h7⟩⟩
    | goto t =>
      obtain ⟨hk3, hi3⟩ := hp
      obtain ⟨W4, hr, hs, h4, h5, -, h7, -⟩ := fin (some (.goto t)) W3 hk3
      exact ⟨_, W4, hr, .inr ⟨rfl, ⟨.goto t, hs _ (hIx _ _) hi3, h4, h5⟩, keepsF_trans (keepsF_trans hKw (keepsF_mono hk3 (by omega))) h7⟩⟩
    | panic ch => exact hp.elim
    | outgrown => exact hp.elim
  · -- behind it
    rintro e W2 ⟨⟨v, rfl⟩, ⟨hi, hl, hd⟩ | ⟨k, hk, c, hi, hl, hd⟩⟩
    · exact ⟨none, _, run_endLoop hl (by intro h; cases h), hdone B _ (Nat.le_refl _) ((hI _).put _ _ _ _ hi (by omega) hl rfl) ((World.putObj_heap_other (by omega)).trans hd)⟩
    · exact ⟨some c, _, run_endLoop hl (by intro h; cases h), wpIn_wide.2 (hstop B c k _ (Nat.le_refl _) hk ((hIx c k).put _ _ _ _ hi (by omega) hl rfl) ((World.putObj_heap_other (by omega)).trans hd))⟩
end

attribute [local go_sem] GW.cell GW.frozen In.eq_true In.le_true In.ne In.ne' In.ne_add In.ne_add' In.lt_add Upto.le_true Upto.le_add Upto.lt_add Oper.semAt_some wide_depth wide_fn
/-- What a round's yield leaves: told in one way. -/
def RoundBQ (X : List Nat) (n₀ B : Nat) (J Jx : Nat → World → Prop) (k : Nat) (W1 : World) (bv : Bool) (W' : World) : Prop :=
  (bv = true → J (k + 1) W' ∧ BelX n₀ X W1 W' ∧ KeepsFrom B W1 W' ∧ Qk B W1 W') ∧ (bv = false → Jx (k + 1) W' ∧ KeepsFrom B W1 W')
set_option maxHeartbeats 8000000 in
set_option maxRecDepth 100000 in
theorem groups_seqq (X : List Nat) (L : List Ve) (v : Value) (w0 w : World) (b : Nat) (hC : Ew w0 X v L) (hz : L.length ≤ 1000000000) (hG : ∀ g ∈ grp (eds L), g.1.length ≤ 1000000) (hX : Ext w0 w) (hb : Ob w b 25 [v]) :
    SeqsQ Tryz.prog w0.heap.size X 146 #[.pointer (some ⟨b, 0, none⟩)] Hgg (grp (eds L)) w := by
  intro l J Jx W hW hJ hJx hY h0
  obtain ⟨A, cap, rfl, -, -, -⟩ := ew_form hC
  have q0 := (hb.ext hW).cell 0 rfl
  have hlb := (hb.ext hW).lt
  have hz0 := hX.size
  have hz1 := hW.size
  have hW2 := hide (hX.trans hW)
  have a2 : Ob (W.alloc (.cells #[.func (.yield l) #[] #[]] 162)) W.heap.size 162 [.func (.yield l) #[] #[]] := Ob.new W _ [.func (.yield l) #[] #[]]
  have j2 := (hJ 0).ext _ _ h0 ((Ext.refl W).alloc (.cells #[.func (.yield l) #[] #[]] 162))
  have hJ' := hide hJ
  have hJx' := hide hJx
  have hY' := hide hY
  replace hC := hide hC
  replace hG := hide hG
  haveI : In b W := ⟨hlb⟩
  clear hJ hJx hY hb hX hW h0
  refine calls_marks Tryz.func146 rfl ?_
  simp only [Tryz.ntmps146, List.size_toArray, List.length_cons, List.length_nil, Nat.reduceAdd, Nat.reduceSub, Array.replicate_succ, Array.replicate_zero, List.push_toArray, List.append_toArray, List.nil_append, List.cons_append]
  go_wp2_with (go_at_call 98; refine (functions_c _ _ _ _).mono ?_; rintro ee w1 ⟨b2, rfl, hb2, hle, hX1⟩)
  have hX2 := hide (((Ext.refl W).alloc (.cells #[.func (.yield l) #[] #[]] 162)).trans hX1)
  have p2 := a2.ext hX1
  have hz2 := hX2.out.size
  have j3 := (hJ'.out 0).ext _ _ j2 hX1
  clear a2 j2 hle hX1
  obtain ⟨bb, hbb⟩ : ∃ bb, W.heap.size = bb := ⟨_, rfl⟩
  rw [hbb] at p2
  have hbN : W.heap.size ≤ bb := by omega
  refine wp_rangeX (xs := grp (eds L)) rfl (enters_of Tryz.func141 (by kernel_rfl) rfl) (functions_seqx X L _ w0 w1 b2 hC.out hz (hW2.out.trans hX2.out) hb2) (Ext.refl _) (by omega) (fun x vs W h => h.size) (fun x vs => Hgo.stab x vs)
    (fun k Wx => J k Wx ∧ Ob Wx bb 162 [.func (.yield l) #[] #[]])
    (fun c k Wx => c = .ret ∧ Jx k Wx)
    (fun k => ((hJ'.out k).mono hz2).and (Stab.ob _ _ _))
    (fun c k => (Stab.pure _).and ((hJx'.out k).mono hz2))
    ⟨j3, p2⟩
    (fun k x vs a' _ => ∃ r f, vs = #[r, f] ∧ a' = { tmps := #[.func (.yield l) #[] #[], .pointer (some ⟨b, 0, none⟩), .pointer (some ⟨bb, 0, none⟩), r, f, .slice A L.length cap, .func (.func 141) #[] #[.pointer (some ⟨b2, 0, none⟩)], r, f, undef, undef, undef, undef, undef, undef], defers := [] })
    (fun k x vs a' => Stab.pure _) ?assign ?body ?done ?stop
  case assign =>
    rintro LL k x vs W K _ ⟨r, f, rfl, -, -⟩ hK
    gi_wp2
    exact hK _ _ (Ext.refl _) ⟨r, f, rfl, by rw [← hbb]⟩
  case body =>
    rintro LL k x vs a' W1 hx ⟨hJk, o2⟩ ⟨r', f', e', hr, hf⟩ ⟨r, f, rfl, rfl⟩
    obtain ⟨rfl, rfl⟩ : r = r' ∧ f = f' := by simpa using e'
    obtain ⟨q, Jq⟩ := x
    have k2 := o2.cell 0 rfl
    have hlt2 := o2.lt
    have hq8 := hG.out (q, Jq) (List.mem_of_getElem? hx)
    simp only at hq8
    have hmx : Tryz.prog.follows .mixedOrders = true := by kernel_rfl
    have hXd : Ext W1 W1.drew := (Ext.refl W1).drew
    have hcp := hide (rowCopy_c q r W1.drew (Sl.ext hr hXd) (by omega))
    have hone := hide (fun (w2 : World) (v2 : Value) (hX : Ext W1 w2) (h2 : OwnR w2 0 v2 q) => by
      obtain ⟨fn, tm, asg, bdy, hy, hR⟩ := yield_in (l := LL) (hY'.out k (q, Jq) #[v2, f] w2 hx ((hJ'.out k).ext _ _ hJk hX) ⟨v2, f, rfl, h2, own_ext hf hX⟩)
      have hR1 : RoundIn (Fence.wide.inRound LL) 0 Tryz.prog l fn tm asg bdy w2 fun e W' => ∃ bv, e = .returned (.bool bv) ∧ RoundBQ X w0.heap.size W.heap.size J Jx k w2 bv W' := hR.mono fun e W' h => by
        rcases h with ⟨rfl, h⟩ | ⟨rfl, h⟩
        · exact ⟨true, rfl, fun _ => h, fun e => by cases e⟩
        · exact ⟨false, rfl, (fun e => by cases e), fun _ => h⟩
      exact (⟨fn, tm, asg, bdy, hy, hR1⟩ : ∃ fn tm asg bdy, (Instr.yield l #[v2, f]).run Tryz.prog w2 = .ok (.round l fn tm asg bdy) w2 ∧ RoundIn (Fence.wide.inRound LL) 0 Tryz.prog l fn tm asg bdy w2 fun e W' => ∃ bv, e = .returned (.bool bv) ∧ RoundBQ X w0.heap.size W.heap.size J Jx k w2 bv W'))
    obtain ⟨RA, rcap, rfl⟩ := rw_val hr
    obtain ⟨JA, jcap, rfl⟩ := own_form hf
    haveI : In bb W1 := ⟨hlt2⟩
    have hz1b : W.heap.size ≤ w1.heap.size := hz2
    have hzn : w0.heap.size ≤ W1.heap.size := by have := o2.lt; omega
    have hJk' := hide hJk
    have o2' := hide o2
    clear hr hf hx hJk o2
    gi_wp2
    gi_region_with_o (first | (gi_at_call 112; refine (in_round hcp.out).mono ?_; rintro ee w2 ⟨v2, rfl, ho2, hx2⟩; have hXw := hXd.trans hx2; have k3 := (o2'.out.ext hXw).cell 0 rfl; obtain ⟨C2, c2, q2⟩ := own_form ho2; subst q2; obtain ⟨fn, tm, asg, bdy, hy, hR⟩ := hone.out w2 _ hXw (own_base ho2 (Nat.zero_le _)); replace hR := hide hR) | ((with_reducible refine RoundIn.mono hR.out ?_); rintro ee W3 ⟨bv, rfl, hP⟩))
    all_goals
      cases bv
      · obtain ⟨hj, hk3⟩ := hP.2 rfl
        replace hP := hide hP
        gi_wp2
        exact ⟨keepsF_trans (keeps_ext hXw) (keepsF_mono hk3 hz1b), rfl, hj⟩
      · obtain ⟨hj, hb3, hk3, hf3⟩ := hP.1 rfl
        have hfo := hf3 bb _ _ hbN (by decide) (o2'.out.ext hXw)
        replace hP := hide hP
        gi_wp2
        exact ⟨keepsF_trans (keeps_ext hXw) (keepsF_mono hk3 hz1b), (belX_fr (S := []) (Fr.of_ext hXw) hzn (by simp)).trans hb3, hj, hfo⟩
  case done =>
    rintro D Wd hD ⟨hJn, -⟩ hK
    go_wp2
    refine ret_mark hK (results_none rfl _ _ _) ⟨⟨_, rfl⟩, .inl ((hJ'.out _).put _ _ _ _ hJn (by omega) hK rfl)⟩
  case stop =>
    rintro D c k Wd hD hk ⟨rfl, hj⟩ hK
    go_wp2
    refine ret_mark hK (results_none rfl _ _ _) ⟨⟨_, rfl⟩, .inr ⟨k, hk, (hJx'.out _).put _ _ _ _ hj (by omega) hK rfl⟩⟩
end Go.Proofs.YtljkneajdndgjaaGreat
