/-
  A helper of ours: no claim of its own. Layer 11 (pack): Spans, by the document.
-/
import Derived.Test.YtgniebjigphcgaaGreatStepU
import Derived.Test.YtgniebjigphcgaaGreatMem
import Derived.Test.YtgniebjigphcgaaGreatStepZ
import Derived.Test.YtgniebjigphcgaaGreatReg3
import Derived.Test.YtgniebjigphcgaaGreatEdgF
import Derived.Test.YtgniebjigphcgaaGreatStepE
set_option linter.unusedVariables false
set_option linter.unusedSimpArgs false
namespace Go.Proofs.YtgniebjigphcgaaGreat
open Go.RowKit
/-- A lifetime. -/
abbrev Sp := Int × Int
def begL (f : List Jp) : List Int := f.flatMap fun j => List.replicate j.2.toNat j.1
def endL (f : List Jp) : List Int := f.flatMap fun j => List.replicate (-j.2).toNat j.1
theorem begL_snoc (f : List Jp) (j : Jp) : begL (f ++ [j]) = begL f ++ List.replicate j.2.toNat j.1 := by simp [begL]
theorem endL_snoc (f : List Jp) (j : Jp) : endL (f ++ [j]) = endL f ++ List.replicate (-j.2).toNat j.1 := by simp [endL]
/-- How many begin. -/
def cntJ (f : List Jp) : Int := (begL f).length
theorem cntJ_snoc (f : List Jp) (j : Jp) : cntJ (f ++ [j]) = cntJ f + max j.2 0 := by
  unfold cntJ
  rw [begL_snoc, List.length_append, List.length_replicate]
  omega
theorem cntJ_le {f : List Jp} (h : ∀ j ∈ f, j.2 ≤ 1048576) : cntJ f ≤ 1048576 * f.length := by
  induction f with
  | nil => simp [cntJ, begL]
  | cons a r ih =>
    have h1 := ih fun j hj => h j (by simp [hj])
    have h2 := h a (by simp)
    unfold cntJ at h1 ⊢
    unfold begL at h1 ⊢
    rw [List.flatMap_cons, List.length_append, List.length_replicate, List.length_cons]
    omega
theorem len_js (f : List Jp) : ((begL f).length : Int) - (endL f).length = js f := by
  induction f with
  | nil => simp [begL, endL, js]
  | cons a r ih =>
    unfold begL endL at ih ⊢
    rw [List.flatMap_cons, List.flatMap_cons, List.length_append, List.length_append, List.length_replicate, List.length_replicate, js]
    omega
/-- The least value is met nowhere by less. -/
theorem leF_le (f : List Jp) : ∀ (g : List Jp) (m : Int), leF f m g ≤ m ∧ ∀ j ∈ g, leF f m g ≤ jv f j.1
  | [], m => ⟨Int.le_refl _, by simp⟩
  | a :: g, m => by
    obtain ⟨h1, h2⟩ := leF_le f g (min m (jv f a.1))
    have e : leF f m (a :: g) = leF f (min m (jv f a.1)) g := rfl
    rw [e]
    refine ⟨by omega, fun j hj => ?_⟩
    rcases List.mem_cons.1 hj with rfl | hj
    · omega
    · exact h2 j hj
/-- Ahead of each place of a function that is nowhere below 0 no more have ended than have begun. -/
theorem pre_ends {f : List Jp} (hm : mayJ f = true) (h0 : 0 ≤ leV f) (k : Nat) : (endL (f.take k)).length ≤ (begL (f.take k)).length := by
  have hj := len_js (f.take k)
  suffices 0 ≤ js (f.take k) by omega
  have hasc := (mayJ_iff.1 hm).2.2
  unfold leV at h0
  rw [if_pos hm] at h0
  rcases Nat.eq_zero_or_pos k with rfl | hk
  · simp [js]
  rcases Nat.lt_or_ge (k - 1) f.length with hlt | hge
  · obtain ⟨j, hx⟩ : ∃ j, f[k - 1]? = some j := ⟨_, List.getElem?_eq_getElem hlt⟩
    have et : f.take k = f.take (k - 1) ++ [j] := by
      have : k = k - 1 + 1 := by omega
      rw [this, List.take_add_one, hx]; simp
    have ef : f = f.take (k - 1) ++ j :: f.drop k := by
      have h1 := List.take_append_drop (k - 1) f
      have h2 : f.drop (k - 1) = j :: f.drop k := by
        rw [List.drop_eq_getElem_cons hlt]
        have h3 := List.getElem?_eq_getElem hlt
        rw [hx] at h3
        rw [show k - 1 + 1 = k by omega]
        congr 1
        exact (Option.some.inj h3).symm
      rw [h2] at h1
      exact h1.symm
    have hjs := js_at (f1 := f.take (k - 1)) (j := j) (f2 := f.drop k) (by rw [← ef]; exact hasc)
    rw [et, hjs, ← ef]
    have := (leF_le f f (jv f (-1))).2 j (List.mem_of_getElem? hx)
    omega
  · have e1 : f.take k = f := List.take_of_length_le (by omega)
    rw [e1]
    rcases hf : f.reverse with _ | ⟨j, r⟩
    · have : f = [] := by simpa using hf
      rw [this]; simp [js]
    · have ef : f = r.reverse ++ [j] := by rw [← List.reverse_reverse f, hf]; simp
      have hjs := js_at (f1 := r.reverse) (j := j) (f2 := []) (by rw [← ef]; exact hasc)
      rw [← ef] at hjs
      rw [hjs]
      have := (leF_le f f (jv f (-1))).2 j (by rw [ef]; simp)
      omega
/-- The k-th beginning with the k-th end; what has no end has the last one of all. -/
def spL : List Int → List Int → List Sp
  | [], _ => []
  | x :: b, [] => (x, 1125899906842624) :: spL b []
  | x :: b, y :: e => (x, y) :: spL b e
theorem spL_length : ∀ b e : List Int, (spL b e).length = b.length
  | [], _ => rfl
  | x :: b, [] => by rw [spL, List.length_cons, List.length_cons, spL_length b []]
  | x :: b, y :: e => by rw [spL, List.length_cons, List.length_cons, spL_length b e]
theorem spL_get : ∀ (b e : List Int) (i : Nat) (x : Int), b[i]? = some x → (spL b e)[i]? = some (x, (e[i]?).getD 1125899906842624)
  | y :: b, [], 0, x, h => by simp at h; subst h; rfl
  | y :: b, z :: e, 0, x, h => by simp at h; subst h; rfl
  | y :: b, [], i + 1, x, h => by
    have := spL_get b [] i x (by simpa using h)
    simpa [spL] using this
  | y :: b, z :: e, i + 1, x, h => by
    have := spL_get b e i x (by simpa using h)
    simpa [spL] using this
theorem spL_zip : ∀ (b e : List Int), e.length ≤ b.length → spL b e = (b.take e.length).zip e ++ (b.drop e.length).map fun x => (x, 1125899906842624)
  | [], [], _ => rfl
  | [], y :: e, h => by simp at h
  | x :: b, [], _ => by
    have := spL_zip b [] (by simp)
    rw [spL, this]
    simp
  | x :: b, y :: e, h => by
    have := spL_zip b e (by simpa using h)
    rw [spL, this]
    simp
/-- A function's lifetimes. -/
def lifeL (f : List Jp) : List Sp := spL (begL f) (endL f)
/-- What is wrong with a function whose lifetimes are asked for; they. -/
def spE (f : List Jp) : Int := if mayJ f then (if leV f < 0 then 20 else if 4096 < cntJ f then 7 else 0) else 2
def spR (f : List Jp) : List Sp := if spE f = 0 then lifeL f else []
/-- What has been made, and what is open, of beginnings and ends. -/
def madeL (b e : List Int) : List Sp := (b.take e.length).zip e
theorem madeL_begin (b e m : List Int) (h : e.length ≤ b.length) : madeL (b ++ m) e = madeL b e ∧ (b ++ m).drop e.length = b.drop e.length ++ m := by
  unfold madeL
  rw [List.take_append_of_le_length h, List.drop_append_of_le_length h]
  exact ⟨rfl, rfl⟩
theorem madeL_end (b e : List Int) (x a : Int) (r : List Int) (h : b.drop e.length = x :: r) : madeL b (e ++ [a]) = madeL b e ++ [(x, a)] ∧ b.drop (e ++ [a]).length = r := by
  have hlt : e.length < b.length := by
    have := congrArg List.length h
    simp at this
    omega
  have hx : b[e.length]? = some x := by
    have h2 : (b.drop e.length)[0]? = some x := by rw [h]; rfl
    rwa [List.getElem?_drop, Nat.add_zero] at h2
  unfold madeL
  rw [List.length_append, List.length_singleton, List.take_add_one, hx]
  refine ⟨?_, ?_⟩
  · rw [Option.toList_some, List.zip_append (by simp; omega)]
    rfl
  · rw [← List.drop_drop, h]; rfl
theorem life_done (b e : List Int) (h : e.length ≤ b.length) : madeL b (e ++ List.replicate (b.length - e.length) 1125899906842624) = spL b e := by
  rw [spL_zip b e h]
  unfold madeL
  rw [List.length_append, List.length_replicate, List.take_of_length_le (by omega)]
  conv => lhs; rw [← List.take_append_drop e.length b]
  rw [List.zip_append (by simp; omega)]
  congr 1
  have key : ∀ (l : List Int), l.zip (List.replicate l.length 1125899906842624) = l.map fun x => (x, (1125899906842624 : Int)) := by
    intro l
    induction l with
    | nil => rfl
    | cons a l ih => simp only [List.length_cons, List.replicate_succ, List.zip_cons_cons, List.map_cons, ih]
  have := key (b.drop e.length)
  rw [List.length_drop] at this
  rw [List.take_append_drop]
  exact this
end Go.Proofs.YtgniebjigphcgaaGreat
set_option linter.unusedVariables false
set_option linter.unusedSimpArgs false
namespace Go.Proofs.YtgniebjigphcgaaGreat
open Go.RowKit
/-- The block in which a slice lies. -/
def blkO : Value → Option Nat
  | .slice (some a) _ _ => some a.block
  | _ => none
/-- A slice of one's own, from some place of its block on: it may be cut from the front, and appended to. -/
def OwnO (w : World) (base e size : Nat) (v : Value) (n : Nat) (xs : List Value) : Prop :=
  xs.length = n * size ∧ ((v = .slice none 0 0 ∧ n = 0) ∨ ∃ g o cap cur, v = .slice (some ⟨g, o, none⟩) n cap ∧ base ≤ g ∧ w.heap[g]? = some (.cells cur e (0, 0)) ∧ n ≤ cap ∧ cap ≤ maxLen ∧ o + cap * size ≤ cur.size ∧ (cur.toList.drop o).take (n * size) = xs)
section
variable {w w' : World} {base e size n : Nat} {v : Value} {xs : List Value}
theorem OwnO.nil (w : World) (base e size : Nat) : OwnO w base e size (.slice none 0 0) 0 [] := ⟨by simp, .inl ⟨rfl, rfl⟩⟩
theorem OwnO.form (h : OwnO w base e size v n xs) : ∃ A cap, v = .slice A n cap ∧ n ≤ cap ∧ cap ≤ maxLen := by
  rcases h.2 with ⟨rfl, rfl⟩ | ⟨g, o, cap, cur, rfl, _, _, h1, h2, _⟩
  · exact ⟨_, _, rfl, Nat.le_refl _, Nat.zero_le _⟩
  · exact ⟨_, _, rfl, h1, h2⟩
theorem OwnO.lt (h : OwnO w base e size v n xs) : ∀ g, blkO v = some g → base ≤ g ∧ g < w.heap.size := by
  intro g hg
  rcases h.2 with ⟨rfl, rfl⟩ | ⟨g', o, cap, cur, rfl, hb, hh, _⟩
  · cases hg
  · obtain rfl : g' = g := by simpa [blkO] using hg
    exact ⟨hb, lt_of_block hh⟩
theorem OwnO.keep (h : OwnO w base e size v n xs) (hk : ∀ g, blkO v = some g → w'.heap[g]? = w.heap[g]?) : OwnO w' base e size v n xs := by
  refine ⟨h.1, ?_⟩
  rcases h.2 with h2 | ⟨g, o, cap, cur, rfl, hb, hh, r⟩
  · exact .inl h2
  · exact .inr ⟨g, o, cap, cur, rfl, hb, (hk g rfl).trans hh, r⟩
theorem OwnO.ext (h : OwnO w base e size v n xs) (k : Ext w w') : OwnO w' base e size v n xs := h.keep fun g hg => k.block g (h.lt g hg).2
theorem OwnO.grown {row : Option Nat} (h : OwnO w base e size v n xs) (hg : w.grownBy w' row) (hn : ∀ g, blkO v = some g → some g ≠ row) : OwnO w' base e size v n xs :=
  h.keep fun g hb => hg.block g (h.lt g hb).2 (hn g hb)
theorem OwnO.type (h : OwnO w base e size v n xs) {g : Nat} {cur : Array Value} {T : TypeId} {fz : Nat × Nat} (hg : blkO v = some g) (hh : w.heap[g]? = some (.cells cur T fz)) : T = e := by
  rcases h.2 with ⟨rfl, _⟩ | ⟨g', o, cap, cur', rfl, hb, hh', r⟩
  · cases hg
  · obtain rfl : g' = g := by simpa [blkO] using hg
    rw [hh'] at hh
    injection hh with hh
    injection hh with _ e
    exact e.symm
theorem OwnO.cells {g o n' cap : Nat} (h : OwnO w base e size v n xs) (hv : v = .slice (some ⟨g, o, none⟩) n' cap) : ∀ j u, xs[j]? = some u → w.cell? ⟨g, o + j, none⟩ = some u := by
  subst hv
  intro j u hu
  rcases h.2 with ⟨e, _⟩ | ⟨g', o', cap', cur, e, hb, hh, h1, h2, h3, h4⟩
  · cases e
  · simp only [Value.slice.injEq, Option.some.injEq, Addr.mk.injEq, and_true] at e
    obtain ⟨⟨rfl, rfl⟩, rfl, rfl⟩ := e
    rw [cell_of_row w g (o + j) cur e (0, 0) hh]
    rw [← h4, List.getElem?_take] at hu
    split at hu
    · rw [List.getElem?_drop] at hu
      simpa using hu
    · cases hu
/-- The cut from the first on. -/
theorem OwnO.tail {A : Option Addr} {cap : Nat} {x : Value} (h : OwnO w base e 1 (.slice A (n + 1) cap) (n + 1) (x :: xs)) : OwnO w base e 1 (.slice (cutA A 1 cap 1) n (cap - 1)) n xs := by
  refine ⟨by have := h.1; simp at this ⊢; omega, .inr ?_⟩
  rcases h.2 with ⟨_, h0⟩ | ⟨g, o, cap', cur, e', hb, hh, h1, h2, h3, h4⟩
  · cases h0
  · simp only [Value.slice.injEq, true_and] at e'
    obtain ⟨rfl, rfl⟩ := e'
    have ht : (cur.toList.drop (o + 1)).take n = xs := by
      rw [Nat.mul_one] at h4
      have h5 := congrArg List.tail h4
      rw [List.tail_cons] at h5
      rw [← h5, ← List.drop_one, List.drop_take, List.drop_drop, Nat.add_sub_cancel]
    by_cases hc : cap = 1
    · subst hc
      have hn0 : n = 0 := by omega
      subst hn0
      refine ⟨g, o, 0, cur, by simp [cutA], hb, hh, by omega, Nat.zero_le _, by omega, ?_⟩
      have : xs = [] := by have := h.1; simp at this; exact this
      rw [this]; simp
    · refine ⟨g, o + 1, cap - 1, cur, by unfold cutA; rw [if_neg hc]; simp [add_plain], hb, hh, by omega, by omega, by omega, by rw [Nat.mul_one]; exact ht⟩
end
section
variable {P : Program} {w : World}
theorem run_appO {t tx ty e : TypeId} {z : Value} {size bytes base n m : Nat} {v x : Value} {xs news : List Value} (T : ElemT P t e z size bytes) (hown : OwnO w base e size v n xs) (hs : Src P size tx x m news w)
    (h63 : n + m ≤ maxLen) (hbytes : (n + m) * bytes ≤ 140737488355328) (hbase : base ≤ w.heap.size) :
    ∃ v' w', (Builtin.append_ #[t, tx] ty #[v, x]).run P w = .ok v' w' ∧ OwnO w' base e size v' (n + m) (xs ++ news) ∧ w.grownBy w' (blkO v) ∧ (blkO v' = blkO v ∨ blkO v' = some w.heap.size) := by
  obtain ⟨ht, ⟨i, hi, hz, hsize, hby⟩, hzs, hsz⟩ := T
  subst hsize
  subst hby
  have hsmall : n + m ≤ 9223372036854775807 := by simp only [maxLen] at h63; omega
  have hlen : (xs ++ news).length = (n + m) * i.size := by rw [List.length_append, hown.1, hs.newsLen, Nat.add_mul]
  have grown : ∀ (old : Nat), old < n + m → ∀ (row : Option Nat),
      OwnO (w.drew.alloc (.cells ((xs ++ news).toArray ++ Builtin.zeroCells z.cells (grownCap w (n + m) old e - (n + m))) e)) base e i.size
        (.slice (some ⟨w.heap.size, 0, none⟩) (n + m) (grownCap w (n + m) old e)) (n + m) (xs ++ news) ∧
      w.grownBy (w.drew.alloc (.cells ((xs ++ news).toArray ++ Builtin.zeroCells z.cells (grownCap w (n + m) old e - (n + m))) e)) row := by
    intro old ho row
    have hge := grownCap_ge w (n + m) old e
    have hcm : grownCap w (n + m) old e ≤ maxLen := grownCap_le_maxLen w (n + m) old e h63
    refine ⟨⟨hlen, .inr ⟨w.heap.size, 0, _, _, rfl, hbase, heap_alloc_new w.drew _, hge, hcm, ?_, ?_⟩⟩, ⟨rfl, rfl, rfl, by simp, fun k hk _ => Below.heap_alloc w.drew _ k hk⟩⟩
    · simp only [Array.size_append, List.size_toArray, size_zeroCells, hzs, hlen, ← Nat.add_mul]
      rw [Nat.zero_add]
      exact Nat.mul_le_mul_right _ (by omega)
    · simp only [Array.toList_append, List.drop_zero]
      rw [← hlen]
      exact List.take_left
  rcases hown.2 with ⟨rfl, rfl⟩ | ⟨g, o, cap, cur, rfl, hbg, hg, hnc, hcm, hcs, htake⟩
  · have hx : xs = [] := List.eq_nil_of_length_eq_zero (by simpa using hown.1)
    subst hx
    by_cases hm : m = 0
    · subst hm
      have hn : news = [] := List.eq_nil_of_length_eq_zero (by simpa using hs.newsLen)
      subst hn
      refine ⟨.slice none 0 0, w, ?_, OwnO.nil w base e i.size, ⟨rfl, rfl, rfl, Nat.le_refl _, fun _ _ _ => rfl⟩, .inl rfl⟩
      rcases hs.kind with ⟨e', hk⟩ | hk <;> simp [Builtin.append_, run_underlying ht, run_underlying hk, sizeOf, typeInfo, hi, hs.len, hs.cells]
    · have hr := run_append_grow_src (P := P) w t tx ty e i z ht hi hz none 0 0 [] (by simp [Builtin.firstCells]) x m news hs (by omega) (by omega) (growslice_fits (by omega) hbytes)
      have hgr := grown 0 (by omega) (blkO (.slice none 0 0))
      simp only [Nat.zero_add, List.nil_append] at hgr hr ⊢
      exact ⟨_, _, hr, hgr.1, hgr.2, .inr rfl⟩
  · have hmul : n * i.size ≤ cap * i.size := Nat.mul_le_mul_right _ hnc
    by_cases hroom : n + m ≤ cap
    · have hfit : o + n * i.size + news.length ≤ cur.size := by
        have h1 : (n + m) * i.size ≤ cap * i.size := Nat.mul_le_mul_right _ hroom
        rw [Nat.add_mul] at h1
        rw [hs.newsLen]
        omega
      have hst := run_storeCells_at P g (o + n * i.size) e news 0 cur w hg (by simpa using hfit) hs.one
      simp only [Nat.add_zero] at hst
      have hr : (Builtin.append_ #[t, tx] ty #[.slice (some ⟨g, o, none⟩) n cap, x]).run P w =
          .ok (.slice (some ⟨g, o, none⟩) (n + m) cap) (w.setRow g (cur.toList.take (o + n * i.size) ++ news ++ cur.toList.drop (o + n * i.size + news.length)).toArray) := by
        rcases hs.kind with ⟨e', hk⟩ | hk <;> simp [Builtin.append_, run_underlying ht, run_underlying hk, sizeOf, typeInfo, hi, hs.len, hroom, hs.cells, Addr.add_lit, hst]
      refine ⟨_, _, hr, ⟨hlen, .inr ⟨g, o, cap, _, rfl, hbg, setRow_heap w g cur _ e _ hg, hroom, hcm, ?_, ?_⟩⟩, ⟨rfl, rfl, rfl, by simp, fun k _ hk => setRow_other w g k _ (fun e => hk (by simp [blkO, e]))⟩, .inl rfl⟩
      · simp only [List.size_toArray, List.length_append, List.length_take, List.length_drop, Array.length_toList]
        omega
      · rw [← hlen]
        have hd : (cur.toList.take (o + n * i.size) ++ news ++ cur.toList.drop (o + n * i.size + news.length)).drop o = xs ++ (news ++ cur.toList.drop (o + n * i.size + news.length)) := by
          rw [List.append_assoc, List.drop_append_of_le_length (by rw [List.length_take, Array.length_toList]; omega)]
          congr 1
          rw [List.drop_take, Nat.add_sub_cancel_left]
          exact htake
        rw [hd, ← List.append_assoc]
        exact List.take_left
    · have holds : ∀ j u, xs[j]? = some u → w.drew.cell? ((⟨g, o, none⟩ : Addr).add j) = some u := fun j u hu => by
        rw [add_plain]
        exact hown.cells rfl j u hu
      have hr := run_append_grow_src (P := P) w t tx ty e i z ht hi hz (some ⟨g, o, none⟩) n cap xs (run_firstCells_some w.drew i.size n _ n cap xs hown.1 holds) x m news hs (by omega) (by omega) (growslice_fits (by omega) hbytes)
      have hgr := grown cap (by omega) (blkO (.slice (some ⟨g, o, none⟩) n cap))
      exact ⟨_, _, hr, hgr.1, hgr.2, .inr rfl⟩
theorem wpl_appO {ops : Array Oper} {rest : List Oper} {o : Oper} {a : Act} {Q : Exit → Act → World → Prop} {t tx e : TypeId} {z : Value} {size bytes base n m : Nat} {v x : Value} {xs news : List Value} (T : ElemT P t e z size bytes)
    (hgd : o.guard = none) (s y : Operand) (ho : o.op = .call { callee := .builtin .append, args := #[s, y], argTypes := #[t, tx] }) (hv : a.eval s = v) (hown : OwnO w base e size v n xs) (hx : a.eval y = x) (hs : Src P size tx x m news w)
    (h63 : n + m ≤ maxLen) (hbytes : (n + m) * bytes ≤ 140737488355328) (hbase : base ≤ w.heap.size)
    (h : ∀ v' w', OwnO w' base e size v' (n + m) (xs ++ news) → w.grownBy w' (blkO v) → (blkO v' = blkO v ∨ blkO v' = some w.heap.size) → wpList P ops Q rest (a.put o.dst v') w') : wpList P ops Q (o :: rest) a w := by
  refine wpList_plain hgd fun K hK => ?_
  obtain ⟨v', w', hr, h2, h3, h4⟩ := run_appO (ty := o.type) T hown hs h63 hbytes hbase
  unfold Oper.wp execOp
  simp only [ho, resolve, invoke, builtin, Sem.run_bind, Sem.run_pure, Result.andThen_ok, List.map_toArray, List.map_cons, List.map_nil, hv, hx, hr]
  exact hK _ _ (h v' w' h2 h3 h4)
end
end Go.Proofs.YtgniebjigphcgaaGreat
set_option linter.unusedVariables false
set_option linter.unusedSimpArgs false
namespace Go.Proofs.YtgniebjigphcgaaGreat
open Go.RowKit
theorem tSpn : ElemT Tryz.prog 25 30 (.agg #[.int .i64 0, .int .i64 0]) 2 16 := ElemT.mk' Tryz.underlying25 (by kernel_rfl) rfl (by omega)
theorem buildS1 (x : Jp) (w : World) : (Instr.buildSlice 25 1 #[(0, jm x)]).run Tryz.prog w = .ok (.slice (some ⟨w.heap.size, 0, none⟩) 1 1) (w.alloc (.cells #[.int .i64 x.1, .int .i64 x.2] 30)) := by
  simp [go_sem]
theorem oneS_new (x : Jp) (w : World) : Jw (w.alloc (.cells #[.int .i64 x.1, .int .i64 x.2] 30)) [] (.slice (some ⟨w.heap.size, 0, none⟩) 1 1) [x] :=
  Sl.own (World.ownsRow_lit (base := w.heap.size) (e := 30) (size := 2) w #[.int .i64 x.1, .int .i64 x.2] 1 (Nat.le_refl _) (by decide) rfl) (by simp)
abbrev OwnSp (w : World) (base : Nat) (v : Value) (l : List Sp) : Prop := w.ownsRow base 30 2 v l.length (ps l)
abbrev OwnIo (w : World) (base : Nat) (v : Value) (l : List Int) : Prop := OwnO w base 3 1 v l.length (zc l)
theorem own_appS {w : World} {B : Nat} {v : Value} {l m : List Sp} (h : w.ownsRow B 30 2 v (l.length + m.length) (ps l ++ ps m)) : OwnSp w B v (l ++ m) := by
  unfold OwnSp; rw [List.length_append, ps_append]; exact h
theorem own_appIo {w : World} {B : Nat} {v : Value} {l : List Int} {x : Int} (h : OwnO w B 3 1 v (l.length + 1) (zc l ++ [.int .i64 x])) : OwnIo w B v (l ++ [x]) := by
  unfold OwnIo; rw [List.length_append, zc_append]; exact h
section
variable {w w' w1 : World} {base e size n : Nat} {v : Value} {xs : List Value}
theorem own_heap (h : w.ownsRow base e size v n xs) {g : Nat} (hg : v.ownBlock = some g) : ∃ cur, w.heap[g]? = some (.cells cur e (0, 0)) := by
  rcases h.2 with ⟨rfl, _⟩ | ⟨g', cap, cur, rfl, hb, hh, _⟩
  · cases hg
  · obtain rfl : g' = g := by simpa [Value.ownBlock] using hg
    exact ⟨cur, hh⟩
theorem own_keep (h : w.ownsRow base e size v n xs) (hk : ∀ g, v.ownBlock = some g → w'.heap[g]? = w.heap[g]?) : w'.ownsRow base e size v n xs := by
  refine ⟨h.1, ?_⟩
  rcases h.2 with h2 | ⟨g, cap, cur, rfl, hb, hh, r⟩
  · exact .inl h2
  · exact .inr ⟨g, cap, cur, rfl, hb, (hk g (by simp [Value.ownBlock])).trans hh, r⟩
theorem OwnO.heap (h : OwnO w base e size v n xs) {g : Nat} (hg : blkO v = some g) : ∃ cur, w.heap[g]? = some (.cells cur e (0, 0)) := by
  rcases h.2 with ⟨rfl, _⟩ | ⟨g', o, cap, cur, rfl, hb, hh, _⟩
  · cases hg
  · obtain rfl : g' = g := by simpa [blkO] using hg
    exact ⟨cur, hh⟩
theorem OwnO.not_box (h : OwnO w base e size v n xs) {b : Nat} {T : TypeId} {vs : List Value} (o : Ob w b T vs) (hT : T ≠ e) : blkO v ≠ some b := fun hb => hT (h.type hb o)
theorem OwnO.set (h : OwnO w base e size v n xs) {b : Nat} {T : TypeId} {vs : List Value} (o : Ob w b T vs) (hT : T ≠ e) (u : Value) : OwnO (w.setCell ⟨b, 0, none⟩ u) base e size v n xs :=
  h.keep fun g hg => Below.heap_setCell w ⟨b, 0, none⟩ u g fun e => h.not_box o hT (by rw [hg]; exact congrArg some e)
theorem own_setB (h : w.ownsRow base e size v n xs) {b : Nat} {T : TypeId} {vs : List Value} (o : Ob w b T vs) (hT : e ≠ T) (u : Value) : (w.setCell ⟨b, 0, none⟩ u).ownsRow base e size v n xs :=
  own_keep h fun g hg => Below.heap_setCell w ⟨b, 0, none⟩ u g fun q => o.not_own h hT (by rw [hg]; exact congrArg some q)
end
/-- What lifetimes are made in: the open beginnings and the lifetimes, each in its box. -/
structure LS (w0 w : World) (bo bm : Nat) (uo um : Value) (O : List Int) (M : List Sp) : Prop where
  oo : Ob w bo 59 [uo]
  om : Ob w bm 25 [um]
  ho : OwnIo w w0.heap.size uo O
  hm : OwnSp w w0.heap.size um M
  X : Ext w0 w
  bo' : w0.heap.size ≤ bo
  bm' : w0.heap.size ≤ bm
section
variable {w0 w w1 : World} {bo bm : Nat} {uo um v1 : Value} {O O1 : List Int} {M M1 : List Sp}
theorem LS.ext (h : LS w0 w bo bm uo um O M) (k : Ext w w1) : LS w0 w1 bo bm uo um O M := ⟨h.oo.ext k, h.om.ext k, h.ho.ext k, own_ext h.hm k, h.X.trans k, h.bo', h.bm'⟩
theorem LS.boxO (h : LS w0 w bo bm uo um O M) (hg : w.grownBy w1 (blkO uo)) {b : Nat} {T : TypeId} {vs : List Value} (o : Ob w b T vs) (hT : T ≠ 3) : Ob w1 b T vs := o.grown hg fun e => h.ho.not_box o hT e.symm
theorem LS.boxM (h : LS w0 w bo bm uo um O M) (hg : w.grownBy w1 um.ownBlock) {b : Nat} {T : TypeId} {vs : List Value} (o : Ob w b T vs) (hT : 30 ≠ T) : Ob w1 b T vs := o.grown hg fun e => o.not_own h.hm hT e.symm
theorem LS.ne (h : LS w0 w bo bm uo um O M) : bo ≠ bm := h.oo.ne h.om (by decide)
theorem LS.openApp (h : LS w0 w bo bm uo um O M) (hg : w.grownBy w1 (blkO uo)) (ho1 : OwnIo w1 w0.heap.size v1 O1) : LS w0 (w1.setCell ⟨bo, 0, none⟩ v1) bo bm v1 um O1 M := by
  have o1 := h.boxO hg h.oo (by decide)
  have o2 := h.boxO hg h.om (by decide)
  have hm1 : OwnSp w1 w0.heap.size um M := own_keep h.hm fun g hgm => by
    obtain ⟨cur, hh⟩ := own_heap h.hm hgm
    exact hg.block g (lt_of_block hh) fun e => absurd (h.ho.type e.symm hh) (by decide)
  exact ⟨o1.set 0 _, o2.far _ _ (Ne.symm h.ne), ho1.set o1 (by decide) _, own_setB hm1 o1 (by decide) _, (ext_grown h.X hg fun k hk => (h.ho.lt k hk).1).setCell (p := ⟨bo, 0, none⟩) h.bo' _, h.bo', h.bm'⟩
theorem LS.madeApp (h : LS w0 w bo bm uo um O M) (hg : w.grownBy w1 um.ownBlock) (hm1 : OwnSp w1 w0.heap.size v1 M1) : LS w0 (w1.setCell ⟨bm, 0, none⟩ v1) bo bm uo v1 O M1 := by
  have o1 := h.boxM hg h.oo (by decide)
  have o2 := h.boxM hg h.om (by decide)
  have ho1 : OwnIo w1 w0.heap.size uo O := h.ho.grown hg fun g hgo e => by
    obtain ⟨cur, hh⟩ := own_heap h.hm e.symm
    exact absurd (h.ho.type hgo hh) (by decide)
  exact ⟨o1.far _ _ h.ne, o2.set 0 _, ho1.set o2 (by decide) _, own_setB hm1 o2 (by decide) _, (ext_grown h.X hg fun k hk => (h.hm.lt k hk).1).setCell (p := ⟨bm, 0, none⟩) h.bm' _, h.bo', h.bm'⟩
theorem LS.openCut (h : LS w0 w bo bm uo um O M) (ho1 : OwnIo w w0.heap.size v1 O1) : LS w0 (w.setCell ⟨bo, 0, none⟩ v1) bo bm v1 um O1 M :=
  ⟨h.oo.set 0 _, h.om.far _ _ (Ne.symm h.ne), ho1.set h.oo (by decide) _, own_setB h.hm h.oo (by decide) _, h.X.setCell (p := ⟨bo, 0, none⟩) h.bo' _, h.bo', h.bm'⟩
end
end Go.Proofs.YtgniebjigphcgaaGreat
set_option linter.unusedVariables false
set_option linter.unusedSimpArgs false
namespace Go.Proofs.YtgniebjigphcgaaGreat
open Go.RowKit
attribute [-go_sem] sliced
attribute [local go_sem] sliced_eq
attribute [local go_sem] GW.cell GW.frozen In.eq_true In.le_true In.ne In.ne' In.ne_add In.ne_add' In.lt_add Upto.le_true Upto.le_add Upto.lt_add
theorem rep_drop (b e : List Int) (a : Int) (k : Nat) (h : e.length ≤ b.length) : (b ++ List.replicate (k + 1) a).drop e.length = (b ++ List.replicate k a).drop e.length ++ [a] := by
  rw [List.drop_append_of_le_length h, List.drop_append_of_le_length h, List.replicate_succ', List.append_assoc]
set_option maxHeartbeats 8000000 in
set_option maxRecDepth 100000 in
theorem change_c (w0 w : World) (bo bm : Nat) (uo um : Value) (a n : Int) (b e : List Int) (hs : LS w0 w bo bm uo um (b.drop e.length) (madeL b e)) (hel : e.length ≤ b.length) (hn : (e.length : Int) - n ≤ b.length) (hbz : (b.length : Int) + n ≤ 100000) (hb1 : b.length ≤ 100000) (hn1 : -1000000000 ≤ n) (hn2 : n ≤ 1000000000) :
    Calls Tryz.prog 71 #[jm (a, n), .pointer (some ⟨bo, 0, none⟩), .pointer (some ⟨bm, 0, none⟩)] w fun e' w' => (∃ v, e' = .returned v) ∧ ∃ uo' um', LS w0 w' bo bm uo' um' ((b ++ List.replicate n.toNat a).drop (e ++ List.replicate (-n).toNat a).length) (madeL (b ++ List.replicate n.toNat a) (e ++ List.replicate (-n).toNat a)) := by
  obtain ⟨bj, hbj⟩ : ∃ bj, w.heap.size = bj := ⟨_, rfl⟩
  have oj0 : Ob (w.alloc (.cells #[.int .i64 a, .int .i64 n] 61)) w.heap.size 61 [.int .i64 a, .int .i64 n] := Ob.new w 61 [.int .i64 a, .int .i64 n]
  rw [hbj] at oj0
  have hs0 := hide (hs.ext ((Ext.refl w).alloc (.cells #[.int .i64 a, .int .i64 n] 61)))
  have hjo : Hid (bj ≠ bo) := by have := hs.oo.lt; show bj ≠ bo; omega
  have hjm : Hid (bj ≠ bm) := by have := hs.om.lt; show bj ≠ bm; omega
  have c0 := oj0.cell 0 rfl
  have c1 := oj0.cell 1 rfl
  have hl0 := oj0.lt
  obtain ⟨wa, hwa⟩ : ∃ wa, wa = w.alloc (.cells #[.int .i64 a, .int .i64 n] 61) := ⟨_, rfl⟩
  rw [← hwa] at hs0 c0 c1 hl0 oj0
  replace oj0 := hide oj0
  clear hs
  go_enter Tryz.func71, Tryz.ntmps71
  go_wp2_with fail
  rw [← hwa]
  clear hwa hbj
  go_loopg [6] n.toNat (fun gh i wr => ∃ (k : Nat) (uo1 : Value), i = .int .i64 k ∧ k + gh = n.toNat ∧ LS w0 wr bo bm uo1 um ((b ++ List.replicate k a).drop e.length) (madeL b e) ∧ Ob wr bj 61 [.int .i64 a, .int .i64 n])
  case atStart => exact ⟨0, uo, rfl, by omega, by simpa using hs0.out, oj0.out⟩
  case round =>
    clear hs0 oj0 c0 c1 hl0
    obtain ⟨k, uo1, rfl, hk, hs1, oj⟩ := hrel
    obtain ⟨wo, hwo⟩ : ∃ wo, wo = wr := ⟨_, rfl⟩
    subst hwo
    have c0 := oj.cell 0 rfl
    have c1 := oj.cell 1 rfl
    have hlj := oj.lt
    have q1 := hs1.oo.cell 0 rfl
    have hlo := hs1.oo.lt
    haveI : In bj _ := ⟨hlj⟩
    haveI : In bo _ := ⟨hlo⟩
    have hOl : ((b ++ List.replicate k a).drop e.length).length ≤ 200000 := by
      rw [List.length_drop, List.length_append, List.length_replicate]; omega
    by_cases hlt : (k : Int) < n
    · have hnx := hide (rep_drop b e a k hel)
      obtain ⟨O, hO⟩ : ∃ O, O = (b ++ List.replicate k a).drop e.length := ⟨_, rfl⟩
      rw [← hO] at hs1 hnx hOl
      clear hO
      obtain ⟨A1, c1', rfl, hlc, hlm⟩ := hs1.ho.form
      unfold maxLen at hlm
      replace hs1 := hide hs1
      replace oj := hide oj
      go_wp2_with (at_builtin; (refine wpl_appO tZ rfl (.tmp 8) (.tmp 11) rfl rfl (hs1.out.ext ((Ext.refl _).alloc _)).ho rfl (src_one Tryz.underlying59 _ (.int .i64 a) _ rfl) (by unfold maxLen; omega) (by omega) (by have := hs1.out.X.size; simp; omega) ?_; intro v1 w1 ho1 hg1 hb1; have hsx := hide (hs1.out.ext ((Ext.refl _).alloc (.cells #[.int .i64 a] 3))); have oj1 := hide (hsx.out.boxO hg1 (oj.out.alloc _) (by decide)); have oo1 := hsx.out.boxO hg1 hsx.out.oo (by decide); have qo1 := oo1.cell 0 rfl; have qf1 := oo1.free 0; have ql1 := oo1.lt; have hs2 := hide (hsx.out.openApp hg1 (own_appIo ho1)); obtain ⟨C1, c1, q2, -, -⟩ := ho1.form; subst q2; replace oo1 := hide oo1; haveI : In bo w1 := ⟨ql1⟩))
      go_roundg (n.toNat - (k + 1))
      case measure => omega
      case rel => exact ⟨k + 1, _, by go_num, by omega, by rw [hnx.out]; exact hs2.out, oj1.out.far _ _ hjo.out⟩
    · have hk' : k = n.toNat := by omega
      have hge : ¬ (k : Int) < n := hlt
      rw [hk'] at hs1
      obtain ⟨B, hB⟩ : ∃ B, B = b ++ List.replicate n.toNat a := ⟨_, rfl⟩
      rw [← (madeL_begin b e (List.replicate n.toNat a) hel).1, ← hB] at hs1
      have hBl : (B.length : Int) = b.length + n.toNat := by rw [hB, List.length_append, List.length_replicate]; omega
      have hBe := hide hBl
      replace hk' := hide hk'
      replace hs1 := hide hs1
      replace oj := hide oj
      replace hB := hide hB
      clear hBl q1 hOl
      go_wp2_with fail
      go_loopg [17] (-n).toNat (fun gh i wr => ∃ (k : Nat) (uo1 um1 : Value), i = .int .i64 k ∧ k + gh = (-n).toNat ∧ LS w0 wr bo bm uo1 um1 (B.drop (e ++ List.replicate k a).length) (madeL B (e ++ List.replicate k a)) ∧ Ob wr bj 61 [.int .i64 a, .int .i64 n])
      case atStart => exact ⟨0, uo1, um, rfl, by omega, by simpa using hs1.out, oj.out⟩
      case round =>
        clear hs1 oj hk' c0 c1 hlj hlo hge hlt
        obtain ⟨k, uo1, um1, rfl, hk, hs1, oj⟩ := hrel
        obtain ⟨wp, hwp⟩ : ∃ wp, wp = wr := ⟨_, rfl⟩
        subst hwp
        by_cases hlt : (k : Int) < -n
        · have hBe2 := hBe.out
          have hEl : (e ++ List.replicate k a).length = e.length + k := by rw [List.length_append, List.length_replicate]
          have hlt2 : (e ++ List.replicate k a).length < B.length := by omega
          obtain ⟨x0, O, hxO⟩ : ∃ x0 O, B.drop (e ++ List.replicate k a).length = x0 :: O := ⟨_, _, List.drop_eq_getElem_cons hlt2⟩
          have hOl : O.length ≤ 200000 := by have := congrArg List.length hxO; rw [List.length_drop, List.length_cons] at this; omega
          have hMl : (madeL B (e ++ List.replicate k a)).length ≤ 200000 := by unfold madeL; rw [List.length_zip, List.length_take]; omega
          have hnx : Hid (∀ (wz : World) (u1 u2 : Value) (M1 : List Sp), LS w0 wz bo bm u1 u2 O M1 → M1 = madeL B (e ++ List.replicate k a) ++ [(x0, a)] → LS w0 wz bo bm u1 u2 (B.drop (e ++ List.replicate (k + 1) a).length) (madeL B (e ++ List.replicate (k + 1) a))) := fun wz u1 u2 M1 h hM => by
            obtain ⟨e1, e2⟩ := madeL_end B (e ++ List.replicate k a) x0 a O hxO
            rw [show e ++ List.replicate (k + 1) a = (e ++ List.replicate k a) ++ [a] by rw [List.replicate_succ', List.append_assoc], e1, e2, ← hM]
            exact h
          rw [hxO] at hs1
          obtain ⟨M, hM⟩ : ∃ M, M = madeL B (e ++ List.replicate k a) := ⟨_, rfl⟩
          rw [← hM] at hs1 hMl hnx
          replace hnx := hide (fun (wz : World) (u1 u2 : Value) (h : LS w0 wz bo bm u1 u2 O (M ++ [(x0, a)])) => hnx.out wz u1 u2 _ h rfl)
          have hxc := hs1.ho
          rcases hs1.ho.2 with ⟨-, h0⟩ | ⟨g, o, ocap, cur, rfl, -, -, hoc, hom, -, -⟩
          · simp at h0
          have qx := hide (OwnO.cells hxc rfl 0 (.int .i64 x0) rfl)
          rw [Nat.add_zero] at qx
          rw [List.length_cons] at hoc
          replace hs1 : LS w0 _ bo bm (.slice (some ⟨g, o, none⟩) (O.length + 1) ocap) um1 (x0 :: O) M := hs1
          obtain ⟨UM, mcap, rfl⟩ := own_form hs1.hm
          have hoc2 : O.length + 1 ≤ ocap := hoc
          unfold maxLen at hom
          obtain ⟨mm, hmm⟩ : ∃ mm, mm = M.length := ⟨_, rfl⟩
          have qm := hide (hs1.om.cell 0 rfl)
          have qo := hide (hs1.oo.cell 0 rfl)
          have qj := hide (oj.cell 0 rfl)
          have qj1 := oj.cell 1 rfl
          have hlj := oj.lt
          have hlo := hs1.oo.lt
          have hlm2 := hs1.om.lt
          haveI : In bj _ := ⟨hlj⟩
          have hpos0 : 0 < O.length + 1 := Nat.succ_pos _
          have h1I : (1 : Int) ≤ (O.length : Int) + 1 := by omega
          replace hs1 := hide hs1
          replace oj := hide oj
          clear hxO hM hBe2 hEl hlt2 hxc hmm mm
          go_wp2_with fail
          refine wp_region_list_tail 8 [(.is (.slice UM M.length mcap)), (.is (.slice (some ⟨g, o, none⟩) (O.length + 1) ocap)), (.is (.pointer (some ⟨g, o, none⟩))), (.is (.int .i64 x0)), (.is (.pointer (some ⟨bj, 0, none⟩))), (.is (.int .i64 a)), (.is (jm (x0, a))), oneJ (x0, a)] (by kernel_rfl) (by kernel_rfl) (by kernel_rfl) (by kernel_rfl) (by kernel_rfl) (by kernel_rfl) (by kernel_rfl) ?_ ?_
          · refine ⟨?_, ?_, ?_, ?_, ?_, ?_, ?_, ?_, trivial⟩
            · intro b w' h hE
              have f2 : b.tmps.getD 2 undef = .pointer (some ⟨bm, 0, none⟩) := hE 2 (of_decide_eq_true (by kernel_rfl))
              have c0 := cell_later h.ext qm.out
              exact good_load (wanted_none rfl) rfl f2 (by simp [go_sem, c0]) rfl
            · intro b w' h hE
              have f1 : b.tmps.getD 1 undef = .pointer (some ⟨bo, 0, none⟩) := hE 1 (of_decide_eq_true (by kernel_rfl))
              have c0 := cell_later h.ext qo.out
              exact good_load (wanted_none rfl) rfl f1 (by simp [go_sem, c0]) rfl
            · intro b w' h hE
              have f20 : b.tmps.getD 20 undef = .slice (some ⟨g, o, none⟩) (O.length + 1) ocap := h.dep 1 _ 20 (by kernel_rfl) rfl rfl
              exact good_index (wanted_none rfl) rfl f20 rfl (by simp [go_sem, hpos0]) rfl
            · intro b w' h hE
              have f21 : b.tmps.getD 21 undef = .pointer (some ⟨g, o, none⟩) := h.dep 2 _ 21 (by kernel_rfl) rfl rfl
              have c0 := cell_later h.ext qx.out
              exact good_load (wanted_none rfl) rfl f21 (by simp [go_sem, c0]) rfl
            · intro b w' h hE
              have f3 : b.tmps.getD 3 undef = .pointer (some ⟨bj, 0, none⟩) := hE 3 (of_decide_eq_true (by kernel_rfl))
              exact good_field (wanted_none rfl) rfl f3 (by simp [go_sem]) rfl
            · intro b w' h hE
              have f23 : b.tmps.getD 23 undef = .pointer (some ⟨bj, 0, none⟩) := h.dep 4 _ 23 (by kernel_rfl) rfl rfl
              have c0 := cell_later h.ext qj.out
              exact good_load (wanted_none rfl) rfl f23 (by simp [go_sem, c0]) rfl
            · intro b w' h hE
              have f22 : b.tmps.getD 22 undef = .int .i64 x0 := h.dep 3 _ 22 (by kernel_rfl) rfl rfl
              have g22 : b.tmps[22]?.getD undef = .int .i64 x0 := by rw [← Array.getD_eq_getD_getElem?]; exact f22
              have f24 : b.tmps.getD 24 undef = .int .i64 a := h.dep 5 _ 24 (by kernel_rfl) rfl rfl
              have g24 : b.tmps[24]?.getD undef = .int .i64 a := by rw [← Array.getD_eq_getD_getElem?]; exact f24
              exact good_run (wanted_none rfl) (by simp [execOp, Act.eval, go_sem, g22, g24, Sem.run_bind, Sem.run_pure, Result.andThen_ok]) rfl
            · intro b w' h hE
              have f25 : b.tmps.getD 25 undef = jm (x0, a) := h.dep 6 _ 25 (by kernel_rfl) rfl rfl
              have g25 : b.tmps[25]?.getD undef = jm (x0, a) := by rw [← Array.getD_eq_getD_getElem?]; exact f25
              have := buildS1 (x0, a) w'
              refine good_grow (w' := w'.alloc (.cells #[.int .i64 ((x0, a) : Jp).1, .int .i64 ((x0, a) : Jp).2] 30)) (v := .slice (some ⟨w'.heap.size, 0, none⟩) 1 1) (wanted_none rfl) ?_ (oneS_new (x0, a) w') ((Ext.refl _).alloc _)
              simp [execOp, Act.eval, g25, this, Sem.run_bind, Sem.run_pure, Result.andThen_ok]
          · intro b w2 hX2 hd hz he' hf
            have e19 : b.tmps.getD 19 undef = .slice UM M.length mcap := hf 0 _ 19 (by omega) rfl rfl
            have e20 : b.tmps.getD 20 undef = .slice (some ⟨g, o, none⟩) (O.length + 1) ocap := hf 1 _ 20 (by omega) rfl rfl
            have e21 : b.tmps.getD 21 undef = .pointer (some ⟨g, o, none⟩) := hf 2 _ 21 (by omega) rfl rfl
            have e22 : b.tmps.getD 22 undef = .int .i64 x0 := hf 3 _ 22 (by omega) rfl rfl
            have e23 : b.tmps.getD 23 undef = .pointer (some ⟨bj, 0, none⟩) := hf 4 _ 23 (by omega) rfl rfl
            have e24 : b.tmps.getD 24 undef = .int .i64 a := hf 5 _ 24 (by omega) rfl rfl
            have e25 : b.tmps.getD 25 undef = jm (x0, a) := hf 6 _ 25 (by omega) rfl rfl
            have f26 : Jw w2 [] (b.tmps.getD 26 undef) [(x0, a)] := hf 7 _ 26 (by omega) rfl rfl
            have e := frame_puts hd hz he'
            obtain ⟨X, hXx⟩ : ∃ X : Nat → Value, ∀ d, b.tmps.getD d undef = X d := ⟨_, fun _ => rfl⟩
            rw [hXx] at e19 e20 e21 e22 e23 e24 e25 f26
            obtain ⟨A26, c26, q26⟩ := jone_form f26
            rw [show dstsOf _ = [19, 20, 21, 22, 23, 24, 25, 26] from rfl] at e
            simp only [List.foldl_cons, List.foldl_nil, hXx, Act.put, List.setIfInBounds_toArray, List.set_cons_succ, List.set_cons_zero] at e
            rw [e19, e20, e21, e22, e23, e24, e25, q26] at e
            rw [q26] at f26
            replace f26 := hide f26
            clear hf he' hz hd hXx e19 e20 e21 e22 e23 e24 e25 q26
            subst e
            have hzw := hX2.size
            simp only [List.drop_succ_cons, List.drop_zero]
            have hsx := hide (hs1.out.ext hX2)
            have ojx := hide (oj.out.ext hX2)
            go_wp2_with (at_builtin; (refine wpl_app tSpn rfl (.tmp 19) (.tmp 26) rfl rfl hsx.out.hm rfl (src_sl Tryz.underlying25 f26.out (ps_one _) (by omega)) (by unfold maxLen; simp only [List.length_singleton]; omega) (by simp only [List.length_singleton]; omega) (hsx.out.X.size) ?_; intro v8 w8 ho8 hg8 hb8; have oj8 := hide (hsx.out.boxM hg8 ojx.out (by decide)); have om8 := hsx.out.boxM hg8 hsx.out.om (by decide); have qm8 := om8.cell 0 rfl; have qf8 := om8.free 0; have ql8 := om8.lt; have hs8 := hsx.out.madeApp hg8 (own_appS (m := [(x0, a)]) ho8); obtain ⟨C8, c8, q8⟩ := own_form ho8; subst q8; replace om8 := hide om8; have oo8 := hsx.out.boxM hg8 hsx.out.oo (by decide); have qo8 := oo8.cell 0 rfl; have qof8 := oo8.free 0; have qol8 := oo8.lt; replace oo8 := hide oo8; have hne1 : ¬ bo = bm := hs8.ne; have hne2 : ¬ bm = bo := Ne.symm hs8.ne; replace hs8 := hide hs8; haveI : In bm w8 := ⟨ql8⟩; haveI : In bo w8 := ⟨qol8⟩))
            have hs9 := hs8.out.openCut (OwnO.tail hs8.out.ho)
            have oj9 := ((oj8.out.far ⟨bm, 0, none⟩ (.slice C8 (M.length + 1) c8) hjm.out).far ⟨bo, 0, none⟩ (.slice (cutA (some ⟨g, o, none⟩) 1 ocap 1) O.length (ocap - 1)) hjo.out)
            go_roundg ((-n).toNat - (k + 1))
            case measure => omega
            case rel => exact ⟨k + 1, _, _, by go_num, by omega, hnx.out _ _ _ hs9, oj9⟩
        · have hk' : k = (-n).toNat := by omega
          rw [hk'] at hs1
          have qj1 := oj.cell 1 rfl
          replace hk' := hide hk'
          replace hs1 := hide hs1
          go_wp2_with fail
          go_returns
          rw [← hB.out]
          refine ⟨⟨_, rfl⟩, uo1, um1, ?_⟩
          have hs2 := hs1.out
          rwa [List.length_append, List.length_replicate] at hs2
end Go.Proofs.YtgniebjigphcgaaGreat
set_option linter.unusedVariables false
set_option linter.unusedSimpArgs false
namespace Go.Proofs.YtgniebjigphcgaaGreat
open Go.RowKit
attribute [local go_sem] GW.cell GW.frozen In.eq_true In.le_true In.ne In.ne' In.ne_add In.ne_add' In.lt_add Upto.le_true Upto.le_add Upto.lt_add
theorem begL_pre (f : List Jp) (k : Nat) : (begL (f.take k)).length ≤ (begL f).length := by
  conv => rhs; rw [← List.take_append_drop k f]
  unfold begL
  rw [List.flatMap_append, List.length_append]
  omega
set_option maxHeartbeats 8000000 in
set_option maxRecDepth 100000 in
theorem lifetimes_c (f : List Jp) (hm : mayJ f = true) (h0 : 0 ≤ leV f) (hc : cntJ f ≤ 4096) (v : Value) (w : World) (h : Jw w [] v f) : Calls Tryz.prog 37 #[v] w fun e w' => ∃ v', e = .returned v' ∧ OwnSp w' w.heap.size v' (lifeL f) ∧ Ext w w' := by
  obtain ⟨A, cap, rfl, hl, hmx, hat⟩ := jw_form h
  unfold maxLen at hmx
  replace hat := hide hat
  have hf8 := mayJ_len hm
  have hpre := hide (fun k => pre_ends hm h0 k)
  have hok := hide (mayJ_iff.1 hm).2.1
  have hcn : (begL f).length ≤ 4096 := by unfold cntJ at hc; omega
  obtain ⟨Wb, hWb⟩ : ∃ Wb, Wb = (w.alloc (.cells #[.slice none 0 0] 25)).alloc (.cells #[.slice none 0 0] 59) := ⟨_, rfl⟩
  have hs0 : LS w Wb (w.heap.size + 1) w.heap.size (.slice none 0 0) (.slice none 0 0) [] [] := by
    have a1 := (Ob.new w 25 [.slice none 0 0]).alloc (.cells #[.slice none 0 0] 59)
    have a2 := Ob.new (w.alloc (.cells #[.slice none 0 0] 25)) 59 [.slice none 0 0]
    rw [World.size_alloc] at a2
    rw [hWb]
    exact ⟨a2, a1, OwnO.nil _ _ _ _, World.ownsRow_nil _ _ _ _, ((Ext.refl w).alloc _).alloc _, by omega, Nat.le_refl _⟩
  obtain ⟨bo, hbo⟩ : ∃ bo, w.heap.size + 1 = bo := ⟨_, rfl⟩
  obtain ⟨bm, hbm⟩ : ∃ bm, w.heap.size = bm := ⟨_, rfl⟩
  have hs1 := hs0
  rw [hbo] at hs1
  replace hs0 := hide hs0
  have hs2 : LS w Wb bo bm (.slice none 0 0) (.slice none 0 0) [] [] := by rw [← hbm]; exact hs1
  replace hs2 := hide hs2
  replace hbo := hide hbo
  replace hbm := hide hbm
  replace hWb := hide hWb
  clear h hs0 hs1 hm h0 hc
  go_enter Tryz.func37, Tryz.ntmps37
  go_wp2_with fail
  rw [← hWb.out, hbo.out, hbm.out]
  clear hWb hbo hbm
  go_loopg [11] f.length (fun gh i wr => ∃ (k : Nat) (uo um : Value), i = .int .i64 k ∧ k + gh = f.length ∧ LS w wr bo bm uo um ((begL (f.take k)).drop (endL (f.take k)).length) (madeL (begL (f.take k)) (endL (f.take k))))
  case atStart => exact ⟨0, _, _, rfl, by omega, hs2.out⟩
  case round =>
    clear hs2
    obtain ⟨k, uo, um, rfl, hk, hs⟩ := hrel
    obtain ⟨wo, hwo⟩ : ∃ wo, wo = wr := ⟨_, rfl⟩
    subst hwo
    have hX := hs.X
    have hzX := hX.size
    by_cases hlt : k < f.length
    · obtain ⟨⟨a, n⟩, hx⟩ : ∃ x, f[k]? = some x := ⟨_, List.getElem?_eq_getElem hlt⟩
      obtain ⟨b, o, rfl, -, hb, c0, c1⟩ := hat.out k _ hx
      have k0 := jcell_later hX c0
      have k1 := jcell_later hX c1
      have hbr : b < _ := block_lt_of_cell k0
      simp only at k0 k1
      have hokx := hok.out _ (List.mem_of_getElem? hx)
      unfold okJ at hokx
      rw [decide_eq_true_iff] at hokx
      simp only at hokx
      have et : f.take (k + 1) = f.take k ++ [(a, n)] := by rw [List.take_add_one, hx]; rfl
      have p1 := hpre.out k
      have p2 := hpre.out (k + 1)
      have p3 := begL_pre f (k + 1)
      have hbs := begL_snoc (f.take k) (a, n)
      have hes := endL_snoc (f.take k) (a, n)
      rw [← et] at hbs hes
      simp only at hbs hes
      have hbl := congrArg List.length hbs
      have hel := congrArg List.length hes
      rw [List.length_append, List.length_replicate] at hbl hel
      have hnx := hide (And.intro hbs hes)
      have hch := hide (fun w' (hXw : Ext wo w') => change_c w w' bo bm uo um a n (begL (f.take k)) (endL (f.take k)) (hs.ext hXw) p1 (by omega) (by omega) (by omega) (by omega) (by omega))
      haveI : In b _ := ⟨hbr⟩
      clear c0 c1 hx hokx et hbs hes hbl hel hs p1 p2 p3
      go_wp2_with (go_at_call 71; refine (hch.out _ (by repeat (first | exact Ext.refl _ | refine Ext.alloc ?_ _ | refine Ext.setCell ?_ (by simp) _))).mono ?_; rintro ee w3 ⟨⟨vv, rfl⟩, uo2, um2, hs3⟩)
      go_roundg (f.length - (k + 1))
      case measure => omega
      case rel => exact ⟨k + 1, uo2, um2, by go_num, by omega, by rw [hnx.out.1, hnx.out.2]; exact hs3⟩
    · have hge : (f.length : Int) ≤ k := by omega
      rw [List.take_of_length_le (by omega)] at hs
      have p1 := hpre.out f.length
      rw [List.take_of_length_le (Nat.le_refl _)] at p1
      have hdl : ((begL f).drop (endL f).length).length = (begL f).length - (endL f).length := List.length_drop
      obtain ⟨C, ccap, rfl, -, -⟩ := hs.ho.form
      have q1 := hs.oo.cell 0 rfl
      have hlo := hs.oo.lt
      obtain ⟨m, hmm⟩ : ∃ m, m = ((begL f).drop (endL f).length).length := ⟨_, rfl⟩
      rw [← hmm] at hs q1
      have hch := hide (fun w' (hXw : Ext wo w') => change_c w w' bo bm (.slice C m ccap) um 1125899906842624 (-(m : Int)) (begL f) (endL f) (hs.ext hXw) p1 (by omega) (by omega) (by omega) (by omega) (by omega))
      have hdone := hide (show madeL (begL f ++ List.replicate (-(m : Int)).toNat 1125899906842624) (endL f ++ List.replicate (- -(m : Int)).toNat 1125899906842624) = lifeL f from by
        rw [show (-(m : Int)).toNat = 0 by omega, show (- -(m : Int)).toNat = (begL f).length - (endL f).length by omega, List.replicate_zero, List.append_nil]
        exact life_done _ _ p1)
      have hml : m ≤ 4096 := by omega
      haveI : In bo _ := ⟨hlo⟩
      clear hs p1 hdl hmm
      go_wp2_with (go_at_call 71; refine (hch.out _ (Ext.refl _)).mono ?_; rintro ee w3 ⟨⟨vv, rfl⟩, uo2, um2, hs3⟩; rw [hdone.out] at hs3; have qm := hs3.om.cell 0 rfl; have hlm := hs3.om.lt; obtain ⟨C3, c3, q3⟩ := own_form hs3.hm; subst q3; replace hs3 := hide hs3; haveI : In bm w3 := ⟨hlm⟩)
      go_returns
      exact ⟨_, rfl, hs3.out.hm, hs3.out.X⟩
end Go.Proofs.YtgniebjigphcgaaGreat
set_option linter.unusedVariables false
set_option linter.unusedSimpArgs false
namespace Go.Proofs.YtgniebjigphcgaaGreat
open Go.RowKit
attribute [local go_sem] GW.cell GW.frozen In.eq_true In.le_true In.ne In.ne' In.ne_add In.ne_add' In.lt_add Upto.le_true Upto.le_add Upto.lt_add
theorem cntJ_pos (f : List Jp) : 0 ≤ cntJ f := by unfold cntJ; omega
set_option maxHeartbeats 8000000 in
set_option maxRecDepth 100000 in
theorem count_c (f : List Jp) (hm : mayJ f = true) (v : Value) (w : World) (h : Jw w [] v f) : Calls Tryz.prog 36 #[v] w fun e w' => e = .returned (.int .i64 (cntJ f)) ∧ Ext w w' := by
  obtain ⟨A, cap, rfl, hl, hmx, hat⟩ := jw_form h
  unfold maxLen at hmx
  replace hat := hide hat
  have hf8 := mayJ_len hm
  have hok := hide (mayJ_iff.1 hm).2.1
  have hle := hide (fun k => cntJ_le (f := f.take k) (fun j hj => by
    have := (mayJ_iff.1 hm).2.1 j (List.mem_of_mem_take hj)
    unfold okJ at this
    rw [decide_eq_true_iff] at this
    omega))
  clear h hm
  go_enter Tryz.func36, Tryz.ntmps36
  go_wp2_with fail
  go_loopg [3, 8] f.length (fun gh s i wr => ∃ (k : Nat) (z : Int), i = .int .i64 k ∧ k + gh = f.length ∧ s = .int .i64 z ∧ Hid (z = cntJ (f.take k)) ∧ Ext w wr)
  case atStart => exact ⟨0, 0, rfl, by omega, rfl, rfl, Ext.refl w⟩
  case round =>
    obtain ⟨k, z, rfl, hk, rfl, hz, hX⟩ := hrel
    by_cases hlt : k < f.length
    · obtain ⟨⟨a, n⟩, hx⟩ : ∃ x, f[k]? = some x := ⟨_, List.getElem?_eq_getElem hlt⟩
      obtain ⟨b, o, rfl, -, hb, c0, c1⟩ := hat.out k _ hx
      have k0 := jcell_later hX c0
      have k1 := jcell_later hX c1
      have hbr : b < wr.heap.size := block_lt_of_cell k0
      simp only at k0 k1
      have hokx := hok.out _ (List.mem_of_getElem? hx)
      unfold okJ at hokx
      rw [decide_eq_true_iff] at hokx
      simp only at hokx
      have hnx : Hid (z + max n 0 = cntJ (f.take (k + 1))) := by
        show _ = _
        rw [List.take_add_one, hx, Option.toList_some, cntJ_snoc, hz.out]
      have hz0 : 0 ≤ z := by rw [hz.out]; exact cntJ_pos _
      have hz1 : z ≤ 1073741824 := by
        have h1 := hle.out k
        have h2 : (f.take k).length ≤ 1024 := by rw [List.length_take]; omega
        rw [← hz.out] at h1
        omega
      have hn1 : n ≤ 1048576 := hokx.2.2.2.1
      have hn2 : -1048576 ≤ n := hokx.2.2.2.2
      haveI : In b wr := ⟨hbr⟩
      clear c0 c1 hx hokx
      by_cases hn : 0 ≤ n
      · have hmx2 : max n 0 = n := by omega
        rw [hmx2] at hnx
        have d1 : decide (n < 0) = false := by rw [decide_eq_false_iff_not]; omega
        have d2 : ¬ n < 0 := by omega
        have hmx3 : max 0 n = n := by omega
        go_wp2_with fail
        go_roundg (f.length - (k + 1))
        case measure => omega
        case rel => exact ⟨k + 1, z + n, by go_num, by omega, by first | rfl | simp [hmx2, hmx3], hnx, by repeat (first | assumption | refine Ext.alloc ?_ _)⟩
      · have hmx2 : max n 0 = 0 := by omega
        rw [hmx2, Int.add_zero] at hnx
        have hmx3 : max 0 n = 0 := by omega
        have d1 : decide (n < 0) = true := by rw [decide_eq_true_iff]; omega
        have d2 : n < 0 := by omega
        have hz2 : z + 0 = z := by omega
        go_wp2_with fail
        go_roundg (f.length - (k + 1))
        case measure => omega
        case rel => exact ⟨k + 1, z, by go_num, by omega, by first | rfl | simp [hmx2, hmx3], hnx, by repeat (first | assumption | refine Ext.alloc ?_ _)⟩
    · have hge : (f.length : Int) ≤ k := by omega
      have hzz := hz.out
      rw [List.take_of_length_le (by omega)] at hzz
      replace hzz := hide hzz
      go_wp2_with fail
      go_returns
      exact ⟨by rw [hzz.out]; rfl, hX⟩
set_option maxHeartbeats 4000000 in
set_option maxRecDepth 100000 in
theorem spans_c (f : List Jp) (v : Value) (w : World) (h : Jw w [] v f) : Calls Tryz.prog 12 #[v] w fun e w' => ∃ v', e = .returned (.tuple #[v', .int .i64 (spE f)]) ∧ OwnSp w' w.heap.size v' (spR f) ∧ Ext w w' := by
  have h1 := hide (fun w' (hX : Ext w w') => stepMay_c f v w' (Sl.ext h hX))
  have h2 := hide (fun w' (hX : Ext w w') => stepLeast_c f v w' (Sl.ext h hX))
  have h' := hide h
  obtain ⟨A, cap, rfl, -, -, -⟩ := jw_form h
  obtain ⟨E, hE⟩ : ∃ E, E = spE f := ⟨_, rfl⟩
  obtain ⟨R, hR⟩ : ∃ R, R = spR f := ⟨_, rfl⟩
  rw [← hE, ← hR]
  unfold spR at hR
  rw [← hE] at hR
  unfold spE at hE
  clear h
  cases ha : mayJ f
  · rw [ha, if_neg (by decide)] at hE
    rw [ha] at h1
    subst hE
    replace hR : R = [] := by rw [hR, if_neg (by decide)]
    subst hR
    go_enter Tryz.func12, Tryz.ntmps12
    go_wp2_with (go_at_call 34; (with_reducible refine seq_gw (h1.out _ (Ext.refl _)) ?_); intro g)
    go_returns
    exact ⟨_, rfl, World.ownsRow_nil _ _ _ _, g.grown⟩
  rw [ha, if_pos rfl] at hE
  rw [ha] at h1
  obtain ⟨z, hz⟩ : ∃ z, z = leV f := ⟨_, rfl⟩
  rw [← hz] at hE h2
  by_cases hn : z < 0
  · rw [if_pos hn] at hE
    subst hE
    replace hR : R = [] := by rw [hR, if_neg (by decide)]
    subst hR
    replace hz := hide hz
    go_enter Tryz.func12, Tryz.ntmps12
    go_wp2_with (first | (go_at_call 34; (with_reducible refine seq_gw (h1.out _ (Ext.refl _)) ?_); intro g) | (go_at_call 35; (with_reducible refine seq_gw' (h2.out _ g.grown) ?_); intro g2))
    go_returns
    exact ⟨_, rfl, World.ownsRow_nil _ _ _ _, g2.grown⟩
  rw [if_neg hn] at hE
  have h3 := hide (fun w' (hX : Ext w w') => count_c f ha (.slice A f.length cap) w' (Sl.ext h'.out hX))
  obtain ⟨c, hc⟩ : ∃ c, c = cntJ f := ⟨_, rfl⟩
  rw [← hc] at hE h3
  by_cases hb : 4096 < c
  · rw [if_pos hb] at hE
    subst hE
    replace hR : R = [] := by rw [hR, if_neg (by decide)]
    subst hR
    replace hz := hide hz
    replace hc := hide hc
    go_enter Tryz.func12, Tryz.ntmps12
    go_wp2_with (first | (go_at_call 34; (with_reducible refine seq_gw (h1.out _ (Ext.refl _)) ?_); intro g) | (go_at_call 35; (with_reducible refine seq_gw' (h2.out _ g.grown) ?_); intro g2) | (go_at_call 36; (with_reducible refine seq_gw' (h3.out _ g2.grown) ?_); intro g3))
    go_returns
    exact ⟨_, rfl, World.ownsRow_nil _ _ _ _, g3.grown⟩
  · rw [if_neg hb] at hE
    subst hE
    rw [if_pos rfl] at hR
    have h4 := hide (fun w' (hX : Ext w w') => lifetimes_c f ha (by omega) (by omega) (.slice A f.length cap) w' (Sl.ext h'.out hX))
    rw [← hR] at h4
    replace hz := hide hz
    replace hc := hide hc
    replace hR := hide hR
    go_enter Tryz.func12, Tryz.ntmps12
    go_wp2_with (first | (go_at_call 34; (with_reducible refine seq_gw (h1.out _ (Ext.refl _)) ?_); intro g) | (go_at_call 35; (with_reducible refine seq_gw' (h2.out _ g.grown) ?_); intro g2) | (go_at_call 36; (with_reducible refine seq_gw' (h3.out _ g2.grown) ?_); intro g3) | (go_at_call 37; refine (h4.out _ g3.grown).mono ?_; rintro ee w4 ⟨v4, rfl, ho4, hx4⟩))
    go_returns
    exact ⟨_, rfl, own_base ho4 g3.grown.size, g3.grown.trans hx4⟩
end Go.Proofs.YtgniebjigphcgaaGreat
set_option linter.unusedVariables false
set_option linter.unusedSimpArgs false
namespace Go.Proofs.YtgniebjigphcgaaGreat
open Go.RowKit
attribute [local go_sem] GW.cell GW.frozen In.eq_true In.le_true In.ne In.ne' In.ne_add In.ne_add' In.lt_add Upto.le_true Upto.le_add Upto.lt_add
/-- Two slices of one's own: one grows, the other stays; they share no block. -/
theorem two_grow {w w1 : World} {B e1 e2 s1 s2 n1 n2 : Nat} {vb ve v1 : Value} {xs ys : List Value} (hb : w.ownsRow B e1 s1 vb n1 xs) (he : w.ownsRow B e2 s2 ve n2 ys) (hd : ∀ g, vb.ownBlock = some g → ve.ownBlock ≠ some g) (hg : w.grownBy w1 vb.ownBlock)
    (hv : v1.ownBlock = vb.ownBlock ∨ v1.ownBlock = some w.heap.size) : w1.ownsRow B e2 s2 ve n2 ys ∧ ∀ g, v1.ownBlock = some g → ve.ownBlock ≠ some g := by
  refine ⟨own_keep he fun g h => hg.block g ?_ fun e => hd g e.symm h, fun g h1 h2 => ?_⟩
  · obtain ⟨cur, hh⟩ := own_heap he h; exact lt_of_block hh
  · rcases hv with hv | hv
    · exact hd g (hv ▸ h1) h2
    · rw [hv] at h1
      obtain rfl := Option.some.inj h1
      obtain ⟨cur, hh⟩ := own_heap he h2
      exact Nat.lt_irrefl _ (lt_of_block hh)
set_option maxHeartbeats 8000000 in
set_option maxRecDepth 100000 in
theorem refSpans_c (f : List Jp) (v : Value) (w : World) (h : Jw w [] v f) : Calls Tryz.prog 13 #[v] w fun e w' => ∃ v', e = .returned (.tuple #[v', .int .i64 (spE f)]) ∧ OwnSp w' w.heap.size v' (spR f) ∧ Ext w w' := by
  have h1 := hide (fun w' (hX : Ext w w') => refStepMay_c f v w' (Sl.ext h hX))
  have h2 := hide (fun w' (hX : Ext w w') => refStepLeast_c f v w' (Sl.ext h hX))
  obtain ⟨A, cap, rfl, hlc, hmx, hat⟩ := jw_form h
  unfold maxLen at hmx
  replace hat := hide hat
  obtain ⟨E, hE⟩ : ∃ E, E = spE f := ⟨_, rfl⟩
  obtain ⟨R, hR⟩ : ∃ R, R = spR f := ⟨_, rfl⟩
  rw [← hE, ← hR]
  unfold spR at hR
  rw [← hE] at hR
  unfold spE at hE
  clear h
  cases ha : mayJ f
  · rw [ha, if_neg (by decide)] at hE
    rw [ha] at h1
    subst hE
    replace hR : R = [] := by rw [hR, if_neg (by decide)]
    subst hR
    go_enter Tryz.func13, Tryz.ntmps13
    go_wp2_with (go_at_call 38; (with_reducible refine seq_gw (h1.out _ (Ext.refl _)) ?_); intro g)
    go_returns
    exact ⟨_, rfl, World.ownsRow_nil _ _ _ _, g.grown⟩
  rw [ha, if_pos rfl] at hE
  rw [ha] at h1
  obtain ⟨z, hz⟩ : ∃ z, z = leV f := ⟨_, rfl⟩
  rw [← hz] at hE h2
  by_cases hn : z < 0
  · rw [if_pos hn] at hE
    subst hE
    replace hR : R = [] := by rw [hR, if_neg (by decide)]
    subst hR
    replace hz := hide hz
    go_enter Tryz.func13, Tryz.ntmps13
    go_wp2_with (first | (go_at_call 38; (with_reducible refine seq_gw (h1.out _ (Ext.refl _)) ?_); intro g) | (go_at_call 39; (with_reducible refine seq_gw' (h2.out _ g.grown) ?_); intro g2))
    go_returns
    exact ⟨_, rfl, World.ownsRow_nil _ _ _ _, g2.grown⟩
  rw [if_neg hn] at hE
  have hf8 := mayJ_len ha
  have hok := hide (mayJ_iff.1 ha).2.1
  have hle := hide (fun k => cntJ_le (f := f.take k) (fun j hj => by
    have := (mayJ_iff.1 ha).2.1 j (List.mem_of_mem_take hj)
    unfold okJ at this
    rw [decide_eq_true_iff] at this
    omega))
  have hEb : Hid (4096 < cntJ f → E = 7 ∧ R = []) := fun hb => by
    rw [if_pos hb] at hE
    subst hE
    exact ⟨rfl, by rw [hR, if_neg (by decide)]⟩
  have hEo : Hid (¬ 4096 < cntJ f → E = 0 ∧ R = lifeL f) := fun hb => by
    rw [if_neg hb] at hE
    subst hE
    exact ⟨rfl, by rw [hR, if_pos rfl]⟩
  replace hz := hide hz
  clear hE hR
  have hlit := hide (fun (W : World) => World.ownsRow_lit (base := W.heap.size) (e := 3) (size := 1) W #[] 0 (Nat.le_refl _) (by decide) rfl)
  have hlitS := hide (fun (W : World) => World.ownsRow_lit (base := W.heap.size) (e := 30) (size := 2) W #[] 0 (Nat.le_refl _) (by decide) rfl)
  go_enter Tryz.func13, Tryz.ntmps13
  go_wp2_with (first | (go_at_call 38; (with_reducible refine seq_gw (h1.out _ (Ext.refl _)) ?_); intro g) | (go_at_call 39; (with_reducible refine seq_gw' (h2.out _ g.grown) ?_); intro g2))
  have hzg := g2.grown.size
  obtain ⟨W1, hW1⟩ : ∃ W1, W1 = g2.val := ⟨_, rfl⟩
  have hX1 := hide (hW1 ▸ g2.grown : Ext w W1)
  rw [← hW1] at hzg ⊢
  clear hW1
  obtain ⟨Wc, hWc⟩ : ∃ Wc, Wc = (W1.alloc (.cells #[] 3)).alloc (.cells #[] 3) := ⟨_, rfl⟩
  have hb0 : Wc.ownsRow w.heap.size 3 1 (.slice (some ⟨W1.heap.size, 0, none⟩) 0 0) 0 [] := by rw [hWc]; exact own_base (own_ext (hlit.out W1) ((Ext.refl _).alloc _)) hzg
  have he0 : Wc.ownsRow w.heap.size 3 1 (.slice (some ⟨W1.heap.size + 1, 0, none⟩) 0 0) 0 [] := by
    rw [hWc]
    have := hlit.out (W1.alloc (.cells #[] 3))
    rw [World.size_alloc] at this
    exact own_base this (by omega)
  have hXc := hide (show Ext w Wc by rw [hWc]; exact (hX1.out.alloc _).alloc _)
  rw [← hWc]
  replace hb0 := hide hb0
  replace he0 := hide he0
  clear hWc
  go_loopg [6, 7] f.length (fun gh s i wr => ∃ (k : Nat) (y : Int), i = .int .i64 k ∧ k + gh = f.length ∧ s = .int .i64 y ∧ Hid (y = cntJ (f.take k)) ∧ wr = Wc)
  case atStart => exact ⟨0, 0, rfl, by omega, rfl, rfl, rfl⟩
  case round =>
    obtain ⟨k, y, rfl, hk, rfl, hy, rfl⟩ := hrel
    by_cases hlt : k < f.length
    · obtain ⟨⟨a, n⟩, hx⟩ : ∃ x, f[k]? = some x := ⟨_, List.getElem?_eq_getElem hlt⟩
      obtain ⟨b, o, rfl, -, hb, c0, c1⟩ := hat.out k _ hx
      have k1 := jcell_later hXc.out c1
      have hbr : b < wr.heap.size := block_lt_of_cell k1
      simp only at k1
      have hokx := hok.out _ (List.mem_of_getElem? hx)
      unfold okJ at hokx
      rw [decide_eq_true_iff] at hokx
      simp only at hokx
      have hnx : Hid (y + max n 0 = cntJ (f.take (k + 1))) := by
        show _ = _
        rw [List.take_add_one, hx, Option.toList_some, cntJ_snoc, hy.out]
      have hz0 : 0 ≤ y := by rw [hy.out]; exact cntJ_pos _
      have hz1 : y ≤ 1073741824 := by
        have h1 := hle.out k
        have h2 : (f.take k).length ≤ 1024 := by rw [List.length_take]; omega
        rw [← hy.out] at h1
        omega
      have hn1 : n ≤ 1048576 := hokx.2.2.2.1
      have hn2 : -1048576 ≤ n := hokx.2.2.2.2
      haveI : In b wr := ⟨hbr⟩
      clear c0 c1 hx hokx
      by_cases hn0 : 0 < n
      · rw [show max n 0 = n by omega] at hnx
        go_wp2_with fail
        go_roundg (f.length - (k + 1))
        case measure => omega
        case rel => exact ⟨k + 1, y + n, by go_num, by omega, by first | rfl | go_num, hnx, rfl⟩
      · rw [show max n 0 = 0 by omega, Int.add_zero] at hnx
        go_wp2_with fail
        go_roundg (f.length - (k + 1))
        case measure => omega
        case rel => exact ⟨k + 1, y, by go_num, by omega, by first | rfl | go_num, hnx, rfl⟩
    · have hge : (f.length : Int) ≤ k := by omega
      have hyy := hy.out
      rw [List.take_of_length_le (by omega)] at hyy
      rw [← hyy] at hEb hEo
      by_cases hbig : 4096 < y
      · have hf := hide (hEb.out hbig)
        clear hEb hEo hyy
        go_wp2_with fail
        go_returns
        exact ⟨_, by rw [hf.out.1]; rfl, by rw [hf.out.2]; exact World.ownsRow_nil _ _ _ _, hXc.out⟩
      have hf := hide (hEo.out (by omega))
      have hbl : Hid ((begL f).length ≤ 4096) := by show _ ≤ _; unfold cntJ at hyy; omega
      have hpre := hide (fun j => pre_ends ha (by have := hz.out; omega) j)
      replace hyy := hide hyy
      clear hEb hEo hy
      go_wp2_with fail
      go_loopg [4, 5, 8] f.length (fun gh ub ue i wr2 => ∃ (k : Nat), i = .int .i64 k ∧ k + gh = f.length ∧ OwnZ wr2 w.heap.size ub (begL (f.take k)) ∧ OwnZ wr2 w.heap.size ue (endL (f.take k)) ∧ Hid (∀ g, ub.ownBlock = some g → ue.ownBlock ≠ some g) ∧ Ext w wr2)
      case atStart => exact ⟨0, rfl, by omega, hb0.out, he0.out, (by intro g hg hg2; simp [Value.ownBlock] at hg hg2; omega), hXc.out⟩
      case round =>
        clear hb0 he0
        clear hXc
        obtain ⟨k, rfl, hk, hb, he, hd, hX⟩ := hrel
        obtain ⟨wo, hwo⟩ : ∃ wo, wo = wr := ⟨_, rfl⟩
        subst hwo
        have hzX := hX.size
        have hbl2 := Nat.le_trans (begL_pre f k) hbl.out
        have hel2 := Nat.le_trans (hpre.out k) hbl2
        by_cases hlt2 : k < f.length
        · obtain ⟨⟨a, n⟩, hx⟩ : ∃ x, f[k]? = some x := ⟨_, List.getElem?_eq_getElem hlt2⟩
          obtain ⟨b, o, rfl, -, hbw, c0, c1⟩ := hat.out k _ hx
          have k0 := hide c0
          have k1 := hide c1
          simp only at k0 k1
          have hokx := hok.out _ (List.mem_of_getElem? hx)
          unfold okJ at hokx
          rw [decide_eq_true_iff] at hokx
          simp only at hokx
          have hn1 : n ≤ 1048576 := hokx.2.2.2.1
          have hn2 : -1048576 ≤ n := hokx.2.2.2.2
          have et : f.take (k + 1) = f.take k ++ [(a, n)] := by rw [List.take_add_one, hx]; rfl
          have hbs := begL_snoc (f.take k) (a, n)
          have hes := endL_snoc (f.take k) (a, n)
          rw [← et] at hbs hes
          simp only at hbs hes
          have hbl3 := Nat.le_trans (begL_pre f (k + 1)) hbl.out
          have hel3 := Nat.le_trans (hpre.out (k + 1)) hbl3
          rw [hbs, List.length_append, List.length_replicate] at hbl3
          rw [hes, List.length_append, List.length_replicate] at hel3
          have hnx := hide (And.intro hbs hes)
          obtain ⟨bl, hbl0⟩ : ∃ bl, bl = begL (f.take k) := ⟨_, rfl⟩
          obtain ⟨el, hel0⟩ : ∃ el, el = endL (f.take k) := ⟨_, rfl⟩
          rw [← hbl0] at hb hbl2 hbl3 hnx
          rw [← hel0] at he hel2 hel3 hnx
          obtain ⟨CE, ce, rfl⟩ := own_form he
          replace hb := hide hb
          replace he := hide he
          clear c0 c1 hx hokx et hbs hes hbl0 hel0
          go_wp2_with fail
          go_loopg [4, 9] n.toNat (fun gh ub2 i2 wr3 => ∃ (q : Nat), i2 = .int .i64 q ∧ q + gh = n.toNat ∧ OwnZ wr3 w.heap.size ub2 (bl ++ List.replicate q a) ∧ OwnZ wr3 w.heap.size (.slice CE el.length ce) el ∧ Hid (∀ g, ub2.ownBlock = some g → (Value.slice CE el.length ce).ownBlock ≠ some g) ∧ Ext w wr3)
          case atStart => exact ⟨0, rfl, by omega, by simpa using hb.out, he.out, hd, hX⟩
          case round =>
            clear hb he hd
            obtain ⟨q, rfl, hq, hb, he, hd, hX3⟩ := hrel
            obtain ⟨wp, hwp⟩ : ∃ wp, wp = wr := ⟨_, rfl⟩
            subst hwp
            have j0 := cell_later hX3 k0.out
            have j1 := cell_later hX3 k1.out
            have hbr : b < _ := block_lt_of_cell j0
            haveI : In b _ := ⟨hbr⟩
            have hz3 := hX3.size
            have hbq : (bl ++ List.replicate q a).length = bl.length + q := by rw [List.length_append, List.length_replicate]
            by_cases hqn : (q : Int) < n
            · obtain ⟨b2, hb2⟩ : ∃ b2, b2 = bl ++ List.replicate q a := ⟨_, rfl⟩
              rw [← hb2] at hb hbq
              have hb3 := hide (show b2 ++ [a] = bl ++ List.replicate (q + 1) a by rw [hb2, List.replicate_succ', List.append_assoc])
              obtain ⟨CB, cb, rfl⟩ := own_form hb
              replace hb := hide hb
              replace he := hide he
              clear hb2
              go_wp2_with (at_builtin; (refine wpl_app tZ rfl (.tmp 58) (.tmp 64) rfl rfl (own_ext hb.out ((Ext.refl _).alloc _)) rfl (src_one Tryz.underlying59 _ (.int .i64 a) _ rfl) (by unfold maxLen; omega) (by omega) (by simp; omega) ?_; intro v8 w8 ho8 hg8 hv8; have ht8 := two_grow (own_ext hb.out ((Ext.refl _).alloc (.cells #[.int .i64 a] 3))) (own_ext he.out ((Ext.refl _).alloc (.cells #[.int .i64 a] 3))) hd.out hg8 hv8; have hX8 := ext_grown (hX3.alloc (.cells #[.int .i64 a] 3)) hg8 (fun x hx => (hb.out.lt x hx).1)))
              go_roundg (n.toNat - (q + 1))
              case measure => omega
              case rel => exact ⟨q + 1, by go_num, by omega, by rw [← hb3.out]; exact own_appZ ho8, ht8.1, ht8.2, hX8⟩
            · have hq' : q = n.toNat := by omega
              rw [hq'] at hb
              obtain ⟨CB, cb, rfl⟩ := own_form hb
              obtain ⟨b2, hb2⟩ : ∃ b2, b2 = bl ++ List.replicate n.toNat a := ⟨_, rfl⟩
              rw [← hb2] at hb hd hnx ⊢
              have hb2l : b2.length ≤ 200000 := by rw [hb2, List.length_append, List.length_replicate]; omega
              replace hb2 := hide hb2
              replace hq' := hide hq'
              replace hb := hide hb
              replace he := hide he
              go_wp2_with fail
              go_loopg [5, 10] (-n).toNat (fun gh ue2 i2 wr3 => ∃ (q : Nat), i2 = .int .i64 q ∧ q + gh = (-n).toNat ∧ OwnZ wr3 w.heap.size ue2 (el ++ List.replicate q a) ∧ OwnZ wr3 w.heap.size (.slice CB b2.length cb) b2 ∧ Hid (∀ g, ue2.ownBlock = some g → (Value.slice CB b2.length cb).ownBlock ≠ some g) ∧ Ext w wr3)
              case atStart => exact ⟨0, rfl, by omega, by simpa using he.out, hb.out, (fun g h1 h2 => hd.out g h2 h1), hX3⟩
              case round =>
                clear hb he hd hX3 j0 j1 hbr hz3
                obtain ⟨q, rfl, hq, he, hb, hd, hX3⟩ := hrel
                obtain ⟨ws, hws⟩ : ∃ ws, ws = wr := ⟨_, rfl⟩
                subst hws
                have j0 := cell_later hX3 k0.out
                have j1 := cell_later hX3 k1.out
                have hbr : b < _ := block_lt_of_cell j0
                haveI : In b _ := ⟨hbr⟩
                have hz3 := hX3.size
                have heq2 : (el ++ List.replicate q a).length = el.length + q := by rw [List.length_append, List.length_replicate]
                by_cases hqn2 : (q : Int) < -n
                · obtain ⟨e2, he2⟩ : ∃ e2, e2 = el ++ List.replicate q a := ⟨_, rfl⟩
                  rw [← he2] at he heq2
                  have he3 := hide (show e2 ++ [a] = el ++ List.replicate (q + 1) a by rw [he2, List.replicate_succ', List.append_assoc])
                  obtain ⟨CF, cf, rfl⟩ := own_form he
                  replace hb := hide hb
                  replace he := hide he
                  clear he2
                  go_wp2_with (at_builtin; (refine wpl_app tZ rfl (.tmp 76) (.tmp 82) rfl rfl (own_ext he.out ((Ext.refl _).alloc _)) rfl (src_one Tryz.underlying59 _ (.int .i64 a) _ rfl) (by unfold maxLen; omega) (by omega) (by simp; omega) ?_; intro v8 w8 ho8 hg8 hv8; have ht8 := two_grow (own_ext he.out ((Ext.refl _).alloc (.cells #[.int .i64 a] 3))) (own_ext hb.out ((Ext.refl _).alloc (.cells #[.int .i64 a] 3))) hd.out hg8 hv8; have hX8 := ext_grown (hX3.alloc (.cells #[.int .i64 a] 3)) hg8 (fun x hx => (he.out.lt x hx).1)))
                  go_roundg ((-n).toNat - (q + 1))
                  case measure => omega
                  case rel => exact ⟨q + 1, by go_num, by omega, by rw [← he3.out]; exact own_appZ ho8, ht8.1, ht8.2, hX8⟩
                · have hq3 : q = (-n).toNat := by omega
                  rw [hq3] at he
                  obtain ⟨e2, he2⟩ : ∃ e2, e2 = el ++ List.replicate (-n).toNat a := ⟨_, rfl⟩
                  rw [← he2] at he hnx
                  obtain ⟨CF, cf, rfl⟩ := own_form he
                  replace he2 := hide he2
                  replace hq3 := hide hq3
                  replace hb := hide hb
                  replace he := hide he
                  go_wp2_with fail
                  go_roundg (f.length - (k + 1))
                  case measure => omega
                  case rel => exact ⟨k + 1, by go_num, by omega, by rw [hnx.out.1]; exact hb.out, by rw [hnx.out.2]; exact he.out, (fun g h1 h2 => hd.out g h2 h1), hX3⟩
        · have hge2 : (f.length : Int) ≤ k := by omega
          rw [List.take_of_length_le (by omega)] at hb he hbl2 hel2
          have hpl := hpre.out f.length
          rw [List.take_of_length_le (Nat.le_refl _)] at hpl
          have hbz := hide hbl.out
          obtain ⟨bl, hbl0⟩ : ∃ bl, bl = begL f := ⟨_, rfl⟩
          obtain ⟨el, hel0⟩ : ∃ el, el = endL f := ⟨_, rfl⟩
          have hRl : Hid (R = spL bl el) := by show _ = _; rw [hf.out.2, hbl0, hel0]; rfl
          rw [← hbl0] at hb hbl2 hpl
          rw [← hel0] at he hel2 hpl
          obtain ⟨CB, cb, rfl, hb1, hb2, hbt⟩ := zw_form (own_zw hb)
          obtain ⟨CE, ce, rfl, he1, he2, het⟩ := zw_form (own_zw he)
          unfold maxLen at hb2 he2
          have hl5 := hide (hlitS.out wo)
          replace hbt := hide hbt
          replace het := hide het
          clear hb he hbl0 hel0 hd
          go_wp2_with fail
          go_loopg [11, 12] bl.length (fun gh uo i wr5 => ∃ (q : Nat), i = .int .i64 q ∧ q + gh = bl.length ∧ OwnSp wr5 wo.heap.size uo ((spL bl el).take q) ∧ Ext wo wr5)
          case atStart => exact ⟨0, rfl, by omega, by rw [List.take_zero]; exact hl5.out, (Ext.refl wo).alloc _⟩
          case round =>
            clear hl5
            obtain ⟨q, rfl, hq, ho, hX5⟩ := hrel
            obtain ⟨wp, hwp⟩ : ∃ wp, wp = wr := ⟨_, rfl⟩
            subst hwp
            have hz5 := hX5.size
            have hsl := spL_length bl el
            by_cases hqn : q < bl.length
            · obtain ⟨x, hx⟩ : ∃ x, bl[q]? = some x := ⟨_, List.getElem?_eq_getElem hqn⟩
              obtain ⟨b, o, rfl, -, hbw, c0⟩ := hbt.out q x hx
              have k0 := cell_later hX5 c0
              have hbr : b < _ := block_lt_of_cell k0
              have hsp := spL_get bl el q x hx
              have htl : ((spL bl el).take q).length = q := by rw [List.length_take]; omega
              haveI : In b _ := ⟨hbr⟩
              by_cases hqe : q < el.length
              · obtain ⟨y, hy⟩ : ∃ y, el[q]? = some y := ⟨_, List.getElem?_eq_getElem hqe⟩
                obtain ⟨b2, o2, rfl, -, hbw2, d0⟩ := het.out q y hy
                have j0 := cell_later hX5 d0
                have hbr2 : b2 < _ := block_lt_of_cell j0
                haveI : In b2 _ := ⟨hbr2⟩
                rw [hy] at hsp
                have hnx := hide (show (spL bl el).take (q + 1) = (spL bl el).take q ++ [(x, y)] by rw [List.take_add_one, hsp]; rfl)
                obtain ⟨S, hS⟩ : ∃ S, S = (spL bl el).take q := ⟨_, rfl⟩
                rw [← hS] at ho htl hnx
                obtain ⟨CO, co, rfl⟩ := own_form ho
                replace ho := hide ho
                clear hx hy hsp c0 d0 hS hsl
                have hsrc := hide (show Src Tryz.prog 2 25 (.slice (some ⟨wp.heap.size + 1, 0, none⟩) 1 1) 1 (ps [(x, y)]) ((wp.alloc (.cells #[.int .i64 x, .int .i64 y] 30)).alloc (.cells #[.int .i64 x, .int .i64 y] 30)) from by
                  have := src_jmp (P := Tryz.prog) Tryz.underlying25 (wp.alloc (.cells #[.int .i64 x, .int .i64 y] 30)) (x, y) 30
                  rwa [World.size_alloc] at this)
                go_wp2_with (at_builtin; (refine wpl_app tSpn rfl (.tmp 105) (.tmp 107) rfl rfl (own_ext ho.out (((Ext.refl _).alloc _).alloc _)) rfl hsrc.out (by unfold maxLen; omega) (by omega) (by simp; omega) ?_; intro v8 w8 ho8 hg8 _; have hX8 := hide (ext_grown ((hX5.alloc (.cells #[.int .i64 x, .int .i64 y] 30)).alloc (.cells #[.int .i64 x, .int .i64 y] 30)) hg8 (fun q hq => (ho.out.lt q hq).1))))
                go_roundg (bl.length - (q + 1))
                case measure => omega
                case rel => exact ⟨q + 1, by go_num, by omega, by rw [hnx.out]; exact own_appS (m := [(x, y)]) ho8, hX8.out⟩
              · have hen : el[q]? = none := List.getElem?_eq_none (by omega)
                rw [hen] at hsp
                have hnx := hide (show (spL bl el).take (q + 1) = (spL bl el).take q ++ [(x, 1125899906842624)] by rw [List.take_add_one, hsp]; rfl)
                obtain ⟨S, hS⟩ : ∃ S, S = (spL bl el).take q := ⟨_, rfl⟩
                rw [← hS] at ho htl hnx
                obtain ⟨CO, co, rfl⟩ := own_form ho
                replace ho := hide ho
                clear hx hen hsp c0 hS hsl
                have hsrc := hide (show Src Tryz.prog 2 25 (.slice (some ⟨wp.heap.size + 1, 0, none⟩) 1 1) 1 (ps [(x, 1125899906842624)]) ((wp.alloc (.cells #[.int .i64 x, .int .i64 1125899906842624] 30)).alloc (.cells #[.int .i64 x, .int .i64 1125899906842624] 30)) from by
                  have := src_jmp (P := Tryz.prog) Tryz.underlying25 (wp.alloc (.cells #[.int .i64 x, .int .i64 1125899906842624] 30)) (x, 1125899906842624) 30
                  rwa [World.size_alloc] at this)
                go_wp2_with (at_builtin; (refine wpl_app tSpn rfl (.tmp 105) (.tmp 107) rfl rfl (own_ext ho.out (((Ext.refl _).alloc _).alloc _)) rfl hsrc.out (by unfold maxLen; omega) (by omega) (by simp; omega) ?_; intro v8 w8 ho8 hg8 _; have hX8 := hide (ext_grown ((hX5.alloc (.cells #[.int .i64 x, .int .i64 1125899906842624] 30)).alloc (.cells #[.int .i64 x, .int .i64 1125899906842624] 30)) hg8 (fun q hq => (ho.out.lt q hq).1))))
                go_roundg (bl.length - (q + 1))
                case measure => omega
                case rel => exact ⟨q + 1, by go_num, by omega, by rw [hnx.out]; exact own_appS (m := [(x, 1125899906842624)]) ho8, hX8.out⟩
            · have hge5 : (bl.length : Int) ≤ q := by omega
              rw [List.take_of_length_le (by omega), ← hRl.out] at ho
              obtain ⟨CO, co, rfl⟩ := own_form ho
              replace ho := hide ho
              go_wp2_with fail
              go_returns
              exact ⟨_, by rw [hf.out.1]; rfl, own_base ho.out hX.size, hX.trans hX5⟩
end Go.Proofs.YtgniebjigphcgaaGreat
