/-
  A helper of ours: no claim of its own. Layer 14 (past): one event's pointer inserted, by the library's Insert.
-/
import Derived.Test.YtajelkkiijdegaaGreatPasA
import Derived.Lib.AppendZerosOnto
import Derived.Lib.Overlaps
import Derived.Laws.Externs
import Derived.Shelf.Spec.SlicesInsertGrow
set_option linter.unusedVariables false
set_option linter.unusedSimpArgs false
namespace Go.Proofs.YtajelkkiijdegaaGreat
open Go.RowKit Go.Shelf Go.Lib
attribute [local go_sem] GW.cell GW.frozen In.eq_true In.le_true In.ne In.ne' In.ne_add In.ne_add' In.lt_add Upto.le_true Upto.le_add Upto.lt_add
abbrev pp (b : Nat) : Value := .pointer (some ⟨b, 0, none⟩)
def tg1 (l : List Nat) : List Value := l.map pp
theorem tg1_length (l : List Nat) : (tg1 l).length = l.length := by simp [tg1]
theorem tg1_take (l : List Nat) (k : Nat) : (tg1 l).take k = tg1 (l.take k) := by simp [tg1, List.map_take]
theorem tg1_drop (l : List Nat) (k : Nat) : (tg1 l).drop k = tg1 (l.drop k) := by simp [tg1, List.map_drop]
theorem tg1_app (a b : List Nat) : tg1 (a ++ b) = tg1 a ++ tg1 b := by simp [tg1]
theorem tg1_one (l : List Nat) : ∀ u ∈ tg1 l, u.oneCell' = true := by
  intro u hu
  unfold tg1 at hu
  obtain ⟨x, _, rfl⟩ := List.mem_map.1 hu
  rfl
theorem tPev : ElemT Tryz.prog 89 103 (.pointer none) 1 8 := ElemT.mk' Tryz.underlying89 (by kernel_rfl) rfl (by omega)
theorem pmrun_clear {P : Program} (w : World) (t e ty : TypeId) (z : Value) (zs : List Value) (ht : P.underlying t = some (.slice e)) (hv : ∀ w, (zeroValue e).run P w = .ok z w) (b o n c : Nat) (hn : 0 < n) (hz : (Builtin.zeroCells z.cells n).toList = zs) (h1 : ∀ v ∈ zs, v.oneCell' = true)
    (hc : ∀ j, j < zs.length → (w.cell? ⟨b, o + j, none⟩).isSome = true) (hf : ∀ j, j < zs.length → w.frozen? ⟨b, o + j, none⟩ = false) :
    (Builtin.clear_ #[t] ty #[.slice (some ⟨b, o, none⟩) n c]).run P w = .ok (.tuple #[]) (w.setCells b o zs) := by
  have hst := run_storeCells_cells (P := P) b o zs 0 w (by simpa using hc) (by simpa using hf) h1
  simp only [Nat.add_zero] at hst
  obtain ⟨m, rfl⟩ : ∃ m, n = m + 1 := ⟨n - 1, by omega⟩
  simp [Builtin.clear_, run_underlying ht, hv, hz, hst]
theorem pmown_take {w : World} {B e : Nat} {g n i cap size : Nat} {xs : List Value} (h : w.ownsRow B e size (.slice (some ⟨g, 0, none⟩) n cap) n xs) (hi : i ≤ n) : w.ownsRow B e size (.slice (some ⟨g, 0, none⟩) i cap) i (xs.take (i * size)) := by
  rcases h.2 with ⟨h', _⟩ | ⟨g', cap', cur, h', hb, hg, hnc, hcm, hcs, htake⟩
  · simp at h'
  · simp only [Value.slice.injEq, Option.some.injEq, Addr.mk.injEq, and_true, true_and] at h'
    obtain ⟨rfl, rfl⟩ := h'
    have hm : i * size ≤ n * size := Nat.mul_le_mul_right _ hi
    refine ⟨by rw [List.length_take, h.1, Nat.min_eq_left hm], .inr ⟨g, cap, cur, rfl, hb, hg, by omega, hcm, hcs, ?_⟩⟩
    rw [← htake, List.take_take, Nat.min_eq_left hm]
def psets {α : Type} : List α → Nat → List α → List α
  | xs, _, [] => xs
  | xs, o, v :: r => psets (xs.set o v) (o + 1) r
theorem psets_get {α : Type} : ∀ (vs : List α) (xs : List α) (o i : Nat), (psets xs o vs)[i]? = if o ≤ i ∧ i < o + vs.length ∧ i < xs.length then vs[i - o]? else xs[i]?
  | [], xs, o, i => by rw [psets, if_neg]; simp; omega
  | v :: r, xs, o, i => by
    rw [psets, psets_get r (xs.set o v) (o + 1) i, List.length_set, List.getElem?_set]
    by_cases h0 : o = i
    · subst h0
      rw [if_neg (by omega), if_pos rfl]
      by_cases h1 : o < xs.length
      · rw [if_pos h1, if_pos ⟨Nat.le_refl _, by simp, h1⟩]; simp
      · rw [if_neg h1, if_neg (by omega), List.getElem?_eq_none (by omega)]
    · rw [if_neg h0]
      by_cases h1 : o + 1 ≤ i ∧ i < o + 1 + r.length ∧ i < xs.length
      · rw [if_pos h1, if_pos ⟨by omega, by simp; omega, h1.2.2⟩]
        obtain ⟨d, rfl⟩ : ∃ d, i = o + 1 + d := ⟨i - (o + 1), by omega⟩
        rw [show o + 1 + d - (o + 1) = d by omega, show o + 1 + d - o = d + 1 by omega, List.getElem?_cons_succ]
      · rw [if_neg h1, if_neg (by simp; omega)]
theorem psets_length {α : Type} : ∀ (vs : List α) (xs : List α) (o : Nat), (psets xs o vs).length = xs.length
  | [], _, _ => rfl
  | v :: r, xs, o => by rw [psets, psets_length r, List.length_set]
theorem pown_sets {B e : Nat} {g n cap size : Nat} : ∀ (vs : List Value) (o : Nat) (xs : List Value) (w : World), w.ownsRow B e size (.slice (some ⟨g, 0, none⟩) n cap) n xs → (w.setCells g o vs).ownsRow B e size (.slice (some ⟨g, 0, none⟩) n cap) n (psets xs o vs)
  | [], _, _, _, h => h
  | v :: r, o, xs, w, h => pown_sets r (o + 1) _ _ (World.ownsRow.stored h o v).1
theorem pfr_setCells {S : List Nat} {W : World} {g : Nat} (hg : g ∈ S) : ∀ (vs : List Value) (o : Nat) (w : World), Fr S W w → Fr S W (w.setCells g o vs)
  | [], _, _, h => h
  | v :: r, o, w, h => pfr_setCells hg r (o + 1) _ (h.setCell _ v (.inl hg))
theorem psrc_thing (w : World) (xb : Nat) (k : Nat) (hx : Ob w xb 103 [pp k]) : Src Tryz.prog 1 89 (.slice (some ⟨xb, 0, none⟩) 1 1) 1 [pp k] w := by
  have x0 := hx.cell 0 rfl
  refine Src.ofSlice w Tryz.underlying89 ⟨xb, 0, none⟩ 1 1 _ rfl (fun j u hj => ?_) (fun v hv => ?_)
  · rw [add_plain, Nat.zero_add]
    match j, hj with
    | 0, hj => cases hj; exact x0
    | j + 1, hj => simp at hj
  · simp at hv
    subst hv; rfl
theorem pown_from {S : List Nat} {a b : Option Nat} {n : Nat} (hk : b = a ∨ b = some n) (hS : ∀ x, a = some x → x ∈ S) : ∀ x, b = some x → x ∈ S ∨ n ≤ x := by
  intro x hx
  rcases hk with e | e
  · exact .inl (hS x (e ▸ hx))
  · rw [e] at hx; cases hx; exact .inr (Nat.le_refl _)
theorem pfr_grown {S : List Nat} {w w' : World} {row : Option Nat} (h : w.grownBy w' row) (hr : ∀ k, row = some k → k ∈ S) : Fr S w w' := (Fr.refl S w).grown h fun k hk => .inl (hr k hk)
set_option maxHeartbeats 4000000 in
set_option maxRecDepth 100000 in
/-- Behind the last one. -/
theorem pminsert_end (base xb : Nat) (k : Nat) (v : Value) (l : List Nat) (w : World) (h : w.ownsRow base 103 1 v l.length (tg1 l)) (hbase : base ≤ w.heap.size) (hn : l.length ≤ 1048576)
    (hx : Ob w xb 103 [pp k]) (S : List Nat) (hS : ∀ b, v.ownBlock = some b → b ∈ S) :
    Calls Tryz.prog 153 #[v, .int .i64 (l.length : Nat), .slice (some ⟨xb, 0, none⟩) 1 1] w fun e w' =>
      ∃ v', e = .returned v' ∧ w'.ownsRow base 103 1 v' (l.length + 1) (tg1 (l ++ [k])) ∧ Fr S w w' ∧ ∀ b, v'.ownBlock = some b → b ∈ S ∨ w.heap.size ≤ b := by
  have hsrc := hide (psrc_thing w xb k hx)
  have htg : tg1 (l ++ [k]) = tg1 l ++ [pp k] := by rw [tg1_app]; rfl
  rw [htg]
  have hm : l.length + 1 ≤ maxLen := by unfold maxLen; omega
  have hby : (l.length + 1) * 8 ≤ 140737488355328 := by omega
  obtain ⟨A, cap, rfl⟩ := own_form h
  have hform : (A = none ∧ l.length = 0 ∧ cap = 0) ∨ ∃ g, A = some ⟨g, 0, none⟩ ∧ l.length ≤ cap ∧ cap ≤ 9223372036854775807 := by
    rcases h.2 with ⟨h', h0⟩ | ⟨g', cap', cur, h', hb, hg, hnc, hcm, hcs, htake⟩
    · simp at h'; exact .inl ⟨h'.1, h0, h'.2.2⟩
    · simp only [Value.slice.injEq] at h'
      obtain ⟨rfl, _, rfl⟩ := h'
      unfold maxLen at hcm
      exact .inr ⟨g', rfl, hnc, by omega⟩
  have hOwn := hide h
  have hSh := hide hS
  clear h hS htg hx
  obtain ⟨n, hnl⟩ : ∃ n, n = l.length := ⟨_, rfl⟩
  obtain ⟨xs, hxs⟩ : ∃ xs, xs = tg1 l := ⟨_, rfl⟩
  rw [← hxs] at hOwn ⊢
  rw [← hnl] at hOwn hm hby hform hn ⊢
  clear hxs hnl
  rcases hform with ⟨rfl, rfl, rfl⟩ | ⟨g, rfl, hc1, hc2⟩
  · go_enter Tryz.func153, Tryz.ntmps153
    go_wp2_with (at_builtin; refine wpl_app tPev rfl (.tmp 23) (.tmp 24) rfl rfl hOwn.out rfl hsrc.out hm hby hbase ?_; intro v' w' ho hg hk)
    go_returns
    exact ⟨_, rfl, ho, pfr_grown hg hSh.out, pown_from hk hSh.out⟩
  · have hnI : (n : Int) ≤ 1048576 := by omega
    go_enter Tryz.func153, Tryz.ntmps153
    go_wp2_with (at_builtin; refine wpl_app tPev rfl (.tmp 23) (.tmp 24) rfl rfl hOwn.out rfl hsrc.out hm hby hbase ?_; intro v' w' ho hg hk)
    all_goals (go_returns; exact ⟨_, rfl, ho, pfr_grown hg hSh.out, pown_from hk hSh.out⟩)
theorem pmrun_copy {P : Program} (w : World) (dT sT ty elem : TypeId) (size b o dLen dCap : Nat) (a : Addr) (sLen sCap : Nat) (cs : List Value)
    (hu : P.underlying dT = some (.slice elem)) (hs : (P.info? elem).map (·.size) = some size) (hn : cs.length = Nat.min sLen dLen * size)
    (hsrc : ∀ j v, cs[j]? = some v → w.cell? (a.add j) = some v) (hc : ∀ j, j < cs.length → (w.cell? ⟨b, o + j, none⟩).isSome = true) (hf : ∀ j, j < cs.length → w.frozen? ⟨b, o + j, none⟩ = false) (h1 : ∀ v ∈ cs, v.oneCell' = true) :
    (Builtin.copy_ #[dT, sT] ty #[.slice (some ⟨b, o, none⟩) dLen dCap, .slice (some a) sLen sCap]).run P w = .ok (goInt (Nat.min sLen dLen)) (w.setCells b o cs) := by
  have hl := run_loadCells_list (P := P) w a cs hsrc
  have hst := run_storeCells_cells (P := P) b o cs 0 w (by simpa using hc) (by simpa using hf) h1
  cases hq : P.info? elem with
  | none => simp [hq] at hs
  | some i =>
    have hi : i.size = size := by simpa [hq] using hs
    have hn' : Nat.min sLen dLen * size = cs.length := hn.symm
    simp [Builtin.copy_, run_underlying hu, Builtin.lenOf, Builtin.firstCells, sizeOf, typeInfo, hq, hi, hn', hl, hst]
theorem pmown_more {w : World} {B e : Nat} {g n cap size : Nat} {xs : List Value} (h : w.ownsRow B e size (.slice (some ⟨g, 0, none⟩) n cap) n xs) (hr : n + 1 ≤ cap) :
    ∃ xs', xs'.length = (n + 1) * size ∧ xs'.take (n * size) = xs ∧ w.ownsRow B e size (.slice (some ⟨g, 0, none⟩) (n + 1) cap) (n + 1) xs' := by
  rcases h.2 with ⟨h', _⟩ | ⟨g', cap', cur, h', hb, hg, hnc, hcm, hcs, htake⟩
  · simp at h'
  · simp only [Value.slice.injEq, Option.some.injEq, Addr.mk.injEq, and_true, true_and] at h'
    obtain ⟨rfl, rfl⟩ := h'
    have hle : (n + 1) * size ≤ cap * size := Nat.mul_le_mul_right _ hr
    have hle2 : n * size ≤ (n + 1) * size := Nat.mul_le_mul_right _ (by omega)
    have hl : (cur.toList.take ((n + 1) * size)).length = (n + 1) * size := by rw [List.length_take, Array.length_toList, hcs]; omega
    exact ⟨cur.toList.take ((n + 1) * size), hl, by rw [List.take_take, Nat.min_eq_left hle2]; exact htake, hl, .inr ⟨g, cap, cur, rfl, hb, hg, hr, hcm, hcs, rfl⟩⟩
/-- What is from a place on moved one to the right, and one laid there. -/
theorem psets_ins (l : List Nat) (p : Nat) (k : Nat) (hp : p < l.length) (xs : List Value) (hx : xs.length = (l.length + 1)) (ht : xs.take (l.length) = tg1 l) :
    psets (psets xs ((p + 1)) (tg1 (l.drop p))) (p) [pp k] = tg1 (l.take p ++ k :: l.drop p) := by
  have hd : (tg1 (l.drop p)).length = (l.length - p) := by rw [tg1_length, List.length_drop]
  have ht' : (tg1 (l.take p)).length = p := by rw [tg1_length, List.length_take, Nat.min_eq_left (by omega)]
  have hc : tg1 (k :: l.drop p) = [pp k] ++ tg1 (l.drop p) := rfl
  apply List.ext_getElem?
  intro i
  rw [psets_get, psets_get, psets_length, tg1_app, List.getElem?_append, ht', hd, hx, ← tg1_take, ← ht, hc]
  simp only [List.length_cons, List.length_nil]
  by_cases h1 : i < p
  · rw [if_neg (by omega), if_neg (by omega), if_pos h1, List.getElem?_take, if_pos h1, List.getElem?_take, if_pos (by omega)]
  · rw [if_neg h1]
    by_cases h2 : i < (p + 1)
    · rw [if_pos (by omega), List.getElem?_append_left (by simp; omega)]
    · rw [if_neg (by omega), List.getElem?_append_right (by simp; omega)]
      by_cases h3 : i < (l.length + 1)
      · rw [if_pos (by omega)]
        first | (congr 1; done) | (congr 1; simp; done) | (congr 1; simp; omega)
      · rw [if_neg (by omega), List.getElem?_eq_none (by omega), List.getElem?_eq_none (by rw [hd]; simp; omega)]
theorem pshape_ob {w : World} {b : Nat} {T : TypeId} {vs : List Value} (h : Ob w b T vs) : w.shape? b = some (T, vs.length) := by
  unfold World.shape?
  rw [show w.heap[b]? = some (.cells vs.toArray T (0, 0)) from h]
  simp
theorem pshape_own {w : World} {B e : Nat} {g n cap size : Nat} {xs : List Value} (h : w.ownsRow B e size (.slice (some ⟨g, 0, none⟩) n cap) n xs) : ∃ k, w.shape? g = some (e, k) ∧ k = cap * size := by
  rcases h.2 with ⟨h', _⟩ | ⟨g', cap', cur, h', hb, hg, hnc, hcm, hcs, htake⟩
  · simp at h'
  · simp only [Value.slice.injEq, Option.some.injEq, Addr.mk.injEq, and_true, true_and] at h'
    obtain ⟨rfl, rfl⟩ := h'
    refine ⟨cur.size, ?_, hcs⟩
    unfold World.shape?
    rw [hg]
set_option maxHeartbeats 8000000 in
set_option maxRecDepth 1000000 in
/-- Ahead of another, where there is room: in place. -/
theorem pminsert_room (base g cap xb p : Nat) (k : Nat) (l : List Nat) (w : World) (h : w.ownsRow base 103 1 (.slice (some ⟨g, 0, none⟩) l.length cap) l.length (tg1 l)) (hn : l.length ≤ 1048576) (hp : p < l.length) (hr : l.length + 1 ≤ cap)
    (hx : Ob w xb 103 [pp k]) (hxg : xb ≠ g) :
    Calls Tryz.prog 153 #[.slice (some ⟨g, 0, none⟩) l.length cap, .int .i64 p, .slice (some ⟨xb, 0, none⟩) 1 1] w fun e w' =>
      e = .returned (.slice (some ⟨g, 0, none⟩) (l.length + 1) cap) ∧ w'.ownsRow base 103 1 (.slice (some ⟨g, 0, none⟩) (l.length + 1) cap) (l.length + 1) (tg1 (l.take p ++ k :: l.drop p)) ∧ Fr [g] w w' := by
  have hc2 : cap ≤ 9223372036854775807 := by
    rcases h.2 with ⟨h', _⟩ | ⟨g', cap', cur, h', hb, hg, hnc, hcm, hcs, htake⟩
    · simp at h'
    · simp only [Value.slice.injEq] at h'
      obtain ⟨_, _, rfl⟩ := h'
      unfold maxLen at hcm
      omega
  obtain ⟨xs', hxl, hxt, hO⟩ := pmown_more h hr
  rw [Nat.mul_one] at hxl hxt
  obtain ⟨kB, hsb, hkB⟩ := pshape_own h
  have hsa := pshape_ob hx
  have x0 := hx.cell 0 rfl
  have hfa := hx.free 0
  have hfe := hx.free 1
  have hgl := (World.ownsRow.lt h g rfl).2
  have hxw := hx.lt
  have hcell := World.ownsRow.cellAt h
  have hcellO := World.ownsRow.cellAt hO
  have hfrO := World.ownsRow.frozenAt hO
  have hins := psets_ins l p k hp xs' hxl hxt
  obtain ⟨n, hnl⟩ : ∃ n, n = l.length := ⟨_, rfl⟩
  obtain ⟨cs, hcs⟩ : ∃ cs, cs = tg1 (l.drop p) := ⟨_, rfl⟩
  have hcl : cs.length = (n - p) := by rw [hcs, tg1_length, List.length_drop, hnl]
  rw [← hcs] at hins
  rw [← hnl] at h hO hp hr hn hxl hcell hcellO ⊢
  have hget : ∀ j v, cs[j]? = some v → w.cell? ⟨g, p + j, none⟩ = some v := by
    intro j v hj
    have hjl := (List.getElem?_eq_some_iff.1 hj).1
    rw [hcell _ (by omega)]
    rwa [hcs, ← tg1_drop, List.getElem?_drop] at hj
  have hone1 : ∀ v ∈ cs, v.oneCell' = true := by rw [hcs]; exact tg1_one _
  have hz2 : ¬ ((p : Int) = (n : Int)) := by omega
  have hsz : (Tryz.prog.info? 103).map (·.size) = some 1 := by
    obtain ⟨i0, hi0, _, h1, _⟩ := tPev.info
    rw [hi0]; simp [h1]
  have hov : ∀ lb cb, (callFunc 204 #[.slice (some ⟨xb, 0, none⟩) 1 1, .slice (some ⟨g, (p + 1), none⟩) lb cb]).run Tryz.prog w = .ok (.value (.bool false)) w := fun lb cb => by
    rw [run_callFunc_extern Tryz.func204 (by kernel_rfl) (by kernel_rfl) (by kernel_rfl) (e := Extern.SlicesOverlaps.overlaps #[89, 89] #[4]) (by kernel_rfl),
      Lib.run_overlaps_apart w 89 4 103 Tryz.underlying89 1 Tryz.sizeOf103 ⟨xb, 0, none⟩ ⟨g, (p + 1), none⟩ 1 1 lb cb hxg _ _ _ kB hsa hsb (by omega) hfa hfe]
    rfl
  have hcp1 : ∀ ty dc sc, (Builtin.copy_ #[89, 89] ty #[.slice (some ⟨g, (p + 1), none⟩) (n - p) dc, .slice (some ⟨g, p, none⟩) (n + 1 - p) sc]).run Tryz.prog w.drew = .ok (goInt (Nat.min (n + 1 - p) (n - p))) (w.drew.setCells g ((p + 1)) cs) := fun ty dc sc =>
    pmrun_copy w.drew _ _ ty 103 1 g ((p + 1)) (n - p) dc ⟨g, p, none⟩ (n + 1 - p) sc cs Tryz.underlying89 hsz (by rw [hcl]; simp only [Nat.min_def]; split <;> omega)
      (fun j v hj => by rw [add_plain]; exact hget j v hj)
      (fun j hj => by
        show (w.cell? _).isSome = true
        rw [hcellO _ (by omega), List.getElem?_eq_getElem (by omega)]; rfl) (fun j hj => hfrO _) hone1
  obtain ⟨W1, hW1⟩ : ∃ W1, W1 = w.drew.setCells g ((p + 1)) cs := ⟨_, rfl⟩
  have hO1 : W1.ownsRow base 103 1 (.slice (some ⟨g, 0, none⟩) (n + 1) cap) (n + 1) (psets xs' ((p + 1)) cs) := by
    rw [hW1]
    have hD : w.drew.ownsRow base 103 1 (.slice (some ⟨g, 0, none⟩) (n + 1) cap) (n + 1) xs' := hO
    exact pown_sets _ _ _ _ hD
  have hF1 : Fr [g] w W1 := by rw [hW1]; exact pfr_setCells (by simp) _ _ _ (Fr.refl _ w).drew
  have hx1 := hx.fr hF1 (by simpa using hxg)
  have y0 := hx1.cell 0 rfl
  have hcell1 := World.ownsRow.cellAt hO1
  have hfr1 := World.ownsRow.frozenAt hO1
  obtain ⟨W2, hW2⟩ : ∃ W2, W2 = W1.setCells g (p) [pp k] := ⟨_, rfl⟩
  have hcp2 : ∀ ty dc, (Builtin.copy_ #[89, 89] ty #[.slice (some ⟨g, p, none⟩) (n + 1 - p) dc, .slice (some ⟨xb, 0, none⟩) 1 1]).run Tryz.prog W1 = .ok (goInt (Nat.min 1 (n + 1 - p))) W2 := fun ty dc => by
    rw [hW2]
    refine pmrun_copy W1 _ _ ty 103 1 g (p) (n + 1 - p) dc ⟨xb, 0, none⟩ 1 1 [pp k] Tryz.underlying89 hsz (by simp only [Nat.min_def, List.length_cons, List.length_nil]; split <;> omega)
      (fun j v hj => ?_) (fun j hj => ?_) (fun j hj => hfr1 _) (fun v hv => by simp at hv; subst hv; rfl)
    · rw [add_plain, Nat.zero_add]
      match j, hj with
      | 0, hj => cases hj; exact y0
      | j + 1, hj => simp at hj
    · simp only [List.length_cons, List.length_nil] at hj
      rw [hcell1 _ (by omega), List.getElem?_eq_getElem (by rw [psets_length]; omega)]; rfl
  have hO2 : Hid (W2.ownsRow base 103 1 (.slice (some ⟨g, 0, none⟩) (n + 1) cap) (n + 1) (tg1 (l.take p ++ k :: l.drop p))) := by
    show W2.ownsRow _ _ _ _ _ _
    rw [hW2, ← hins]
    exact pown_sets _ _ _ _ hO1
  have hF2 : Hid (Fr [g] w W2) := by rw [hW2]; exact pfr_setCells (by simp) _ _ _ hF1
  rw [← hW1] at hcp1
  replace hW1 := hide hW1
  replace hW2 := hide hW2
  have mixed : Tryz.prog.follows .mixedOrders = true := by kernel_rfl
  have hb1 : (0 : Int) ≤ (p : Int) + 1 := by omega
  have hin : p ≤ n := by omega
  have htn : ((p : Int) + 1).toNat = p + 1 := by omega
  have hb2 : ¬ (cap = p + 1) := by omega
  have hb3 : (p : Int) ≤ (n : Int) + 1 := by omega
  have hb4 : ¬ (cap = p) := by omega
  have hpn : p + 1 ≤ n + 1 := by omega
  have hnc : n ≤ cap := by omega
  have hw1 : IntKind.i64.wrap ((p : Int) + 1) = (p : Int) + 1 := by rw [IntKind.wrap_i64]; omega
  have hb5 : (p : Int) + 1 ≤ (n : Int) + 1 := by omega
  have hg1 : ¬ ((cap : Int) < (n : Int) + 1) := by omega
  clear h hO hcell hcellO hfrO hget hone1 hO1 hF1 hx1 y0 hcell1 hfr1 x0 hfa hfe hsa hsb hx hins hcs hxt hxl hkB hnl hcl
  haveI : In g w := ⟨hgl⟩
  go_enter Tryz.func153, Tryz.ntmps153
  go_wp2_with (simp only [hov])
  go_region_law_o (refine step_copy_runI rfl _ _ 89 89 rfl _ _ (by simp [Act.eval, Act.put]) (by simp [Act.eval, Act.put]) (hcp1 _ _ _) ?_)
  go_wp2_with (at_builtin; refine wpList_copy_runI _ rfl _ _ 89 89 rfl _ _ rfl rfl (hcp2 _ _) ?_)
  go_returns
  exact ⟨rfl, hO2.out, hF2.out⟩
theorem pmext_setCells {W : World} {g : Nat} (hg : W.heap.size ≤ g) : ∀ (vs : List Value) (o : Nat) (w : World), Ext W w → Ext W (w.setCells g o vs)
  | [], _, _, h => h
  | v :: r, o, w, h => pmext_setCells hg r (o + 1) _ (h.setCell hg v)
theorem psets_ins2 (l : List Nat) (p : Nat) (k : Nat) (hp : p < l.length) (xs : List Value) (hx : xs.length = (l.length + 1)) (ht : xs.take (p) = tg1 (l.take p)) :
    psets (psets xs (p) [pp k]) ((p + 1)) (tg1 (l.drop p)) = tg1 (l.take p ++ k :: l.drop p) := by
  have hd : (tg1 (l.drop p)).length = (l.length - p) := by rw [tg1_length, List.length_drop]
  have ht' : (tg1 (l.take p)).length = p := by rw [tg1_length, List.length_take, Nat.min_eq_left (by omega)]
  have hc : tg1 (k :: l.drop p) = [pp k] ++ tg1 (l.drop p) := rfl
  apply List.ext_getElem?
  intro i
  rw [psets_get, psets_get, psets_length, tg1_app, List.getElem?_append, ht', hd, hx, ← ht, hc]
  simp only [List.length_cons, List.length_nil]
  by_cases h1 : i < p
  · rw [if_neg (by omega), if_neg (by omega), if_pos h1, List.getElem?_take, if_pos h1]
  · rw [if_neg h1]
    by_cases h2 : i < (p + 1)
    · rw [if_neg (by omega), if_pos (by omega), List.getElem?_append_left (by simp; omega)]
    · rw [List.getElem?_append_right (by simp; omega)]
      by_cases h3 : i < (l.length + 1)
      · rw [if_pos (by omega)]
        first | (congr 1; done) | (congr 1; simp; done) | (congr 1; simp; omega)
      · rw [if_neg (by omega), if_neg (by omega), List.getElem?_eq_none (by omega), List.getElem?_eq_none (by rw [hd]; simp; omega)]
set_option maxHeartbeats 8000000 in
set_option maxRecDepth 1000000 in
theorem pminsert_grow (base g cap xb p : Nat) (k : Nat) (l : List Nat) (w : World) (h : w.ownsRow base 103 1 (.slice (some ⟨g, 0, none⟩) l.length cap) l.length (tg1 l)) (hbase : base ≤ w.heap.size) (hn : l.length ≤ 1048576) (hp : p < l.length) (hr : cap < l.length + 1)
    (hx : Ob w xb 103 [pp k]) :
    Calls Tryz.prog 153 #[.slice (some ⟨g, 0, none⟩) l.length cap, .int .i64 p, .slice (some ⟨xb, 0, none⟩) 1 1] w fun e w' =>
      ∃ v', e = .returned v' ∧ w'.ownsRow base 103 1 v' (l.length + 1) (tg1 (l.take p ++ k :: l.drop p)) ∧ Ext w w' ∧ v'.ownBlock = some w.heap.size := by
  have hc2 : l.length ≤ cap := by
    rcases h.2 with ⟨h', _⟩ | ⟨g', cap', cur, h', hb, hg, hnc, hcm, hcs, htake⟩
    · simp at h'
    · simp only [Value.slice.injEq] at h'
      obtain ⟨_, _, rfl⟩ := h'
      exact hnc
  obtain ⟨i0, hi0, hz0, hzs, hzb⟩ := tPev.info
  have x0 := hx.cell 0 rfl
  have hgl := (World.ownsRow.lt h g rfl).2
  have hxw := hx.lt
  have hcell := World.ownsRow.cellAt h
  obtain ⟨n, hnl⟩ : ∃ n, n = l.length := ⟨_, rfl⟩
  obtain ⟨cs, hcs⟩ : ∃ cs, cs = tg1 (l.drop p) := ⟨_, rfl⟩
  obtain ⟨ah, hah⟩ : ∃ ah, ah = tg1 (l.take p) := ⟨_, rfl⟩
  have hcl : cs.length = (n - p) := by rw [hcs, tg1_length, List.length_drop, hnl]
  have hal : ah.length = p := by rw [hah, tg1_length, List.length_take, Nat.min_eq_left (by omega)]
  have hins := fun xs hx' ht' => psets_ins2 l p k hp xs hx' ht'
  rw [← hcs] at hins
  rw [← hah] at hins
  rw [← hnl] at h hp hr hn hc2 hcell hins ⊢
  have hget : ∀ j v, cs[j]? = some v → w.cell? ⟨g, p + j, none⟩ = some v := by
    intro j v hj
    have hjl := (List.getElem?_eq_some_iff.1 hj).1
    rw [hcell _ (by omega)]
    rwa [hcs, ← tg1_drop, List.getElem?_drop] at hj
  have hgetA : ∀ j v, ah[j]? = some v → w.cell? ⟨g, j, none⟩ = some v := by
    intro j v hj
    have hjl := (List.getElem?_eq_some_iff.1 hj).1
    rw [hcell _ (by omega)]
    rw [hah, ← tg1_take, List.getElem?_take, if_pos (by omega)] at hj
    exact hj
  have hone1 : ∀ v ∈ cs, v.oneCell' = true := by rw [hcs]; exact tg1_one _
  have hz2 : ¬ ((p : Int) = (n : Int)) := by omega
  have hsz : (Tryz.prog.info? 103).map (·.size) = some 1 := by rw [hi0]; simp [hzs]
  have hkk : (n : Int) + 1 - (p : Int) = ((n + 1 - p : Nat) : Int) := by omega
  have hik : p + (n + 1 - p) = n + 1 := by omega
  have hold : (Builtin.firstCells i0.size p (.slice (some ⟨g, 0, none⟩) p cap)).run Tryz.prog w.drew = .ok ah.toArray w.drew := by
    rw [hzs]
    exact run_firstCells_some w.drew 1 p ⟨g, 0, none⟩ p cap ah (by rw [hal, Nat.mul_one]) (fun j v hj => by rw [add_plain, Nat.zero_add]; exact hgetA j v hj)
  have hrz : ∀ ty, (Builtin.append_ #[89, 3] ty #[.slice (some ⟨g, 0, none⟩) p cap, .int .i64 ((n : Int) + 1 - (p : Int))]).run Tryz.prog w =
      .ok (.slice (some ⟨w.heap.size, 0, none⟩) (n + 1) (grownCap w (n + 1) cap 103)) (w.drew.alloc (.cells (ah.toArray ++ Builtin.zeroCells (Value.pointer none).cells (n + 1 - p) ++ Builtin.zeroCells (Value.pointer none).cells (grownCap w (n + 1) cap 103 - (n + 1))) 103)) := fun ty => by
    have h := Lib.run_append_grow_zeros w 89 3 ty 103 i0 _ .i64 .i64 Tryz.underlying89 Tryz.underlying3 hi0 hz0 (some ⟨g, 0, none⟩) p cap ah hold (n + 1 - p) (by omega) (by omega) (by omega) (by omega) (by rw [hzb]; omega) (by rw [hzb, hik]; exact growslice_fits hr (by omega))
    rw [hik] at h
    rw [hkk]
    exact h
  have hGn : n + 1 ≤ grownCap w (n + 1) cap 103 := grownCap_ge w _ _ _
  have hG62 := grownCap_le_maxLen w (n + 1) cap 103 (by unfold maxLen; omega)
  generalize grownCap w (n + 1) cap 103 = G at hrz hGn hG62
  have hG63 : G ≤ 9223372036854775807 := by unfold maxLen at hG62; omega
  obtain ⟨ROW, hROW⟩ : ∃ ROW : Array Value, ROW = ah.toArray ++ Builtin.zeroCells (Value.pointer none).cells (n + 1 - p) ++ Builtin.zeroCells (Value.pointer none).cells (G - (n + 1)) := ⟨_, rfl⟩
  rw [← hROW] at hrz
  have hz2' : (Value.pointer none).cells.size = 1 := rfl
  have hRl : ROW.size = G := by
    rw [hROW, Array.size_append, Array.size_append, size_zeroCells, size_zeroCells, hz2', List.size_toArray, hal]
    omega
  have hRt : ROW.toList.take (p) = ah := by
    rw [hROW, Array.toList_append, Array.toList_append, List.append_assoc, List.take_append_of_le_length (by rw [hal]; exact Nat.le_refl _)]
    rw [← hal]; exact List.take_length
  obtain ⟨W1, hW1⟩ : ∃ W1, W1 = w.drew.alloc (.cells ROW 103) := ⟨_, rfl⟩
  rw [← hW1] at hrz
  obtain ⟨xs', hxs'⟩ : ∃ xs', xs' = ROW.toList.take ((n + 1)) := ⟨_, rfl⟩
  have hxl : xs'.length = (n + 1) := by rw [hxs', List.length_take, Array.length_toList, hRl]; omega
  have hxt : xs'.take (p) = ah := by rw [hxs', List.take_take, Nat.min_eq_left (by omega), hRt]
  have hO1 : W1.ownsRow base 103 1 (.slice (some ⟨w.heap.size, 0, none⟩) (n + 1) G) (n + 1) xs' := by
    refine ⟨by rw [hxl, Nat.mul_one], .inr ⟨w.heap.size, G, ROW, rfl, hbase, ?_, hGn, hG62, by rw [hRl, Nat.mul_one], by rw [Nat.mul_one]; exact hxs'.symm⟩⟩
    rw [hW1]
    exact heap_alloc_new w.drew _
  have hE1 : Ext w W1 := by rw [hW1]; exact (Ext.refl w).drew.alloc _
  have hcell1 := World.ownsRow.cellAt hO1
  have hfr1 := World.ownsRow.frozenAt hO1
  have hOb : ∀ j v, w.cell? ⟨g, j, none⟩ = some v → W1.cell? ⟨g, j, none⟩ = some v := fun j v q => by rw [hW1, World.cell?_alloc_past (w := w.drew) _ g j hgl]; exact q
  have hxW := hx.ext hE1
  have y0 := hxW.cell 0 rfl
  have hO2 := pown_sets [pp k] (p) _ _ hO1
  have hcell2 := World.ownsRow.cellAt hO2
  have hfr2 := World.ownsRow.frozenAt hO2
  have hcpA : ∀ (W : World), (∀ x, W.cell? x = W1.cell? x) → (∀ x, W.frozen? x = W1.frozen? x) → ∀ ty dc, (Builtin.copy_ #[89, 89] ty #[.slice (some ⟨w.heap.size, p, none⟩) (n + 1 - p) dc, .slice (some ⟨xb, 0, none⟩) 1 1]).run Tryz.prog W = .ok (goInt (Nat.min 1 (n + 1 - p))) (W.setCells w.heap.size (p) [pp k]) := fun W hWc hWf ty dc => by
    refine pmrun_copy W _ _ ty 103 1 w.heap.size (p) (n + 1 - p) dc ⟨xb, 0, none⟩ 1 1 [pp k] Tryz.underlying89 hsz (by simp only [Nat.min_def, List.length_cons, List.length_nil]; split <;> omega)
      (fun j v hj => ?_) (fun j hj => ?_) (fun j hj => by rw [hWf]; exact hfr1 _) (fun v hv => by simp at hv; subst hv; rfl)
    · rw [add_plain, Nat.zero_add, hWc]
      match j, hj with
      | 0, hj => cases hj; exact y0
      | j + 1, hj => simp at hj
    · simp only [List.length_cons, List.length_nil] at hj
      rw [hWc, hcell1 _ (by omega), List.getElem?_eq_getElem (by omega)]; rfl
  have hbN : g ≠ w.heap.size := by omega
  have hcpB : ∀ (W : World), (∀ x, W.cell? x = (W1.setCells w.heap.size (p) [pp k]).cell? x) → (∀ x, W.frozen? x = (W1.setCells w.heap.size (p) [pp k]).frozen? x) → ∀ ty dc sc, (Builtin.copy_ #[89, 89] ty #[.slice (some ⟨w.heap.size, (p + 1), none⟩) (n - p) dc, .slice (some ⟨g, p, none⟩) (n - p) sc]).run Tryz.prog W = .ok (goInt (Nat.min (n - p) (n - p))) (W.setCells w.heap.size ((p + 1)) cs) := fun W hWc hWf ty dc sc =>
    pmrun_copy W _ _ ty 103 1 w.heap.size ((p + 1)) (n - p) dc ⟨g, p, none⟩ (n - p) sc cs Tryz.underlying89 hsz (by rw [hcl]; simp only [Nat.min_def]; split <;> omega)
      (fun j v hj => by
        rw [add_plain, hWc, World.cell?_setCells_out _ _ _ _ _ (fun h _ => absurd h hbN)]
        exact hOb _ v (hget j v hj))
      (fun j hj => by rw [hWc, hcell2 _ (by omega), List.getElem?_eq_getElem (by rw [psets_length]; omega)]; rfl)
      (fun j hj => by rw [hWf]; exact hfr2 _) hone1
  subst hW1
  have hO1' : ((w.alloc (.cells ROW 103)).drew).ownsRow base 103 1 (.slice (some ⟨w.heap.size, 0, none⟩) (n + 1) G) (n + 1) xs' := hO1
  have hO2' : (((w.alloc (.cells ROW 103)).drew.setCells w.heap.size (p) [pp k]).drew).ownsRow base 103 1 (.slice (some ⟨w.heap.size, 0, none⟩) (n + 1) G) (n + 1) (psets xs' (p) [pp k]) := pown_sets [pp k] (p) _ _ hO1'
  have hO3 := hide (pown_sets cs ((p + 1)) _ _ hO2')
  rw [hins xs' hxl hxt] at hO3
  have hE3 := hide (pmext_setCells (Nat.le_refl _) cs ((p + 1)) _ (pmext_setCells (Nat.le_refl _) [pp k] (p) _ ((Ext.refl w).alloc (.cells ROW 103)).drew).drew)
  have hA1 : ∀ x, ((w.alloc (.cells ROW 103)).drew).cell? x = (w.drew.alloc (.cells ROW 103)).cell? x := fun x => rfl
  have hA2 : ∀ x, ((w.alloc (.cells ROW 103)).drew).frozen? x = (w.drew.alloc (.cells ROW 103)).frozen? x := fun x => rfl
  have hB1 : ∀ x, (((w.alloc (.cells ROW 103)).drew.setCells w.heap.size (p) [pp k]).drew).cell? x = ((w.drew.alloc (.cells ROW 103)).setCells w.heap.size (p) [pp k]).cell? x := fun x => rfl
  have hB2 : ∀ x, (((w.alloc (.cells ROW 103)).drew.setCells w.heap.size (p) [pp k]).drew).frozen? x = ((w.drew.alloc (.cells ROW 103)).setCells w.heap.size (p) [pp k]).frozen? x := fun x => rfl
  have mixed : Tryz.prog.follows .mixedOrders = true := by kernel_rfl
  have hz3 : (cap : Int) < (n : Int) + 1 := by omega
  have hGi : ¬ (G = p) := by omega
  have hGim : ¬ (G = p + 1) := by omega
  have hci : ¬ (cap = p) := by omega
  have hw1 : IntKind.i64.wrap ((p : Int) + 1) = (p : Int) + 1 := by rw [IntKind.wrap_i64]; omega
  have hb1 : (0 : Int) ≤ (p : Int) + 1 := by omega
  have hin : p ≤ n := by omega
  have htn : ((p : Int) + 1).toNat = p + 1 := by omega
  have hb3 : (p : Int) ≤ (n : Int) := by omega
  have hb5 : (p : Int) + 1 ≤ (n : Int) + 1 := by omega
  have hpn : p + 1 ≤ n + 1 := by omega
  have hpc : p ≤ cap := by omega
  clear hO1' hO2' hkk hik hold hRl hRt hxs' hxl hxt hO1 hE1 hcell hcell1 hfr1 hOb hxW y0 hO2 hcell2 hfr2 hget hgetA hone1 hins hcs hcl hah hal hROW x0 h hx hnl hz2'
  haveI : In g w := ⟨hgl⟩
  go_enter Tryz.func153, Tryz.ntmps153
  go_wp2_with (first
    | (at_builtin; refine Lib.wpList_append_run _ rfl _ _ _ _ rfl _ _ rfl rfl _ _ (hrz _) ?_)
    | (at_builtin; refine wpList_copy_runI _ rfl _ _ 89 89 rfl _ _ rfl rfl (hcpA _ hA1 hA2 _ _) ?_))
  go_region_law_o (refine step_copy_runI rfl _ _ 89 89 rfl (.slice (some ⟨w.heap.size, (p + 1), none⟩) (n - p) (G - (p + 1))) (.slice (some ⟨g, p, none⟩) (n - p) (cap - p)) (by simp [Act.eval, Act.put]) (by simp [Act.eval, Act.put]) (hcpB _ hB1 hB2 3 (G - (p + 1)) (cap - p)) ?_)
  go_wp2
  go_returns
  exact ⟨.slice (some ⟨w.heap.size, 0, none⟩) (n + 1) G, rfl, hO3.out, hE3.out, rfl⟩
set_option maxHeartbeats 4000000 in
/-- Insert of one thing, wherever. -/
theorem pminsert_c (base xb p : Nat) (k : Nat) (v : Value) (l : List Nat) (w : World) (h : w.ownsRow base 103 1 v l.length (tg1 l)) (hbase : base ≤ w.heap.size) (hn : l.length ≤ 1048576) (hp : p ≤ l.length)
    (hx : Ob w xb 103 [pp k]) (S : List Nat) (hS : ∀ b, v.ownBlock = some b → b ∈ S) (hxS : xb ∉ S) :
    Calls Tryz.prog 153 #[v, .int .i64 p, .slice (some ⟨xb, 0, none⟩) 1 1] w fun e w' =>
      ∃ v', e = .returned v' ∧ w'.ownsRow base 103 1 v' (l.length + 1) (tg1 (l.take p ++ k :: l.drop p)) ∧ Fr S w w' ∧ ∀ b, v'.ownBlock = some b → b ∈ S ∨ w.heap.size ≤ b := by
  rcases Nat.lt_or_ge p l.length with hlt | hge
  · have hform : ∃ g cap, v = .slice (some ⟨g, 0, none⟩) l.length cap := by
      rcases h.2 with ⟨h', h0⟩ | ⟨g', cap', cur, h', hb, hg, hnc, hcm, hcs, htake⟩
      · omega
      · exact ⟨g', cap', h'⟩
    obtain ⟨g, cap, rfl⟩ := hform
    have hgS := hS g rfl
    rcases Nat.lt_or_ge cap (l.length + 1) with hr | hr
    · refine (pminsert_grow base g cap xb p k l w h hbase hn hlt hr hx).mono ?_
      rintro e w' ⟨v', rfl, hO, hE, hb⟩
      exact ⟨v', rfl, hO, Fr.of_ext hE, fun x hx => by rw [hb] at hx; cases hx; exact .inr (Nat.le_refl _)⟩
    · refine (pminsert_room base g cap xb p k l w h hn hlt hr hx (fun e => hxS (e ▸ hgS))).mono ?_
      rintro e w' ⟨rfl, hO, hF⟩
      exact ⟨_, rfl, hO, hF.more fun b _ hb => by simp at hb; subst hb; exact hgS, fun x hx => .inl (hS x hx)⟩
  · obtain rfl : p = l.length := by omega
    rw [List.take_length, List.drop_length]
    exact pminsert_end base xb k v l w h hbase hn hx S hS
end Go.Proofs.YtajelkkiijdegaaGreat
