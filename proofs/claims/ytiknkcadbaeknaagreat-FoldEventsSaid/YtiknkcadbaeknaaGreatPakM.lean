/-
  A helper of ours: no claim of its own. A slice of one's own that is cut from the front and appended to.
-/
import Derived.Test.YtiknkcadbaeknaaGreatPakP
import Derived.Test.YtiknkcadbaeknaaGreatEdgM
import Derived.Test.YtiknkcadbaeknaaGreatEdgGs
import Derived.Test.YtiknkcadbaeknaaGreatEdgS
import Derived.Test.YtiknkcadbaeknaaGreatMem
set_option linter.unusedVariables false
set_option linter.unusedSimpArgs false
namespace Go.Proofs.YtiknkcadbaeknaaGreat
open Go.RowKit
attribute [local go_sem] GW.cell GW.frozen In.eq_true In.le_true In.ne In.ne' In.ne_add In.ne_add' In.lt_add Upto.le_true Upto.le_add Upto.lt_add
/-- Both ends of each piece. -/
def endsE (l : List Ed) : List Ed := l.flatMap fun e => [(e.1, (e.2.1, 1)), (e.1, (e.2.2, -1))]
def endsV (L : List Ve) : List Ve := L.flatMap fun p => [(p.1, p.2.1, (p.2.2.1, 1)), (p.1, p.2.1, (p.2.2.2, -1))]
theorem endsV_eds (L : List Ve) : eds (endsV L) = endsE (eds L) := by
  induction L with
  | nil => rfl
  | cons p r ih =>
    unfold endsV endsE eds at ih ⊢
    rw [List.flatMap_cons, List.map_append, ih]
    rfl
theorem endsV_len (L : List Ve) : (endsV L).length = 2 * L.length := by
  induction L with
  | nil => rfl
  | cons p r ih =>
    unfold endsV at ih ⊢
    rw [List.flatMap_cons, List.length_append, ih, List.length_cons]
    simp only [List.length_cons, List.length_nil]
    omega
theorem endsV_snoc (L : List Ve) (p : Ve) : endsV (L ++ [p]) = endsV L ++ [(p.1, p.2.1, (p.2.2.1, 1)), (p.1, p.2.1, (p.2.2.2, -1))] := by simp [endsV]
theorem endsV_mem {L : List Ve} {q : Ve} (h : q ∈ endsV L) : ∃ p ∈ L, q.1 = p.1 ∧ q.2.1 = p.2.1 := by
  obtain ⟨p, hp, h⟩ := List.mem_flatMap.1 h
  simp only [List.mem_cons, List.not_mem_nil, or_false] at h
  rcases h with rfl | rfl <;> exact ⟨p, hp, rfl, rfl⟩
/-- What is wrong with pieces whose edges are asked for; they. -/
def pkE (l : List Ed) : Int := if l.all mayPc then (if 4096 < l.length then 7 else neE (endsE l)) else 2
def pkR (l : List Ed) : List Ed := if pkE l = 0 then neR (endsE l) else []
set_option maxHeartbeats 4000000 in
set_option maxRecDepth 100000 in
theorem packEdges_c (L : List Ve) (hL : L.length ≤ 4096) (v : Value) (w : World) (h : Ew w [] v L) : Calls Tryz.prog 44 #[v] w fun e w' => ∃ v' M, e = .returned (.tuple #[v', .int .i64 (pkE (eds L))]) ∧ eds M = pkR (eds L) ∧ OwnEr w' w.heap.size v' M ∧ Ext w w' := by
  have hcc := hide (containsPc_c L v w h)
  have hall : L.all (fun x : Ve => mayPc x.2) = (eds L).all mayPc := by simp [eds, List.all_map]; rfl
  rw [hall] at hcc
  obtain ⟨A, cap, rfl, hlc, hlm, hat⟩ := ew_form h
  unfold maxLen at hlm
  have hv := hide h
  replace hat := hide hat
  obtain ⟨E, hE⟩ : ∃ E, E = pkE (eds L) := ⟨_, rfl⟩
  obtain ⟨R, hR⟩ : ∃ R, R = pkR (eds L) := ⟨_, rfl⟩
  rw [← hE, ← hR]
  unfold pkR at hR
  rw [← hE] at hR
  unfold pkE at hE
  clear h hall
  cases ha : (eds L).all mayPc
  · rw [ha] at hcc hE
    rw [if_neg (by decide)] at hE
    subst hE
    replace hR : R = [] := by rw [hR, if_neg (by decide)]
    replace hR := hide hR
    clear hat
    go_enter Tryz.func44, Tryz.ntmps44
    go_wp2_with (go_at_call 90; (with_reducible refine seq_gw hcc.out ?_); intro g)
    go_returns
    exact ⟨_, [], rfl, by rw [hR.out]; rfl, OwnEr.nil _ _, g.grown⟩
  rw [ha] at hcc hE
  rw [if_pos rfl, if_neg (by simp [eds]; omega)] at hE
  have hR2 : Hid (R = neR (endsE (eds L))) := by
    show R = _
    rw [hR]
    split
    · rfl
    · rename_i h; rw [hE] at h; rw [neR_bad h]
  replace hE := hide hE
  clear hR ha
  have hLI : (L.length : Int) ≤ 4096 := by omega
  go_enter Tryz.func44, Tryz.ntmps44
  go_wp2_with (go_at_call 90; (with_reducible refine seq_gw hcc.out ?_); intro g)
  have hXg := hide g.grown
  go_loopg [4, 14] L.length (fun gh vv i wr => ∃ (k : Nat), i = .int .i64 k ∧ k + gh = L.length ∧ OwnE wr w.heap.size vv (endsV (L.take k)) ∧ Ext w wr)
  case atStart => exact ⟨0, rfl, by omega, World.ownsRow_nil _ _ _ _, hXg.out⟩
  case round =>
    obtain ⟨k, rfl, hk, ho, hX⟩ := hrel
    clear hXg
    have hzX := hX.size
    by_cases hlt : k < L.length
    · obtain ⟨x, hx⟩ : ∃ x, L[k]? = some x := ⟨_, List.getElem?_eq_getElem hlt⟩
      obtain ⟨b, o, rfl, -, hb, c0, c1, c2⟩ := hat.out k x hx
      have k0 := cell_later hX c0
      have k1 := cell_later hX c1
      have k2 := cell_later hX c2
      have hbr : b < wr.heap.size := block_lt_of_cell k0
      have hrw := Sl.ext (hv.out.2 x (List.mem_of_getElem? hx)) hX
      have hnx := hide (show endsV (L.take (k + 1)) = endsV (L.take k) ++ [(x.1, x.2.1, (x.2.2.1, 1)), (x.1, x.2.1, (x.2.2.2, -1))] by rw [List.take_add_one, hx, Option.toList_some, endsV_snoc])
      have hel : (endsV (L.take k)).length ≤ 2 * k := by rw [endsV_len, List.length_take]; omega
      obtain ⟨xv, xq, xa, xn⟩ := x
      simp only at k0 k1 k2 hrw hnx
      have hrw2 := hide hrw
      obtain ⟨XA, xcap, rfl⟩ := rw_val hrw
      obtain ⟨Q, hQ⟩ : ∃ Q, Q = endsV (L.take k) := ⟨_, rfl⟩
      rw [← hQ] at ho hnx hel
      replace hQ := hide hQ
      obtain ⟨C, ccap, rfl⟩ := own_form ho
      have ho0 := hide ho
      clear c0 c1 c2 hat hx hrw hv ho
      have hone := lit2 (.slice XA xq.length xcap) xq (xa, 1) (xn, -1) (wr.alloc (.cells #[.slice XA xq.length xcap, .int .i64 xa, .int .i64 xn] 95)) (Sl.ext hrw2.out ((Ext.refl wr).alloc _))
      simp only [World.size_alloc] at hone
      replace hone := hide hone
      have hX2 : Ext wr ((wr.alloc (.cells #[.slice XA xq.length xcap, .int .i64 xa, .int .i64 xn] 95)).alloc (.cells #[.slice XA xq.length xcap, .int .i64 xa, .int .i64 1, .slice XA xq.length xcap, .int .i64 xn, .int .i64 (-1)] 147)) := ((Ext.refl wr).alloc _).alloc _
      have e1 : Q.length + 2 ≤ maxLen := by unfold maxLen; omega
      have e2 : (Q.length + 2) * 40 ≤ 140737488355328 := by omega
      have e3 := Nat.le_trans hX.size hX2.size
      replace e1 := hide e1
      replace e2 := hide e2
      replace e3 := hide e3
      have hsl : Sl _ [] 3 _ 2 _ := hone.out.1
      replace hsl := hide hsl
      replace hX2 := hide hX2
      go_wp2_with (at_builtin; (refine wpl_app tEdg rfl (.tmp 18) (.tmp 31) rfl rfl (own_ext ho0.out hX2.out) rfl (src_sl Tryz.underlying83 hsl.out (Ew.one hone.out) (by omega)) e1.out e2.out e3.out ?_; intro v8 w8 ho8 hg8 hob8; have hX8 := hide (ext_grown (hX.trans hX2.out) hg8 (fun q hq => (ho0.out.lt q hq).1))))
      go_roundg (L.length - (k + 1))
      case measure => omega
      case rel => exact ⟨k + 1, by go_num, by omega, by rw [hnx.out]; exact own_appE ho8, hX8.out⟩
    · have hk' : k = L.length := by omega
      have hge : (L.length : Int) ≤ k := by omega
      rw [hk', List.take_length] at ho
      replace hk' := hide hk'
      have hM : Ew wr [] u4 (endsV L) := ⟨Sl.own ho (by simp), fun p hp => by
        obtain ⟨q, hq, e1, e2⟩ := endsV_mem hp
        rw [e1, e2]
        exact Sl.ext (hv.out.2 q hq) hX⟩
      have hn := hide (edgeNorm_c (endsV L) (by rw [endsV_len]; omega) (fun q => Nat.le_trans (jmps_le _ q) (by rw [eds, List.length_map, endsV_len]; omega)) u4 wr hM)
      rw [endsV_eds] at hn
      obtain ⟨C, ccap, rfl⟩ := own_form ho
      clear hat hM ho hv
      go_wp2_with (go_at_call 83; refine hn.out.mono ?_; rintro ee w3 ⟨v3, M, rfl, hM, ho3, hX3⟩)
      go_returns
      exact ⟨_, M, by rw [hE.out]; rfl, by rw [hM, hR2.out], ho3.lower hzX, hX.trans hX3⟩
end Go.Proofs.YtiknkcadbaeknaaGreat
set_option linter.unusedVariables false
set_option linter.unusedSimpArgs false
namespace Go.Proofs.YtiknkcadbaeknaaGreat
open Go.RowKit
/-- A lifetime. -/
abbrev Sp := Int × Int
def begL (f : List Jp) : List Int := f.flatMap fun j => List.replicate j.2.toNat j.1
def endL (f : List Jp) : List Int := f.flatMap fun j => List.replicate (-j.2).toNat j.1
theorem begL_snoc (f : List Jp) (j : Jp) : begL (f ++ [j]) = begL f ++ List.replicate j.2.toNat j.1 := by simp [begL]
theorem endL_snoc (f : List Jp) (j : Jp) : endL (f ++ [j]) = endL f ++ List.replicate (-j.2).toNat j.1 := by simp [endL]
/-- How many begin. -/
def cntJ (f : List Jp) : Int := (begL f).length
theorem cntJ_snoc (f : List Jp) (j : Jp) : cntJ (f ++ [j]) = cntJ f + max j.2 0 := by
  unfold cntJ
  rw [begL_snoc, List.length_append, List.length_replicate]
  omega
theorem cntJ_le {f : List Jp} (h : ∀ j ∈ f, j.2 ≤ 1048576) : cntJ f ≤ 1048576 * f.length := by
  induction f with
  | nil => simp [cntJ, begL]
  | cons a r ih =>
    have h1 := ih fun j hj => h j (by simp [hj])
    have h2 := h a (by simp)
    unfold cntJ at h1 ⊢
    unfold begL at h1 ⊢
    rw [List.flatMap_cons, List.length_append, List.length_replicate, List.length_cons]
    omega
theorem len_js (f : List Jp) : ((begL f).length : Int) - (endL f).length = js f := by
  induction f with
  | nil => simp [begL, endL, js]
  | cons a r ih =>
    unfold begL endL at ih ⊢
    rw [List.flatMap_cons, List.flatMap_cons, List.length_append, List.length_append, List.length_replicate, List.length_replicate, js]
    omega
/-- The least value is met nowhere by less. -/
theorem leF_le (f : List Jp) : ∀ (g : List Jp) (m : Int), leF f m g ≤ m ∧ ∀ j ∈ g, leF f m g ≤ jv f j.1
  | [], m => ⟨Int.le_refl _, by simp⟩
  | a :: g, m => by
    obtain ⟨h1, h2⟩ := leF_le f g (min m (jv f a.1))
    have e : leF f m (a :: g) = leF f (min m (jv f a.1)) g := rfl
    rw [e]
    refine ⟨by omega, fun j hj => ?_⟩
    rcases List.mem_cons.1 hj with rfl | hj
    · omega
    · exact h2 j hj
/-- Ahead of each place of a function that is nowhere below 0 no more have ended than have begun. -/
theorem pre_ends {f : List Jp} (hm : mayJ f = true) (h0 : 0 ≤ leV f) (k : Nat) : (endL (f.take k)).length ≤ (begL (f.take k)).length := by
  have hj := len_js (f.take k)
  suffices 0 ≤ js (f.take k) by omega
  have hasc := (mayJ_iff.1 hm).2.2
  unfold leV at h0
  rw [if_pos hm] at h0
  rcases Nat.eq_zero_or_pos k with rfl | hk
  · simp [js]
  rcases Nat.lt_or_ge (k - 1) f.length with hlt | hge
  · obtain ⟨j, hx⟩ : ∃ j, f[k - 1]? = some j := ⟨_, List.getElem?_eq_getElem hlt⟩
    have et : f.take k = f.take (k - 1) ++ [j] := by
      have : k = k - 1 + 1 := by omega
      rw [this, List.take_add_one, hx]; simp
    have ef : f = f.take (k - 1) ++ j :: f.drop k := by
      have h1 := List.take_append_drop (k - 1) f
      have h2 : f.drop (k - 1) = j :: f.drop k := by
        rw [List.drop_eq_getElem_cons hlt]
        have h3 := List.getElem?_eq_getElem hlt
        rw [hx] at h3
        rw [show k - 1 + 1 = k by omega]
        congr 1
        exact (Option.some.inj h3).symm
      rw [h2] at h1
      exact h1.symm
    have hjs := js_at (f1 := f.take (k - 1)) (j := j) (f2 := f.drop k) (by rw [← ef]; exact hasc)
    rw [et, hjs, ← ef]
    have := (leF_le f f (jv f (-1))).2 j (List.mem_of_getElem? hx)
    omega
  · have e1 : f.take k = f := List.take_of_length_le (by omega)
    rw [e1]
    rcases hf : f.reverse with _ | ⟨j, r⟩
    · have : f = [] := by simpa using hf
      rw [this]; simp [js]
    · have ef : f = r.reverse ++ [j] := by rw [← List.reverse_reverse f, hf]; simp
      have hjs := js_at (f1 := r.reverse) (j := j) (f2 := []) (by rw [← ef]; exact hasc)
      rw [← ef] at hjs
      rw [hjs]
      have := (leF_le f f (jv f (-1))).2 j (by rw [ef]; simp)
      omega
/-- The k-th beginning with the k-th end; what has no end has the last one of all. -/
def spL : List Int → List Int → List Sp
  | [], _ => []
  | x :: b, [] => (x, 1125899906842624) :: spL b []
  | x :: b, y :: e => (x, y) :: spL b e
theorem spL_length : ∀ b e : List Int, (spL b e).length = b.length
  | [], _ => rfl
  | x :: b, [] => by rw [spL, List.length_cons, List.length_cons, spL_length b []]
  | x :: b, y :: e => by rw [spL, List.length_cons, List.length_cons, spL_length b e]
theorem spL_get : ∀ (b e : List Int) (i : Nat) (x : Int), b[i]? = some x → (spL b e)[i]? = some (x, (e[i]?).getD 1125899906842624)
  | y :: b, [], 0, x, h => by simp at h; subst h; rfl
  | y :: b, z :: e, 0, x, h => by simp at h; subst h; rfl
  | y :: b, [], i + 1, x, h => by
    have := spL_get b [] i x (by simpa using h)
    simpa [spL] using this
  | y :: b, z :: e, i + 1, x, h => by
    have := spL_get b e i x (by simpa using h)
    simpa [spL] using this
theorem spL_zip : ∀ (b e : List Int), e.length ≤ b.length → spL b e = (b.take e.length).zip e ++ (b.drop e.length).map fun x => (x, 1125899906842624)
  | [], [], _ => rfl
  | [], y :: e, h => by simp at h
  | x :: b, [], _ => by
    have := spL_zip b [] (by simp)
    rw [spL, this]
    simp
  | x :: b, y :: e, h => by
    have := spL_zip b e (by simpa using h)
    rw [spL, this]
    simp
/-- A function's lifetimes. -/
def lifeL (f : List Jp) : List Sp := spL (begL f) (endL f)
/-- What is wrong with a function whose lifetimes are asked for; they. -/
def spE (f : List Jp) : Int := if mayJ f then (if leV f < 0 then 20 else if 4096 < cntJ f then 7 else 0) else 2
def spR (f : List Jp) : List Sp := if spE f = 0 then lifeL f else []
/-- What has been made, and what is open, of beginnings and ends. -/
def madeL (b e : List Int) : List Sp := (b.take e.length).zip e
theorem madeL_begin (b e m : List Int) (h : e.length ≤ b.length) : madeL (b ++ m) e = madeL b e ∧ (b ++ m).drop e.length = b.drop e.length ++ m := by
  unfold madeL
  rw [List.take_append_of_le_length h, List.drop_append_of_le_length h]
  exact ⟨rfl, rfl⟩
theorem madeL_end (b e : List Int) (x a : Int) (r : List Int) (h : b.drop e.length = x :: r) : madeL b (e ++ [a]) = madeL b e ++ [(x, a)] ∧ b.drop (e ++ [a]).length = r := by
  have hlt : e.length < b.length := by
    have := congrArg List.length h
    simp at this
    omega
  have hx : b[e.length]? = some x := by
    have h2 : (b.drop e.length)[0]? = some x := by rw [h]; rfl
    rwa [List.getElem?_drop, Nat.add_zero] at h2
  unfold madeL
  rw [List.length_append, List.length_singleton, List.take_add_one, hx]
  refine ⟨?_, ?_⟩
  · rw [Option.toList_some, List.zip_append (by simp; omega)]
    rfl
  · rw [← List.drop_drop, h]; rfl
theorem life_done (b e : List Int) (h : e.length ≤ b.length) : madeL b (e ++ List.replicate (b.length - e.length) 1125899906842624) = spL b e := by
  rw [spL_zip b e h]
  unfold madeL
  rw [List.length_append, List.length_replicate, List.take_of_length_le (by omega)]
  conv => lhs; rw [← List.take_append_drop e.length b]
  rw [List.zip_append (by simp; omega)]
  congr 1
  have key : ∀ (l : List Int), l.zip (List.replicate l.length 1125899906842624) = l.map fun x => (x, (1125899906842624 : Int)) := by
    intro l
    induction l with
    | nil => rfl
    | cons a l ih => simp only [List.length_cons, List.replicate_succ, List.zip_cons_cons, List.map_cons, ih]
  have := key (b.drop e.length)
  rw [List.length_drop] at this
  rw [List.take_append_drop]
  exact this
end Go.Proofs.YtiknkcadbaeknaaGreat
set_option linter.unusedVariables false
set_option linter.unusedSimpArgs false
namespace Go.Proofs.YtiknkcadbaeknaaGreat
open Go.RowKit
/-- The block in which a slice lies. -/
def blkO : Value → Option Nat
  | .slice (some a) _ _ => some a.block
  | _ => none
/-- A slice of one's own, from some place of its block on: it may be cut from the front, and appended to. -/
def OwnO (w : World) (base e size : Nat) (v : Value) (n : Nat) (xs : List Value) : Prop :=
  xs.length = n * size ∧ ((v = .slice none 0 0 ∧ n = 0) ∨ ∃ g o cap cur, v = .slice (some ⟨g, o, none⟩) n cap ∧ base ≤ g ∧ w.heap[g]? = some (.cells cur e (0, 0)) ∧ n ≤ cap ∧ cap ≤ maxLen ∧ o + cap * size ≤ cur.size ∧ (cur.toList.drop o).take (n * size) = xs)
section
variable {w w' : World} {base e size n : Nat} {v : Value} {xs : List Value}
theorem OwnO.nil (w : World) (base e size : Nat) : OwnO w base e size (.slice none 0 0) 0 [] := ⟨by simp, .inl ⟨rfl, rfl⟩⟩
theorem OwnO.form (h : OwnO w base e size v n xs) : ∃ A cap, v = .slice A n cap ∧ n ≤ cap ∧ cap ≤ maxLen := by
  rcases h.2 with ⟨rfl, rfl⟩ | ⟨g, o, cap, cur, rfl, _, _, h1, h2, _⟩
  · exact ⟨_, _, rfl, Nat.le_refl _, Nat.zero_le _⟩
  · exact ⟨_, _, rfl, h1, h2⟩
theorem OwnO.lt (h : OwnO w base e size v n xs) : ∀ g, blkO v = some g → base ≤ g ∧ g < w.heap.size := by
  intro g hg
  rcases h.2 with ⟨rfl, rfl⟩ | ⟨g', o, cap, cur, rfl, hb, hh, _⟩
  · cases hg
  · obtain rfl : g' = g := by simpa [blkO] using hg
    exact ⟨hb, lt_of_block hh⟩
theorem OwnO.keep (h : OwnO w base e size v n xs) (hk : ∀ g, blkO v = some g → w'.heap[g]? = w.heap[g]?) : OwnO w' base e size v n xs := by
  refine ⟨h.1, ?_⟩
  rcases h.2 with h2 | ⟨g, o, cap, cur, rfl, hb, hh, r⟩
  · exact .inl h2
  · exact .inr ⟨g, o, cap, cur, rfl, hb, (hk g rfl).trans hh, r⟩
theorem OwnO.ext (h : OwnO w base e size v n xs) (k : Ext w w') : OwnO w' base e size v n xs := h.keep fun g hg => k.block g (h.lt g hg).2
theorem OwnO.grown {row : Option Nat} (h : OwnO w base e size v n xs) (hg : w.grownBy w' row) (hn : ∀ g, blkO v = some g → some g ≠ row) : OwnO w' base e size v n xs :=
  h.keep fun g hb => hg.block g (h.lt g hb).2 (hn g hb)
theorem OwnO.type (h : OwnO w base e size v n xs) {g : Nat} {cur : Array Value} {T : TypeId} {fz : Nat × Nat} (hg : blkO v = some g) (hh : w.heap[g]? = some (.cells cur T fz)) : T = e := by
  rcases h.2 with ⟨rfl, _⟩ | ⟨g', o, cap, cur', rfl, hb, hh', r⟩
  · cases hg
  · obtain rfl : g' = g := by simpa [blkO] using hg
    rw [hh'] at hh
    injection hh with hh
    injection hh with _ e
    exact e.symm
theorem OwnO.cells {g o n' cap : Nat} (h : OwnO w base e size v n xs) (hv : v = .slice (some ⟨g, o, none⟩) n' cap) : ∀ j u, xs[j]? = some u → w.cell? ⟨g, o + j, none⟩ = some u := by
  subst hv
  intro j u hu
  rcases h.2 with ⟨e, _⟩ | ⟨g', o', cap', cur, e, hb, hh, h1, h2, h3, h4⟩
  · cases e
  · simp only [Value.slice.injEq, Option.some.injEq, Addr.mk.injEq, and_true] at e
    obtain ⟨⟨rfl, rfl⟩, rfl, rfl⟩ := e
    rw [cell_of_row w g (o + j) cur e (0, 0) hh]
    rw [← h4, List.getElem?_take] at hu
    split at hu
    · rw [List.getElem?_drop] at hu
      simpa using hu
    · cases hu
/-- The cut from the first on. -/
theorem OwnO.tail {A : Option Addr} {cap : Nat} {x : Value} (h : OwnO w base e 1 (.slice A (n + 1) cap) (n + 1) (x :: xs)) : OwnO w base e 1 (.slice (cutA A 1 cap 1) n (cap - 1)) n xs := by
  refine ⟨by have := h.1; simp at this ⊢; omega, .inr ?_⟩
  rcases h.2 with ⟨_, h0⟩ | ⟨g, o, cap', cur, e', hb, hh, h1, h2, h3, h4⟩
  · cases h0
  · simp only [Value.slice.injEq, true_and] at e'
    obtain ⟨rfl, rfl⟩ := e'
    have ht : (cur.toList.drop (o + 1)).take n = xs := by
      rw [Nat.mul_one] at h4
      have h5 := congrArg List.tail h4
      rw [List.tail_cons] at h5
      rw [← h5, ← List.drop_one, List.drop_take, List.drop_drop, Nat.add_sub_cancel]
    by_cases hc : cap = 1
    · subst hc
      have hn0 : n = 0 := by omega
      subst hn0
      refine ⟨g, o, 0, cur, by simp [cutA], hb, hh, by omega, Nat.zero_le _, by omega, ?_⟩
      have : xs = [] := by have := h.1; simp at this; exact this
      rw [this]; simp
    · refine ⟨g, o + 1, cap - 1, cur, by unfold cutA; rw [if_neg hc]; simp [add_plain], hb, hh, by omega, by omega, by omega, by rw [Nat.mul_one]; exact ht⟩
end
section
variable {P : Program} {w : World}
theorem run_appO {t tx ty e : TypeId} {z : Value} {size bytes base n m : Nat} {v x : Value} {xs news : List Value} (T : ElemT P t e z size bytes) (hown : OwnO w base e size v n xs) (hs : Src P size tx x m news w)
    (h63 : n + m ≤ maxLen) (hbytes : (n + m) * bytes ≤ 140737488355328) (hbase : base ≤ w.heap.size) :
    ∃ v' w', (Builtin.append_ #[t, tx] ty #[v, x]).run P w = .ok v' w' ∧ OwnO w' base e size v' (n + m) (xs ++ news) ∧ w.grownBy w' (blkO v) ∧ (blkO v' = blkO v ∨ blkO v' = some w.heap.size) := by
  obtain ⟨ht, ⟨i, hi, hz, hsize, hby⟩, hzs, hsz⟩ := T
  subst hsize
  subst hby
  have hsmall : n + m ≤ 9223372036854775807 := by simp only [maxLen] at h63; omega
  have hlen : (xs ++ news).length = (n + m) * i.size := by rw [List.length_append, hown.1, hs.newsLen, Nat.add_mul]
  have grown : ∀ (old : Nat), old < n + m → ∀ (row : Option Nat),
      OwnO (w.drew.alloc (.cells ((xs ++ news).toArray ++ Builtin.zeroCells z.cells (grownCap w (n + m) old e - (n + m))) e)) base e i.size
        (.slice (some ⟨w.heap.size, 0, none⟩) (n + m) (grownCap w (n + m) old e)) (n + m) (xs ++ news) ∧
      w.grownBy (w.drew.alloc (.cells ((xs ++ news).toArray ++ Builtin.zeroCells z.cells (grownCap w (n + m) old e - (n + m))) e)) row := by
    intro old ho row
    have hge := grownCap_ge w (n + m) old e
    have hcm : grownCap w (n + m) old e ≤ maxLen := grownCap_le_maxLen w (n + m) old e h63
    refine ⟨⟨hlen, .inr ⟨w.heap.size, 0, _, _, rfl, hbase, heap_alloc_new w.drew _, hge, hcm, ?_, ?_⟩⟩, ⟨rfl, rfl, rfl, by simp, fun k hk _ => Below.heap_alloc w.drew _ k hk⟩⟩
    · simp only [Array.size_append, List.size_toArray, size_zeroCells, hzs, hlen, ← Nat.add_mul]
      rw [Nat.zero_add]
      exact Nat.mul_le_mul_right _ (by omega)
    · simp only [Array.toList_append, List.drop_zero]
      rw [← hlen]
      exact List.take_left
  rcases hown.2 with ⟨rfl, rfl⟩ | ⟨g, o, cap, cur, rfl, hbg, hg, hnc, hcm, hcs, htake⟩
  · have hx : xs = [] := List.eq_nil_of_length_eq_zero (by simpa using hown.1)
    subst hx
    by_cases hm : m = 0
    · subst hm
      have hn : news = [] := List.eq_nil_of_length_eq_zero (by simpa using hs.newsLen)
      subst hn
      refine ⟨.slice none 0 0, w, ?_, OwnO.nil w base e i.size, ⟨rfl, rfl, rfl, Nat.le_refl _, fun _ _ _ => rfl⟩, .inl rfl⟩
      rcases hs.kind with ⟨e', hk⟩ | hk <;> simp [Builtin.append_, run_underlying ht, run_underlying hk, sizeOf, typeInfo, hi, hs.len, hs.cells]
    · have hr := run_append_grow_src (P := P) w t tx ty e i z ht hi hz none 0 0 [] (by simp [Builtin.firstCells]) x m news hs (by omega) (by omega) (growslice_fits (by omega) hbytes)
      have hgr := grown 0 (by omega) (blkO (.slice none 0 0))
      simp only [Nat.zero_add, List.nil_append] at hgr hr ⊢
      exact ⟨_, _, hr, hgr.1, hgr.2, .inr rfl⟩
  · have hmul : n * i.size ≤ cap * i.size := Nat.mul_le_mul_right _ hnc
    by_cases hroom : n + m ≤ cap
    · have hfit : o + n * i.size + news.length ≤ cur.size := by
        have h1 : (n + m) * i.size ≤ cap * i.size := Nat.mul_le_mul_right _ hroom
        rw [Nat.add_mul] at h1
        rw [hs.newsLen]
        omega
      have hst := run_storeCells_at P g (o + n * i.size) e news 0 cur w hg (by simpa using hfit) hs.one
      simp only [Nat.add_zero] at hst
      have hr : (Builtin.append_ #[t, tx] ty #[.slice (some ⟨g, o, none⟩) n cap, x]).run P w =
          .ok (.slice (some ⟨g, o, none⟩) (n + m) cap) (w.setRow g (cur.toList.take (o + n * i.size) ++ news ++ cur.toList.drop (o + n * i.size + news.length)).toArray) := by
        rcases hs.kind with ⟨e', hk⟩ | hk <;> simp [Builtin.append_, run_underlying ht, run_underlying hk, sizeOf, typeInfo, hi, hs.len, hroom, hs.cells, Addr.add_lit, hst]
      refine ⟨_, _, hr, ⟨hlen, .inr ⟨g, o, cap, _, rfl, hbg, setRow_heap w g cur _ e _ hg, hroom, hcm, ?_, ?_⟩⟩, ⟨rfl, rfl, rfl, by simp, fun k _ hk => setRow_other w g k _ (fun e => hk (by simp [blkO, e]))⟩, .inl rfl⟩
      · simp only [List.size_toArray, List.length_append, List.length_take, List.length_drop, Array.length_toList]
        omega
      · rw [← hlen]
        have hd : (cur.toList.take (o + n * i.size) ++ news ++ cur.toList.drop (o + n * i.size + news.length)).drop o = xs ++ (news ++ cur.toList.drop (o + n * i.size + news.length)) := by
          rw [List.append_assoc, List.drop_append_of_le_length (by rw [List.length_take, Array.length_toList]; omega)]
          congr 1
          rw [List.drop_take, Nat.add_sub_cancel_left]
          exact htake
        rw [hd, ← List.append_assoc]
        exact List.take_left
    · have holds : ∀ j u, xs[j]? = some u → w.drew.cell? ((⟨g, o, none⟩ : Addr).add j) = some u := fun j u hu => by
        rw [add_plain]
        exact hown.cells rfl j u hu
      have hr := run_append_grow_src (P := P) w t tx ty e i z ht hi hz (some ⟨g, o, none⟩) n cap xs (run_firstCells_some w.drew i.size n _ n cap xs hown.1 holds) x m news hs (by omega) (by omega) (growslice_fits (by omega) hbytes)
      have hgr := grown cap (by omega) (blkO (.slice (some ⟨g, o, none⟩) n cap))
      exact ⟨_, _, hr, hgr.1, hgr.2, .inr rfl⟩
theorem wpl_appO {ops : Array Oper} {rest : List Oper} {o : Oper} {a : Act} {Q : Exit → Act → World → Prop} {t tx e : TypeId} {z : Value} {size bytes base n m : Nat} {v x : Value} {xs news : List Value} (T : ElemT P t e z size bytes)
    (hgd : o.guard = none) (s y : Operand) (ho : o.op = .call { callee := .builtin .append, args := #[s, y], argTypes := #[t, tx] }) (hv : a.eval s = v) (hown : OwnO w base e size v n xs) (hx : a.eval y = x) (hs : Src P size tx x m news w)
    (h63 : n + m ≤ maxLen) (hbytes : (n + m) * bytes ≤ 140737488355328) (hbase : base ≤ w.heap.size)
    (h : ∀ v' w', OwnO w' base e size v' (n + m) (xs ++ news) → w.grownBy w' (blkO v) → (blkO v' = blkO v ∨ blkO v' = some w.heap.size) → wpList P ops Q rest (a.put o.dst v') w') : wpList P ops Q (o :: rest) a w := by
  refine wpList_plain hgd fun K hK => ?_
  obtain ⟨v', w', hr, h2, h3, h4⟩ := run_appO (ty := o.type) T hown hs h63 hbytes hbase
  unfold Oper.wp execOp
  simp only [ho, resolve, invoke, builtin, Sem.run_bind, Sem.run_pure, Result.andThen_ok, List.map_toArray, List.map_cons, List.map_nil, hv, hx, hr]
  exact hK _ _ (h v' w' h2 h3 h4)
end
end Go.Proofs.YtiknkcadbaeknaaGreat
