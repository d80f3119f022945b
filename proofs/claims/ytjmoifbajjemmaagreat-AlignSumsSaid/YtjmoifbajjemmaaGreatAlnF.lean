/-
  A helper of ours: no claim of its own. Layer 16 (align): what is released, by the code.
-/
import Derived.Test.YtjmoifbajjemmaaGreatAlnE
set_option linter.unusedVariables false
set_option linter.unusedSimpArgs false
namespace Go.Proofs.YtjmoifbajjemmaaGreat
open Go.RowKit
attribute [local go_sem] GW.cell GW.frozen In.eq_true In.le_true In.ne In.ne' In.ne_add In.ne_add' In.lt_add Upto.le_true Upto.le_add Upto.lt_add
section
variable {P : Program} {ops : Array Oper} {Φ : Nat → Value → World → Prop} {Q : Exit → Act → World → Prop} {G : World → World → Prop} {J : (Nat → Bool) → World → Prop}
theorem goodM_doneA {i : Nat} {o : Oper} {b : Act} {w : World} {Lf : Nat → Bool} (hGe : ∀ x y, Ext x y → G x y) (hJe : ∀ L x y, J L x → Ext x y → J L y) (hJ : J (done Lf i) w) (h : RGood P ops Φ Q i o b w) : RGoodM P ops Φ G J Q i o Lf b w := by
  rcases h with ⟨hw, hwp⟩ | ⟨hw, hv⟩
  · exact .inl ⟨hw, Oper.wp_mono (fun b' w' ⟨v, e, h1, h2⟩ => ⟨v, e, h1, hGe _ _ h2, hJe _ _ _ hJ h2⟩) hwp⟩
  · exact .inr ⟨hw, hv, hJ⟩
end
/-- While an input's edges are parted: what is released and what is held, by what has been stored. -/
def relJ (rb ia : Nat) (xs hs : List Value) (k : Nat) (S2 : List Nat) (L1 L2 : List Ve) (v0 : Value) (Lf : Nat → Bool) (w : World) : Prop :=
  (∃ y, Ob w rb 34 (xs.set k y) ∧ (Lf 21 = true → Ew w S2 y L1)) ∧ (∃ z, Ob w ia 55 (hs.set (k * 2 + 1) z) ∧ (Lf 24 = false → z = v0) ∧ (Lf 24 = true → Ew w S2 z L2)) ∧ (Lf 24 = true → Lf 14 = true)
section
variable {rb ia k : Nat} {xs hs : List Value} {S2 : List Nat} {L1 L2 : List Ve} {v0 : Value}
theorem relJ_ext {L : Nat → Bool} {x y : World} (hJ : relJ rb ia xs hs k S2 L1 L2 v0 L x) (hx : Ext x y) : relJ rb ia xs hs k S2 L1 L2 v0 L y := by
  obtain ⟨⟨y, h1, h2⟩, ⟨z, h3, h4, h5⟩, h6⟩ := hJ
  exact ⟨⟨y, h1.ext hx, fun q => (h2 q).ext hx⟩, ⟨z, h3.ext hx, h4, fun q => (h5 q).ext hx⟩, h6⟩
theorem relJ_keys (L L' : Nat → Bool) (x : World) (hk : ∀ j, j ∈ [14, 21, 24] → L j = L' j) (hJ : relJ rb ia xs hs k S2 L1 L2 v0 L x) : relJ rb ia xs hs k S2 L1 L2 v0 L' x := by
  unfold relJ at *
  rw [← hk 14 (by simp), ← hk 21 (by simp), ← hk 24 (by simp)]
  exact hJ
theorem relJ_done {L : Nat → Bool} {x : World} (hL : L 24 = false) (hJ : relJ rb ia xs hs k S2 L1 L2 v0 L x) : relJ rb ia xs hs k S2 L1 L2 v0 (done L 14) x := by
  obtain ⟨⟨y, h1, h2⟩, ⟨z, h3, h4, h5⟩, h6⟩ := hJ
  exact ⟨⟨y, h1, fun q => h2 (by simpa [done] using q)⟩, ⟨z, h3, fun q => h4 (by simpa [done] using q), fun q => h5 (by simpa [done] using q)⟩, fun q => by simp [done]⟩
end
def tupF {S : List Nat} (S2 : List Nat) (L1 L2 : List Ve) (hS : ∀ b, b ∈ S → b ∈ S2) : FactS S := .st (fun u w => ∃ v1 v2, u = .tuple #[v1, v2] ∧ Ew w S2 v1 L1 ∧ Ew w S2 v2 L2) (fun _ _ _ h k => by obtain ⟨v1, v2, e, h1, h2⟩ := h; exact ⟨v1, v2, e, h1.fr k hS, h2.fr k hS⟩)
def ewF {S : List Nat} (S2 : List Nat) (L : List Ve) (hS : ∀ b, b ∈ S → b ∈ S2) : FactS S := .st (fun u w => Ew w S2 u L) (fun _ _ _ h k => h.fr k hS)
/-- Some inputs are done: the first k hold what is open, the others are as they were. -/
structure RelL (t : Int) (st : List Hi) (k : Nat) (st' : List Hi) (H : List (Value × List Ve)) : Prop where
  len : st'.length = st.length
  rest : ∀ i, k ≤ i → st'[i]? = st[i]?
  open_ : (absX st').take k = (openX t (absX st)).take k
  hlen : H.length = k
  sure : H.map (fun p => eds p.2) = (sureX t (absX st)).take k
theorem eds_filter (t : Int) (L : List Ve) : eds (L.filter (aheadV t)) = (eds L).filter fun e => ahT t e.2 := by
  induction L with
  | nil => rfl
  | cons x r ih =>
    simp only [eds, List.map_cons, List.filter_cons] at ih ⊢
    unfold aheadV at ih ⊢
    split <;> simp_all
theorem eds_filter' (t : Int) (L : List Ve) : eds (L.filter fun x => !aheadV t x) = (eds L).filter fun e => !ahT t e.2 := by
  induction L with
  | nil => rfl
  | cons x r ih =>
    simp only [eds, List.map_cons, List.filter_cons] at ih ⊢
    unfold aheadV at ih ⊢
    split <;> simp_all
theorem RelL.step {t : Int} {st st' : List Hi} {k : Nat} {H : List (Value × List Ve)} (h : RelL t st k st' H) {c : Int} {v : Value} {L : List Ve} (hp : st[k]? = some (c, v, L)) (y z : Value) :
    RelL t st (k + 1) (st'.set k (c, z, L.filter fun x => !aheadV t x)) (H ++ [(y, L.filter (aheadV t))]) := by
  have hk : k < st.length := (List.getElem?_eq_some_iff.1 hp).1
  have ho : (openX t (absX st))[k]? = some (c, (eds L).filter fun e => !ahT t e.2) := by simp [openX, List.getElem?_map, hp]
  have hs : (sureX t (absX st))[k]? = some ((eds L).filter fun e => ahT t e.2) := by simp [sureX, List.getElem?_map, hp]
  refine ⟨by rw [List.length_set]; exact h.len, fun i hi => ?_, ?_, by rw [List.length_append, h.hlen]; rfl, ?_⟩
  · rw [List.getElem?_set_ne (by omega)]; exact h.rest i (by omega)
  · rw [take_snoc ho, ← h.open_, absX_set, take_snoc (List.getElem?_set_self (by rw [absX_len, h.len]; exact hk)), List.take_set_of_le (Nat.le_refl _), eds_filter']
  · rw [List.map_append, h.sure, take_snoc hs]
    simp [eds_filter]
theorem set_idA {α : Type} {l : List α} {i : Nat} {x : α} (h : l[i]? = some x) : l.set i x = l := by
  apply List.ext_getElem?
  intro j
  by_cases hj : i = j
  · subst hj
    rw [List.getElem?_set_self (List.getElem?_eq_some_iff.1 h).1, h]
  · rw [List.getElem?_set_ne hj]
theorem Ew.newA {w : World} {S S' : List Nat} {v : Value} {L : List Ve} (h : Ew w S v L) (hs : ∀ b, b ∈ S' → b ∈ S ∨ w.heap.size ≤ b) : Ew w S' v L := ⟨Sl.new h.1 hs, fun p hp => Sl.new (h.2 p hp) hs⟩
theorem slOb {w : World} {S : List Nat} {b n : Nat} {T : TypeId} {vs : List Value} (h : Ob w b T vs) (hl : vs.length = n) (hn : n ≤ maxLen) (hb : b ∉ S) : Sl w S 1 (.slice (some ⟨b, 0, none⟩) n n) n vs :=
  ⟨_, n, rfl, Nat.le_refl _, hn, by rw [hl, Nat.mul_one], .inr ⟨b, 0, rfl, hb, fun j u hu => by rw [Nat.zero_add]; exact h.cell j hu⟩⟩
set_option maxHeartbeats 8000000 in
set_option maxRecDepth 100000 in
theorem alRelease_c (S : List Nat) (a ia : Nat) (st : List Hi) (hn8 : st.length ≤ 8) (hLL : ∀ p ∈ st, p.2.2.length ≤ 1000000000) (w : World) (h : IA w S a ia st) (hS : ∀ b, b ∈ S → b < w.heap.size) : Calls Tryz.prog 9 #[.pointer (some ⟨a, 0, none⟩)] w fun e w' => ∃ v H, e = .returned v ∧ H.map (fun p => eds p.2) = sureX (clkX (absX st)) (absX st) ∧ Mt w' S v H ∧ (∃ st', absX st' = openX (clkX (absX st)) (absX st) ∧ IA w' S a ia st') ∧ Fr [ia] w w' := by
  have hck := hide (fun w' (hX : Ext w w') => alClock_c S a ia st hn8 w' (h.ext hX))
  obtain ⟨t, ht⟩ : ∃ t, t = clkX (absX st) := ⟨_, rfl⟩
  rw [← ht] at hck ⊢
  replace ht := hide ht
  have hmk := mkOut st.length hn8
  have a0 := h.1.1.cell 0 rfl
  have hlt := h.1.1.lt
  haveI : In a w := ⟨hlt⟩
  obtain ⟨n, hn⟩ : ∃ n, n = st.length := ⟨_, rfl⟩
  rw [← hn] at hmk hn8 a0
  obtain ⟨cs, hcs⟩ : ∃ cs, cs = (List.replicate n (Value.slice none 0 0)).toArray := ⟨_, rfl⟩
  rw [← hcs] at hmk
  replace hcs := hide hcs
  have hh := hide h
  replace hS := hide hS
  replace hLL := hide hLL
  clear h
  replace hn := hide hn
  have hI := hide (fun w' => isAhead_c t w')
  go_enter Tryz.func9, Tryz.ntmps9
  go_wp2_with (first | (go_at_call 7; (with_reducible refine seq_gw (hck.out _ (Ext.refl _)) ?_); intro g) | (go_at_call 22; (refine (hI.out _).mono ?_; rintro ee w3 ⟨rfl, hcb, hx3⟩; have X3 := hide (g.grown.trans hx3); have cl3 := hcb.lt; have j0 := cell_later X3.out a0; have jl := block_lt_of_cell j0; haveI : In a w3 := ⟨jl⟩; replace hcb := hide hcb)))
  obtain ⟨cb, hcbe⟩ : ∃ cb, cb = g.val.heap.size := ⟨_, rfl⟩
  obtain ⟨rb, hrbe⟩ : ∃ rb, rb = w3.heap.size := ⟨_, rfl⟩
  have hgs := g.grown.size
  rw [← hcbe] at hcb cl3 hgs ⊢
  rw [← hrbe] at cl3 ⊢
  have hsz3 := X3.out.size
  obtain ⟨Wc, hWc⟩ : ∃ Wc, Wc = w3.alloc (.cells cs 34) := ⟨_, rfl⟩
  have hXc := hide (show Ext w Wc by rw [hWc]; exact X3.out.alloc _)
  have hR0 : Ob Wc rb 34 (List.replicate n (Value.slice none 0 0)) := by rw [hWc, hrbe, hcs.out]; exact Ob.new w3 _ _
  have hcbW := hide (show Ob Wc cb 3 [.int .i64 t] by rw [hWc]; exact hcb.out.alloc _)
  have hIA0 := hh.out.ext hXc.out
  rw [← hWc]
  obtain ⟨S2, hS2e⟩ : ∃ S2, S2 = rb :: S := ⟨_, rfl⟩
  have hsub := hide (show ∀ b, b ∈ S → b ∈ S2 by rw [hS2e]; exact fun b hb => List.mem_cons_of_mem _ hb)
  have hIA : IA Wc S2 a ia st := by
    refine ⟨hIA0.1, fun p hp => ?_, ⟨?_, hsub.out _ hIA0.2.2.1.2⟩, hIA0.2.2.2⟩
    · refine Ew.ext (Ew.newA (hh.out.2.1 p hp) fun b hb => ?_) hXc.out
      rw [hS2e] at hb
      rcases List.mem_cons.1 hb with rfl | hb
      · exact .inr (by omega)
      · exact .inl hb
    · rw [hS2e]
      intro m
      rcases List.mem_cons.1 m with m | m
      · omega
      · exact hIA0.2.2.1.1 m
  have hrS := hide (show rb ∈ S2 by rw [hS2e]; exact List.mem_cons_self ..)
  have hiS := hide hIA.2.2.1.2
  have haS := hide hIA.2.2.1.1
  have hilt := hh.out.1.2.lt
  have hri := hide (show ia ≠ rb by omega)
  have hcS := hide (show cb ∉ [rb, ia] by simp; omega)
  have hrbw := hide (show w.heap.size ≤ rb by omega)
  have hSz := hide (show ∀ b, b ∈ S2 → b < Wc.heap.size by
    rw [hS2e, hWc, World.size_alloc]
    intro b hb
    rcases List.mem_cons.1 hb with rfl | hb
    · omega
    · have := hS.out b hb; omega)
  clear hWc hcb hx3 j0 jl hIA0 hrbe hcbe hS2e
  replace hIA := hide hIA
  replace hR0 := hide hR0
  go_loopg [19] n (fun gh i wr => ∃ (k : Nat) (st' : List Hi) (H : List (Value × List Ve)), i = .int .i64 k ∧ k + gh = n ∧ Hid (IA wr S2 a ia st') ∧ Hid (RelL t st k st' H) ∧ Hid (Ob wr rb 34 (H.map (·.1) ++ List.replicate (n - k) (Value.slice none 0 0))) ∧ Hid (∀ p ∈ H, Ew wr S2 p.1 p.2) ∧ Hid (Fr [ia] w wr) ∧ Hid (Fr [rb, ia] Wc wr))
  case atStart => exact ⟨0, st, [], rfl, by omega, hIA, ⟨rfl, fun _ _ => rfl, by simp, rfl, by simp⟩, (by show Ob _ _ _ _; simpa using hR0.out), (fun p hp => by simp at hp), Fr.of_ext hXc.out, Fr.refl _ _⟩
  case round =>
    clear hIA hR0
    obtain ⟨k, st', H, rfl, hk, hIA, hrl, hR, hH, hF, hF2⟩ := hrel
    have haI : a < wr.heap.size := hIA.out.1.1.lt
    haveI : In a wr := ⟨haI⟩
    have hIA2 := hide (show Ob wr a 50 [.slice (some ⟨ia, 0, none⟩) n n] by have := hIA.out.1.1; rw [hrl.out.len, ← hn.out] at this; exact this)
    by_cases hkn : k < n
    · have hkI : (k : Int) < n := by omega
      obtain ⟨⟨c, v0, L⟩, hp⟩ : ∃ p, st[k]? = some p := ⟨_, List.getElem?_eq_getElem (by rw [← hn.out]; exact hkn)⟩
      have hp' : st'[k]? = some (c, v0, L) := by rw [hrl.out.rest k (Nat.le_refl _)]; exact hp
      have hLk := hLL.out _ (List.mem_of_getElem? hp)
      have hEw := hIA.out.2.1 _ (List.mem_of_getElem? hp')
      simp only at hLk hEw
      obtain ⟨VA, vcap, rfl⟩ := ew_one hEw
      obtain ⟨m, hm⟩ : ∃ q, n - k = q + 1 := ⟨n - (k + 1), by omega⟩
      have hm2 : n - (k + 1) = m := by omega
      rw [hm] at hR
      obtain ⟨xs, hxs⟩ : ∃ xs, xs = H.map (·.1) ++ List.replicate (m + 1) (Value.slice none 0 0) := ⟨_, rfl⟩
      obtain ⟨hs, hhs⟩ : ∃ hs, hs = hic st' := ⟨_, rfl⟩
      have hxl : xs.length = n := by rw [hxs, List.length_append, List.length_map, hrl.out.hlen, List.length_replicate]; omega
      have hxk : xs[k]? = some (.slice none 0 0) := by rw [hxs, List.getElem?_append_right (by rw [List.length_map, hrl.out.hlen]; exact Nat.le_refl _), List.length_map, hrl.out.hlen, Nat.sub_self]; rfl
      have hhl : hs.length = n * 2 := by rw [hhs, hic_length, hrl.out.len, hn.out]
      have hhk : hs[k * 2 + 1]? = some (.slice VA L.length vcap) := by rw [hhs]; exact (hic_get st' k _ hp').2
      obtain ⟨L1, hL1⟩ : ∃ L1, L1 = L.filter (aheadV t) := ⟨_, rfl⟩
      obtain ⟨L2, hL2⟩ : ∃ L2, L2 = L.filter fun x => !aheadV t x := ⟨_, rfl⟩
      have hkh := hide (show k * 2 + 1 < hs.length by omega)
      have hkx := hide (show k < xs.length by omega)
      have hS2 := hide (show ∀ b, b ∈ [rb, ia] → b ∈ S2 by
        intro b hb
        simp only [List.mem_cons, List.not_mem_nil, or_false] at hb
        rcases hb with rfl | rfl
        · exact hrS.out
        · exact hiS.out)
      have hA := hIA2
      have hna := hide (show a ∉ [rb, ia] from fun m => haS.out (hS2.out _ m))
      have hset0 := set_idA hxk
      have hset1 := set_idA hhk
      have hJ0 := hide (show relJ rb ia xs hs k S2 L1 L2 (.slice VA L.length vcap) (fun _ => false) wr from ⟨⟨_, by rw [hset0, hxs]; exact hR.out, fun q => by cases q⟩, ⟨_, by rw [hset1, hhs]; exact hIA.out.1.2, fun _ => rfl, fun q => by cases q⟩, fun q => by cases q⟩)
      have hpart := hide (fun w' (hX : Fr [rb, ia] wr w') => (part_c t cb L hLk (.slice VA L.length vcap) w' (Ob.fr (hcbW.out.fr hF2.out hcS.out) hX hcS.out) ((hEw.fr hX hS2.out).less (by simp))).mono fun e w1 hr => by
        obtain ⟨v1, v2, e1, o1, o2, -, x1⟩ := hr
        have hb : ∀ b, b ∈ S2 → b < w'.heap.size := fun b hb => Nat.lt_of_lt_of_le (hSz.out b hb) (Nat.le_trans hF2.out.size hX.size)
        exact (show ∃ v, e = .returned v ∧ (∃ v1 v2, v = .tuple #[v1, v2] ∧ Ew w1 S2 v1 L1 ∧ Ew w1 S2 v2 L2) ∧ Ext w' w1 from ⟨_, e1, ⟨v1, v2, rfl, by rw [hL1]; exact ⟨Sl.own o1 hb, fun p hp => Sl.ext (Sl.fr (hEw.2 p (List.mem_filter.1 hp).1) hX hS2.out) x1⟩, by rw [hL2]; exact ⟨Sl.own o2 hb, fun p hp => Sl.ext (Sl.fr (hEw.2 p (List.mem_filter.1 hp).1) hX hS2.out) x1⟩⟩, x1⟩))
      have hfin := hide (show ∀ (w7 : World) (z1 z2 : Value), Fr [rb, ia] wr w7 → Ob w7 rb 34 (xs.set k z1) → Ew w7 S2 z1 L1 → Ob w7 ia 55 (hs.set (k * 2 + 1) z2) → Ew w7 S2 z2 L2 →
          ∃ st2 H2, Hid (IA w7 S2 a ia st2) ∧ Hid (RelL t st (k + 1) st2 H2) ∧ Hid (Ob w7 rb 34 (H2.map (·.1) ++ List.replicate m (Value.slice none 0 0))) ∧ Hid (∀ p ∈ H2, Ew w7 S2 p.1 p.2) ∧ Hid (Fr [ia] w w7) ∧ Hid (Fr [rb, ia] Wc w7) from fun w7 z1 z2 hF7 o1 e1 o2 e2 => by
        refine ⟨st'.set k (c, z2, L2), H ++ [(z1, L1)], ⟨⟨?_, ?_⟩, fun p hp => ?_, hIA.out.2.2⟩, ?_, ?_, fun p hp => ?_, hF.out.then hF7 (fun b hb => ?_), hF2.out.trans hF7⟩
        · rw [List.length_set]; exact hIA.out.1.1.fr hF7 hna.out
        · rw [hic_setH st' k c _ z2 L L2 hp', ← hhs]; exact o2
        · rcases mem_set_of hp with rfl | hm
          · exact e2
          · exact (hIA.out.2.1 p hm).fr hF7 hS2.out
        · rw [hL1, hL2]; exact hrl.out.step hp z1 z2
        · have : xs.set k z1 = (H ++ [(z1, L1)]).map (·.1) ++ List.replicate m (Value.slice none 0 0) := by
            rw [hxs, List.set_append_right _ _ (by rw [List.length_map, hrl.out.hlen]; exact Nat.le_refl _), List.length_map, hrl.out.hlen, Nat.sub_self, List.replicate_succ, List.set_cons_zero]; simp
          rw [← this]; exact o1
        · rcases List.mem_append.1 hp with hm | hm
          · exact (hH.out p hm).fr hF7 hS2.out
          · obtain rfl := List.mem_singleton.1 hm; exact e1
        · simp only [List.mem_cons, List.not_mem_nil, or_false] at hb
          rcases hb with rfl | rfl
          · exact .inr hrbw.out
          · exact .inl (by simp))
      clear hp hp' hLk hEw hxs hhs hxk hhk hset0 hset1 hxl hhl hL1 hL2 hR hH hIA2
      go_wp2_with fail
      --REGION
      refine wp_region_objs (S := [rb, ia]) [.is (.slice (some ⟨rb, 0, none⟩) n n), .is (.int .i64 k), .is (.pointer (some ⟨a, 0, none⟩)), .is (.pointer (some ⟨a, 0, none⟩)), .is (.pointer (some ⟨a, 0, none⟩)), .is (.slice (some ⟨ia, 0, none⟩) n n), .is (.int .i64 k), .is (.pointer (some ⟨a, 0, none⟩)), .is (.pointer (some ⟨a, 0, none⟩)), .is (.pointer (some ⟨a, 0, none⟩)), .is (.slice (some ⟨ia, 0, none⟩) n n), .is (.int .i64 k), .is (.pointer (some ⟨ia, k * 2, none⟩)), .is (.pointer (some ⟨ia, k * 2 + 1, none⟩)), .is (.slice VA L.length vcap), .is (.func (.func 41) #[] #[.pointer (some ⟨cb, 0, none⟩)]), tupF S2 L1 L2 hS2.out, tupF S2 L1 L2 hS2.out, ewF S2 L1 hS2.out, ewF S2 L2 hS2.out, .is (.pointer (some ⟨rb, k, none⟩)), .any, .is (.pointer (some ⟨ia, k * 2, none⟩)), .is (.pointer (some ⟨ia, k * 2 + 1, none⟩)), .any] (relJ rb ia xs hs k S2 L1 L2 (.slice VA L.length vcap)) [14, 21, 24] (by kernel_rfl) (by kernel_rfl) (by kernel_rfl) (fun _ _ _ hj hx => relJ_ext hj hx) relJ_keys hJ0.out ?_ ?_
      · refine ⟨?_, ?_, ?_, ?_, ?_, ?_, ?_, ?_, ?_, ?_, ?_, ?_, ?_, ?_, ?_, ?_, ?_, ?_, ?_, ?_, ?_, ?_, ?_, ?_, ?_, trivial⟩
        · intro b w' Lf h
          have f4 : b.tmps.getD 4 undef = (.slice (some ⟨rb, 0, none⟩) n n) := h.else_ 4 (of_decide_eq_true (by kernel_rfl))
          exact .inl ⟨by decide, good_move (wanted_none rfl) rfl f4⟩
        · intro b w' Lf h
          have f5 : b.tmps.getD 5 undef = (.int .i64 k) := h.else_ 5 (of_decide_eq_true (by kernel_rfl))
          exact .inl ⟨by decide, good_move (wanted_none rfl) rfl f5⟩
        · intro b w' Lf h
          have f0 : b.tmps.getD 0 undef = (.pointer (some ⟨a, 0, none⟩)) := h.else_ 0 (of_decide_eq_true (by kernel_rfl))
          exact .inl ⟨by decide, good_move (wanted_none rfl) rfl f0⟩
        · intro b w' Lf h
          have f25 : b.tmps.getD 25 undef = (.pointer (some ⟨a, 0, none⟩)) := h.dep 2 _ 25 (by kernel_rfl) rfl rfl
          exact .inl ⟨by decide, good_nilCheck (wanted_none rfl) rfl f25 rfl⟩
        · intro b w' Lf h
          have f26 : b.tmps.getD 26 undef = (.pointer (some ⟨a, 0, none⟩)) := h.dep 3 _ 26 (by kernel_rfl) rfl rfl
          exact .inl ⟨by decide, good_field (wanted_none rfl) rfl f26 (by simp [go_sem]) rfl⟩
        · intro b w' Lf h
          have f27 : b.tmps.getD 27 undef = (.pointer (some ⟨a, 0, none⟩)) := h.dep 4 _ 27 (by kernel_rfl) rfl rfl
          have c := Ob.cell (hA.out.fr h.ext hna.out) 0 rfl
          exact .inl ⟨by decide, good_load (wanted_none rfl) rfl f27 (by simp [go_sem, c]) rfl⟩
        · intro b w' Lf h
          have f5 : b.tmps.getD 5 undef = (.int .i64 k) := h.else_ 5 (of_decide_eq_true (by kernel_rfl))
          exact .inl ⟨by decide, good_move (wanted_none rfl) rfl f5⟩
        · intro b w' Lf h
          have f0 : b.tmps.getD 0 undef = (.pointer (some ⟨a, 0, none⟩)) := h.else_ 0 (of_decide_eq_true (by kernel_rfl))
          exact .inl ⟨by decide, good_move (wanted_none rfl) rfl f0⟩
        · intro b w' Lf h
          have f30 : b.tmps.getD 30 undef = (.pointer (some ⟨a, 0, none⟩)) := h.dep 7 _ 30 (by kernel_rfl) rfl rfl
          exact .inl ⟨by decide, good_nilCheck (wanted_none rfl) rfl f30 rfl⟩
        · intro b w' Lf h
          have f31 : b.tmps.getD 31 undef = (.pointer (some ⟨a, 0, none⟩)) := h.dep 8 _ 31 (by kernel_rfl) rfl rfl
          exact .inl ⟨by decide, good_field (wanted_none rfl) rfl f31 (by simp [go_sem]) rfl⟩
        · intro b w' Lf h
          have f32 : b.tmps.getD 32 undef = (.pointer (some ⟨a, 0, none⟩)) := h.dep 9 _ 32 (by kernel_rfl) rfl rfl
          have c := Ob.cell (hA.out.fr h.ext hna.out) 0 rfl
          exact .inl ⟨by decide, good_load (wanted_none rfl) rfl f32 (by simp [go_sem, c]) rfl⟩
        · intro b w' Lf h
          have f5 : b.tmps.getD 5 undef = (.int .i64 k) := h.else_ 5 (of_decide_eq_true (by kernel_rfl))
          exact .inl ⟨by decide, good_move (wanted_none rfl) rfl f5⟩
        · intro b w' Lf h
          have f33 : b.tmps.getD 33 undef = (.slice (some ⟨ia, 0, none⟩) n n) := h.dep 10 _ 33 (by kernel_rfl) rfl rfl
          have f34 : b.tmps.getD 34 undef = (.int .i64 k) := h.dep 11 _ 34 (by kernel_rfl) rfl rfl
          exact .inl ⟨by decide, good_index (wanted_none rfl) rfl f33 f34 (by simp [go_sem, hkI]) rfl⟩
        · intro b w' Lf h
          have f35 : b.tmps.getD 35 undef = (.pointer (some ⟨ia, k * 2, none⟩)) := h.dep 12 _ 35 (by kernel_rfl) rfl rfl
          exact .inl ⟨by decide, good_field (wanted_none rfl) rfl f35 (by simp [go_sem]) rfl⟩
        · intro b w' Lf h
          have f36 : b.tmps.getD 36 undef = (.pointer (some ⟨ia, k * 2 + 1, none⟩)) := h.dep 13 _ 36 (by kernel_rfl) rfl rfl
          obtain ⟨hR, ⟨z, hI, e0, e1⟩, e2⟩ := h.obj
          have hL24 : Lf 24 = false := by cases hL : Lf 24 with | false => rfl | true => exact absurd (e2 hL) (by rw [h.fresh]; decide)
          obtain rfl := e0 hL24
          have c := Ob.cell hI (k * 2 + 1) (List.getElem?_set_self hkh.out)
          exact .inr (goodM_doneA (fun _ _ h => Fr.of_ext h) (fun _ _ _ hj hx => relJ_ext hj hx) (relJ_done hL24 h.obj) (good_load (wanted_none rfl) rfl f36 (by simp [go_sem, c]) rfl))
        · intro b w' Lf h
          have f3 : b.tmps.getD 3 undef = (.func (.func 41) #[] #[.pointer (some ⟨cb, 0, none⟩)]) := h.else_ 3 (of_decide_eq_true (by kernel_rfl))
          exact .inl ⟨by decide, good_move (wanted_none rfl) rfl f3⟩
        · intro b w' Lf h
          have f37 : b.tmps.getD 37 undef = (.slice VA L.length vcap) := h.dep 14 _ 37 (by kernel_rfl) rfl rfl
          have f38 : b.tmps.getD 38 undef = (.func (.func 41) #[] #[.pointer (some ⟨cb, 0, none⟩)]) := h.dep 15 _ 38 (by kernel_rfl) rfl rfl
          have g37 : b.tmps[37]?.getD undef = (.slice VA L.length vcap) := by rw [← Array.getD_eq_getD_getElem?]; exact f37
          have g38 : b.tmps[38]?.getD undef = (.func (.func 41) #[] #[.pointer (some ⟨cb, 0, none⟩)]) := by rw [← Array.getD_eq_getD_getElem?]; exact f38
          refine .inl ⟨by decide, good_call (wanted_none rfl) rfl (enters Tryz.func23 (by kernel_rfl) rfl) ?_⟩
          rw [show (#[.tmp 37, .tmp 38] : Array Operand).map b.eval = #[(.slice VA L.length vcap), (.func (.func 41) #[] #[.pointer (some ⟨cb, 0, none⟩)])] by simp [Act.eval, g37, g38]]
          exact hpart.out w' h.ext
        · intro b w' Lf h
          have f39 : ∃ v1 v2, (b.tmps.getD 39 undef) = .tuple #[v1, v2] ∧ Ew w' S2 v1 L1 ∧ Ew w' S2 v2 L2 := h.dep 16 _ 39 (by kernel_rfl) rfl rfl
          exact .inl ⟨by decide, good_move (wanted_none rfl) rfl f39⟩
        · intro b w' Lf h
          have f22 : ∃ v1 v2, (b.tmps.getD 22 undef) = .tuple #[v1, v2] ∧ Ew w' S2 v1 L1 ∧ Ew w' S2 v2 L2 := h.dep 17 _ 22 (by kernel_rfl) rfl rfl
          obtain ⟨v1, v2, e22, p1, p2⟩ := f22
          have g22 : b.tmps[22]?.getD undef = .tuple #[v1, v2] := by rw [← Array.getD_eq_getD_getElem?]; exact e22
          exact .inl ⟨by decide, good_run (wanted_none rfl) (v := v1) (by simp [execOp, Act.eval, go_sem, g22, Sem.run_bind, Sem.run_pure, Result.andThen_ok]) p1⟩
        · intro b w' Lf h
          have f22 : ∃ v1 v2, (b.tmps.getD 22 undef) = .tuple #[v1, v2] ∧ Ew w' S2 v1 L1 ∧ Ew w' S2 v2 L2 := h.dep 17 _ 22 (by kernel_rfl) rfl rfl
          obtain ⟨v1, v2, e22, p1, p2⟩ := f22
          have g22 : b.tmps[22]?.getD undef = .tuple #[v1, v2] := by rw [← Array.getD_eq_getD_getElem?]; exact e22
          exact .inl ⟨by decide, good_run (wanted_none rfl) (v := v2) (by simp [execOp, Act.eval, go_sem, g22, Sem.run_bind, Sem.run_pure, Result.andThen_ok]) p2⟩
        · intro b w' Lf h
          have f23 : b.tmps.getD 23 undef = (.slice (some ⟨rb, 0, none⟩) n n) := h.dep 0 _ 23 (by kernel_rfl) rfl rfl
          have f24 : b.tmps.getD 24 undef = (.int .i64 k) := h.dep 1 _ 24 (by kernel_rfl) rfl rfl
          exact .inl ⟨by decide, good_index (wanted_none rfl) rfl f23 f24 (by simp [go_sem, hkI]) rfl⟩
        · intro b w' Lf h
          have f42 : b.tmps.getD 42 undef = (.pointer (some ⟨rb, k, none⟩)) := h.dep 20 _ 42 (by kernel_rfl) rfl rfl
          have f40 : Ew w' S2 (b.tmps.getD 40 undef) L1 := h.dep 18 _ 40 (by kernel_rfl) rfl rfl
          obtain ⟨⟨y, hR, r1⟩, ⟨z, hI, e0, e1⟩, e2⟩ := h.obj
          obtain ⟨A9, c9, q9⟩ := ew_one f40
          have g40 : b.tmps[40]?.getD undef = .slice A9 L1.length c9 := by rw [← Array.getD_eq_getD_getElem?]; exact q9
          rw [q9] at f40
          have c := Ob.cell hR (k) (List.getElem?_set_self hkx.out)
          have fz := Ob.free hR (k)
          refine .inr (.inl ⟨wanted_none rfl, ?_⟩)
          unfold Oper.wp
          simp [execOp, Act.eval, f42, g40, go_sem, c, fz]
          have hF := (Fr.refl [rb, ia] w').setCell ⟨rb, k, none⟩ (.slice A9 L1.length c9) (.inl (by simp))
          have o1 := hR.set (k) (.slice A9 L1.length c9)
          rw [List.set_set] at o1
          have o2 := hI.far ⟨rb, k, none⟩ (.slice A9 L1.length c9) hri.out
          exact ⟨⟨undef, trivial⟩, hF, ⟨_, o1, fun _ => f40.fr hF hS2.out⟩, ⟨z, o2, fun hh => e0 (by simpa [done] using hh), fun hh => (e1 (by simpa [done] using hh)).fr hF hS2.out⟩, fun hh => by have := e2 (by simpa [done] using hh); simpa [done] using this⟩
        · intro b w' Lf h
          have f28 : b.tmps.getD 28 undef = (.slice (some ⟨ia, 0, none⟩) n n) := h.dep 5 _ 28 (by kernel_rfl) rfl rfl
          have f29 : b.tmps.getD 29 undef = (.int .i64 k) := h.dep 6 _ 29 (by kernel_rfl) rfl rfl
          exact .inl ⟨by decide, good_index (wanted_none rfl) rfl f28 f29 (by simp [go_sem, hkI]) rfl⟩
        · intro b w' Lf h
          have f43 : b.tmps.getD 43 undef = (.pointer (some ⟨ia, k * 2, none⟩)) := h.dep 22 _ 43 (by kernel_rfl) rfl rfl
          exact .inl ⟨by decide, good_field (wanted_none rfl) rfl f43 (by simp [go_sem]) rfl⟩
        · intro b w' Lf h
          have f44 : b.tmps.getD 44 undef = (.pointer (some ⟨ia, k * 2 + 1, none⟩)) := h.dep 23 _ 44 (by kernel_rfl) rfl rfl
          have f41 : Ew w' S2 (b.tmps.getD 41 undef) L2 := h.dep 19 _ 41 (by kernel_rfl) rfl rfl
          obtain ⟨⟨y, hR, r1⟩, ⟨z, hI, e0, e1⟩, e2⟩ := h.obj
          obtain ⟨A9, c9, q9⟩ := ew_one f41
          have g41 : b.tmps[41]?.getD undef = .slice A9 L2.length c9 := by rw [← Array.getD_eq_getD_getElem?]; exact q9
          rw [q9] at f41
          have c := Ob.cell hI (k * 2 + 1) (List.getElem?_set_self hkh.out)
          have fz := Ob.free hI (k * 2 + 1)
          refine .inr (.inl ⟨wanted_none rfl, ?_⟩)
          unfold Oper.wp
          simp [execOp, Act.eval, f44, g41, go_sem, c, fz]
          have hF := (Fr.refl [rb, ia] w').setCell ⟨ia, k * 2 + 1, none⟩ (.slice A9 L2.length c9) (.inl (by simp))
          have o1 := hI.set (k * 2 + 1) (.slice A9 L2.length c9)
          rw [List.set_set] at o1
          have o2 := hR.far ⟨ia, k * 2 + 1, none⟩ (.slice A9 L2.length c9) (Ne.symm hri.out)
          have d14 := h.deps 14 (by kernel_rfl)
          exact ⟨⟨undef, trivial⟩, hF, ⟨y, o2, fun hh => (r1 (by simpa [done] using hh)).fr hF hS2.out⟩, ⟨_, o1, fun hh => by simp [done] at hh, fun _ => f41.fr hF hS2.out⟩, fun _ => by simp [done, d14]⟩
      intro b1 w7 hF7 hd7 hz7 he7 hf7 hJ7
      obtain ⟨⟨z1, hR7, r7⟩, ⟨z2, hI7, -, i7⟩, -⟩ := hJ7 (fun j => decide (j < 25)) (by intro j hj; simpa using hj) (by intro j hj; simpa using hj)
      replace r7 := hide (r7 rfl)
      replace i7 := hide (i7 rfl)
      clear hJ7 hf7
      have e := frame_puts hd7 hz7 he7
      obtain ⟨x, hx⟩ : ∃ x : Nat → Value, ∀ d, b1.tmps.getD d undef = x d := ⟨_, fun _ => rfl⟩
      rw [show dstsOf _ = [23, 24, 25, 26, 27, 28, 29, 30, 31, 32, 33, 34, 35, 36, 37, 38, 39, 22, 40, 41, 42, 43, 44] from rfl] at e
      simp only [List.foldl, hx, Act.put, List.setIfInBounds_toArray, List.set_cons_succ, List.set_cons_zero] at e
      --END
      subst e
      obtain ⟨st2, H2, q1, q2, q3, q4, q5, q6⟩ := hfin.out w7 z1 z2 hF7 hR7 r7.out hI7 i7.out
      clear hfin
      go_wp2_with fail
      go_roundg m
      case measure => omega
      case rel => exact ⟨k + 1, st2, H2, by go_num, by omega, q1, q2, by rw [hm2]; exact q3, q4, q5, q6⟩
    · have hge : (n : Int) ≤ k := by omega
      have hkn2 : k = n := by omega
      have hg0 : n - k = 0 := by omega
      rw [hg0] at hR
      replace hkn2 := hide hkn2
      go_wp2_with fail
      go_returns
      have hkl : k = st.length := by rw [hkn2.out, hn.out]
      have ho := hrl.out.open_
      have hs := hrl.out.sure
      rw [List.take_of_length_le (by rw [absX_len, hrl.out.len, hkl]; exact Nat.le_refl _), List.take_of_length_le (by rw [open_len, absX_len, hkl]; exact Nat.le_refl _)] at ho
      rw [List.take_of_length_le (by simp [sureX, hkl])] at hs
      refine ⟨_, H, rfl, hs, ?_, ⟨st', ho, ⟨hIA.out.1, fun p hp => (hIA.out.2.1 p hp).less hsub.out, hh.out.2.2⟩⟩, hF.out⟩
      have hRR := hR.out
      rw [List.replicate_zero, List.append_nil] at hRR
      rw [show n = H.length by rw [hrl.out.hlen, hkn2.out]]
      refine ⟨slOb hRR ?_ (by rw [hrl.out.hlen, hkn2.out]; unfold maxLen; omega) ?_, fun p hp => (hH.out p hp).less hsub.out⟩
      · simp
      · intro m; have := hS.out _ m; omega
end Go.Proofs.YtjmoifbajjemmaaGreat
