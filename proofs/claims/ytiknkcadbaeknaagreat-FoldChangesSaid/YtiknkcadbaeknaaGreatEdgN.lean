/-
  A helper of ours: no claim of its own. Layer 10 (edge): edges put together, by the code.
-/
import Derived.Test.YtiknkcadbaeknaaGreatDrRowD
import Derived.Test.YtiknkcadbaeknaaGreatEdgB
import Derived.Test.YtiknkcadbaeknaaGreatSortE
import Derived.Test.YtiknkcadbaeknaaGreatStepO
import Derived.Test.YtiknkcadbaeknaaGreatEdgEn
set_option linter.unusedVariables false
set_option linter.unusedSimpArgs false
namespace Go.Proofs.YtiknkcadbaeknaaGreat.Dr
open Go.RowKit
attribute [local go_sem] GW.cell GW.frozen In.eq_true In.le_true In.ne In.ne' In.ne_add In.ne_add' In.lt_add Upto.le_true Upto.le_add Upto.lt_add
set_option maxHeartbeats 1000000 in
theorem byRow_d (q : List Vl) (j : Jp) (v : Value) (r : List Vl) (k : Jp) (u : Value) (w : World) (hq : Rw w [] v q) (hr : Rw w [] u r) : Calls Tryz.prog 139 #[em v j, em u k] w fun e w' => e = .returned (.int .i64 (cmpR q r)) ∧ Ext w w' := by
  obtain ⟨jp, jn⟩ := j
  obtain ⟨kp, kn⟩ := k
  have h1 := hide (fun w' (hX : Ext w w') => rowCompare_c (Sl.ext hq hX.ext) (Sl.ext hr hX.ext))
  obtain ⟨A, cap, rfl⟩ := rw_val hq
  obtain ⟨B, cap2, rfl⟩ := rw_val hr
  have hX0 := hide (((Ext.refl w).alloc (.cells #[.slice A q.length cap, .int .i64 jp, .int .i64 jn] 147)).alloc (.cells #[.slice B r.length cap2, .int .i64 kp, .int .i64 kn] 147))
  generalize cmpR q r = m at *
  clear hq hr
  go_enter Tryz.func139, Tryz.ntmps139
  go_wp2_with (go_at_call 156; (with_reducible refine seq_gw (h1.out _ hX0.out) ?_); intro g)
  go_returns
  exact ⟨rfl, hX0.out.trans g.grown⟩
theorem ext_grow {W w : World} (h : Ext W w) : ∃ q os', w = Go.Sort.grow (W.drewN q) os' := by
  obtain ⟨⟨hos, htape, hout, hsize, hblock⟩, hd⟩ := h
  refine ⟨w.drawn - W.drawn, w.heap.extract W.heap.size w.heap.size, ?_⟩
  have hh : w.heap = W.heap ++ w.heap.extract W.heap.size w.heap.size := by
    apply Array.ext_getElem?
    intro i
    by_cases hi : i < W.heap.size
    · rw [Array.getElem?_append_left hi, hblock i hi]
    · rw [Array.getElem?_append_right (by omega), Array.getElem?_extract]
      by_cases hj : i < w.heap.size
      · rw [if_pos (by omega)]; congr 1; omega
      · rw [if_neg (by omega), Array.getElem?_eq_none (by omega)]
  obtain ⟨wh, wt, wd, wo, wu⟩ := w
  obtain ⟨Wh, Wt, Wd, Wo, Wu⟩ := W
  simp only at hos htape hout hd hh
  subst hos; subst htape; subst hout
  unfold Go.Sort.grow World.drewN
  simp only
  rw [show Wd + (wd - Wd) = wd by omega]
  congr 1
end Go.Proofs.YtiknkcadbaeknaaGreat.Dr
namespace Go.Proofs.YtiknkcadbaeknaaGreat
open Go.RowKit
/-- An edge whose row is one, and lies elsewhere than in block g. -/
abbrev SE (w : World) (g : Nat) := { p : Ve // Rw w [g] p.1 p.2.1 ∧ mayR p.2.1 = true }
instance (w : World) (g : Nat) : Inhabited (SE w g) := ⟨⟨(.slice none 0 0, [], (0, 0)), Sl.nil w [g] 3, rfl⟩⟩
def encE {w : World} {g : Nat} (x : SE w g) : List Value := ec1 x.1
def cfE {w : World} {g : Nat} (x y : SE w g) : Int := cmpT x.1.2.1 y.1.2.1
theorem lt_cmpE {w : World} {g : Nat} (x y : SE w g) : Go.Proofs.ltOf cfE x y = decide (cmpT x.1.2.1 y.1.2.1 < 0) := rfl
theorem swo_rows {w : World} {g : Nat} : Go.Sort.SWO (Go.Proofs.ltOf (cfE (w := w) (g := g))) where
  irrefl x := by rw [lt_cmpE, cmpT_self x.2.2]; rfl
  trans x y z h1 h2 := by
    rw [lt_cmpE, decide_eq_true_iff] at *
    have := cmpT_trans _ _ _ (mayR_iff.1 x.2.2).2 (mayR_iff.1 y.2.2).2 (mayR_iff.1 z.2.2).2 (by omega) (by omega)
    omega
  ntrans x y z h1 h2 := by
    rw [lt_cmpE, decide_eq_false_iff_not] at *
    have s1 := cmpT_swap x.1.2.1 y.1.2.1
    have s2 := cmpT_swap y.1.2.1 z.1.2.1
    have s3 := cmpT_swap x.1.2.1 z.1.2.1
    have := cmpT_trans _ _ _ (mayR_iff.1 z.2.2).2 (mayR_iff.1 y.2.2).2 (mayR_iff.1 x.2.2).2 (by omega) (by omega)
    omega
theorem flat_ec {w : World} {g : Nat} (l : List (SE w g)) : Go.Sort.flatK encE 3 l.toArray = (ec (l.map Subtype.val)).toArray := by
  apply Array.ext
  · simp [ec_length]
  · intro t h1 h2
    have ht : t < l.length * 3 := by simpa using h1
    have hi : t / 3 < l.length := by omega
    have hg := ec_get (l.map Subtype.val) (t / 3) l[t / 3].1 (by rw [List.getElem?_map, List.getElem?_eq_getElem (by omega)]; rfl)
    have e := Go.Sort.get_flatK encE 3 l.toArray t (by simpa using ht)
    rw [getElem!_pos _ t h1] at e
    have e2 : l.toArray[t / 3]! = l[t / 3] := by rw [getElem!_pos l.toArray (t / 3) (by simpa using hi)]; simp
    rw [e, e2]
    have h2' : t < (ec (l.map Subtype.val)).length := by rw [ec_length, List.length_map]; exact ht
    have e3 : (ec (l.map Subtype.val)).toArray[t] = (ec (l.map Subtype.val))[t] := by simp
    rw [e3]
    have hm : t % 3 < 3 := Nat.mod_lt _ (by decide)
    have key : ∀ j, j < 3 → t = t / 3 * 3 + j → (encE l[t / 3])[t % 3]! = (ec (l.map Subtype.val))[t] := by
      intro j hj ej
      have hjm : t % 3 = j := by omega
      have hv : (ec1 l[t / 3].1)[j]? = some ((ec1 l[t / 3].1)[j]'(by simp [ec1]; omega)) := List.getElem?_eq_getElem _
      have := hg j _ hv
      rw [← ej, List.getElem?_eq_getElem h2'] at this
      rw [Option.some.inj this, hjm]
      unfold encE
      rw [getElem!_pos _ j (by simp [ec1]; omega)]
    exact key (t % 3) hm (by omega)
theorem sub_list {w : World} {g : Nat} : ∀ (L : List Ve), (∀ p ∈ L, Rw w [g] p.1 p.2.1 ∧ mayR p.2.1 = true) → ∃ D : List (SE w g), D.map Subtype.val = L
  | [], _ => ⟨[], rfl⟩
  | p :: L, h => by
    obtain ⟨D, hD⟩ := sub_list L fun q hq => h q (by simp [hq])
    exact ⟨⟨p, h p (by simp)⟩ :: D, by rw [List.map_cons, hD]⟩
set_option maxHeartbeats 2000000 in
/-- Sorted by their rows, in place. -/
theorem sortE_c (W0 : World) (L : List Ve) (v : Value) (w : World) (h : OwnE w W0.heap.size v L) (hrows : ∀ p ∈ L, Rw w (ob v) p.1 p.2.1 ∧ mayR p.2.1 = true) (hX : Ext W0 w) (hn : L.length ≤ 1000000000) : Calls Tryz.prog 138 #[v, .func (.func 139) #[] #[]] w fun e w' =>
    e = .returned (.tuple #[]) ∧ ∃ s : List Ve, s.Perm L ∧ Rise (eds s) ∧ OwnE w' W0.heap.size v s ∧ Ext W0 w' ∧ ∀ p ∈ s, Rw w' (ob v) p.1 p.2.1 := by
  rcases h.2 with ⟨rfl, h0⟩ | ⟨g, cap, cur, rfl, hb, hg, hnc, hcm, hcs, ht⟩
  · obtain rfl : L = [] := List.eq_nil_of_length_eq_zero (by simpa using h0)
    have hc := AnyF.slices_SortFunc_none Tryz.sortE none 0 (.func (.func 139) #[] #[]) w
    refine hc.mono ?_
    rintro e w' ⟨rfl, rfl⟩
    exact ⟨rfl, [], List.Perm.refl _, ⟨by simp [eds], List.Pairwise.nil⟩, h, hX, by simp⟩
  · have eg : ∀ args w, (callFunc 139 args).run Tryz.prog w = .ok (.enter 139 args) w := enters_of Tryz.func139 (by kernel_rfl) rfl
    have hob : ob (Value.slice (some ⟨g, 0, none⟩) L.length cap) = [g] := rfl
    rw [hob] at hrows
    obtain ⟨D, hD⟩ := sub_list L hrows
    have hDl : D.length = L.length := by rw [← hD, List.length_map]
    have hH : Go.Sort.HoldsK encE 3 w g 0 D.toArray := by
      unfold Go.Sort.HoldsK
      rw [flat_ec, hD]
      intro j hj
      have hj' : j < L.length * 3 := by rw [← ec_length]; simpa using hj
      have h1 := World.ownsRow.cellAt h j hj'
      have h2 := World.ownsRow.frozenAt h j
      rw [Nat.zero_add]
      refine ⟨?_, h2⟩
      rw [h1, getElem!_pos _ j hj]
      simp [List.getElem?_eq_getElem (show j < (ec L).length by rw [ec_length]; exact hj')]
    have hgrows : ∀ (n : Nat) (d' : Array (SE w g)) (os : Array Obj), w.grownBy (Go.Proofs.sortWorldK encE 3 w g 0 n d' os) (some g) := fun n d' os => by
      unfold Go.Proofs.sortWorldK Go.Sort.putRowK; exact grownBy_put _
    have hcmp : Go.Proofs.CmpLays Tryz.prog 139 #[] (encE (w := w) (g := g)) 3 cfE g 0 D.toArray.size w := by
      intro m os dk _ x y
      have hF : Fr [g] w (Go.Proofs.sortWorldK encE 3 w g 0 m dk os) := (Fr.refl [g] w).grown (hgrows m dk os) (fun k hk => by cases hk; exact .inl (by simp))
      have hx := Sl.less (S' := []) (Sl.fr x.2.1 hF (by simp)) (by simp)
      have hy := Sl.less (S' := []) (Sl.fr y.2.1 hF (by simp)) (by simp)
      refine (Dr.byRow_d x.1.2.1 x.1.2.2 x.1.1 y.1.2.1 y.1.2.2 y.1.1 _ hx hy).mono ?_
      rintro e w' ⟨rfl, hE⟩
      exact ⟨by rw [cmpR_of x.2.2 y.2.2]; rfl, Dr.ext_grow hE⟩
    have hcon := AnyQ.slices_SortFunc Tryz.sortE 3 Tryz.isAgg147 Tryz.sizeOf147 (encE (w := w) (g := g)) (fun _ => rfl) (fun x u hu => by simp [encE, ec1] at hu; rcases hu with rfl | rfl | rfl; exact row_one x.2.1; rfl; rfl) cfE swo_rows 139 #[] g 0 cap D.toArray w eg hcmp hH (lt_of_block hg) (by simp; omega)
    have hsz : D.toArray.size = L.length := by simp [hDl]
    rw [hsz] at hcon
    refine hcon.mono ?_
    rintro e w' ⟨rfl, d', n, os, hp, hs, rfl⟩
    obtain ⟨p1, _, p3⟩ := hp
    have hd : d'.size = L.length := by rw [p1, hsz]
    have e1 : d'.extract 0 L.length = d' := by rw [← hd]; simp
    have e2 : D.toArray.extract 0 L.length = D.toArray := by rw [← hsz]; simp
    rw [e1, e2] at p3
    have hl : d'.toList.length = L.length := by rw [Array.length_toList]; exact hd
    have hflat : Go.Sort.flatK encE 3 d' = (ec (d'.toList.map Subtype.val)).toArray := by have := flat_ec d'.toList; rwa [Array.toArray_toList] at this
    have hgr := hgrows n d' os
    have hB : W0.heap.size ≤ g := hb
    have hml : (d'.toList.map Subtype.val).length = L.length := by rw [List.length_map]; exact hl
    have hF : Fr [g] w (Go.Proofs.sortWorldK encE 3 w g 0 n d' os) := (Fr.refl [g] w).grown hgr (fun k hk => by cases hk; exact .inl (by simp))
    refine ⟨rfl, d'.toList.map Subtype.val, ?_, ?_, ?_, ext_grown hX hgr (fun k hk => by cases hk; exact hB), ?_⟩
    · rw [← hD]
      exact (show d'.toList.Perm D by simpa using p3).map _
    · refine ⟨fun e he => ?_, ?_⟩
      · simp only [eds, List.map_map, List.mem_map] at he
        obtain ⟨x, -, rfl⟩ := he
        exact x.2.2
      · rw [eds, List.map_map, List.pairwise_map, List.pairwise_iff_getElem]
        intro i j hi hj hij
        have := hs i j (Nat.zero_le _) hij (by rw [hl] at hj; exact hj)
        rw [lt_cmpE, decide_eq_false_iff_not, getElem!_pos d' j (by simpa using hj), getElem!_pos d' i (by simpa using hi)] at this
        simp only [Array.getElem_toList, Function.comp_def]
        have hsw := cmpT_swap (d'[i]'(by simpa using hi)).1.2.1 (d'[j]'(by simpa using hj)).1.2.1
        omega
    · refine ⟨by rw [ec_length], .inr ⟨g, cap, Go.Sort.putCells id 0 (ec (d'.toList.map Subtype.val)).toArray cur, by rw [hml], hb, ?_, by rw [hml]; exact hnc, hcm, by simp [Go.Sort.putCells, hcs], ?_⟩⟩
      · unfold Go.Proofs.sortWorldK Go.Sort.putRowK
        rw [hflat]
        exact heap_put _ hg
      · have := take_put cur (ec (d'.toList.map Subtype.val)) (by rw [ec_length, hml, hcs]; exact Nat.mul_le_mul_right _ hnc)
        rwa [ec_length] at this
    · intro p hp
      obtain ⟨x, -, rfl⟩ := List.mem_map.1 hp
      exact show Rw _ [g] _ _ from Sl.fr x.2.1 hF (fun b hb => hb)
end Go.Proofs.YtiknkcadbaeknaaGreat
set_option linter.unusedVariables false
set_option linter.unusedSimpArgs false
namespace Go.Proofs.YtiknkcadbaeknaaGreat
open Go.RowKit
attribute [local go_sem] GW.cell GW.frozen In.eq_true In.le_true In.ne In.ne' In.ne_add In.ne_add' In.lt_add Upto.le_true Upto.le_add Upto.lt_add
theorem any_bad : ∀ L : List Ve, (eds L).any badE = (!(L.all fun x => mayR x.2.1) || !(L.all fun x => !tooJ x.2.2))
  | [] => rfl
  | x :: L => by
    have ih := any_bad L
    simp only [eds, List.map_cons, List.any_cons, List.all_cons] at ih ⊢
    rw [ih]
    unfold badE
    cases mayR x.2.1 <;> cases tooJ x.2.2 <;> cases (L.all fun x => mayR x.2.1) <;> cases (L.all fun x => !tooJ x.2.2) <;> rfl
theorem any_now : ∀ L : List Ve, (eds L).any (fun e => nowJ e.2) = !(L.all fun x => !nowJ x.2.2)
  | [] => rfl
  | x :: L => by
    have ih := any_now L
    simp only [eds, List.map_cons, List.any_cons, List.all_cons] at ih ⊢
    rw [ih]
    cases nowJ x.2.2 <;> cases (L.all fun x => !nowJ x.2.2) <;> rfl
theorem mayR_len {r : List Vl} (h : mayR r = true) : r.length ≤ 8 := (mayR_iff.1 h).1
set_option maxHeartbeats 4000000 in
set_option maxRecDepth 100000 in
theorem edgeNorm_c (L : List Ve) (hL : L.length ≤ 8192) (hJ : ∀ r, (jmps (eds L) r).length ≤ 8192) (v : Value) (w : World) (hC : Ew w [] v L) : Calls Tryz.prog 83 #[v] w fun e w' => ∃ v' M, e = .returned (.tuple #[v', .int .i64 (neE (eds L))]) ∧ eds M = neR (eds L) ∧ OwnEr w' w.heap.size v' M ∧ Ext w w' := by
  have h1 := hide (fun w' (hX : Ext w w') => containsERow_c L v w' (hC.ext hX))
  have h2 := hide (fun w' (hX : Ext w w') => containsEToo_c L v w' (hC.ext hX))
  have h3 := hide (fun w' (hX : Ext w w') => containsENow_c L v w' (hC.ext hX))
  have h4 := hide (fun w' (hX : Ext w w') => edgClone_c L v w' (hC.ext hX) (by omega))
  have hX0 := hide (Ext.refl w)
  obtain ⟨A, cap, rfl, hlc, hlm, -⟩ := ew_form hC
  unfold maxLen at hlm
  obtain ⟨E, hE⟩ : ∃ E, E = neE (eds L) := ⟨_, rfl⟩
  obtain ⟨R, hR⟩ : ∃ R, R = neR (eds L) := ⟨_, rfl⟩
  rw [← hE, ← hR]
  have hR' : R = if E = 0 then eachR nmOp (byRows (eds L)) else [] := by rw [hR, hE]; rfl
  unfold neE at hE
  rw [any_bad, any_now] at hE
  clear hR
  cases ha : L.all fun x => mayR x.2.1
  · rw [ha] at hE h1
    replace hE : E = 2 := by simpa using hE
    subst hE
    replace hR' : R = [] := by rw [hR', if_neg (by decide)]
    replace hR' := hide hR'
    go_enter Tryz.func83, Tryz.ntmps83
    go_wp2_with (go_at_call 85; (with_reducible refine seq_gw (h1.out _ hX0.out) ?_); intro g)
    go_returns
    exact ⟨_, [], rfl, by rw [hR'.out]; rfl, OwnEr.nil _ _, g.grown⟩
  cases hb : L.all fun x => !tooJ x.2.2
  · rw [ha, hb] at hE
    rw [ha] at h1
    rw [hb] at h2
    replace hE : E = 2 := by simpa using hE
    subst hE
    replace hR' : R = [] := by rw [hR', if_neg (by decide)]
    replace hR' := hide hR'
    go_enter Tryz.func83, Tryz.ntmps83
    go_wp2_with (first | (go_at_call 85; (with_reducible refine seq_gw (h1.out _ hX0.out) ?_); intro g) | (go_at_call 85; (with_reducible refine seq_gw' (h2.out _ g.grown) ?_); intro g2))
    go_returns
    exact ⟨_, [], rfl, by rw [hR'.out]; rfl, OwnEr.nil _ _, g2.grown⟩
  cases hc : L.all fun x => !nowJ x.2.2
  · rw [ha, hb, hc] at hE
    rw [ha] at h1
    rw [hb] at h2
    rw [hc] at h3
    replace hE : E = 13 := by simpa using hE
    subst hE
    replace hR' : R = [] := by rw [hR', if_neg (by decide)]
    replace hR' := hide hR'
    go_enter Tryz.func83, Tryz.ntmps83
    go_wp2_with (first | (go_at_call 85; (with_reducible refine seq_gw (h1.out _ hX0.out) ?_); intro g) | (go_at_call 85; (with_reducible refine seq_gw' (h2.out _ g.grown) ?_); intro g2) | (go_at_call 85; (with_reducible refine seq_gw' (h3.out _ g2.grown) ?_); intro g3))
    go_returns
    exact ⟨_, [], rfl, by rw [hR'.out]; rfl, OwnEr.nil _ _, g3.grown⟩
  rw [ha, hb, hc] at hE
  replace hE : E = eachE nmOp (byRows (eds L)) := by simpa using hE
  rw [ha] at h1
  rw [hb] at h2
  rw [hc] at h3
  have hvr : ∀ p ∈ L, mayR p.2.1 = true := fun p hp => List.all_eq_true.1 ha p hp
  have hsort := hide (fun (v1 : Value) (w1 : World) (ho : OwnE w1 w.heap.size v1 L) (hX : Ext w w1) => sortE_c w L v1 w1 ho (fun p hp => ⟨Sl.ext (Sl.new (S' := ob v1) (hC.2 p hp) (fun k hk => .inr (ob_ge ho k hk).1)) hX, hvr p hp⟩) hX (by omega))
  have heach := hide (fun (s : List Ve) (hp : s.Perm L) (hs : Rise (eds s)) (v1 : Value) (w1 : World) (ho : OwnE w1 w.heap.size v1 s) (hrw : ∀ p ∈ s, Rw w1 (ob v1) p.1 p.2.1) =>
    eachNorm_c s v1 w1 ⟨Sl.own ho (by simp), fun p hp => Sl.less (hrw p hp) (by simp)⟩ (by rw [hp.length_eq]; exact hL) (fun g hg => by
      obtain ⟨k1, k2, k3⟩ := grp_rows hs
      obtain ⟨e, he, hee⟩ := (k2 g.1).1 (List.mem_map.2 ⟨g, hg, rfl⟩)
      refine ⟨by rw [← hee]; exact mayR_len (hs.1 e he), ?_⟩
      rw [(k3 g hg).1, (jmps_perm (hp.map Prod.snd) g.1).length_eq]
      exact hJ g.1))
  have hcode := hide (fun (s : List Ve) (hp : s.Perm L) (hs : Rise (eds s)) => norm_code_e (l := eds L) (s := eds s) (hp.map Prod.snd) hs)
  have hRr : Hid (R = eachR nmOp (byRows (eds L))) := by
    show R = _
    rw [hR', hE]
    split
    · rfl
    · rename_i h; unfold eachR; rw [if_neg h]
  replace hE := hide hE
  clear hR' ha hb hc hvr hJ hC
  go_enter Tryz.func83, Tryz.ntmps83
  go_wp2_with (first | (go_at_call 85; (with_reducible refine seq_gw (h1.out _ hX0.out) ?_); intro g) | (go_at_call 85; (with_reducible refine seq_gw' (h2.out _ g.grown) ?_); intro g2) | (go_at_call 85; (with_reducible refine seq_gw' (h3.out _ g2.grown) ?_); intro g3) | (go_at_call 137; refine (h4.out _ g3.grown).mono ?_; rintro ee w1 ⟨v1, rfl, ho1, hx1⟩; have hX1 := g3.grown.trans hx1; replace ho1 := own_base ho1 g3.grown.size) | (go_at_call 138; refine (hsort.out v1 w1 ho1 hX1).mono ?_; rintro ee w2 ⟨rfl, s, hp, hs, ho2, hX2, hrw2⟩) | (go_at_call 92; refine (heach.out s hp hs v1 w2 ho2 hrw2).mono ?_; rintro ee w3 ⟨v3, M, rfl, hM, ho3, hX3⟩))
  go_returns
  exact ⟨_, M, by rw [(hcode.out s hp hs).1, ← hE.out]; rfl, by rw [hM, (hcode.out s hp hs).2, ← hRr.out], ho3.lower hX2.size, hX2.trans hX3⟩
end Go.Proofs.YtiknkcadbaeknaaGreat
