/-
  A helper of ours: no claim of its own. Layer 28 (hop): where windows begin to which a row with a function belongs: the code's iterator.
-/
import Derived.Test.YtljkneajdndgjaaGreatHopM
import Derived.Test.YtljkneajdndgjaaGreatStepR
set_option linter.unusedVariables false
set_option linter.unusedSimpArgs false
namespace Go.Proofs.YtljkneajdndgjaaGreat
open Go.RowKit
attribute [local go_sem] GW.cell GW.frozen In.eq_true In.le_true In.ne In.ne' In.ne_add In.ne_add' In.lt_add Upto.le_true Upto.le_add Upto.lt_add Oper.semAt_some wide_depth wide_fn
/-- Where windows begin that share a tick with one of the times; what is told up to a jump, and from where on. -/
def ofU (s hp r f : Int) (J : List Jp) (k : Nat) (x : Int) : List Int := hT hp (hA s hp f x) (hZ r (hnxJ J k))
def ofSt (s hp r : Int) (J : List Jp) (f : Int) : Nat → Int × List Int
  | 0 => (f, [])
  | k + 1 => match J[k]? with
    | none => ofSt s hp r J f k
    | some j => if js (J.take (k + 1)) = 0 then ofSt s hp r J f k else
        (((ofU s hp r (ofSt s hp r J f k).1 J k j.1).getLast?.map (· + 1)).getD (ofSt s hp r J f k).1, (ofSt s hp r J f k).2 ++ ofU s hp r (ofSt s hp r J f k).1 J k j.1)
def ofL (s hp r : Int) (J : List Jp) (f : Int) : List Int := (ofSt s hp r J f J.length).2
theorem ofSt_zero {s hp r : Int} {J : List Jp} {f : Int} {k : Nat} {j : Jp} (h : J[k]? = some j) (h0 : js (J.take (k + 1)) = 0) : ofSt s hp r J f (k + 1) = ofSt s hp r J f k := by rw [ofSt, h]; simp only [h0, if_true]
theorem ofSt_next {s hp r : Int} {J : List Jp} {f : Int} {k : Nat} {j : Jp} (h : J[k]? = some j) (h0 : js (J.take (k + 1)) ≠ 0) : ofSt s hp r J f (k + 1) = (((ofU s hp r (ofSt s hp r J f k).1 J k j.1).getLast?.map (· + 1)).getD (ofSt s hp r J f k).1, (ofSt s hp r J f k).2 ++ ofU s hp r (ofSt s hp r J f k).1 J k j.1) := by rw [ofSt, h]; simp only [h0, if_false]
theorem ofSt_pre (s hp r : Int) (J : List Jp) (f : Int) (k : Nat) : ∀ n, ∃ T, (ofSt s hp r J f (k + n)).2 = (ofSt s hp r J f k).2 ++ T
  | 0 => ⟨[], by simp⟩
  | n + 1 => by
    obtain ⟨T, hT⟩ := ofSt_pre s hp r J f k n
    rw [← Nat.add_assoc]
    cases hj : J[k + n]? with
    | none => exact ⟨T, by rw [ofSt, hj]; exact hT⟩
    | some j =>
      by_cases h0 : js (J.take (k + n + 1)) = 0
      · exact ⟨T, by rw [ofSt_zero hj h0]; exact hT⟩
      · exact ⟨_, by rw [ofSt_next hj h0]; simp only; rw [hT, List.append_assoc]⟩
theorem hT_in {h a e t : Int} (hh : 1 ≤ h) (ht : t ∈ hT h a e) : a ≤ t ∧ t < e := by
  obtain ⟨i, hi⟩ := List.getElem?_of_mem ht
  have hl : i < hN h a e := by rw [← hT_len]; exact (List.getElem?_eq_some_iff.1 hi).1
  rw [hT_at hl] at hi
  obtain rfl := Option.some.inj hi
  have h0 : 0 ≤ (i : Int) * h := Int.mul_nonneg (by omega) (by omega)
  exact ⟨by omega, (hN_lt hh i).1 hl⟩
theorem hbeg_lo {h : Int} (hh : 1 ≤ h) (x : Int) : 0 ≤ hbeg h x ∧ hbeg h x ≤ 1125899906842624 := by
  have k5 := Int.mul_nonneg (hcnt_in (h := h) (x := x) hh).1 (show (0 : Int) ≤ h by omega)
  unfold hbeg
  split <;> omega
theorem hZ_le {r hi : Int} (hr : r ≤ 1125899906842624) : hZ r hi ≤ 1125899906842624 := by unfold hZ; split <;> omega
theorem ofU_in {s hp r f : Int} {J : List Jp} {k : Nat} {x t : Int} (hh : 1 ≤ hp) (hr : r ≤ 1125899906842624) (ht : t ∈ ofU s hp r f J k x) : 0 ≤ t ∧ t < 1125899906842624 := by
  have h1 := hT_in hh ht
  have h2 := hZ_le (hi := hnxJ J k) hr
  have h3 : 0 ≤ hA s hp f x := by unfold hA; exact (hbeg_lo hh _).1
  omega
theorem ofSt_tick {s hp r : Int} {J : List Jp} {f : Int} (hh : 1 ≤ hp) (hr : r ≤ 1125899906842624) (hf : 0 ≤ f ∧ f ≤ 1125899906842624) : ∀ k, 0 ≤ (ofSt s hp r J f k).1 ∧ (ofSt s hp r J f k).1 ≤ 1125899906842624
  | 0 => hf
  | k + 1 => by
    have ih := ofSt_tick (s := s) (J := J) hh hr hf k
    cases hj : J[k]? with
    | none => rw [ofSt, hj]; exact ih
    | some j =>
      by_cases h0 : js (J.take (k + 1)) = 0
      · rw [ofSt_zero hj h0]; exact ih
      · rw [ofSt_next hj h0]
        simp only
        cases hl : (ofU s hp r (ofSt s hp r J f k).1 J k j.1).getLast? with
        | none => exact ih
        | some t =>
          have := ofU_in hh hr (List.mem_of_getLast? hl)
          simp only [Option.map_some, Option.getD_some]
          omega
/-- From where on, behind so many of them. -/
def lastF (U : List Int) (F : Int) (m : Nat) : Int := ((U.take m).getLast?.map (· + 1)).getD F
theorem lastF_next {U : List Int} {m : Nat} {t : Int} (h : U[m]? = some t) (F : Int) : lastF U F (m + 1) = t + 1 := by
  unfold lastF
  rw [List.take_add_one, h]
  simp
theorem hnxJ_in {J : List Jp} (hm : mayJ J = true) {k : Nat} {x y : Int} (h : J[k]? = some (x, y)) : x < hnxJ J k ∧ hnxJ J k ≤ 1125899906842624 := by
  unfold hnxJ
  have h1 := mayJ_at hm _ (List.mem_of_getElem? h)
  cases hn : J[k + 1]? with
  | none => simp only [Option.map_none, Option.getD_none]; simp only at h1; omega
  | some j =>
    have h2 := mayJ_at hm _ (List.mem_of_getElem? hn)
    have h3 := (mayJ_iff.1 hm).2.2
    obtain ⟨hl1, e1⟩ := List.getElem?_eq_some_iff.1 h
    obtain ⟨hl2, e2⟩ := List.getElem?_eq_some_iff.1 hn
    have h4 := (List.pairwise_iff_getElem.1 h3) k (k + 1) hl1 hl2 (by omega)
    rw [e1, e2] at h4
    simp only [Option.map_some, Option.getD_some]
    simp only at h4
    omega
/-- Marks on what was deferred: all shut in turn. -/
abbrev mks (ds : List Nat) : List Deferred := ds.map fun D => { target := .collected D, args := #[] }
def shut : List Nat → World → World
  | [], W => W
  | D :: ds, W => shut ds (W.putObj D (.deferred none))
theorem leaves_marks {P : Program} {fn : Func} {R : Ending → World → Prop} {tmps : Array Value} {v : Value} : ∀ (ds : List Nat) (W : World), ds.Nodup → (∀ D ∈ ds, W.heap[D]? = some (.deferred (some []))) →
    (results fn tmps).run P (shut ds W) = .ok v (shut ds W) → R (.returned v) (shut ds W) → LeavesInM Fence.wide 0 P fn tmps R (mks ds) .returning W
  | [], W, _, _, hr, hR => ⟨v, hr, hR⟩
  | D :: ds, W, hn, hd, hr, hR => by
    obtain ⟨h1, h2⟩ := List.nodup_cons.1 hn
    refine ⟨by simp, .inl ⟨D, _, rfl, run_takeDeferred (hd D (by simp)), leaves_marks ds _ h2 (fun E hE => ?_) hr hR⟩⟩
    exact (World.putObj_heap_other (fun e => h1 (by rw [← e]; exact hE))).trans (hd E (by simp [hE]))
/-- Marks that stand, from a place on. -/
def MkOk (N : Nat) (ds : List Nat) (W : World) : Prop := ds.Nodup ∧ ∀ D ∈ ds, N ≤ D ∧ W.heap[D]? = some (.deferred (some []))
theorem MkOk.stab {N B : Nat} {ds : List Nat} (h : ∀ D ∈ ds, D < B) : Stab B (MkOk N ds) :=
  ⟨fun A C x e => ⟨x.1, fun D hD => ⟨(x.2 D hD).1, (e.block _ (lt_of_block (x.2 D hD).2)).trans (x.2 D hD).2⟩⟩,
   fun A l o o' x hl _ _ => ⟨x.1, fun D hD => ⟨(x.2 D hD).1, (World.putObj_heap_other (by have := h D hD; omega)).trans (x.2 D hD).2⟩⟩⟩
theorem MkOk.set {N : Nat} {ds : List Nat} {W : World} {b : Nat} {T : TypeId} {vs : List Value} (h : MkOk N ds W) (o : Ob W b T vs) (p : Nat) (u : Value) : MkOk N ds (W.setCell ⟨b, p, none⟩ u) :=
  ⟨h.1, fun D hD => ⟨(h.2 D hD).1, (Below.heap_setCell W ⟨b, p, none⟩ u D (fun e => by
    have h1 := (h.2 D hD).2
    unfold Ob at o
    rw [show D = b from e, o] at h1
    cases h1)).trans (h.2 D hD).2⟩⟩
theorem MkOk.keeps {N : Nat} {ds : List Nat} {W W' : World} (h : MkOk N ds W) (k : KeepsFrom N W W') : MkOk N ds W' := ⟨h.1, fun D hD => ⟨(h.2 D hD).1, k.same D _ (h.2 D hD).1 (h.2 D hD).2 rfl⟩⟩
theorem MkOk.lt {N : Nat} {ds : List Nat} {W : World} (h : MkOk N ds W) : ∀ D ∈ ds, D < W.heap.size := fun D hD => lt_of_block (h.2 D hD).2
theorem MkOk.shut {N B : Nat} {p : World → Prop} (hp : Stab B p) (hB : B ≤ N) : ∀ (ds : List Nat) (W : World), MkOk N ds W → p W → p (shut ds W)
  | [], W, _, h => h
  | D :: ds, W, hm, h => by
    obtain ⟨h1, h2⟩ := List.nodup_cons.1 hm.1
    have hD := hm.2 D (by simp)
    refine MkOk.shut hp hB ds _ ⟨h2, fun E hE => ⟨(hm.2 E (by simp [hE])).1, (World.putObj_heap_other (fun e => h1 (by rw [← e]; exact hE))).trans (hm.2 E (by simp [hE])).2⟩⟩ (hp.put _ _ _ _ h (by omega) hD.2 rfl)
theorem MkOk.cons {N : Nat} {ds : List Nat} {W : World} {D : Nat} (h : MkOk N ds W) (hD : W.heap[D]? = some (.deferred (some []))) (hN : N ≤ D) (hl : ∀ E ∈ ds, E < D) : MkOk N (D :: ds) W :=
  ⟨List.nodup_cons.2 ⟨fun h1 => by have := hl D h1; omega, h.1⟩, fun E hE => by
    rcases List.mem_cons.1 hE with rfl | hE
    · exact ⟨hN, hD⟩
    · exact h.2 E hE⟩
/-- The iterator of windows as it is handed over. -/
def shF (s hp F r a e : Int) (B : Nat) (v : Value) (w : World) : Prop := ∃ ba be bw2, v = .func (.func 144) #[] #[.pointer (some ⟨ba, 0, none⟩), .pointer (some ⟨be, 0, none⟩), .pointer (some ⟨bw2, 0, none⟩)] ∧ KpW s hp F r a e ba be bw2 w ∧ B ≤ ba ∧ B ≤ be ∧ B ≤ bw2
theorem shF.ext {s hp F r a e : Int} {B : Nat} {v : Value} {w w' : World} (h : shF s hp F r a e B v w) (k : Ext w w') : shF s hp F r a e B v w' := by
  obtain ⟨ba, be, bw2, e, ⟨h1, h2, h3⟩, l⟩ := h
  exact ⟨ba, be, bw2, e, ⟨h1.ext k, h2.ext k, h3.ext k⟩, l⟩
set_option maxHeartbeats 2000000 in
set_option maxRecDepth 100000 in
theorem hof_c (s hp f r : Int) (v : Value) (n c : Nat) (A : Option Addr) (hv : v = .slice A n c) (w : World) : Calls Tryz.prog 107 #[winV s hp f r, v] w fun e w' => ∃ bw bj, e = .returned (.func (.func 147) #[] #[.pointer (some ⟨bw, 0, none⟩), .pointer (some ⟨bj, 0, none⟩)]) ∧ Ob w' bw 82 [.int .i64 s, .int .i64 hp, .int .i64 f, .int .i64 r] ∧ Ob w' bj 73 [v] ∧ w.heap.size ≤ bw ∧ w.heap.size ≤ bj ∧ Ext w w' := by
  subst hv
  go_enter Tryz.func107, Tryz.ntmps107
  go_wp2_with fail
  go_returns
  have h2 := Ob.new (w.alloc (.cells #[.int .i64 s, .int .i64 hp, .int .i64 f, .int .i64 r] 82)) 73 [.slice A n c]
  rw [World.size_alloc] at h2
  exact ⟨_, _, rfl, (Ob.new w 82 [.int .i64 s, .int .i64 hp, .int .i64 f, .int .i64 r]).alloc _, h2, Nat.le_refl _, by omega, ((Ext.refl w).alloc _).alloc _⟩
/-- What the iterator reads. -/
def KpO (s hp f r : Int) (bw bj : Nat) (v : Value) (J : List Jp) (A : World) : Prop := Ob A bw 82 [.int .i64 s, .int .i64 hp, .int .i64 f, .int .i64 r] ∧ (Ob A bj 73 [v] ∧ Jw A [] v J)
/-- A round's own facts. -/
def IOf (j0 : Nat → World → Prop) (N bb bl l base : Nat) (s hp F r a e : Int) (ba be bw2 : Nat) (U : List Int) (ds : List Nat) (m : Nat) (W : World) : Prop :=
  j0 (base + m) W ∧ (Ob W bb 92 [.func (.yield l) #[] #[]] ∧ (Ob W bl 82 [.int .i64 s, .int .i64 hp, .int .i64 (lastF U F m), .int .i64 r] ∧ (KpW s hp F r a e ba be bw2 W ∧ MkOk N ds W)))
theorem IOf.stab {j0 : Nat → World → Prop} {N B bb bl l base : Nat} {s hp F r a e : Int} {ba be bw2 : Nat} {U : List Int} {ds : List Nat} {m : Nat} (hj : ∀ k, Stab B (j0 k)) (hd : ∀ D ∈ ds, D < B) : Stab B (IOf j0 N bb bl l base s hp F r a e ba be bw2 U ds m) :=
  (hj _).and ((Stab.ob _ _ _).and ((Stab.ob _ _ _).and ((KpW.stab _ _ _ _ _ _ _ _ _ _).and (MkOk.stab hd))))
theorem IOf.cls {j0 : Nat → World → Prop} {N M bb bl l base : Nat} {s hp F r a e : Int} {ba be bw2 : Nat} {U : List Int} {ds : List Nat} {m : Nat} (hj : ∀ k, Cls N (j0 k)) (hN : N ≤ M) (h1 : bb < M) (h2 : bl < M) (h3 : ba < M) (h4 : be < M) (h5 : bw2 < M) : Cls M (IOf j0 N bb bl l base s hp F r a e ba be bw2 U ds m) :=
  fun A b o u vs ⟨k1, k2, k3, ⟨k4, k5, k6⟩, k7⟩ hb ho => ⟨hj _ A b o u vs k1 (by omega) ho, k2.far ⟨b, o, none⟩ u (by show bb ≠ b; omega), k3.far ⟨b, o, none⟩ u (by show bl ≠ b; omega), ⟨k4.far ⟨b, o, none⟩ u (by show ba ≠ b; omega), k5.far ⟨b, o, none⟩ u (by show be ≠ b; omega), k6.far ⟨b, o, none⟩ u (by show bw2 ≠ b; omega)⟩, k7.set ho o u⟩
set_option maxHeartbeats 16000000 in
set_option maxRecDepth 100000 in
theorem hof_seqk (s hp f r : Int) (J : List Jp) (hm : mayJ J = true) (v : Value) (w : World) (bw bj : Nat) (hs : hlen s = true) (hh : hlen hp = true) (hf : htick f = true) (hr : htick r = true) :
    SeqsK (KpO s hp f r bw bj v J) Tryz.prog 147 #[.pointer (some ⟨bw, 0, none⟩), .pointer (some ⟨bj, 0, none⟩)] Hwin (ofL s hp r J f) w := by
  intro l j0 jx0 W hW hJ hJx hCl hK hY h0
  obtain ⟨k1, k2⟩ := hlen_iff.1 hh
  obtain ⟨f1, f2⟩ := htick_iff.1 hf
  obtain ⟨r1, r2⟩ := htick_iff.1 hr
  have hK0 := hK 0 W h0
  obtain ⟨JA, jcap, rfl, hjc, hjm, -⟩ := jw_form hK0.2.2
  have hJl : J.length ≤ 1024 := mayJ_len hm
  have qw0 := hK0.1.cell 0 rfl
  have qw1 := hK0.1.cell 1 rfl
  have qw2 := hK0.1.cell 2 rfl
  have qw3 := hK0.1.cell 3 rfl
  have qj0 := hK0.2.1.cell 0 rfl
  have lw := hK0.1.lt
  have lj := hK0.2.1.lt
  haveI : In bw W := ⟨lw⟩
  haveI : In bj W := ⟨lj⟩
  have hJ' := hide hJ
  have hJx' := hide hJx
  have hCl' := hide hCl
  have hK' := hide hK
  have hY' := hide hY
  have hm' := hide hm
  obtain ⟨N, hN⟩ : ∃ N, N = W.heap.size := ⟨_, rfl⟩
  have hWb := hide (show Ext W ((W.alloc (.cells #[.func (.yield l) #[] #[]] 92)).alloc (.cells #[.int .i64 s, .int .i64 hp, .int .i64 f, .int .i64 r] 82)) from ((Ext.refl W).alloc _).alloc _)
  have obb : Ob ((W.alloc (.cells #[.func (.yield l) #[] #[]] 92)).alloc (.cells #[.int .i64 s, .int .i64 hp, .int .i64 f, .int .i64 r] 82)) W.heap.size 92 [.func (.yield l) #[] #[]] := (Ob.new W _ [_]).alloc _
  have obl : Ob ((W.alloc (.cells #[.func (.yield l) #[] #[]] 92)).alloc (.cells #[.int .i64 s, .int .i64 hp, .int .i64 f, .int .i64 r] 82)) (W.heap.size + 1) 82 [.int .i64 s, .int .i64 hp, .int .i64 f, .int .i64 r] := by have := Ob.new (W.alloc (.cells #[.func (.yield l) #[] #[]] 92)) 82 [.int .i64 s, .int .i64 hp, .int .i64 f, .int .i64 r]; rwa [World.size_alloc] at this
  have h0b := hide ((hJ 0).ext _ _ h0 hWb.out)
  have hobb := hide obb
  have hobl := hide obl
  clear hJ hJx hCl hK hY h0 hK0 hW obb obl hm
  refine calls_marks Tryz.func147 rfl ?_
  simp only [Tryz.ntmps147, List.size_toArray, List.length_cons, List.length_nil, Nat.reduceAdd, Nat.reduceSub, Array.replicate_succ, Array.replicate_zero, List.push_toArray, List.append_toArray, List.nil_append, List.cons_append]
  go_wp2_with fail
  generalize ((W.alloc (.cells #[.func (.yield l) #[] #[]] 92)).alloc (.cells #[.int .i64 s, .int .i64 hp, .int .i64 f, .int .i64 r] 82)) = Wa at *
  obtain ⟨bb, hbb⟩ : ∃ bb, bb = W.heap.size := ⟨_, rfl⟩
  obtain ⟨bl, hbl⟩ : ∃ bl, bl = W.heap.size + 1 := ⟨_, rfl⟩
  rw [← hbl] at hobl ⊢
  rw [← hbb] at hobb ⊢
  have hbbN : N ≤ bb := by omega
  have hblN : N ≤ bl := by omega
  have hbbl : bb ≠ bl := by omega
  rw [← hN] at hJ' hJx' hCl' hY'
  replace hN := hide hN
  replace hbb := hide hbb
  replace hbl := hide hbl
  clear qw0 qw1 qw2 qw3 qj0
  refine wp_loop_ghost_k (fun n a wr => ∃ (k : Nat) (ds : List Nat), ∃ u6 u7 u8 u13 u14 u15 u16 u17 u18 u19 u20 u21 u22 u23 u24 u25 u26 u27 u28 u29 u30 u31 u32 u33 u34 u35 u36 u37 u38 u39 : Value, k + n = J.length ∧ (Hid (j0 (ofSt s hp r J f k).2.length wr) ∧ Hid (Ob wr bb 92 [.func (.yield l) #[] #[]]) ∧ Hid (Ob wr bl 82 [.int .i64 s, .int .i64 hp, .int .i64 (ofSt s hp r J f k).1, .int .i64 r]) ∧ Hid (MkOk N ds wr)) ∧ a = { tmps := #[(.func (.yield l) #[] #[]), (.pointer (some ⟨bw, 0, none⟩)), (.pointer (some ⟨bj, 0, none⟩)), (.pointer (some ⟨bb, 0, none⟩)), (.pointer (some ⟨bl, 0, none⟩)), (.int .i64 (js (J.take k))), u6, u7, u8, (.agg #[.int .i64 s, .int .i64 hp, .int .i64 f, .int .i64 r]), (.slice JA J.length jcap), (.int .i64 J.length), (.int .i64 k), u13, u14, u15, u16, u17, u18, u19, u20, u21, u22, u23, u24, u25, u26, u27, u28, u29, u30, u31, u32, u33, u34, u35, u36, u37, u38, u39], defers := mks ds }) J.length ⟨0, [], undef, undef, undef, undef, undef, undef, undef, undef, undef, undef, undef, undef, undef, undef, undef, undef, undef, undef, undef, undef, undef, undef, undef, undef, undef, undef, undef, undef, undef, undef, by omega, ⟨h0b, hobb, hobl, ⟨List.nodup_nil, by simp⟩⟩, rfl⟩ ?_
  rintro gk _ Wr ⟨k, ds, u6, u7, u8, u13, u14, u15, u16, u17, u18, u19, u20, u21, u22, u23, u24, u25, u26, u27, u28, u29, u30, u31, u32, u33, u34, u35, u36, u37, u38, u39, hk, ⟨hjk, hob, hol, hmk⟩, rfl⟩ JJ KK hJJ hKK
  have hlen : (ofSt s hp r J f J.length).2 = ofL s hp r J f := rfl
  by_cases hlt : k < J.length
  · obtain ⟨⟨x, y⟩, hx⟩ : ∃ x, J[k]? = some x := ⟨_, List.getElem?_eq_getElem hlt⟩
    obtain ⟨ow, oj, hJw⟩ := hK'.out _ _ hjk.out
    obtain ⟨A', cap', e', -, -, hatj⟩ := jw_form hJw
    simp only [Value.slice.injEq] at e'
    obtain ⟨rfl, -, rfl⟩ := e'
    obtain ⟨gj, og, rfl, -, hgl, c0, c1⟩ := hatj _ _ hx
    simp only at c0 c1
    obtain ⟨S, hS⟩ : ∃ S, S = js (J.take k) := ⟨_, rfl⟩
    obtain ⟨V, hV⟩ : ∃ V, V = S + y := ⟨_, rfl⟩
    have hjs : js (J.take (k + 1)) = V := by rw [js_next hx, hV, hS]
    have hSin := js_small (l := J) (mayJ_net hm'.out) (by omega) k
    have hVin := js_small (l := J) (mayJ_net hm'.out) (by omega) (k + 1)
    rw [hjs] at hVin
    rw [← hS] at hSin ⊢
    haveI : In gj Wr := ⟨hgl⟩
    have hjat := mayJ_at hm'.out _ (List.mem_of_getElem? hx)
    simp only at hjat
    obtain ⟨b7, hb7⟩ : ∃ b7, b7 = Wr.heap.size := ⟨_, rfl⟩
    have ho7 : Ob (Wr.alloc (.cells #[.int .i64 x, .int .i64 y] 125)) b7 125 [.int .i64 x, .int .i64 y] := by rw [hb7]; exact Ob.new Wr _ [_, _]
    have hXa := hide ((Ext.refl Wr).alloc (.cells #[.int .i64 x, .int .i64 y] 125))
    have hNr : N ≤ Wr.heap.size := by have := hob.out.lt; omega
    by_cases hV0 : V = 0
    · have hst := ofSt_zero (s := s) (hp := hp) (r := r) (f := f) hx (by rw [hjs]; exact hV0)
      have hVb : (V == 0) = true := by simp [hV0]
      have hSy : S + y = 0 := by omega
      clear hatj hJw
      replace hst := hide hst
      replace hjs := hide hjs
      replace hS := hide hS
      have hV' := hide hV
      subst hV0
      clear hV
      go_wp2_with fail
      refine Handed.intro (J.length - (k + 1)) (by omega) (hJJ _ _ _ ⟨k + 1, ds, _, _, _, _, _, _, _, _, _, _, _, _, _, _, _, _, _, _, _, _, _, _, _, _, _, _, _, _, _, _, by omega, ⟨?_, hob.out.ext hXa.out, ?_, (MkOk.stab (hmk.out.lt)).ext _ _ hmk.out hXa.out⟩, by rw [hjs.out, show ((k + 1 : Nat) : Int) = (k : Int) + 1 by omega]⟩)
      · show j0 _ _
        rw [hst.out]
        exact (hJ'.out _).ext _ _ hjk.out hXa.out
      · rw [hst.out]
        exact hol.out.ext hXa.out
    · have hVb : (V == 0) = false := by simp [hV0]
      have hst := ofSt_next (s := s) (hp := hp) (r := r) (f := f) hx (by rw [hjs]; exact hV0)
      have htk := ofSt_tick (s := s) (J := J) k1 r2 ⟨f1, f2⟩ k
      have hnxb := hnxJ_in hm'.out hx
      have hpre := ofSt_pre s hp r J f (k + 1) (J.length - (k + 1))
      rw [show k + 1 + (J.length - (k + 1)) = J.length by omega, hst] at hpre
      simp only at hpre
      obtain ⟨F, hF⟩ : ∃ F, F = (ofSt s hp r J f k).1 := ⟨_, rfl⟩
      obtain ⟨nx, hnx⟩ : ∃ nx, nx = hnxJ J k := ⟨_, rfl⟩
      obtain ⟨base, hba⟩ : ∃ base, base = (ofSt s hp r J f k).2.length := ⟨_, rfl⟩
      obtain ⟨TT, hTT⟩ : ∃ TT, TT = (ofSt s hp r J f k).2 := ⟨_, rfl⟩
      rw [← hF] at hst hpre htk hol
      rw [← hba] at hjk
      rw [← hTT] at hst hpre hba
      rw [← hnx] at hnxb
      have hFt : htick F = true := htick_iff.2 htk
      obtain ⟨a, haE⟩ : ∃ a, a = hA s hp F x := ⟨_, rfl⟩
      obtain ⟨e, heE⟩ : ∃ e, e = hZ r nx := ⟨_, rfl⟩
      have hUd : ofU s hp r F J k x = hT hp a e := by unfold ofU; rw [haE, heE, hnx]
      rw [hUd] at hst hpre
      have hain : 0 ≤ a ∧ a ≤ 1125899906842624 := by rw [haE]; unfold hA; exact hbeg_lo k1 _
      have hein : e ≤ 1125899906842624 := by rw [heE]; exact hZ_le r2
      have hsh := hide (fun w' => sharing_c s hp F r x nx hs hh hFt hr (by omega) (by omega) w')
      rw [← haE, ← heE] at hsh
      have hsq := hide (fun w ba be bw2 => sharing_seqk s hp F r a e w ba be bw2 hh hain hein)
      have hUin := hide (fun t (ht : t ∈ hT hp a e) => hT_in k1 ht)
      obtain ⟨U, hU⟩ : ∃ U, U = hT hp a e := ⟨_, rfl⟩
      rw [← hU] at hst hpre hsq hUin
      replace hst := hide hst
      replace hpre := hide hpre
      replace hjs := hide hjs
      replace hS := hide hS
      replace hF := hide hF
      replace hnx := hide hnx
      replace hba := hide hba
      replace hTT := hide hTT
      replace haE := hide haE
      replace heE := hide heE
      replace hU := hide hU
      have hV' := hide hV
      have hjw' := hide hJw
      have hoj' := hide oj
      have hxk := hide hx
      have hSy : S + y = V := hV.symm
      clear hatj hJw hUd hV ow oj hx htk
      go_wp2_with fail
      rw [← hb7]
      replace hb7 := hide hb7
      have hnn := hide (fun w' (hX : Ext (Wr.alloc (.cells #[.int .i64 x, .int .i64 y] 125)) w') => hnext_c J k hlt (by omega) (.slice (some ⟨gj, og, none⟩) J.length jcap) w' (Sl.ext hjw'.out (hXa.out.trans hX)))
      rw [← hnx.out] at hnn
      have q0 := hide ((hol.out.ext hXa.out).cell 0 rfl)
      have q1 := hide ((hol.out.ext hXa.out).cell 1 rfl)
      have q2 := hide ((hol.out.ext hXa.out).cell 2 rfl)
      have q3 := hide ((hol.out.ext hXa.out).cell 3 rfl)
      have q7 := hide (ho7.cell 0 rfl)
      have qj := hide ((hoj'.out.ext hXa.out).cell 0 rfl)
      have hWz : Wr.heap.size ≤ (Wr.alloc (.cells #[.int .i64 x, .int .i64 y] 125)).heap.size := hXa.out.size
      have hllj : bl < Wr.heap.size := hol.out.lt
      generalize (Wr.alloc (.cells #[.int .i64 x, .int .i64 y] 125)) = Wj at *
      clear ho7
      refine wp_region_list [(.is ((.agg #[.int .i64 s, .int .i64 hp, .int .i64 F, .int .i64 r]))), (.is ((.pointer (some ⟨b7, 0, none⟩)))), (.is ((.int .i64 x))), (.is ((.slice (some ⟨gj, og, none⟩) J.length jcap))), (.is ((.int .i64 k))), (.is ((.int .i64 nx))), (.is ((.agg #[.int .i64 x, .int .i64 nx]))), (.st (shF s hp F r a e Wj.heap.size) (fun _ _ _ h k => h.ext k))] (by kernel_rfl) (by kernel_rfl) (by kernel_rfl) ?_ ?_
      · refine ⟨?_, ?_, ?_, ?_, ?_, ?_, ?_, ?_, trivial⟩
        · intro b w' h
          have f4 : b.tmps.getD 4 undef = (.pointer (some ⟨bl, 0, none⟩)) := h.else_ 4 (of_decide_eq_true (by kernel_rfl))
          have c0 := cell_later h.ext q0.out
          have c1 := cell_later h.ext q1.out
          have c2 := cell_later h.ext q2.out
          have c3 := cell_later h.ext q3.out
          exact good_load (wanted_none rfl) rfl f4 (by simp [go_sem, c0, c1, c2, c3]) rfl
        · intro b w' h
          have f7 : b.tmps.getD 7 undef = (.pointer (some ⟨b7, 0, none⟩)) := h.else_ 7 (of_decide_eq_true (by kernel_rfl))
          exact good_field (wanted_none rfl) rfl f7 (by simp [go_sem]) rfl
        · intro b w' h
          have f24 : b.tmps.getD 24 undef = (.pointer (some ⟨b7, 0, none⟩)) := h.dep 1 _ 24 (by kernel_rfl) rfl rfl
          have c0 := cell_later h.ext q7.out
          exact good_load (wanted_none rfl) rfl f24 (by simp [go_sem, c0]) rfl
        · intro b w' h
          have f2 : b.tmps.getD 2 undef = (.pointer (some ⟨bj, 0, none⟩)) := h.else_ 2 (of_decide_eq_true (by kernel_rfl))
          have c0 := cell_later h.ext qj.out
          exact good_load (wanted_none rfl) rfl f2 (by simp [go_sem, c0]) rfl
        · intro b w' h
          have f6 : b.tmps.getD 6 undef = (.int .i64 k) := h.else_ 6 (of_decide_eq_true (by kernel_rfl))
          exact good_move (wanted_none rfl) rfl f6
        · intro b w' h
          have f26 : b.tmps.getD 26 undef = (.slice (some ⟨gj, og, none⟩) J.length jcap) := h.dep 3 _ 26 (by kernel_rfl) rfl rfl
          have g26 : b.tmps[26]?.getD undef = (.slice (some ⟨gj, og, none⟩) J.length jcap) := by rw [← Array.getD_eq_getD_getElem?]; exact f26
          have f27 : b.tmps.getD 27 undef = (.int .i64 k) := h.dep 4 _ 27 (by kernel_rfl) rfl rfl
          have g27 : b.tmps[27]?.getD undef = (.int .i64 k) := by rw [← Array.getD_eq_getD_getElem?]; exact f27
          refine good_call (wanted_none rfl) rfl (enters Tryz.func148 (by kernel_rfl) rfl) ?_; rw [show (#[.tmp 26, .tmp 27] : Array Operand).map b.eval = #[.slice (some ⟨gj, og, none⟩) J.length jcap, .int .i64 k] by simp [Act.eval, g26, g27]]; exact (hnn.out w' h.ext).mono fun e w1 ⟨he, hx⟩ => ⟨_, he, rfl, hx⟩
        · intro b w' h
          have f25 : b.tmps.getD 25 undef = (.int .i64 x) := h.dep 2 _ 25 (by kernel_rfl) rfl rfl
          have g25 : b.tmps[25]?.getD undef = (.int .i64 x) := by rw [← Array.getD_eq_getD_getElem?]; exact f25
          have f28 : b.tmps.getD 28 undef = (.int .i64 nx) := h.dep 5 _ 28 (by kernel_rfl) rfl rfl
          have g28 : b.tmps[28]?.getD undef = (.int .i64 nx) := by rw [← Array.getD_eq_getD_getElem?]; exact f28
          exact good_run (wanted_none rfl) (by simp [execOp, Act.eval, go_sem, g25, g28, Sem.run_bind, Sem.run_pure, Result.andThen_ok]) rfl
        · intro b w' h
          have f23 : b.tmps.getD 23 undef = (.agg #[.int .i64 s, .int .i64 hp, .int .i64 F, .int .i64 r]) := h.dep 0 _ 23 (by kernel_rfl) rfl rfl
          have g23 : b.tmps[23]?.getD undef = (.agg #[.int .i64 s, .int .i64 hp, .int .i64 F, .int .i64 r]) := by rw [← Array.getD_eq_getD_getElem?]; exact f23
          have f29 : b.tmps.getD 29 undef = (.agg #[.int .i64 x, .int .i64 nx]) := h.dep 6 _ 29 (by kernel_rfl) rfl rfl
          have g29 : b.tmps[29]?.getD undef = (.agg #[.int .i64 x, .int .i64 nx]) := by rw [← Array.getD_eq_getD_getElem?]; exact f29
          refine good_call (wanted_none rfl) rfl (enters Tryz.func104 (by kernel_rfl) rfl) ?_
          rw [show (#[.tmp 23, .tmp 29] : Array Operand).map b.eval = #[winV s hp F r, .agg #[.int .i64 x, .int .i64 nx]] by simp [Act.eval, g23, g29]]
          exact (hsh.out w').mono fun e w1 ⟨ba, be, bw, he, o1, o2, o3, l1, l2, l3, hx⟩ => ⟨_, he, ⟨ba, be, bw, rfl, ⟨o1, o2, o3⟩, Nat.le_trans h.ext.size l1, Nat.le_trans h.ext.size l2, Nat.le_trans h.ext.size l3⟩, hx⟩
      · intro b w2 hX2 hd hz he' hf
        have e23 : b.tmps.getD 23 undef = (.agg #[.int .i64 s, .int .i64 hp, .int .i64 F, .int .i64 r]) := hf 0 _ 23 rfl rfl
        have e24 : b.tmps.getD 24 undef = (.pointer (some ⟨b7, 0, none⟩)) := hf 1 _ 24 rfl rfl
        have e25 : b.tmps.getD 25 undef = (.int .i64 x) := hf 2 _ 25 rfl rfl
        have e26 : b.tmps.getD 26 undef = (.slice (some ⟨gj, og, none⟩) J.length jcap) := hf 3 _ 26 rfl rfl
        have e27 : b.tmps.getD 27 undef = (.int .i64 k) := hf 4 _ 27 rfl rfl
        have e28 : b.tmps.getD 28 undef = (.int .i64 nx) := hf 5 _ 28 rfl rfl
        have e29 : b.tmps.getD 29 undef = (.agg #[.int .i64 x, .int .i64 nx]) := hf 6 _ 29 rfl rfl
        have f30 : shF s hp F r a e Wj.heap.size (b.tmps.getD 30 undef) w2 := hf 7 _ 30 rfl rfl
        have e := frame_puts hd hz he'
        obtain ⟨X, hXx⟩ : ∃ X : Nat → Value, ∀ d, b.tmps.getD d undef = X d := ⟨_, fun _ => rfl⟩
        rw [hXx] at e23 e24 e25 e26 e27 e28 e29 f30
        obtain ⟨ba, be, bw2, q30, hkw2, lba, lbe, lbw⟩ := f30
        rw [show dstsOf _ = [23, 24, 25, 26, 27, 28, 29, 30] from rfl] at e
        simp only [List.foldl_cons, List.foldl_nil, hXx, Act.put, List.setIfInBounds_toArray, List.set_cons_succ, List.set_cons_zero] at e
        rw [e23, e24, e25, e26, e27, e28, e29, q30] at e
        clear hf he' hz hd hXx e23 e24 e25 e26 e27 e28 e29 q30
        subst e
        have hzw := hX2.size
        skip
        go_wp2_with fail
        have hXr : Ext Wr w2 := hXa.out.trans hX2
        have hz2 := hXr.size
        have hj2 := (hJ'.out _).ext _ _ hjk.out hXr
        have hb2 := hob.out.ext hXr
        have hl2 := hol.out.ext hXr
        have hm2 := (MkOk.stab (hmk.out.lt)).ext _ _ hmk.out hXr
        have lb2 := hb2.lt
        have lk1 := hkw2.1.lt
        have lk2 := hkw2.2.1.lt
        have lk3 := hkw2.2.2.lt
        have hdl := hm2.lt
        refine wp_rangeK (xs := U) (Kp := KpW s hp F r a e ba be bw2) rfl (enters_of Tryz.func144 (by kernel_rfl) rfl) (hsq.out w2 ba be bw2) (Ext.refl _) (fun x vs W h => by rw [h]; rfl) (fun x vs => Stab.pure _)
          (IOf j0 N bb bl l base s hp F r a e ba be bw2 U ds) (fun m A h => h.2.2.2.1) (fun m => IOf.cls hCl'.out (by omega) (by omega) (by omega) (by omega) (by omega) (by omega))
          (fun c m W => c = .ret ∧ ∃ q, q ≤ (ofL s hp r J f).length ∧ (jx0 q W ∧ MkOk N ds W))
          (fun m => IOf.stab (fun k => (hJ'.out k).mono (by omega)) hdl) (fun c m => (Stab.pure _).and (Stab.ex fun q => (Stab.pure _).and (((hJx'.out q).mono (by omega)).and (MkOk.stab hdl))))
          ⟨hj2, hb2, hl2, hkw2, hm2⟩
          (fun m t vs a' _ => a' = { tmps := #[(.func (.yield l) #[] #[]), (.pointer (some ⟨bw, 0, none⟩)), (.pointer (some ⟨bj, 0, none⟩)), (.pointer (some ⟨bb, 0, none⟩)), (.pointer (some ⟨bl, 0, none⟩)), (.int .i64 V), (.int .i64 k), (.pointer (some ⟨b7, 0, none⟩)), (.int .i64 t), (.agg #[.int .i64 s, .int .i64 hp, .int .i64 f, .int .i64 r]), (.slice (some ⟨gj, og, none⟩) J.length jcap), (.int .i64 J.length), (.int .i64 k), (.bool true), (.int .i64 k), (.pointer (some ⟨gj, og + k * 2, none⟩)), (.agg #[.int .i64 x, .int .i64 y]), (.int .i64 S), (.pointer (some ⟨b7, 1, none⟩)), (.int .i64 y), (.int .i64 V), (.int .i64 V), (.bool false), (.agg #[.int .i64 s, .int .i64 hp, .int .i64 F, .int .i64 r]), (.pointer (some ⟨b7, 0, none⟩)), (.int .i64 x), (.slice (some ⟨gj, og, none⟩) J.length jcap), (.int .i64 k), (.int .i64 nx), (.agg #[.int .i64 x, .int .i64 nx]), (.func (.func 144) #[] #[.pointer (some ⟨ba, 0, none⟩), .pointer (some ⟨be, 0, none⟩), .pointer (some ⟨bw2, 0, none⟩)]), (.int .i64 t), u32, u33, u34, u35, u36, u37, u38, u39], defers := [] })
          (fun m x vs a' => Stab.pure _) ?assign ?body ?done ?stop
        case assign =>
          rintro LL m t vs W4 K _ rfl hK4
          gi_wp2
          exact hK4 _ _ (Ext.refl _) rfl
        case body =>
          rintro LL m t vs a' W4 hx2 ⟨hj4, hb4, hl4, ⟨hk4, hk5, hk6⟩, hmk4⟩ rfl rfl
          have htU := hUin.out t (List.mem_of_getElem? hx2)
          have hat4 : (ofL s hp r J f)[base + m]? = some t := by
            obtain ⟨TR, hTR⟩ := hpre.out
            show (ofSt s hp r J f J.length).2[base + m]? = some t
            rw [hTR, hba.out, List.append_assoc, List.getElem?_append_right (by omega), Nat.add_sub_cancel_left, List.getElem?_append_left (List.getElem?_eq_some_iff.1 hx2).1]
            exact hx2
          have hql : base + m + 1 ≤ (ofL s hp r J f).length := (List.getElem?_eq_some_iff.1 hat4).1
          obtain ⟨fn, tmps, assign, body, hy, hR⟩ := yield_in (l := LL) (hY'.out (base + m) t #[.int .i64 t] W4 hat4 hj4 rfl)
          replace hR := hide hR
          have x0 := hb4.cell 0 rfl
          have xl := hb4.lt
          have i4 : In bb W4 := ⟨xl⟩
          have hl4' := hide hl4
          have hln := hide (lastF_next hx2 F)
          replace hat4 := hide hat4
          have hmk4' := hide hmk4
          have hb5x := hide hb4
          clear hb4 hl4 hx2 hmk4
          gi_wp2
          refine RoundIn.mono hR.out ?_
          rintro ee W5 (⟨rfl, hj5, hk7, hq5⟩ | ⟨rfl, hjx5, hk7⟩)
          · have hl5 := hq5 bl _ _ hblN (by decide) hl4'.out
            have y2 := hl5.cell 2 rfl
            have y3 := hl5.free 2
            have yl := hl5.lt
            have i5 : In bl W5 := ⟨yl⟩
            have hj6 := hide (hCl'.out (base + m + 1) W5 bl 2 (.int .i64 (t + 1)) _ hj5 hblN hl5)
            have hb6 := hide (((hq5 bb _ _ hbbN (by decide) (show Ob W4 bb 92 [.func (.yield l) #[] #[]] from hb5x.out)).far ⟨bl, 2, none⟩ (.int .i64 (t + 1)) hbbl))
            have hl6 := hide (hl5.set 2 (.int .i64 (t + 1)))
            have hka := hide ((hq5 ba _ _ (by omega) (by decide) hk4).far ⟨bl, 2, none⟩ (.int .i64 (t + 1)) (by show ba ≠ bl; omega))
            have hkb := hide ((hq5 be _ _ (by omega) (by decide) hk5).far ⟨bl, 2, none⟩ (.int .i64 (t + 1)) (by show be ≠ bl; omega))
            have hkc := hide ((hq5 bw2 _ _ (by omega) (by decide) hk6).far ⟨bl, 2, none⟩ (.int .i64 (t + 1)) (by show bw2 ≠ bl; omega))
            have hm6 := hide ((hmk4'.out.keeps hk7).set hl5 2 (.int .i64 (t + 1)))
            have hkp := hide (keepsF_trans (keepsF_mono hk7 (show N ≤ w2.heap.size by omega)) (keeps_fr (S := [bl]) ((Fr.refl _ W5).setCell ⟨bl, 2, none⟩ (.int .i64 (t + 1)) (.inl (by simp))) (fun y hy => by rw [List.mem_singleton] at hy; subst hy; exact ⟨_, _, hl5⟩)))
            have hqq := hide ((hq5.mono (show N ≤ w2.heap.size by omega)).trans (fun b T us hb hT ho => ho.far ⟨bl, 2, none⟩ (.int .i64 (t + 1)) (by show b ≠ bl; omega)))
            clear hj5 hk7 hq5 hl5
            gi_wp2
            refine ⟨hkp.out, ⟨?_, hb6.out, ?_, ⟨hka.out, hkb.out, hkc.out⟩, hm6.out⟩, hqq.out⟩
            · rw [← Nat.add_assoc]; exact hj6.out
            · rw [hln.out]; exact hl6.out
          · have hm6 := hide (hmk4'.out.keeps hk7)
            have hk8 := hide (keepsF_mono hk7 (show N ≤ w2.heap.size by omega))
            replace hjx5 := hide hjx5
            clear hk7
            gi_wp2
            exact ⟨hk8.out, rfl, base + m + 1, hql, hjx5.out, hm6.out⟩
        case done =>
          rintro D W4 hD ⟨hj4, hb4, hl4, -, hmk4⟩ hdf
          have hj5 := hide hj4
          have hb5 := hide hb4
          have hl5 := hide hl4
          have hm5 := hide (hmk4.cons hdf (by omega) (fun E hE => by have := hdl E hE; omega))
          clear hj4 hb4 hl4 hmk4 hdf
          go_wp2_with fail
          refine Handed.intro (J.length - (k + 1)) (by omega) (hJJ _ _ _ ⟨k + 1, D :: ds, _, _, _, _, _, _, _, _, _, _, _, _, _, _, _, _, _, _, _, _, _, _, _, _, _, _, _, _, _, _, by omega, ⟨?_, hb5.out, ?_, hm5.out⟩, by rw [hjs.out, show ((k + 1 : Nat) : Int) = (k : Int) + 1 by omega]; rfl⟩)
          · show j0 _ _
            rw [hst.out]
            simp only
            rw [List.length_append, ← hba.out]
            exact hj5.out
          · show Ob _ _ _ _
            rw [hst.out]
            have := hl5.out
            unfold lastF at this
            rw [List.take_length] at this
            exact this
        case stop =>
          rintro D c m W4 hD hm4 ⟨rfl, q, hq, hjx4, hmk4⟩ hdf
          have hm5 := hide (hmk4.cons hdf (by omega) (fun E hE => by have := hdl E hE; omega))
          have hjx5 := hide hjx4
          clear hmk4 hdf hjx4
          go_wp2_with fail
          exact leaves_marks (D :: ds) W4 hm5.out.1 (fun E h => (hm5.out.2 E h).2) (results_none rfl _ _ _) ⟨⟨_, rfl⟩, .inr ⟨q, hq, MkOk.shut (hJx'.out _) (Nat.le_refl _) (D :: ds) W4 hm5.out hjx5.out⟩⟩
  · have hkJ : k = J.length := by omega
    subst hkJ
    go_wp2_with fail
    refine leaves_marks ds Wr hmk.out.1 (fun D h => (hmk.out.2 D h).2) (results_none rfl _ _ _) ⟨⟨_, rfl⟩, .inl (MkOk.shut (hJ'.out _) (Nat.le_refl _) ds Wr hmk.out hjk.out)⟩
end Go.Proofs.YtljkneajdndgjaaGreat
