/-
  A helper of ours: no claim of its own. Layer 12 (bag): a bag by the code and one by the document, each by what its table is.
-/
import Derived.Test.YtobmjcehgpmfgaaGreatArgI
import Derived.Test.YtobmjcehgpmfgaaGreatReg2
import Derived.Test.YtobmjcehgpmfgaaGreatBagH
set_option linter.unusedVariables false
set_option linter.unusedSimpArgs false
set_option linter.unusedSectionVars false
namespace Go.Proofs.YtobmjcehgpmfgaaGreat
open Go.RowKit
/-! lists -/
def aX (mk : Int) (X l : List Ed) : List Ed := if baE X mk l = 0 then neR (X ++ l) else X
def fgE (mk : Int) (X : List Ed) (t : Int) : Int := if t ≤ mk then 0 else mpE (reOp t) X
def fX (mk : Int) (X : List Ed) (t : Int) : List Ed := if t ≤ mk then X else if mpE (reOp t) X = 0 then mpR (reOp t) X else X
def fM (mk : Int) (X : List Ed) (t : Int) : Int := if t ≤ mk then mk else if mpE (reOp t) X = 0 then t else mk
theorem baE_zero2 {X l : List Ed} {mk : Int} (h : baE X mk l = 0) : mayE l = true ∧ l.all (fun e => !ltP mk e.2) = true ∧ neE (X ++ l) = 0 := by
  unfold baE at h
  split at h
  · rename_i hl
    split at h
    · rename_i hla
      split at h
      · rename_i h0; exact ⟨hl, hla, h0⟩
      · cases h
    · cases h
  · cases h
theorem mp_end {X : List Ed} {t : Int} (hX : mayE X = true) (ht : 1125899906842624 ≤ t) : mpE (reOp t) X = 0 ∧ mpR (reOp t) X = [] := by
  have hgr := grp_eq (mayE_rise hX)
  have hz : ∀ g ∈ grp X, ((reOp t) g.2).1 = 0 := fun g hg => by
    rw [(grp_mem hX hg).1]; exact (reR_end (mayJ_rows hX g.1) ht).1
  rcases evE_seven (fun g hg => .inl (hz g hg)) with ⟨h1, -⟩ | ⟨-, g, hg, h2⟩
  · have e : evL (reOp t) (grp X) = [] := by rw [hgr]; exact foX_end hX ht
    have e0 : eachE (reOp t) (grp X) = 0 := by unfold eachE; rw [h1, if_pos rfl, e]; simp
    refine ⟨by unfold mpE; rw [if_pos hX, e0], ?_⟩
    unfold mpR eachR
    rw [if_pos hX, if_pos e0, e]
  · have := hz g hg
    have h3 : ((reOp t) g.2).1 = 7 := h2
    omega
theorem upd_end {T U : List Fe} {X : List Ed} {t : Int} (ht : 1125899906842624 ≤ t) (hx : BagX T X) (hU : (U.map (·.2.2)).Perm (T.map fun p => restG t p.2.2)) : updT rowB T U = [] := by
  have hnone : (T.filter fun q => !U.any fun p => (fent rowB q).1.sameKey (fent rowB p).1) = [] := by
    rw [List.filter_eq_nil_iff]
    intro p hp
    have hm : restG t p.2.2 ∈ U.map (·.2.2) := hU.mem_iff.2 (List.mem_map.2 ⟨p, hp, rfl⟩)
    obtain ⟨u, hu, e⟩ := List.mem_map.1 hm
    have hr : u.2.2.1 = p.2.2.1 := by rw [e]; rfl
    have : (U.any fun q => (fent rowB p).1.sameKey (fent rowB q).1) = true := List.any_eq_true.2 ⟨u, hu, by rw [same_ent, hr]; simp⟩
    rw [this]; decide
  unfold updT
  rw [hnone, List.nil_append, List.filter_eq_nil_iff]
  intro u hu
  obtain ⟨p, hp, e⟩ := List.mem_map.1 (hU.mem_iff.1 (List.mem_map.2 ⟨u, hu, rfl⟩))
  have hj : mayJ p.2.2.2 = true := (mayE_iff.1 hx.may).2.2 _ (hx.mem hp)
  have : u.2.2.2 = [] := by rw [← e]; exact (reR_end hj ht).2
  rw [this]; decide
theorem fo_len {X : List Ed} {t : Int} (hX : mayE X = true) (ht : t < 1125899906842624) (h : ∀ r, reE (jmps X r) t = 0) : (foX X t).length ≤ X.length := by
  have h1 := ev_lenI (reOp t) X
  have h2 := len_rowsI hX
  have h3 := sum_leI (fun r => (((reOp t) (jmps X r)).2.length : Int)) (fun r => ((jmps X r).length : Int)) (rowsL X) (fun r _ => by
    have := reR_len ht (h r)
    have e : ((reOp t) (jmps X r)).2 = reR (jmps X r) t := rfl
    rw [e]; omega)
  have e : foX X t = evL (reOp t) (byRows X) := rfl
  rw [e]
  omega
theorem fX_len {X : List Ed} {mk t : Int} (hX : mayE X = true) : (fX mk X t).length ≤ X.length := by
  unfold fX
  split
  · exact Nat.le_refl _
  · split
    · rename_i h0
      by_cases ht : t < 1125899906842624
      · rcases mp_re hX ht with ⟨h1, -, h3⟩ | ⟨-, h2⟩
        · rw [h3]; exact fo_len hX ht h1
        · rw [h0] at h2; cases h2
      · rw [(mp_end hX (by omega)).2]; exact Nat.zero_le _
    · exact Nat.le_refl _
theorem aX_len {X l : List Ed} {mk : Int} (hX : mayE X = true) : (aX mk X l).length ≤ X.length + l.length := by
  unfold aX
  split
  · rename_i h0
    obtain ⟨h1, -, h3⟩ := baE_zero2 h0
    exact neR_len hX h1 h3
  · omega
theorem fM_ge {X : List Ed} {mk t : Int} (h : -1 ≤ mk) : -1 ≤ fM mk X t := by
  unfold fM
  split
  · exact h
  · split
    · omega
    · exact h
theorem begX_le {X : List Ed} (hX : mayE X = true) : begX X ≤ X.length * 1048576 := by
  have h := (mayE_doc.1 hX).2.1
  clear hX
  unfold begX
  induction X with
  | nil => simp
  | cons e X ih =>
    have k1 := okJ_iff.1 (h e (by simp)).2
    have k2 := ih (fun e he => h e (List.mem_cons_of_mem _ he))
    rw [List.map_cons, List.sum_cons, List.length_cons]
    omega
/-! scripts -/
def eB (l : List Op3b) : Nat := (l.map fun p => p.2.2.length).sum
theorem eB_pre (l : List Op3b) (k : Nat) : eB (l.take k) ≤ eB l := sum_preB _ l k
theorem eB_snoc {l : List Op3b} {k : Nat} {p : Op3b} (h : l[k]? = some p) : eB (l.take (k + 1)) = eB (l.take k) + p.2.2.length := by
  unfold eB
  rw [take_snoc h]; simp
theorem min_sumB : ∀ l : List Op3b, (l.map fun p => min p.2.2.length 61).sum ≤ 60 → (l.map fun p => p.2.2.length).sum ≤ 60
  | [], _ => by simp
  | p :: r, h => by
    rw [List.map_cons, List.sum_cons] at h ⊢
    have e : ∀ q : List Op3b, (q.map fun p => min p.2.2.length 61).sum ≤ 60 → (q.map fun p => p.2.2.length).sum = (q.map fun p => min p.2.2.length 61).sum := by
      intro q
      induction q with
      | nil => simp
      | cons a q ih =>
        intro hq
        rw [List.map_cons, List.sum_cons] at hq ⊢
        rw [List.map_cons, List.sum_cons, ih (by omega)]
        omega
    have := e r (by omega)
    omega
theorem small_eB {l : List Op3b} (h : szB l ≤ 60) : l.length ≤ 60 ∧ eB l ≤ 60 := by
  unfold szB at h
  exact ⟨by omega, min_sumB l (by omega)⟩
/-! memory -/
theorem rc_ints (l : List Vl) : rc l = [] ∨ ∃ i j r, rc l = .int .i64 i :: .int .i64 j :: r := by
  cases l with
  | nil => exact .inl rfl
  | cons a l => exact .inr ⟨_, _, _, rfl⟩
theorem ps_ints (l : List Jp) : ps l = [] ∨ ∃ i j r, ps l = .int .i64 i :: .int .i64 j :: r := by
  cases l with
  | nil => exact .inl rfl
  | cons a l => exact .inr ⟨_, _, _, rfl⟩
theorem mv_block {α : Type} {f : α → Lit × Value} {P : Program} {k : TypeId} {w w' : World} {b n : Nat} {M : List α} (h : Mv w P k f b n M) (hb : w'.heap[b]? = w.heap[b]?) : Mv w' P k f b n M := by
  obtain ⟨es, ⟨es', c, g1, rst⟩, h2⟩ := h
  exact ⟨es, ⟨es', c, hb.trans g1, rst⟩, h2⟩
/-- The block of the document's bag is no block of rows or jumps. -/
theorem sl_refb {w : World} {S : List Nat} {sz n r : Nat} {v : Value} {xs : List Value} {A : Option Addr} {m c : Nat} {mk : Int} (h : Sl w S sz v n xs) (hx : xs = [] ∨ ∃ i j r, xs = .int .i64 i :: .int .i64 j :: r) (hC : Ob w r 39 [.slice A m c, .int .i64 mk]) : Sl w (r :: S) sz v n xs := by
  obtain ⟨A, cap, rfl, h1, h2, h3, h4⟩ := h
  refine ⟨A, cap, rfl, h1, h2, h3, ?_⟩
  rcases h4 with h4 | ⟨c, p, e, hcS, hc⟩
  · exact .inl h4
  · rcases hx with rfl | ⟨i, j, r, rfl⟩
    · exact .inl rfl
    · refine .inr ⟨c, p, e, fun m => ?_, hc⟩
      rcases List.mem_cons.1 m with m | m
      · subst m
        have q := hc 0 (.int .i64 i) rfl
        have q1 := hc 1 (.int .i64 j) rfl
        unfold Ob at hC
        rcases p with _ | p
        · simp [World.cell?, hC] at q
        · simp [World.cell?, hC] at q1
      · exact hcS m
/-- The block of the code's bag is no block of rows. -/
theorem sl_bagb {w : World} {S : List Nat} {sz n C : Nat} {v : Value} {xs : List Value} {mk : Int} {mc : Nat} (h : Sl w S sz v n xs) (hx : xs = [] ∨ ∃ i j r, xs = .int .i64 i :: .int .i64 j :: r) (hC : Ob w C 119 [.int .i64 mk, .map (some mc)]) : Sl w (C :: S) sz v n xs := by
  obtain ⟨A, cap, rfl, h1, h2, h3, h4⟩ := h
  refine ⟨A, cap, rfl, h1, h2, h3, ?_⟩
  rcases h4 with h4 | ⟨c, p, e, hcS, hc⟩
  · exact .inl h4
  · rcases hx with rfl | ⟨i, j, r, rfl⟩
    · exact .inl rfl
    · refine .inr ⟨c, p, e, fun m => ?_, hc⟩
      rcases List.mem_cons.1 m with m | m
      · subst m
        have q := hc 1 (.int .i64 j) rfl
        unfold Ob at hC
        rcases p with _ | p
        · simp [World.cell?, hC] at q
        · simp [World.cell?, hC] at q
      · exact hcS m
/-- The block of the code's bag is no block of edges. -/
theorem sl_bage {w : World} {S : List Nat} {sz n C : Nat} {v : Value} {xs : List Value} {mk : Int} {mc : Nat} (h : Sl w S sz v n xs) (hx : xs = [] ∨ ∃ A m c i r, xs = .slice A m c :: .int .i64 i :: r) (hC : Ob w C 119 [.int .i64 mk, .map (some mc)]) : Sl w (C :: S) sz v n xs := by
  obtain ⟨A, cap, rfl, h1, h2, h3, h4⟩ := h
  refine ⟨A, cap, rfl, h1, h2, h3, ?_⟩
  rcases h4 with h4 | ⟨c, p, e, hcS, hc⟩
  · exact .inl h4
  · rcases hx with rfl | ⟨A, m', c', i, r, rfl⟩
    · exact .inl rfl
    · refine .inr ⟨c, p, e, fun m => ?_, hc⟩
      rcases List.mem_cons.1 m with m | m
      · subst m
        have q := hc 0 (.slice A m' c') rfl
        have q1 := hc 1 (.int .i64 i) rfl
        unfold Ob at hC
        rcases p with _ | p
        · simp [World.cell?, hC] at q
        · simp [World.cell?, hC] at q1
      · exact hcS m
theorem ec_head {w : World} {S : List Nat} {v : Value} {L : List Ve} (h : Ew w S v L) : ec L = [] ∨ ∃ A m c i r, ec L = .slice A m c :: .int .i64 i :: r := by
  cases L with
  | nil => exact .inl rfl
  | cons p L =>
    obtain ⟨A, c, e⟩ := rw_val (h.2 p (by simp))
    obtain ⟨pv, q, a, n⟩ := p
    simp only at e
    subst e
    exact .inr ⟨_, _, _, _, _, rfl⟩
def CB (w : World) (B mb : Nat) (mk : Int) (X : List Ed) (N : Nat) : Prop := ∃ T n, Bg rowB w [B, mb] B mb n mk T ∧ BagX T X ∧ n ≤ N
def RB (w : World) (r : Nat) (mk : Int) (X : List Ed) : Prop := ∃ v L, Rbg w [r] r mk v L ∧ eds L = X
theorem CB.ext {w w' : World} {B mb N : Nat} {mk : Int} {X : List Ed} (h : CB w B mb mk X N) (k : Ext w w') : CB w' B mb mk X N := by obtain ⟨T, n, h1, h2, h3⟩ := h; exact ⟨T, n, h1.ext k, h2, h3⟩
theorem CB.le {w : World} {B mb N M : Nat} {mk : Int} {X : List Ed} (h : CB w B mb mk X N) (k : N ≤ M) : CB w B mb mk X M := by obtain ⟨T, n, h1, h2, h3⟩ := h; exact ⟨T, n, h1, h2, by omega⟩
theorem CB.may {w : World} {B mb N : Nat} {mk : Int} {X : List Ed} (h : CB w B mb mk X N) : mayE X = true := by obtain ⟨T, n, h1, h2, h3⟩ := h; exact h2.may
theorem CB.lt {w : World} {B mb N : Nat} {mk : Int} {X : List Ed} (h : CB w B mb mk X N) : B < w.heap.size ∧ mb < w.heap.size := by obtain ⟨T, n, h1, h2, h3⟩ := h; exact ⟨h1.1.lt, h1.2.1.lt⟩
theorem RB.ext {w w' : World} {r : Nat} {mk : Int} {X : List Ed} (h : RB w r mk X) (k : Ext w w') : RB w' r mk X := by obtain ⟨v, L, h1, h2⟩ := h; exact ⟨v, L, h1.ext k, h2⟩
theorem RB.lt {w : World} {r : Nat} {mk : Int} {X : List Ed} (h : RB w r mk X) : r < w.heap.size := by obtain ⟨v, L, h1, h2⟩ := h; exact h1.1.lt
theorem CB.fr {w w' : World} {B mb N r : Nat} {mk mk2 : Int} {X Y : List Ed} (h : CB w B mb mk X N) (hR : RB w r mk2 Y) (hF : Fr [r] w w') (h1 : B ≠ r) (h2 : mb ≠ r) : CB w' B mb mk X N := by
  obtain ⟨T, n, hb, hx, hn⟩ := h
  obtain ⟨v, L, hr, -⟩ := hR
  obtain ⟨A, c, ev, -, -, -⟩ := ew_form hr.2.1
  have hO := hr.1
  rw [ev] at hO
  have hml := hb.2.1.lt
  refine ⟨T, n, ⟨hb.1.fr hF (by simp only [List.mem_singleton]; exact h1), mv_block hb.2.1 (hF.block mb hml (by simp only [List.mem_singleton]; exact h2)), fun p hp => ?_⟩, hx, hn⟩
  obtain ⟨k1, k2⟩ := hb.2.2 p hp
  have j1 := sl_refb k1 (rc_ints _) hO
  have j2 := sl_refb k2 (ps_ints _) hO
  exact ⟨Sl.less (Sl.fr j1 hF (by intro y hy; simp only [List.mem_singleton] at hy; subst hy; exact List.mem_cons_self ..)) (fun y hy => List.mem_cons_of_mem _ hy), Sl.less (Sl.fr j2 hF (by intro y hy; simp only [List.mem_singleton] at hy; subst hy; exact List.mem_cons_self ..)) (fun y hy => List.mem_cons_of_mem _ hy)⟩
theorem RB.fr {w w' : World} {B mb N r : Nat} {mk mk2 : Int} {X Y : List Ed} (h : RB w r mk X) (hC : CB w B mb mk2 Y N) (hF : Fr [B, mb] w w') (h1 : B ≠ r) (h2 : mb ≠ r) : RB w' r mk X := by
  obtain ⟨T, n, hb, -, -⟩ := hC
  obtain ⟨v, L, hr, hL⟩ := h
  have hsub : ∀ S : List Nat, ∀ y, y ∈ [B, mb] → y ∈ B :: mb :: S := by intro S y hy; simp only [List.mem_cons, List.not_mem_nil, or_false] at hy ⊢; rcases hy with rfl | rfl <;> simp
  refine ⟨v, L, ⟨hr.1.fr hF (by simp only [List.mem_cons, List.not_mem_nil, or_false]; omega), ⟨?_, fun p hp => ?_⟩, hr.2.2⟩, hL⟩
  · exact Sl.less (Sl.fr (sl_bage (sl_map hr.2.1.1 hb.2.1.isMap) (ec_head hr.2.1) hb.1) hF (hsub _)) (fun y hy => List.mem_cons_of_mem _ (List.mem_cons_of_mem _ hy))
  · exact Sl.less (Sl.fr (sl_bagb (sl_map (hr.2.1.2 p hp) hb.2.1.isMap) (rc_ints _) hb.1) hF (hsub _)) (fun y hy => List.mem_cons_of_mem _ (List.mem_cons_of_mem _ hy))
/-! what both do -/
theorem cAdd_c (L : List Ve) (B mb N : Nat) (mk : Int) (X : List Ed) (v : Value) (w : World) (h : CB w B mb mk X N) (hC : Ew w [] v L) (hin : edsIn (eds L)) (hBm : B ≠ mb) (hN : N ≤ 900000000) : Calls Tryz.prog 17 #[.pointer (some ⟨B, 0, none⟩), v] w fun e w' => e = .returned (.int .i64 (baE X mk (eds L))) ∧ CB w' B mb mk (aX mk X (eds L)) (N + 4096) ∧ Fr [B, mb] w w' := by
  obtain ⟨T, n, hb, hx, hn⟩ := h
  refine (bagAdd_c L B mb n mk T X v w hC hin hb hx hBm (by omega)).mono ?_
  rintro e w' ⟨rfl, ⟨hne, hX⟩ | ⟨h0, T', n', k1, k2, k3, k4⟩⟩
  · exact ⟨rfl, ⟨T, n, hb.ext hX, by unfold aX; rw [if_neg hne]; exact hx, by omega⟩, Fr.of_ext hX⟩
  · exact ⟨rfl, ⟨T', n', k1, by unfold aX; rw [if_pos h0]; exact k3, by omega⟩, k4.more (fun k _ hk => by simp only [List.mem_singleton] at hk; simp [hk])⟩
theorem rAdd_c (L : List Ve) (r : Nat) (mk : Int) (X : List Ed) (u : Value) (w : World) (h : RB w r mk X) (hu : Ew w [] u L) (hX : mayE X = true) (hl : X.length + L.length ≤ 1024) : Calls Tryz.prog 18 #[.pointer (some ⟨r, 0, none⟩), u] w fun e w' => e = .returned (.int .i64 (baE X mk (eds L))) ∧ RB w' r mk (aX mk X (eds L)) ∧ Fr [r] w w' := by
  obtain ⟨v, M, hr, rfl⟩ := h
  refine (refBagAdd_c r mk v M L u w hr hX (by simpa [eds] using hl) hu).mono ?_
  rintro e w' ⟨rfl, ⟨hne, hX'⟩ | ⟨h0, v', N, k1, k2, k3⟩⟩
  · exact ⟨rfl, ⟨v, M, hr.ext hX', by unfold aX; rw [if_neg hne]⟩, Fr.of_ext hX'⟩
  · exact ⟨rfl, ⟨v', N, k2, by unfold aX; rw [if_pos h0]; exact k1⟩, k3⟩
theorem cForget_c (t : Int) (B mb N : Nat) (mk : Int) (X : List Ed) (w : World) (h : CB w B mb mk X N) (hmk : -1 ≤ mk) (hBm : B ≠ mb) (hN : N ≤ 900000000) : Calls Tryz.prog 19 #[.pointer (some ⟨B, 0, none⟩), .int .i64 t] w fun e w' => e = .returned (.int .i64 (fgE mk X t)) ∧ CB w' B mb (fM mk X t) (fX mk X t) (N + 4096) ∧ Fr [B, mb] w w' := by
  obtain ⟨T, n, hb, hx, hn⟩ := h
  have hml := hb.2.1.lt
  have hbl := hb.1.lt
  have hTl : T.length ≤ 4096 := by
    have k := hx.2.1.length_eq
    rw [List.length_map] at k
    have k2 := grp_len2 X
    have k3 := mayE_len hx.may
    omega
  by_cases ht : t ≤ mk
  · refine (bagForget_c rowB [B, mb] B mb n mk t T (by omega) w hb hBm (by intro x hx'; simp only [List.mem_cons, List.not_mem_nil, or_false] at hx'; omega) ⟨by simp, by simp⟩).mono ?_
    rintro e w' ⟨h1, -⟩
    obtain ⟨rfl, hX⟩ := h1 ht
    unfold fgE fM fX
    rw [if_pos ht, if_pos ht, if_pos ht]
    exact ⟨rfl, ⟨T, n, hb.ext hX, hx, by omega⟩, Fr.of_ext hX⟩
  unfold fgE fM fX
  rw [if_neg ht, if_neg ht, if_neg ht]
  by_cases he : t < 1125899906842624
  · refine (bagForget_x B mb n mk t T X w hb hx hBm (by omega) (by omega) (by omega) he).mono ?_
    rintro e w' (⟨⟨r, hr⟩, rfl, hX⟩ | ⟨hz, rfl, T', n', k1, k2, k3, k4⟩)
    · rcases mp_re hx.may he with ⟨h1, -, -⟩ | ⟨-, h2⟩
      · exact absurd (h1 r) hr
      · rw [h2, if_neg (by decide), if_neg (by decide)]
        exact ⟨rfl, ⟨T, n, hb.ext hX, hx, by omega⟩, Fr.of_ext hX⟩
    · rcases mp_re hx.may he with ⟨-, h2, h3⟩ | ⟨⟨r, hr⟩, -⟩
      · rw [h2, if_pos rfl, if_pos rfl, h3]
        exact ⟨rfl, ⟨T', n', k1, k3, by omega⟩, k4⟩
      · exact absurd (hz r) hr
  · obtain ⟨h2, h3⟩ := mp_end hx.may (show 1125899906842624 ≤ t by omega)
    rw [h2, if_pos rfl, if_pos rfl, h3]
    refine (bagForget_c rowB [B, mb] B mb n mk t T (by omega) w hb hBm (by intro x hx'; simp only [List.mem_cons, List.not_mem_nil, or_false] at hx'; omega) ⟨by simp, by simp⟩).mono ?_
    rintro e w' ⟨-, h4⟩
    rcases h4 (by omega) with ⟨p, hp, hp0, -, -⟩ | ⟨hz, rfl, U, hU, hUr, hM, hO, hF⟩
    · have hj : mayJ p.2.2.2 = true := (mayE_iff.1 hx.may).2.2 _ (hx.mem hp)
      exact absurd (reR_end hj (by omega)).1 hp0
    · have hUl := hU.length_eq
      rw [List.length_map, List.length_map] at hUl
      rw [upd_end (by omega) hx hU] at hM
      exact ⟨rfl, ⟨[], _, ⟨hO, hM, by simp⟩, BagX.nil, by omega⟩, hF⟩
theorem rForget_c (t : Int) (r : Nat) (mk : Int) (X : List Ed) (w : World) (h : RB w r mk X) (hl : X.length ≤ 1024) : Calls Tryz.prog 20 #[.pointer (some ⟨r, 0, none⟩), .int .i64 t] w fun e w' => e = .returned (.int .i64 (fgE mk X t)) ∧ RB w' r (fM mk X t) (fX mk X t) ∧ Fr [r] w w' := by
  obtain ⟨v, M, hr, rfl⟩ := h
  refine (refBagForget_c r mk t v M w hr (by simpa [eds] using hl)).mono ?_
  rintro e w' ⟨h1, h2⟩
  unfold fgE fM fX
  by_cases ht : t ≤ mk
  · obtain ⟨rfl, hX⟩ := h1 ht
    rw [if_pos ht, if_pos ht, if_pos ht]
    exact ⟨rfl, ⟨v, M, hr.ext hX, rfl⟩, Fr.of_ext hX⟩
  · obtain ⟨rfl, h3⟩ := h2 (by omega)
    rw [if_neg ht, if_neg ht, if_neg ht]
    rcases h3 with ⟨hne, hX⟩ | ⟨h0, v', N, k1, k2, k3⟩
    · rw [if_neg hne, if_neg hne]
      exact ⟨rfl, ⟨v, M, hr.ext hX, rfl⟩, Fr.of_ext hX⟩
    · rw [if_pos h0, if_pos h0]
      exact ⟨rfl, ⟨v', N, k2, k1⟩, k3⟩
/-- While both turn: which of them has turned. -/
def relB (B mb r i j N : Nat) (mk mk' : Int) (X Y : List Ed) (Lf : Nat → Bool) (w : World) : Prop :=
  CB w B mb (if Lf i = true then mk' else mk) (if Lf i = true then Y else X) (if Lf i = true then N + 4096 else N) ∧ RB w r (if Lf j = true then mk' else mk) (if Lf j = true then Y else X)
section
variable {B mb r i j N : Nat} {mk mk' : Int} {X Y : List Ed}
theorem relB_ext {L : Nat → Bool} {x y : World} (h : relB B mb r i j N mk mk' X Y L x) (k : Ext x y) : relB B mb r i j N mk mk' X Y L y := ⟨h.1.ext k, h.2.ext k⟩
theorem relB_keys (L L' : Nat → Bool) (x : World) (hk : ∀ k, k ∈ [i, j] → L k = L' k) (h : relB B mb r i j N mk mk' X Y L x) : relB B mb r i j N mk mk' X Y L' x := by
  unfold relB at *
  rw [← hk i (by simp), ← hk j (by simp)]; exact h
theorem relB_all {L : Nat → Bool} {x : World} (h : relB B mb r i j N mk mk' X Y L x) (hi : L i = true) (hj : L j = true) : CB x B mb mk' Y (N + 4096) ∧ RB x r mk' Y := by
  unfold relB at h
  rw [if_pos hi, if_pos hi, if_pos hi, if_pos hj, if_pos hj] at h; exact h
theorem relB_one {L : Nat → Bool} {x y : World} (hne : j ≠ i) (h : relB B mb r i j N mk mk' X Y L x) (hA : CB y B mb mk' Y (N + 4096)) (k : Fr [B, mb] x y) (h1 : B ≠ r) (h2 : mb ≠ r) : relB B mb r i j N mk mk' X Y (done L i) y := by
  refine ⟨?_, ?_⟩
  · rw [if_pos (by simp [done]), if_pos (by simp [done]), if_pos (by simp [done])]; exact hA
  · rw [show done L i j = L j by simp [done, hne]]; exact h.2.fr h.1 k h1 h2
theorem relB_two {L : Nat → Bool} {x y : World} (hne : i ≠ j) (h : relB B mb r i j N mk mk' X Y L x) (hR : RB y r mk' Y) (k : Fr [r] x y) (h1 : B ≠ r) (h2 : mb ≠ r) : relB B mb r i j N mk mk' X Y (done L j) y := by
  refine ⟨?_, ?_⟩
  · rw [show done L j i = L i by simp [done, hne]]; exact h.1.fr h.2 k h1 h2
  · rw [if_pos (by simp [done]), if_pos (by simp [done])]; exact hR
theorem relB_fst {L : Nat → Bool} {x : World} (h : relB B mb r i j N mk mk' X Y L x) (hi : L i = false) : CB x B mb mk X N := by
  have := h.1; rw [if_neg (by rw [hi]; decide), if_neg (by rw [hi]; decide), if_neg (by rw [hi]; decide)] at this; exact this
theorem relB_snd {L : Nat → Bool} {x : World} (h : relB B mb r i j N mk mk' X Y L x) (hj : L j = false) : RB x r mk X := by
  have := h.2; rw [if_neg (by rw [hj]; decide), if_neg (by rw [hj]; decide)] at this; exact this
end
end Go.Proofs.YtobmjcehgpmfgaaGreat
