/-
  A helper of ours: no claim of its own. Layer 4 (frame): Feed.
-/
import Derived.Test.YtgjdgejljkhnlaaFrE
import Derived.Deep.LoopGhost
set_option linter.unusedVariables false
set_option linter.unusedSimpArgs false
namespace Go.Proofs.Ytgjdgejljkhnlaa
open Go.RowKit
attribute [local go_sem] GW.cell GW.frozen In.eq_true In.le_true In.ne In.ne' In.ne_add In.ne_add' In.lt_add Upto.le_true Upto.le_add Upto.lt_add
attribute [-go_sem] sliced
attribute [local go_sem] sliced_eq
theorem tFrames : ElemT Try.prog 32 41 (.agg #[.slice none 0 0, .int .i64 0]) 2 32 := ElemT.mk' Try.underlying32 (by kernel_rfl) rfl (by omega)
/-- While Feed runs. -/
def FI (w : World) (b : Nat) (G T : List Nat) (Z : List (List UInt8 × Int) × List UInt8) (wr : World) (v L : Value) (p l : List UInt8) (F : List (List UInt8 × Int)) : Prop :=
  By w (b :: G) v l ∧ ∃ G', OwnF wr w.heap.size (b :: (G' ++ T)) L F ∧ StG wr b p G' ∧ Newer w G G' ∧ Fr (b :: G) w wr ∧ Z = (F ++ (cutAll (p ++ l)).1, (cutAll (p ++ l)).2)
section
variable {w wr : World} {b : Nat} {G T : List Nat} {Z : List (List UInt8 × Int) × List UInt8} {v L : Value} {p l : List UInt8} {F : List (List UInt8 × Int)}
theorem FI.form (h : FI w b G T Z wr v L p l F) : ∃ A cap, v = .slice A l.length cap ∧ l.length ≤ cap ∧ cap ≤ maxLen := by
  obtain ⟨⟨A, cap, e, h1, h2, _⟩, _⟩ := h
  exact ⟨A, cap, e, h1, h2⟩
theorem By.turn {w w' : World} {S S' T : List Nat} {v : Value} {l : List UInt8} (h : By w S v l) (k : Fr T w w') (hT : ∀ t, t ∈ T → t ∈ S) (hs : ∀ t, t ∈ S' → t ∈ S ∨ w.heap.size ≤ t) : By w' S' v l :=
  ((Sl.new h (S' := S ++ S') (by intro t ht; exact (List.mem_append.1 ht).elim .inl (hs t))).fr k (fun t ht => List.mem_append.2 (.inl (hT t ht)))).less (fun t ht => List.mem_append.2 (.inr ht))
theorem OwnF.fr {w w' : World} {B : Nat} {S S' T : List Nat} {v : Value} {F : List (List UInt8 × Int)} (h : OwnF w B S v F) (k : Fr T w w') (hT : ∀ t, t ∈ T → t ∈ S) (hv : ∀ t, v.ownBlock = some t → t ∉ T) (hs : ∀ t, t ∈ S' → t ∈ S ∨ w.heap.size ≤ t) : OwnF w' B S' v F := by
  obtain ⟨xs, h1, h2⟩ := h
  refine ⟨xs, ⟨h1.1, h1.2.imp id fun ⟨g, cap, cur, e, hb, hg, r⟩ => ⟨g, cap, cur, e, hb, (k.block g (lt_of_block hg) (hv g (by rw [e]; rfl))).trans hg, r⟩⟩, h2.map fun A n c l hB => By.turn hB k (fun t ht => List.mem_append.2 (.inr (hT t ht))) ?_⟩
  intro t ht
  rcases List.mem_append.1 ht with h | h
  · exact .inl (List.mem_append.2 (.inl h))
  · exact (hs t h).imp (fun h => List.mem_append.2 (.inr h)) id
theorem OwnF.ext {w w' : World} {B : Nat} {S : List Nat} {v : Value} {F : List (List UInt8 × Int)} (h : OwnF w B S v F) (k : Ext w w') : OwnF w' B S v F :=
  h.fr (T := []) (Fr.of_ext k) (by simp) (by simp) (fun t ht => .inl ht)
theorem OwnF.less {w : World} {B : Nat} {S S' : List Nat} {v : Value} {F : List (List UInt8 × Int)} (h : OwnF w B S v F) (k : ∀ t, t ∈ S' → t ∈ S) : OwnF w B S' v F :=
  h.fr (T := []) (Fr.refl _ _) (by simp) (by simp) (fun t ht => .inl (k t ht))
/-- The list of frames lies neither in the cutter nor in its body. -/
theorem OwnF.off {w : World} {B : Nat} {S : List Nat} (h : OwnF w B S L F) (k : StG w b p G) : ∀ t, L.ownBlock = some t → t ∉ b :: G := by
  obtain ⟨xs, h1, h2⟩ := h
  intro t ht hm
  rcases h1.2 with ⟨rfl, _⟩ | ⟨g, cap, cur, rfl, _, hh, _⟩
  · simp [Value.ownBlock] at ht
  · obtain rfl : g = t := by simpa [Value.ownBlock] using ht
    rcases List.mem_cons.1 hm with rfl | hm
    · have hc : ∃ vs, Ob w g 46 vs := by
        match p, k with
        | [], ⟨_, _, _, k, _⟩ => exact ⟨_, k⟩
        | [x], ⟨_, _, k, _⟩ => exact ⟨_, k⟩
        | x :: y :: r, ⟨_, _, k, _⟩ => exact ⟨_, k⟩
      obtain ⟨vs, hc⟩ := hc
      unfold Ob at hc
      rw [hh] at hc
      injection hc with hc; injection hc with _ e _
      exact absurd e (by decide)
    · obtain ⟨_, _, vs, T, h3⟩ := k.blocks g hm
      rw [hh] at h3
      injection h3 with h3; injection h3 with _ e _
      exact absurd e (by decide)
theorem FI.ext {w' : World} (h : FI w b G T Z wr v L p l F) (k : Ext wr w') : FI w b G T Z w' v L p l F := by
  obtain ⟨h1, G', h2, h3, h4, h5, h6⟩ := h
  exact ⟨h1, G', h2.ext k, h3.ext k, h4, h5.then (S' := []) (Fr.of_ext k) (by simp), h6⟩
theorem FI.missing (h : FI w b G T Z wr v L p l F) : Calls Try.prog 15 #[.pointer (some ⟨b, 0, none⟩)] wr fun e w' => e = .returned (.int .i64 (miss p)) ∧ FI w b G T Z w' v L p l F := by
  obtain ⟨h1, G', h2, h3, h4, h5, h6⟩ := id h
  exact (st_missing h3.st).mono fun e w' ⟨he, hx⟩ => ⟨he, h.ext hx⟩
theorem FI.count {q : List UInt8} (h : FI w b G T Z wr v L p l F) (hZ : Z = cutAll q) : 2 * F.length ≤ q.length := by
  obtain ⟨h1, G', h2, h3, h4, h5, h6⟩ := h
  have := cut_count _ q (Nat.le_refl _)
  rw [← hZ, h6] at this
  simp at this
  omega
theorem newer_cons {w : World} {b : Nat} {G G' : List Nat} (k : Newer w G G') : ∀ t, t ∈ b :: G' → t ∈ b :: G ∨ w.heap.size ≤ t := by
  intro t ht
  rcases List.mem_cons.1 ht with rfl | h
  · exact .inl (by simp)
  · exact (k t h).imp (fun h => by simp [h]) id
theorem newer_more {w : World} {b : Nat} {G G' : List Nat} (T : List Nat) (k : Newer w G G') : ∀ t, t ∈ b :: (G' ++ T) → t ∈ b :: (G ++ T) ∨ w.heap.size ≤ t := by
  intro t ht
  rcases List.mem_cons.1 ht with rfl | h
  · exact .inl (by simp)
  · rcases List.mem_append.1 h with h | h
    · exact (k t h).imp (fun h => by simp [h]) id
    · exact .inl (by simp [h])
theorem mem_more {b : Nat} {G : List Nat} (T : List Nat) : ∀ t, t ∈ b :: G → t ∈ b :: (G ++ T) := by
  intro t ht
  rcases List.mem_cons.1 ht with rfl | h
  · simp
  · simp [h]
theorem FI.take {A : Option Addr} {cap n : Nat} (h : FI w b G T Z wr (.slice A l.length cap) L p l F) (hn : n = min (miss p) l.length) (h0 : 0 < n) :
    Calls Try.prog 16 #[.pointer (some ⟨b, 0, none⟩), .slice (cutA A 0 cap 1) n cap] wr fun e w' => e = .returned (.tuple #[]) ∧ FI w b G T Z w' (.slice (cutA A n cap 1) (l.length - n) (cap - n)) L (p ++ l.take n) (l.drop n) F := by
  obtain ⟨h1, G', h2, h3, h4, h5, h6⟩ := h
  obtain ⟨_, _, e, hc, hm, _⟩ := id h1
  simp only [Value.slice.injEq, true_and] at e
  obtain ⟨rfl, rfl⟩ := e
  have hnl : n ≤ l.length := by rw [hn]; exact Nat.min_le_right _ _
  have hnm : n ≤ miss p := by rw [hn]; exact Nat.min_le_left _ _
  have p1 := h1.cut 0 n cap (Nat.zero_le _) hnl (by omega) (Nat.le_refl _)
  rw [sliced_eq, Nat.zero_mul, List.drop_zero, Nat.mul_one, bs_take, Nat.sub_zero, Nat.sub_zero] at p1
  have tl : (l.take n).length = n := by rw [List.length_take]; omega
  have p1' : By w (b :: G) (.slice (cutA A 0 cap 1) n cap) (l.take n) := by unfold By; rw [tl]; exact p1
  have p2 := h1.cut n l.length cap hnl (Nat.le_refl _) hc (Nat.le_refl _)
  rw [sliced_eq, Nat.mul_one, Nat.mul_one, List.take_of_length_le (by rw [bs_length]; exact Nat.le_refl _), bs_drop] at p2
  have p2' : By w (b :: G) (.slice (cutA A n cap 1) (l.length - n) (cap - n)) (l.drop n) := by unfold By; rw [List.length_drop]; exact p2
  refine (stg_take h3 (Sl.fr p1' h5 (fun t h => h)) (by intro e; rw [e] at tl; simp at tl; omega) (by omega)).mono fun e w' ⟨he, G'', k1, k2, k3⟩ => ⟨he, p2', G'', ?_, k1, h4.trans k2 h5.size, ?_, ?_⟩
  · exact h2.fr k3 (mem_more T) (h2.off h3) (newer_more T k2)
  · exact h5.then k3 (newer_cons h4)
  · rw [h6, List.append_assoc, List.take_append_drop]
theorem FI.cut {x y : UInt8} {r : List UInt8} (hT : ∀ t, t ∈ T → t < w.heap.size ∧ t ∉ G) (h : FI w b G T Z wr v L (x :: y :: r) l F) (hr : flen x y ≤ r.length) :
    Calls Try.prog 17 #[.pointer (some ⟨b, 0, none⟩)] wr fun e w' => ∃ A n c, e = .returned (.agg #[.slice A n c, .int .i64 (ferr x y)]) ∧ (OwnB w' 0 (.slice A n c) (held x y r) ∧ ∀ t, (Value.slice A n c).ownBlock = some t → t ∉ b :: T) ∧
      (∃ xs, w'.ownsRow w.heap.size 41 2 L F.length xs ∧ FrC w' (L.ownBlock.toList ++ b :: T) F xs) ∧ StG w' b [] [] ∧ Fr (b :: G) w w' ∧ Z = ((F ++ [(held x y r, ferr x y)]) ++ (cutAll ([] ++ l)).1, (cutAll ([] ++ l)).2) := by
  obtain ⟨h1, G', h2, h3, h4, h5, h6⟩ := h
  have hle : r.length ≤ flen x y := h3.1
  refine (stg_cut h3).mono fun e w' ⟨A, n, c, he, k1, kb, k2, k3⟩ => ⟨A, n, c, he, ⟨k1, ?_⟩, ?_, k2, ?_, ?_⟩
  · intro t ht hm
    obtain ⟨k6, k7⟩ := kb t ht
    rcases List.mem_cons.1 hm with h | h
    · exact k6 h
    · rcases h4 t k7 with h' | h'
      · exact (hT t h).2 h'
      · have := (hT t h).1; omega
  · exact h2.fr k3 (mem_more T) (h2.off h3) (fun t ht => .inl (by rcases List.mem_cons.1 ht with rfl | h; simp; simp [h]))
  · exact h5.then k3 (newer_cons h4)
  · rw [h6, cut_full (by omega)]; simp
theorem FI.put {A : Option Addr} {n c : Nat} {w2 w3 : World} {o : Obj} {xs : List Value} {m : List UInt8} {e : Int} {v3 : Value} (k0 : By w (b :: G) v l) (k1 : OwnB w2 0 (.slice A n c) m ∧ ∀ t, (Value.slice A n c).ownBlock = some t → t ∉ b :: T)
    (k3 : w2.ownsRow w.heap.size 41 2 L F.length xs) (k3' : FrC w2 (L.ownBlock.toList ++ b :: T) F xs) (k4 : StG w2 b [] []) (k5 : Fr (b :: G) w w2) (k6 : Z = ((F ++ [(m, e)]) ++ (cutAll ([] ++ l)).1, (cutAll ([] ++ l)).2))
    (ho3 : w3.ownsRow w.heap.size 41 2 v3 (F.length + 1) (xs ++ [.slice A n c, .int .i64 e])) (hg3 : (w2.alloc o).grownBy w3 L.ownBlock) (hd3 : v3.ownBlock = L.ownBlock ∨ v3.ownBlock = some (w2.alloc o).heap.size) :
    FI w b G T Z w3 v v3 [] l (F ++ [(m, e)]) := by
  have hoff := OwnF.off (L := L) (F := F) ⟨xs, k3, k3'⟩ k4
  have hFr : Fr (L.ownBlock.toList) w2 w3 := (Fr.of_ext ((Ext.refl w2).alloc o)).grown hg3 (fun k hk => .inl (by rw [hk]; simp))
  have hbL : b ∉ L.ownBlock.toList := by
    intro h
    have : L.ownBlock = some b := by simpa using h
    exact hoff b this (by simp)
  have hS : ∀ t, t ∈ v3.ownBlock.toList ++ b :: T → t ∈ L.ownBlock.toList ++ b :: T ∨ w2.heap.size ≤ t := by
    intro t ht
    rcases List.mem_append.1 ht with h | h
    · rcases hd3 with hd | hd
      · rw [hd] at h; exact .inl (List.mem_append.2 (.inl h))
      · rw [hd] at h; simp at h; exact .inr (by omega)
    · exact .inl (List.mem_append.2 (.inr h))
  refine ⟨k0, [], ⟨_, by rw [List.length_append]; exact ho3, ?_⟩, k4.keep hFr hbL (by simp), fun t h => by simp at h, ?_, k6⟩
  · refine FrC.app (k3'.map fun A n c l hB => By.turn hB hFr (fun t ht => List.mem_append.2 (.inl ht)) hS) ⟨A, n, c, [], rfl, ?_, rfl⟩
    refine By.turn (S := L.ownBlock.toList ++ b :: T) (Sl.own' k1.1 ?_) hFr (fun t ht => List.mem_append.2 (.inl ht)) hS
    intro t ht hm
    rcases List.mem_append.1 hm with h | h
    · exact own_ne k1.1 k3 (by decide) t ht (by simpa using h)
    · exact k1.2 t ht h
  · exact k5.then hFr (fun t ht => .inr (by
      have : L.ownBlock = some t := by simpa using ht
      exact (k3.lt t this).1))
end
theorem hown_alloc {w : World} {B e size n : Nat} {v : Value} {xs : List Value} (h : w.ownsRow B e size v n xs) (o : Obj) : (w.alloc o).ownsRow B e size v n xs := own_ext h ((Ext.refl w).alloc o)
theorem src_two {P : Program} {tx e' : TypeId} (hk : P.underlying tx = some (.slice e')) (w : World) (u v : Value) (E : TypeId) (h1 : u.oneCell' = true) (h2 : v.oneCell' = true) : Src P 2 tx (.slice (some ⟨w.heap.size, 0, none⟩) 1 1) 1 [u, v] (w.alloc (.cells #[u, v] E)) :=
  Src.ofSlice _ hk _ 1 1 [u, v] (by simp) (fun j x hj => by
    match j, hj with
    | 0, hj => simp at hj; subst hj; simp [Addr.add]
    | 1, hj => simp at hj; subst hj; simp [Addr.add]) (by simp [h1, h2])
set_option maxHeartbeats 2000000 in
set_option maxRecDepth 100000 in
theorem feed_c (w : World) (b : Nat) (p : List UInt8) (G T : List Nat) (hT : ∀ t, t ∈ T → t < w.heap.size ∧ t ∉ G) (hS : StG w b p G) (hm : 0 < miss p) (v : Value) (l : List UInt8) (hv : By w (b :: G) v l) (hl : p.length + l.length ≤ 4398046511104) :
    Calls Try.prog 11 #[.pointer (some ⟨b, 0, none⟩), v] w fun e w' => ∃ L G', e = .returned L ∧ OwnF w' w.heap.size (b :: (G' ++ T)) L (cutAll (p ++ l)).1 ∧ StG w' b (cutAll (p ++ l)).2 G' ∧ Newer w G G' ∧ Fr (b :: G) w w' := by
  have hF : FI w b G T (cutAll (p ++ l)) w v (.slice none 0 0) p l [] := ⟨hv, G, ⟨[], World.ownsRow_nil _ _ _ _, rfl⟩, hS, Newer.refl _ _, Fr.refl _ _, by simp⟩
  have hq : ∀ {wr v L p' l' F}, FI w b G T (cutAll (p ++ l)) wr v L p' l' F → F.length ≤ 2199023255552 := fun h => by have := h.count rfl; rw [List.length_append] at this; omega
  replace hq := hide (fun wr v L p' l' F => @hq wr v L p' l' F)
  replace hF := hide hF
  clear hv hS hl
  generalize cutAll (p ++ l) = Z at hF hq ⊢
  go_enter Try.func11, Try.ntmps11
  go_wp2
  go_step3
  go_wp2
  go_step3
  go_wp2
  go_loopg [1, 5] l.length (fun g vb L wr => ∃ (p' l' : List UInt8) (F : List (List UInt8 × Int)), l'.length = g ∧ 0 < miss p' ∧ Hid (FI w b G T Z wr vb L p' l' F))
  case atStart => exact ⟨p, l, [], rfl, hm, hF⟩
  case round =>
    obtain ⟨p1, l1, F, hg, hm1, hF1⟩ := hrel
    subst hg
    clear hF hm
    go_wp2
    obtain ⟨wo, hwo⟩ : ∃ wo : World, wo = wr := ⟨_, rfl⟩
    subst hwo
    go_loopg [1, 6] l1.length (fun g vb n wr => ∃ (p' l' : List UInt8), l'.length = g ∧ l'.length ≤ l1.length ∧ (0 < miss p' ∨ l'.length < l1.length) ∧ Hid (FI w b G T Z wr vb u5 p' l' F))
    case atStart => exact ⟨p1, l1, rfl, Nat.le_refl _, .inl hm1, hF1⟩
    case round =>
      obtain ⟨p2, l2, hg2, hle2, hor, hF2⟩ := hrel
      subst hg2
      clear hF1 hm1
      obtain ⟨A, cap, rfl, hlc, hcm⟩ := hF2.out.form
      unfold maxLen at hcm
      have hlen := miss_le p2
      have hmi := hide (fun w' (h : FI w b G T Z w' (.slice A l2.length cap) u5 p2 l2 F) => h.missing)
      by_cases h0 : miss p2 = 0
      · obtain ⟨x, y, r, rfl, hr⟩ := miss_full h0
        have hlt : l2.length < l1.length := by omega
        clear hor
        have hcu := hide (fun w' (h : FI w b G T Z w' (.slice A l2.length cap) u5 (x :: y :: r) l2 F) => FI.cut hT h hr)
        have hfl := hq.out _ _ _ _ _ _ hF2.out
        have hmz := hide (show ((miss (x :: y :: r) : Nat) : Int) = 0 by omega)
        clear hr h0 hlen
        go_wp2_with (first | (go_at_call 15; refine (hmi.out _ hF2.out).mono ?_; rintro ee w1 ⟨rfl, hF3⟩; rw [hmz.out]; replace hF3 := hide hF3) | (go_at_call 17; refine (hcu.out _ hF3.out).mono ?_; rintro ee w2 ⟨A1, n1, c1, rfl, k1, ⟨xs, k3, k3'⟩, k4, k5, k6⟩; replace k1 := hide k1; replace k6 := hide k6; have k5s := k5.size) | (at_builtin; refine wpl_app tFrames rfl (.tmp 28) (.tmp 31) rfl rfl (hown_alloc k3 _) rfl (src_two Try.underlying32 _ _ _ _ rfl rfl) (by unfold maxLen; omega) (by omega) (by simp; omega) ?_; intro v3 w3 ho3 hg3 hd3))
        go_roundg l2.length
        case measure => omega
        case rel =>
          exact ⟨[], l2, F ++ [(held x y r, ferr x y)], rfl, by decide, FI.put hF3.out.1 k1.out k3 k3' k4 k5 k6.out ho3 hg3 hd3⟩
      · have hpos : 0 < miss p2 := by omega
        clear hor
        by_cases hnil : l2.length = 0
        · have hl0 : l2 = [] := List.eq_nil_of_length_eq_zero hnil
          go_wp2_with (go_at_call 15; refine (hmi.out _ hF2.out).mono ?_; rintro ee w1 ⟨rfl, hF3⟩; replace hF3 := hide hF3)
          try rw [Exit.noGoto_ret]
          go_ret
          obtain ⟨h1, G', h2, h3, h4, h5, h6⟩ := hF3.out
          subst hl0
          rw [List.append_nil, cut_wait hpos, List.append_nil] at h6
          subst h6
          exact ⟨_, G', rfl, h2, h3, h4, h5⟩
        · have hll : l2.length ≤ l1.length := by omega
          by_cases hlt : l2.length < miss p2
          · have hta := hide (fun w' (h : FI w b G T Z w' (.slice A l2.length cap) u5 p2 l2 F) => FI.take (n := l2.length) h (by omega) (by omega))
            go_wp2_with (first | (go_at_call 15; first | (with_reducible refine (hmi.out _ hF3.out).mono ?_; rintro ee w2 ⟨rfl, hF4⟩; replace hF4 := hide hF4) | (with_reducible refine (hmi.out _ hF2.out).mono ?_; rintro ee w1 ⟨rfl, hF3⟩; replace hF3 := hide hF3)) | (go_at_call 16; with_reducible refine (hta.out _ hF4.out).mono ?_; rintro ee w3 ⟨rfl, hF5⟩; replace hF5 := hide hF5))
            go_roundg (l2.length - l2.length)
            case measure => omega
            case rel => exact ⟨p2 ++ l2.take l2.length, l2.drop l2.length, by rw [List.length_drop], by rw [List.length_drop]; omega, .inr (by rw [List.length_drop]; omega), by first | exact hF5 | (have h5 := hF5.out; rw [Nat.sub_self] at h5; exact hide h5)⟩
          · have hta := hide (fun w' (h : FI w b G T Z w' (.slice A l2.length cap) u5 p2 l2 F) => FI.take (n := miss p2) h (by omega) (by omega))
            go_wp2_with (first | (go_at_call 15; first | (with_reducible refine (hmi.out _ hF3.out).mono ?_; rintro ee w2 ⟨rfl, hF4⟩; replace hF4 := hide hF4) | (with_reducible refine (hmi.out _ hF2.out).mono ?_; rintro ee w1 ⟨rfl, hF3⟩; replace hF3 := hide hF3)) | (go_at_call 16; with_reducible refine (hta.out _ hF4.out).mono ?_; rintro ee w3 ⟨rfl, hF5⟩; replace hF5 := hide hF5))
            go_roundg (l2.length - (miss p2))
            case measure => omega
            case rel => exact ⟨p2 ++ l2.take (miss p2), l2.drop (miss p2), by rw [List.length_drop], by rw [List.length_drop]; omega, .inr (by rw [List.length_drop]; omega), hF5⟩
end Go.Proofs.Ytgjdgejljkhnlaa
