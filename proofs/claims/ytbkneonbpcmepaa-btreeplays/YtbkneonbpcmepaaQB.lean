/- The pool: reach, Add. -/
import Derived.Test.YtbkneonbpcmepaaQA
namespace Go.Proofs.Ytbkneonbpcmepaa
open Go.RowKit Go.Arb
set_option linter.unusedVariables false
set_option linter.unusedSimpArgs false

section
variable {w w' : World} {p : Nat} {v : Value} {xs : List Value} {ad : Nat → Nat} {F F' D G : List Tp} {A A' : Se}
/-- What reaching for an item leaves. -/
structure Rch (w w' : World) (p : Nat) (v : Value) (ad : Nat → Nat) (F : List Tp) (A : Se) (u : Nat) (v' : Value) (xs' : List Value) : Prop where
  pb : PB w' p v' xs' ad F A
  lt : u < xs'.length
  kp : Keep (p :: (own v ++ tfs F)) w w'
  gr : Grew w (p :: (own v ++ tfs F)) (p :: (own v' ++ tfs F))
theorem PB.grow {x : Option Addr} {n cap m : Nat} {w2 : World} {v' : Value} (h : PB w p v xs ad F A) (hm : xs.length + m ≤ A.n) (hown : w2.ownsRow 0 66 1 v' (xs.length + m) (xs ++ List.replicate m (.pointer none))) (hgrow : w.grownBy w2 v.ownBlock) (hat : v'.ownBlock = v.ownBlock ∨ v'.ownBlock = some w.heap.size) :
    PB (w2.setCell ⟨p, 1, none⟩ v') p v' (xs ++ List.replicate m (.pointer none)) ad F A ∧ Keep (p :: (own v ++ tfs F)) w (w2.setCell ⟨p, 1, none⟩ v') ∧ Grew w (p :: (own v ++ tfs F)) (p :: (own v' ++ tfs F)) := by
  have hs := h.sep
  have hlt := h.tlt
  rw [List.nodup_cons, List.nodup_append] at hs
  obtain ⟨s1, s2, s3, s4⟩ := hs
  simp only [List.mem_append, not_or] at s1
  have k1 : Keep (own v) w w2 := Keep.grown (ks := own v) (Keep.refl _ _) hgrow (fun k hk => .inl (mem_own.2 hk))
  have hov : ∀ k ∈ own v', k ∈ own v ∨ k = w.heap.size := fun k hk => by
    have hk' := mem_own.1 hk
    rcases hat with h' | h'
    · rw [h'] at hk'; exact .inl (mem_own.2 hk')
    · rw [h'] at hk'; simp at hk'; exact .inr hk'.symm
  have hov2 : ∀ k ∈ own v', k ≠ p ∧ k ∉ tfs F := fun k hk => by
    rcases hov k hk with h1 | h1
    · exact ⟨fun e => s1.1 (e ▸ h1), fun h2 => s4 k h1 k h2 rfl⟩
    · exact ⟨fun e => by have := hlt p (by simp); omega, fun h2 => by have := hlt k (by simp [h2]); omega⟩
  have kc := keep_cell w2 p 1 v'
  have k2 : Keep (p :: (own v ++ tfs F)) w (w2.setCell ⟨p, 1, none⟩ v') := (k1.mono (fun k hk => .inl (by simp [hk]))).tr (kc.mono (fun k hk => .inl (by simp only [List.mem_singleton] at hk; simp [hk])))
  refine ⟨⟨?_, ?_, by simpa using hm, fun i hi => ?_, fun i hi => ?_, fun T hT => ?_, h.it, ?_, h.nd, h.ne, h.n⟩, k2, fun k hk => ?_⟩
  · have e1 : w2.heap[p]? = some (.cells #[.int .i64 (A.n : Int), v] 60 (0, 0)) := by rw [k1.block p (hlt p (by simp)) s1.1]; exact h.po
    rw [heap_setCell_same w2 p 1 _ _ _ e1]; simp
  · rw [List.length_append, List.length_replicate]
    exact row_keep hown kc (fun k h1 h2 => (hov2 k h1).1 (by simpa using h2))
  · rw [List.length_append, List.length_replicate] at hi
    by_cases hc : i < xs.length
    · rw [List.getElem?_append_left hc]; exact h.cel i hc
    · rw [List.getElem?_append_right (by omega), List.getElem?_replicate, if_pos (by omega), if_neg (fun h' => hc (h.lt i h'))]
  · rw [List.length_append]; have := h.lt i hi; omega
  · refine ((h.ow T hT).keep k1 (fun x h1 h2 => s4 x h2 x (mem_tfs hT h1) rfl)).keep kc (fun x h1 h2 => ?_)
    simp only [List.mem_singleton] at h2
    exact s1.2 (h2 ▸ mem_tfs hT h1)
  · rw [List.nodup_cons, List.nodup_append]
    simp only [List.mem_append, not_or]
    refine ⟨⟨fun hc => (hov2 p hc).1 rfl, s1.2⟩, ?_, s3, fun a ha b hb e => (hov2 a ha).2 (e ▸ hb)⟩
    unfold own
    cases v'.ownBlock <;> simp
  · simp only [List.mem_cons, List.mem_append] at hk ⊢
    rcases hk with h1 | h1 | h1
    · exact .inl (.inl h1)
    · rcases hov k h1 with h2 | h2
      · exact .inl (.inr (.inl h2))
      · exact .inr (by omega)
    · exact .inl (.inr (.inr h1))
set_option maxRecDepth 100000 in
theorem reach_any (u : Nat) (h : PB w p v xs ad F A) (hu : u < A.n) :
    Calls Try.prog 45 #[.pointer (some ⟨p, 0, none⟩), .int .i64 (u : Int)] w fun e w' => e = .returned (.tuple #[]) ∧ ∃ v' xs', Rch w w' p v ad F A u v' xs' := by
  obtain ⟨_, c1, _, f1⟩ := h.head
  have hn := h.n
  have hxn := h.xn
  have HH := hide h
  obtain ⟨y, cap, rfl, k1, k2, k3⟩ := row_form h.row
  by_cases hc : u < xs.length
  · have hc' : ¬ 0 < (u : Int) + 1 - (xs.length : Int) := by omega
    clear h k3
    go_enter Try.func45, Try.ntmps45
    go_wp2
    go_end0
    exact ⟨rfl, _, xs, unhide HH, hc, Keep.refl _ _, Grew.refl _ _⟩
  · obtain ⟨m, hm⟩ : ∃ m, u + 1 = xs.length + m := ⟨u + 1 - xs.length, by omega⟩
    have hc' : 0 < (u : Int) + 1 - (xs.length : Int) := by omega
    have hmm : (u : Int) + 1 - (xs.length : Int) = (m : Int) := by omega
    obtain ⟨i0, hi0, hz0, hz1, hz2⟩ := info66
    have hrow := h.row
    have LP := blk_lt h.po
    have NP : ∀ k, (Value.slice y xs.length cap).ownBlock = some k → k ≠ p := fun k hk e => by
      have hs := h.sep
      rw [List.nodup_cons] at hs
      exact hs.1 (List.mem_append.2 (.inl (mem_own.2 (e ▸ hk))))
    have NP := hide NP
    clear h k3
    go_enter Try.func45, Try.ntmps45
    go_wp2_with (at_builtin; refine wpList_append_zeros _ rfl _ _ 58 3 rfl 0 66 i0 (.pointer none) 1 8 .i64 Try.underlying58 Try.underlying3 hi0 hz0 hz1 hz2 rfl (by decide) (.slice y xs.length cap) xs.length m xs rfl hrow (by simp [Act.eval, hmm]) (by omega) (zero_cells m) (by unfold maxLen; omega) (by omega) (Nat.zero_le _) ?_)
    intro v' w2 hown hgrow hat
    rw [zero_row] at hown
    have hp2 : w2.heap[p]? = w.heap[p]? := hgrow.block p LP (fun e => unhide NP p e.symm rfl)
    have c2 : w2.cell? ⟨p, 1, none⟩ = some (.slice y xs.length cap) := by rw [World.cell?_of_block (w := w) (a := ⟨p, 1, none⟩) hp2]; exact c1
    have f2 : w2.frozen? ⟨p, 1, none⟩ = false := by rw [World.frozen?_of_block (w := w) (a := ⟨p, 1, none⟩) hp2]; exact f1
    have RES := hide ((unhide HH).grow (x := y) (n := 0) (cap := cap) (m := m) (by omega) hown hgrow hat)
    obtain ⟨y', cap', rfl, _⟩ := row_form hown
    clear hown hgrow hat hp2 hrow
    go_wp2
    go_end0
    obtain ⟨r1, r2, r3⟩ := unhide RES
    exact ⟨rfl, _, _, r1, by rw [List.length_append, List.length_replicate]; omega, r2, r3⟩

theorem padd_nil (x y : Int) (w : World) : Calls Try.prog 13 #[.pointer none, .int .i64 x, .int .i64 y] w fun e w' => e = .returned (.bool false) ∧ w = w' := by
  go_enter Try.func13, Try.ntmps13
  go_wp2
  go_ret
  exact ⟨rfl, rfl⟩
/-- A new item's knot stands in the list. -/
theorem PB.added {g cap u : Nat} {y : Int} (h : PB w p (.slice (some ⟨g, 0, none⟩) xs.length cap) xs ad F A) (hu : u ∉ A.L.flatten) (hl : u < xs.length) (hy : -1099511627776 ≤ y ∧ y ≤ 1099511627776) {w2 : World} (hb : Below w.heap.size w w2) :
    PB ((w2.alloc (.cells (knC (.pointer none) nilS 0 u 0 (one y)) 68)).setCell ⟨g, u, none⟩ (ptr w2.heap.size)) p (.slice (some ⟨g, 0, none⟩) xs.length cap) (xs.set u (ptr w2.heap.size)) (fun i => if i = u then w2.heap.size else ad i) (⟨0, (⟨w2.heap.size, u, y⟩ : Lf)⟩ :: F) { A with L := A.L ++ [[u]], W := fun i => if i = u then y else A.W i } ∧
      Keep [g] w ((w2.alloc (.cells (knC (.pointer none) nilS 0 u 0 (one y)) 68)).setCell ⟨g, u, none⟩ (ptr w2.heap.size)) := by
  have hs := h.sep
  have hlt := h.tlt
  rw [show own (Value.slice (some ⟨g, 0, none⟩) xs.length cap) = [g] from rfl] at hs hlt
  rw [List.nodup_cons, List.nodup_append] at hs
  obtain ⟨s1, s2, s3, s4⟩ := hs
  simp only [List.mem_append, List.mem_singleton, not_or] at s1
  have hsz := hb.size
  have k0 : Keep [] w (w2.alloc (.cells (knC (.pointer none) nilS 0 u 0 (one y)) 68)) := (Keep.ofBelow hb []).alloc _
  have kc := keep_cell (w2.alloc (.cells (knC (.pointer none) nilS 0 u 0 (one y)) 68)) g u (ptr w2.heap.size)
  have kk : Keep [g] w ((w2.alloc (.cells (knC (.pointer none) nilS 0 u 0 (one y)) 68)).setCell ⟨g, u, none⟩ (ptr w2.heap.size)) := (k0.mono (fun k hk => by simp at hk)).tr kc
  have hg : g < w.heap.size := hlt g (by simp)
  have hsm : smL [((u, w2.heap.size), y)] = one y := smL_one _
  have hK : Kn ((w2.alloc (.cells (knC (.pointer none) nilS 0 u 0 (one y)) 68)).setCell ⟨g, u, none⟩ (ptr w2.heap.size)) w2.heap.size (.pointer none) nilS 0 u 0 (smL [((u, w2.heap.size), y)]) := by
    rw [hsm]
    refine Kn.keep (ks := [g]) ?_ kc (by simp only [List.mem_singleton]; omega)
    exact heap_alloc_new w2 _
  have fl : ∀ i, i ∈ (A.L ++ [[u]]).flatten ↔ i ∈ A.L.flatten ∨ i = u := fun i => by rw [List.flatten_append, List.mem_append]; simp
  refine ⟨⟨?_, ?_, by rw [List.length_set]; exact h.xn, fun i hi => ?_, fun i hi => ?_, fun T hT => ?_, ?_, ?_, ?_, fun l hl' => ?_, h.n⟩, kk⟩
  · rw [kk.block p (hlt p (by simp)) (by simp; exact s1.1)]; exact h.po
  · have r0 := row_keep h.row k0 (fun _ _ => by simp)
    have r1 := (r0.stored u (ptr w2.heap.size)).1
    rw [List.length_set]
    exact r1
  · rw [List.length_set] at hi
    by_cases e : i = u
    · subst e
      rw [List.getElem?_set_self hi, if_pos ((fl i).2 (.inr rfl)), if_pos rfl]
    · rw [List.getElem?_set_ne (fun h' => e h'.symm), h.cel i hi, if_neg e]
      simp only [fl, e, or_false]
  · rw [List.length_set]
    rcases (fl i).1 hi with h1 | h1
    · exact h.lt i h1
    · omega
  · rcases List.mem_cons.1 hT with rfl | hT
    · refine ⟨hK, by simp [fp], ?_, by simp [its]⟩
      show FitL [_]
      intro z hz
      simp only [List.mem_singleton] at hz
      subst hz
      exact hy
    · refine (h.ow T hT).keep kk (fun x h1 h2 => ?_)
      simp only [List.mem_singleton] at h2
      exact s4 g (by simp) x (mem_tfs hT h1) h2.symm
  · rw [List.map_cons, List.map_append]
    refine List.Perm.trans ?_ List.perm_append_comm
    have e1 : [[u]].map (itw (fun i => if i = u then y else A.W i) (fun i => if i = u then w2.heap.size else ad i)) = [[((u, w2.heap.size), y)]] := by simp [itw]
    rw [e1, List.singleton_append]
    refine List.Perm.cons _ ?_
    have e2 : A.L.map (itw (fun i => if i = u then y else A.W i) (fun i => if i = u then w2.heap.size else ad i)) = A.L.map (itw A.W ad) := by
      refine List.map_congr_left (fun l hl' => List.map_congr_left (fun k hk => ?_))
      have : k ≠ u := fun e => hu (e ▸ List.mem_flatten.2 ⟨l, hl', hk⟩)
      simp [this]
    rw [e2]
    exact h.it
  · have e3 : tfs (⟨0, (⟨w2.heap.size, u, y⟩ : Lf)⟩ :: F) = w2.heap.size :: tfs F := by simp [tfs, tf, fp]
    rw [e3, show own (Value.slice (some ⟨g, 0, none⟩) xs.length cap) = [g] from rfl, List.nodup_cons, List.nodup_append]
    simp only [List.mem_append, List.mem_cons, List.not_mem_nil, or_false, not_or]
    have hp0 := hlt p (by simp)
    refine ⟨⟨s1.1, by omega, s1.2⟩, by simp, List.nodup_cons.2 ⟨fun hc => by have := hlt _ (List.mem_cons_of_mem _ (List.mem_append.2 (.inr hc))); omega, s3⟩, fun a ha b hb' e => ?_⟩
    rcases hb' with h1 | h1
    · omega
    · exact s4 g (by simp) b h1 (ha ▸ e)
  · rw [List.flatten_append, List.nodup_append]
    exact ⟨h.nd, by simp, fun a ha b hb' e => hu (by simp at hb'; rw [← hb', ← e]; exact ha)⟩
  · rcases List.mem_append.1 hl' with h1 | h1
    · exact h.ne l h1
    · simp only [List.mem_singleton] at h1; simp [h1]
set_option maxRecDepth 100000 in
set_option maxHeartbeats 4000000 in
theorem padd_any (x y : Int) (h : PB w p v xs ad F A) : Calls Try.prog 13 #[.pointer (some ⟨p, 0, none⟩), .int .i64 x, .int .i64 y] w fun e w' => e = .returned (.bool (A.addOk x y)) ∧ Out w w' p (p :: (own v ++ tfs F)) (A.addA x y) := by
  have HH := hide h
  have no : ∀ (hf : A.addOk x y = false), A.addA x y = A := fun hf => by simp [Se.addA, hf]
  obtain ⟨c0, c1, _, _⟩ := h.head
  have hn := h.n
  by_cases h0 : x < 0
  · have hf : A.addOk x y = false := by
      have : ¬ 0 ≤ x := by omega
      simp [Se.addOk, this]
    rw [hf, no hf]
    clear h hf no c1
    go_enter Try.func13, Try.ntmps13
    go_wp2
    go_ret
    exact ⟨rfl, (unhide HH).out (Keep.refl _ _)⟩
  obtain ⟨u, rfl⟩ := Int.eq_ofNat_of_zero_le (by omega : 0 ≤ x)
  by_cases h1 : A.n ≤ u
  · have hf : A.addOk u y = false := by
      have : ¬ (u : Int) < (A.n : Int) := by omega
      simp [Se.addOk]; intro; omega
    rw [hf, no hf]
    have h1' : (A.n : Int) ≤ (u : Int) := by omega
    clear h hf no c1 h1
    go_enter Try.func13, Try.ntmps13
    go_wp2
    go_ret
    exact ⟨rfl, (unhide HH).out (Keep.refl _ _)⟩
  have h1' : ¬ (A.n : Int) ≤ (u : Int) := by omega
  have HA := hide (has_any (u : Int) h)
  have FT := hide (fits_any y)
  cases hh : A.hasI u
  · rw [hh] at HA
    cases hy : fitB y
    · have hf : A.addOk u y = false := by simp [Se.addOk, hy]
      rw [hf, no hf]
      rw [hy] at FT
      clear h hf no c1 hh hy
      go_enter Try.func13, Try.ntmps13
      go_wp2_with fail
      refine (unhide HA).mono ?_
      rintro e w1 ⟨rfl, rfl⟩
      go_wp2_with fail
      refine (unhide FT _).mono ?_
      rintro e w1 ⟨rfl, rfl⟩
      go_wp2
      go_ret
      exact ⟨rfl, (unhide HH).out (Keep.refl _ _)⟩
    · have hf : A.addOk u y = true := by simp [Se.addOk, hh, hy]; omega
      have fy : -1099511627776 ≤ y ∧ y ≤ 1099511627776 := by simpa [fitB] using hy
      have eA : A.addA u y = { A with L := A.L ++ [[u]], W := fun i => if i = u then y else A.W i } := by
        rw [Se.addA, if_pos hf]; simp
      have hu : u ∉ A.L.flatten := by simpa [A.hasI_nat] using hh
      rw [hf, eA]
      rw [hy] at FT
      have R := hide (reach_any u h (by omega))
      have AD := hide (fun w1 v' xs' (r : Rch w w1 p v ad F A u v' xs') => (show ∃ g cap, v' = .slice (some ⟨g, 0, none⟩) xs'.length cap ∧ w1.cell? ⟨p, 1, none⟩ = some v' ∧ p < w1.heap.size ∧ g < w1.heap.size ∧ u < xs'.length ∧ xs'.length ≤ 4194304 ∧ ∀ w2, Below w1.heap.size w1 w2 → w2.frozen? ⟨g, u, none⟩ = false ∧ (w2.alloc (.cells (knC (.pointer none) nilS 0 u 0 (one y)) 68)).frozen? ⟨g, u, none⟩ = false ∧ (w2.alloc (.cells (knC (.pointer none) nilS 0 u 0 (one y)) 68)).cell? ⟨g, u, none⟩ = some (.pointer none) ∧ Out w ((w2.alloc (.cells (knC (.pointer none) nilS 0 u 0 (one y)) 68)).setCell ⟨g, u, none⟩ (ptr w2.heap.size)) p (p :: (own v ++ tfs F)) { A with L := A.L ++ [[u]], W := fun i => if i = u then y else A.W i } from by
        obtain ⟨y', cap, rfl, k1, k2, k3⟩ := row_form r.pb.row
        obtain ⟨g, rfl, kl, ko, kc⟩ := k3 (by have := r.lt; omega)
        have X : ∀ w2, Below w1.heap.size w1 w2 → w2.frozen? ⟨g, u, none⟩ = false ∧ (w2.alloc (.cells (knC (.pointer none) nilS 0 u 0 (one y)) 68)).frozen? ⟨g, u, none⟩ = false ∧ (w2.alloc (.cells (knC (.pointer none) nilS 0 u 0 (one y)) 68)).cell? ⟨g, u, none⟩ = some (.pointer none) ∧ Out w ((w2.alloc (.cells (knC (.pointer none) nilS 0 u 0 (one y)) 68)).setCell ⟨g, u, none⟩ (ptr w2.heap.size)) p (p :: (own v ++ tfs F)) { A with L := A.L ++ [[u]], W := fun i => if i = u then y else A.W i } := fun w2 hb => by
          obtain ⟨q1, q2⟩ := r.pb.added hu r.lt fy hb
          have ff : w2.frozen? ⟨g, u, none⟩ = false := by rw [hb.frozen (p := ⟨g, u, none⟩) kl]; exact (kc u (by have := r.lt; omega)).2
          have ce : w2.cell? ⟨g, u, none⟩ = some (.pointer none) := by
            rw [hb.cell (p := ⟨g, u, none⟩) kl, (kc u (by have := r.lt; omega)).1, r.pb.cel u r.lt, if_neg hu]
          refine ⟨ff, ?_, by rw [((Keep.refl [] w2).alloc _).cell (p := ⟨g, u, none⟩) (Nat.lt_of_lt_of_le kl hb.size) (by simp)]; exact ce, _, _, _, _, q1, r.kp.trans q2 (fun k hk => ?_), fun k hk => ?_⟩
          · rw [((Keep.refl [] w2).alloc _).frozen (p := ⟨g, u, none⟩) (Nat.lt_of_lt_of_le kl hb.size) (by simp)]; exact ff
          · simp only [List.mem_singleton] at hk
            exact r.gr k (by rw [hk]; simp [own, Value.ownBlock])
          · have e3 : tfs (⟨0, (⟨w2.heap.size, u, y⟩ : Lf)⟩ :: F) = w2.heap.size :: tfs F := by simp [tfs, tf, fp]
            rw [e3] at hk
            simp only [List.mem_cons, List.mem_append] at hk
            rcases hk with h1 | h1 | h1 | h1
            · exact .inl (by simp [h1])
            · exact r.gr k (by simp [h1])
            · have z1 := hb.size
              have z2 := r.kp.size
              exact .inr (by omega)
            · exact .inl (by simp [h1])
        exact ⟨g, cap, rfl, r.pb.head.2.1, blk_lt r.pb.po, kl, r.lt, Nat.le_trans r.pb.xn hn, X⟩))
      have O1 := hide (fun w => one_any y w)
      clear h hf no hh hy eA hu fy HH
      generalize ({ A with L := A.L ++ [[u]], W := fun i => if i = u then y else A.W i } : Se) = A' at *
      go_enter Try.func13, Try.ntmps13
      go_wp2_with fail
      refine (unhide HA).mono ?_
      rintro e w1 ⟨rfl, rfl⟩
      go_wp2_with fail
      refine (unhide FT _).mono ?_
      rintro e w1 ⟨rfl, rfl⟩
      clear HA FT
      go_wp2_with fail
      refine (unhide R).mono ?_
      rintro e w1 ⟨rfl, v', xs', r⟩
      obtain ⟨g, cap, rfl, c1', LP, LG, hl, hx, X⟩ := unhide AD w1 _ _ r
      have FZ := hide X
      clear R r AD X c1 c0
      have c1 := c1'
      clear c1'
      have i1 : (u : Int) < (xs'.length : Int) := by omega
      generalize xs'.length = n at *
      go_wp2_with fail
      refine wp_region_tail 10 (by kernel_rfl) (by kernel_rfl) ?_
      simp only [List.take_succ_cons, List.take_zero, List.drop_succ_cons, List.drop_zero, List.length_cons, List.length_nil, Nat.reduceAdd]
      refine wpAny_of_held (S := (fun w' : World => w'.cell? ⟨p, 1, none⟩ = some (.slice (some ⟨g, 0, none⟩) n cap))) _ _ _ _ ?_
      have hHeld : (fun w' : World => w'.cell? ⟨p, 1, none⟩ = some (.slice (some ⟨g, 0, none⟩) n cap)) _ := c1
      refine wpAnyH_take (i := 0) (v := ?v0) rfl (by kernel_rfl) (by kernel_rfl) (by kernel_rfl) (fun _ _ _ h => h) (Or.inl ⟨by rfl, ?hy0⟩) (by assumption) ?rest0
      case hy0 => intro w hSw; (try dsimp only at hSw); go_simp; (try with_reducible rfl)
      try simp only [Act.put, List.setIfInBounds_toArray, List.set_cons_zero, List.set_cons_succ]
      refine wpAnyH_take (i := 1) (v := ?v1) rfl (by kernel_rfl) (by kernel_rfl) (by kernel_rfl) (fun _ _ _ h => h) (Or.inl ⟨by rfl, ?hy1⟩) (by assumption) ?rest1
      case hy1 => intro w hSw; (try dsimp only at hSw); go_simp; (try with_reducible rfl)
      try simp only [Act.put, List.setIfInBounds_toArray, List.set_cons_zero, List.set_cons_succ]
      refine wpAnyH_take (i := 2) (v := ?v2) rfl (by kernel_rfl) (by kernel_rfl) (by kernel_rfl) (fun _ _ _ h => h) (Or.inl ⟨by rfl, ?hy2⟩) (by assumption) ?rest2
      case hy2 => intro w hSw; (try dsimp only at hSw); go_simp; (try with_reducible rfl)
      try simp only [Act.put, List.setIfInBounds_toArray, List.set_cons_zero, List.set_cons_succ]
      refine wpAnyH_take (i := 3) (v := ?v3) rfl (by kernel_rfl) (by kernel_rfl) (by kernel_rfl) (fun _ _ _ h => h) (Or.inl ⟨by rfl, ?hy3⟩) (by assumption) ?rest3
      case hy3 => intro w hSw; (try dsimp only at hSw); go_simp; (try with_reducible rfl)
      try simp only [Act.put, List.setIfInBounds_toArray, List.set_cons_zero, List.set_cons_succ]
      refine wpAnyH_take (i := 4) (v := ?v4) rfl (by kernel_rfl) (by kernel_rfl) (by kernel_rfl) (fun _ _ _ h => h) (Or.inl ⟨by rfl, ?hy4⟩) (by assumption) ?rest4
      case hy4 => intro w hSw; (try dsimp only at hSw); go_simp; (try with_reducible rfl)
      try simp only [Act.put, List.setIfInBounds_toArray, List.set_cons_zero, List.set_cons_succ]
      refine wpAnyH_take (i := 5) (v := ?v5) rfl (by kernel_rfl) (by kernel_rfl) (by kernel_rfl) (fun _ _ _ h => h) (Or.inl ⟨by rfl, ?hy5⟩) (by assumption) ?rest5
      case hy5 => intro w hSw; (try dsimp only at hSw); go_simp; (try with_reducible rfl)
      try simp only [Act.put, List.setIfInBounds_toArray, List.set_cons_zero, List.set_cons_succ]
      refine wpAnyH_take (i := 6) (v := ?v6) rfl (by kernel_rfl) (by kernel_rfl) (by kernel_rfl) (fun _ _ _ h => h) (Or.inl ⟨by rfl, ?hy6⟩) (by assumption) ?rest6
      case hy6 => intro w hSw; (try dsimp only at hSw); go_simp; (try with_reducible rfl)
      try simp only [Act.put, List.setIfInBounds_toArray, List.set_cons_zero, List.set_cons_succ]
      refine wpAnyH_ready (rs := [7]) (by kernel_rfl) (by simp) (AllReadyH.cons rfl (fun K hK => ?_) AllReadyH.nil)
      go_simp
      refine (unhide O1 _).mono ?_
      rintro e w2 ⟨rfl, hb9⟩
      have hb := below_undrew (q := 1) (w := w1) hb9
      clear hb9
      have z1 := hb.cell (p := ⟨p, 1, none⟩) LP
      rw [c1] at z1
      have BB := hide hb
      have z2 := unhide FZ w2 hb
      have z9 := Nat.lt_of_lt_of_le LP hb.size
      clear hb O1
      refine hK.out _ _ (by simp [go_sem, *]) (fun hHeld => ?_)
      clear hK K
      try simp only [Act.put, List.setIfInBounds_toArray, List.set_cons_zero, List.set_cons_succ]
      refine wpAnyH_ready (rs := [8]) (by kernel_rfl) (by simp) (AllReadyH.cons rfl (fun K hK => ?_) AllReadyH.nil)
      go_simp
      refine hK.out _ _ (by simp [go_sem, *]) (fun hHeld => ?_)
      clear hK K
      try simp only [Act.put, List.setIfInBounds_toArray, List.set_cons_zero, List.set_cons_succ]
      refine wpAnyH_ready (rs := [9]) (by kernel_rfl) (by simp) (AllReadyH.cons rfl (fun K hK => ?_) AllReadyH.nil)
      go_simp
      refine hK.out _ _ (by simp [go_sem, *]) (fun hHeld => ?_)
      clear hK K
      try simp only [Act.put, List.setIfInBounds_toArray, List.set_cons_zero, List.set_cons_succ]
      refine wpAnyH_done (by kernel_rfl) ?_ _
      unfold HT
      obtain ⟨_, z3, z4, oo⟩ := z2
      simp only [knC, nilS, one, ptr] at z3 z4 oo
      have OO := hide oo
      have bw : ¬ g = w2.heap.size := by have := (unhide BB).size; omega
      clear oo FZ
      go_wp2
      go_ret
      exact ⟨rfl, unhide OO⟩
  · have hf : A.addOk u y = false := by simp [Se.addOk, hh]
    rw [hf, no hf]
    rw [hh] at HA
    clear h hf no c1 hh FT
    go_enter Try.func13, Try.ntmps13
    go_wp2_with fail
    refine (unhide HA).mono ?_
    rintro e w1 ⟨rfl, rfl⟩
    go_wp2
    go_ret
    exact ⟨rfl, (unhide HH).out (Keep.refl _ _)⟩
end
end Go.Proofs.Ytbkneonbpcmepaa
