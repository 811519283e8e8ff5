/- What two trees become: plain facts, and the shorter way. -/
import Derived.Test.YtbkneonbpcmepaaP7
namespace Go.Proofs.Ytbkneonbpcmepaa
open Go.RowKit Go.Arb
set_option linter.unusedVariables false
set_option linter.unusedSimpArgs false

theorem fp_rais (d : Int) : ∀ (h : Nat) (t : Tr h), fp h (rais d h t) = fp h t
  | 0, _ => rfl
  | _ + 1, _ => rfl
theorem fps_map_rais (d : Int) (h : Nat) (ts : List (Tr h)) : fps h (ts.map (rais d h)) = fps h ts := by
  unfold fps
  rw [List.flatMap_map]
  congr 1
  funext t
  exact fp_rais d h t
theorem fp_settl (h : Nat) (t : Tr (h + 1)) : fp (h + 1) (settl h t) = fp (h + 1) t := by
  show Nd.a t :: (own (Nd.r t) ++ fps h ((Nd.ps t).map (rais (Nd.m t) h))) = _
  rw [fps_map_rais]
  rfl
/-- What a blend leaves: one tree, or two, as high as the higher one was. -/
structure Bl (w w' : World) (h : Nat) (J : List Nat) (rv : Value) (res : List (Tr h)) (xs : List It) (k : Nat) : Prop where
  row : Row w' rv (res.map (adr h))
  new : ∀ k ∈ own rv, w.heap.size ≤ k
  off : Off (own rv) (fps h res)
  tr : Ts w' h res
  kp : Keep J w w'
  gr : Grew w J (fps h res)
  its : res.flatMap (its h) = xs
  wf : (∃ t, res = [t] ∧ Wf h k t) ∨ (∃ t s, res = [t, s] ∧ Wf h 4 t ∧ Wf h 4 s)
theorem Shared.its {w w' : World} {h a : Nat} {ts : List (Tr h)} {nr rv : Value} {res : List (Tr (h + 1))} (s : Shared w w' h a ts nr rv res) : res.flatMap (its (h + 1)) = ts.flatMap (its h) := by
  by_cases h8 : ts.length ≤ 8
  · obtain ⟨r, rfl⟩ := s.few h8
    simp only [List.flatMap_cons, List.flatMap_nil, List.append_nil]
    exact its_nod h a r ts
  · obtain ⟨b, r, r', rfl⟩ := s.many (by omega)
    simp only [List.flatMap_cons, List.flatMap_nil, List.append_nil]
    rw [its_nod, its_nod, ← List.flatMap_append, List.take_append_drop]
theorem wf_nod {h k a : Nat} {r : Value} {ts : List (Tr h)} (h1 : k ≤ ts.length) (h2 : ts.length ≤ 8) (hf : FitL (ts.flatMap (its h))) (hw : ∀ t ∈ ts, Wf h 4 t) : Wf (h + 1) k (nod h a r 0 ts) :=
  ⟨⟨h1, h2⟩, by rw [its_nod]; exact hf, hw⟩
theorem Shared.wf {w w' : World} {h a k : Nat} {ts : List (Tr h)} {nr rv : Value} {res : List (Tr (h + 1))} (s : Shared w w' h a ts nr rv res) (h1 : k ≤ ts.length) (h2 : ts.length ≤ 15) (hf : FitL (ts.flatMap (Go.Proofs.Ytbkneonbpcmepaa.its h))) (hw : ∀ t ∈ ts, Wf h 4 t) :
    (∃ t, res = [t] ∧ Wf (h + 1) k t) ∨ (∃ t s, res = [t, s] ∧ Wf (h + 1) 4 t ∧ Wf (h + 1) 4 s) := by
  by_cases h8 : ts.length ≤ 8
  · obtain ⟨r, rfl⟩ := s.few h8
    exact .inl ⟨_, rfl, wf_nod h1 h8 hf hw⟩
  · obtain ⟨b, r, r', rfl⟩ := s.many (by omega)
    refine .inr ⟨_, _, rfl, wf_nod (by rw [List.length_take]; omega) (by rw [List.length_take]; omega) (hf.sub (flat_take ts _)) (fun t ht => hw t (List.mem_of_mem_take ht)), wf_nod (by rw [List.length_drop]; omega) (by rw [List.length_drop]; omega) (hf.sub (flat_drop ts _)) (fun t ht => hw t (List.mem_of_mem_drop ht))⟩
/-- What is shared out of new parts, seen from the blend's beginning. -/
theorem Shared.bl {w w1 w' : World} {h a k : Nat} {ts : List (Tr h)} {nr rv : Value} {res : List (Tr (h + 1))} {J : List Nat} (s : Shared w1 w' h a ts nr rv res) (kp : Keep J w w1) (ga : a ∈ J) (gn : ∀ x ∈ own nr, w.heap.size ≤ x) (gt : Grew w J (fps h ts))
    (h1 : k ≤ ts.length) (h2 : ts.length ≤ 15) (hf : FitL (ts.flatMap (Go.Proofs.Ytbkneonbpcmepaa.its h))) (hw : ∀ t ∈ ts, Wf h 4 t) : Bl w w' (h + 1) J rv res (ts.flatMap (Go.Proofs.Ytbkneonbpcmepaa.its h)) k := by
  refine ⟨s.row, fun x hx => Nat.le_trans kp.size (s.new x hx), s.off, s.tr, kp.trans s.kp (fun x hx => ?_), fun x hx => ?_, s.its, s.wf h1 h2 hf hw⟩
  · rcases List.mem_cons.1 hx with rfl | hx
    · exact .inl ga
    · rcases gt x (adrs_fps x hx) with h3 | h3
      · exact .inl h3
      · exact .inr h3
  · rcases s.gr x hx with h3 | h3
    · rcases List.mem_cons.1 h3 with rfl | h3
      · exact .inl ga
      · rcases List.mem_append.1 h3 with h3 | h3
        · exact .inr (gn x h3)
        · exact gt x h3
    · exact .inr (Nat.le_trans kp.size h3)

theorem bl_pair {w : World} {h : Nat} {a b : Tr h} {ua ub : Value} (ma : Mem w h ua a) (mb : Mem w h ub b) (nd : (fp h a ++ fp h b).Nodup) (wa : Wf h 4 a) (wb : Wf h 4 b) (q : Nat) :
    Bl w ((w.drewN q).alloc (.cells #[ptr (adr h a), ptr (adr h b)] 66)) h (fp h a ++ fp h b) (.slice (some ⟨w.heap.size, 0, none⟩) 2 2) [a, b] (its h a ++ its h b) 4 := by
  rw [List.nodup_append] at nd
  have k0 : Keep [] w (w.drewN q) := ⟨rfl, rfl, rfl, Nat.le_refl _, fun _ _ _ => rfl⟩
  have kk := k0.alloc (.cells #[ptr (adr h a), ptr (adr h b)] 66)
  have ma2 := ma.keep kk (fun _ _ => by simp)
  have mb2 := mb.keep kk (fun _ _ => by simp)
  have e : fps h [a, b] = fp h a ++ fp h b := by rw [fps_cons, fps_cons, fps_nil, List.append_nil]
  refine ⟨row_new (w.drewN q) [adr h a, adr h b] (by simp), fun x hx => ?_, fun x hx hc => ?_, ?_, kk.mono (by simp), fun x hx => .inl (by rwa [e] at hx), by simp, .inr ⟨a, b, rfl, wa, wb⟩⟩
  · simp [own, Value.ownBlock] at hx
    omega
  · simp [own, Value.ownBlock] at hx
    rw [e] at hc
    rcases List.mem_append.1 hc with hc | hc
    · have := ma.lt x hc; omega
    · have := mb.lt x hc; omega
  · rw [show [a, b] = [a] ++ [b] from rfl, Ts.app]
    refine ⟨Ts.one ma2 nd.1, Ts.one mb2 nd.2.1, fun x h1 h2 => ?_⟩
    rw [fps_cons, fps_nil, List.append_nil] at h1 h2
    exact nd.2.2 x h1 x h2 rfl

theorem root_ht {w : World} {h : Nat} {u : Value} {t : Tr h} (m : Mem w h u t) : w.cell? ⟨adr h t, 2, none⟩ = some (.int .i64 (h : Int)) := (Kn.cells m.root).2.2.1
theorem root_pt {w : World} {h : Nat} {u : Value} {t : Tr h} (m : Mem w h u t) : w.cell? ⟨adr h t, 1, none⟩ = some (rowOf h t) := (Kn.cells m.root).2.1
set_option maxRecDepth 100000 in
/-- Two items stay side by side. -/
theorem blend_items (a b : Tr 0) (ua ub : Value) (w : World) (ma : Mem w 0 ua a) (mb : Mem w 0 ub b) (nd : (fp 0 a ++ fp 0 b).Nodup) (wa : Wf 0 4 a) (wb : Wf 0 4 b) :
    Calls Try.prog 71 #[ptr (adr 0 a), ptr (adr 0 b)] w fun e w' => ∃ rv res, e = .returned rv ∧ Bl w w' 0 (fp 0 a ++ fp 0 b) rv res (its 0 a ++ its 0 b) 4 := by
  have ha := root_ht ma
  have hb := root_ht mb
  have M := hide (fun q => bl_pair ma mb nd wa wb q)
  clear ma mb nd
  generalize adr 0 a = A at *
  generalize adr 0 b = B at *
  unfold ptr at *
  go_enter Try.func71, Try.ntmps71
  go_wp2_with fail
  go_quiet (fail)
  go_wp2_with fail
  go_quiet (fail)
  go_wp2_with fail
  go_quiet (fail)
  go_wp2
  go_ret
  exact ⟨_, _, rfl, unhide M _⟩

set_option maxRecDepth 100000 in
/-- Two knots of one height, both with parts enough, stay side by side. -/
theorem blend_both {h : Nat} (a b : Tr (h + 1)) (ua ub : Value) (w : World) (h9 : h ≤ 1000) (ma : Mem w (h + 1) ua a) (mb : Mem w (h + 1) ub b) (nd : (fp (h + 1) a ++ fp (h + 1) b).Nodup) (wa : Wf (h + 1) 4 a) (wb : Wf (h + 1) 4 b) :
    Calls Try.prog 71 #[ptr (adr (h + 1) a), ptr (adr (h + 1) b)] w fun e w' => ∃ rv res, e = .returned rv ∧ Bl w w' (h + 1) (fp (h + 1) a ++ fp (h + 1) b) rv res (its (h + 1) a ++ its (h + 1) b) 4 := by
  have ha := root_ht ma
  have hb := root_ht mb
  have pa := root_pt ma
  have pb := root_pt mb
  obtain ⟨xa, ca, ea, _⟩ := (show Row w (Nd.r a) _ from ma.2.1).form
  obtain ⟨xb, cb, eb, _⟩ := (show Row w (Nd.r b) _ from mb.2.1).form
  rw [show rowOf (h + 1) a = Nd.r a from rfl, ea] at pa
  rw [show rowOf (h + 1) b = Nd.r b from rfl, eb] at pb
  rw [List.length_map] at pa pb
  have la := wa.1
  have lb := wb.1
  have M := hide (fun q => bl_pair ma mb nd wa wb q)
  clear ma mb nd wa wb ea eb
  generalize adr (h + 1) a = A at *
  generalize adr (h + 1) b = B at *
  generalize (Nd.ps a).length = na at *
  generalize (Nd.ps b).length = nb at *
  have hz : (((h + 1 : Nat) : Int) == 0) = false := by rw [beq_eq_false_iff_ne]; omega
  have hmin : ∀ (w : World), (Builtin.min_ #[3, 3] 3 #[.int .i64 na, .int .i64 nb]).run Try.prog w = .ok (.int .i64 ((min na nb : Nat) : Int)) w := fun w => by
    rw [run_min_int2]
    congr 2
    split <;> omega
  have hm4 : (4 : Int) ≤ ((min na nb : Nat) : Int) := by omega
  generalize min na nb = mn at *
  unfold ptr at *
  generalize ((h + 1 : Nat) : Int) = H at *
  go_enter Try.func71, Try.ntmps71
  go_wp2_with fail
  go_quiet (fail)
  go_wp2_with fail
  go_quiet (fail)
  go_wp2_with fail
  go_quiet (fail)
  go_wp2
  go_ret
  exact ⟨_, _, rfl, unhide M _⟩
end Go.Proofs.Ytbkneonbpcmepaa
