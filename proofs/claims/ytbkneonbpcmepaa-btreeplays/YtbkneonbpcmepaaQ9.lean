/- The pool: Before, Join. -/
import Derived.Test.YtbkneonbpcmepaaQ8
namespace Go.Proofs.Ytbkneonbpcmepaa
open Go.RowKit Go.Arb
set_option linter.unusedVariables false
set_option linter.unusedSimpArgs false

section
variable {w w' : World} {p : Nat} {v : Value} {xs : List Value} {ad : Nat → Nat} {F F' D G : List Tp} {A A' : Se}
theorem At1.own {T : Tp} (a : At1 w (some T)) (hl : (ti T).length ≤ 4194304) : Own1 w T := ⟨(a.mem T rfl).1, a.nd, (a.mem T rfl).2.1, hl⟩
theorem tfs_two (T S : Tp) : tfs [T, S] = tf T ++ tf S := by simp [tfs]
theorem before_nil (x : Int) (w : World) : Calls Try.prog 17 #[.pointer none, .int .i64 x] w fun e w' => e = .returned (.bool false) ∧ w = w' := by
  go_enter Try.func17, Try.ntmps17
  go_wp2_with (go_at_call 33; refine (rank_nil _ _).mono ?_; rintro e w' ⟨rfl, rfl⟩)
  go_ret
  exact ⟨rfl, rfl⟩
theorem ctx_cut {T : Tp} {u d : Nat} {c : Cx d 0} {x : Tr 0} {F0 : List Tp} (h : PB w p v xs ad F0 A) (hp : F0.Perm (T :: F)) (q : Ctx w p v xs ad T F A u d c x) (hu : u ∈ A.L.flatten) (hb : A.beforeB u = true) :
    Calls Try.prog 50 #[.pointer (some ⟨ad u, 0, none⟩)] w fun e w' => e = .returned (.tuple #[]) ∧ Out w w' p (p :: (own v ++ tfs F0)) (A.beforeA u) := by
  have c1 := cut_any d c x w (by rw [q.pl]; exact q.own)
  rw [q.pl, q.a] at c1
  refine c1.mono ?_
  rintro e w' ⟨rfl, o1, o2, a1, a2, off, t1, t2, kp, gr⟩
  refine ⟨rfl, ?_⟩
  obtain ⟨s1, s2, s3, s4⟩ := q.split
  have hr := q.rank hu
  have hk : 0 < (pre d 0 c).length := by
    simp only [Se.beforeB, decide_eq_true_eq] at hb
    omega
  have hlt := List.idxOf_lt_length_of_mem q.mem
  rw [s1] at hlt
  rw [s2] at t1
  rw [s3] at t2
  have eA : A.beforeA u = { A with L := A.L.erase (A.seq u) ++ [(A.seq u).take (pre d 0 c).length, (A.seq u).drop (pre d 0 c).length] } := by
    rw [Se.beforeA, if_pos hb, Se.seqI_nat hu, hr]
    rfl
  generalize (pre d 0 c).length = k at *
  have hl := q.len
  match o1, o2, a1, a2, off, t1, t2, gr with
  | none, _, _, _, _, t1, _, _ =>
    have := congrArg List.length t1
    rw [itw_length, List.length_take] at this
    simp [tits] at this
    omega
  | some T1, none, _, _, _, _, t2, _ =>
    have := congrArg List.length t2
    rw [itw_length, List.length_drop] at this
    simp [tits] at this
    omega
  | some T1, some T2, a1, a2, off, t1, t2, gr =>
    have e1 : ti T1 = itw A.W ad ((A.seq u).take k) := t1
    have e2 : ti T2 = itw A.W ad ((A.seq u).drop k) := t2
    have hfl : (A.beforeA u).L.flatten.Perm A.L.flatten := by
      rw [eA]
      show (A.L.erase (A.seq u) ++ [_, _]).flatten.Perm _
      rw [List.flatten_append]
      have : [(A.seq u).take k, (A.seq u).drop k].flatten = A.seq u := by simp
      rw [this]
      exact (List.perm_append_comm.trans (flatten_erase q.inL).symm)
    refine h.turned (D := [T]) (F' := F) (G := [T1, T2]) hp (by rw [tfs_one]; exact kp) (fun S hS => ?_) ?_ (by rw [tfs_one, tfs_two]; exact gr) (by rw [eA]) hfl ?_ ?_
    · simp only [List.mem_cons, List.not_mem_nil, or_false] at hS
      rcases hS with rfl | rfl
      · exact a1.own (by rw [e1, itw_length, List.length_take]; omega)
      · exact a2.own (by rw [e2, itw_length, List.length_drop]; omega)
    · rw [tfs_two, List.nodup_append]
      exact ⟨a1.nd, a2.nd, fun x hx y hy e => off x hx (e ▸ hy)⟩
    · rw [eA]
      intro l hl'
      rcases List.mem_append.1 hl' with h' | h'
      · exact h.ne l (List.mem_of_mem_erase h')
      · simp only [List.mem_cons, List.not_mem_nil, or_false] at h'
        rcases h' with rfl | rfl
        · intro e; have h9 : ((A.seq u).take k).length = 0 := by rw [e]; rfl
          rw [List.length_take] at h9; omega
        · intro e; have h9 : ((A.seq u).drop k).length = 0 := by rw [e]; rfl
          rw [List.length_drop] at h9; omega
    · rw [eA]
      show ([T1, T2] ++ F).map ti |>.Perm ((A.L.erase (A.seq u) ++ [_, _]).map (itw A.W ad))
      rw [List.map_append, List.map_append]
      refine List.perm_append_comm.trans ?_
      refine q.rest.append ?_
      rw [List.map_cons, List.map_cons, e1, e2]
      exact List.Perm.refl _
set_option maxRecDepth 100000 in
theorem before_any (x : Int) (h : PB w p v xs ad F A) : Calls Try.prog 17 #[.pointer (some ⟨p, 0, none⟩), .int .i64 x] w fun e w' => e = .returned (.bool (A.beforeB x)) ∧ Out w w' p (p :: (own v ++ tfs F)) (A.beforeA x) := by
  have R := hide (rank_any x h)
  have HH := hide h
  cases hb : A.beforeB x
  · have eA : A.beforeA x = A := by simp [Se.beforeA, hb]
    have hl : A.rankI x ≤ 0 := by simpa [Se.beforeB] using hb
    rw [eA]
    generalize A.rankI x = rk at *
    clear h hb eA
    go_enter Try.func17, Try.ntmps17
    go_wp2_with fail
    refine (unhide R).mono ?_
    rintro e w1 ⟨rfl, rfl⟩
    go_wp2
    go_ret
    exact ⟨rfl, (unhide HH).out (Keep.refl _ _)⟩
  · have hl : 0 < A.rankI x := by simpa [Se.beforeB] using hb
    have hl' : ¬ A.rankI x ≤ 0 := by omega
    cases hh : A.hasI x
    · rw [show A.rankI x = -1 from by simp [Se.rankI, hh]] at hl; omega
    obtain ⟨u, rfl, hu⟩ := Se.hasI_true hh
    obtain ⟨T, F', d0, c, x, q, hp⟩ := h.ctx' hu
    have C := hide (ctx_cut h hp q hu hb)
    obtain ⟨g, cap, rfl, e1, x1, x2, x3⟩ := h.cell hu
    obtain ⟨_, c1, _, _⟩ := h.head
    have i1 : (u : Int) < (xs.length : Int) := by omega
    generalize A.rankI u = rk at *
    generalize A.beforeA u = A' at *
    clear h hb hh hu q hp HH hl
    go_enter Try.func17, Try.ntmps17
    go_wp2_with fail
    refine (unhide R).mono ?_
    rintro e w1 ⟨rfl, rfl⟩
    clear R
    go_wp2_with fail
    refine (unhide C).mono ?_
    rintro e w1 ⟨rfl, Z⟩
    have ZZ := hide Z
    clear Z C
    go_wp2
    go_ret
    exact ⟨rfl, unhide ZZ⟩

theorem pjoin_nil (a b : Int) (w : World) : Calls Try.prog 19 #[.pointer none, .int .i64 a, .int .i64 b] w fun e w' => e = .returned (.bool false) ∧ w = w' := by
  go_enter Try.func19, Try.ntmps19
  go_wp2_with (go_at_call 29; refine (has_nil _ _).mono ?_; rintro e w' ⟨rfl, rfl⟩)
  go_ret
  exact ⟨rfl, rfl⟩
set_option maxRecDepth 100000 in
set_option maxHeartbeats 1000000 in
theorem join_walk (x y g n cap a1 a2 t1 t2 : Nat) (w : World) (P : World → Prop) (k : Nat) (c1 : w.cell? ⟨p, 1, none⟩ = some (.slice (some ⟨g, 0, none⟩) n cap)) (e1 : w.cell? ⟨g, x, none⟩ = some (.pointer (some ⟨a1, 0, none⟩))) (e2 : w.cell? ⟨g, y, none⟩ = some (.pointer (some ⟨a2, 0, none⟩)))
    (i1 : (x : Int) < (n : Int)) (i2 : (y : Int) < (n : Int)) (H1 : Calls Try.prog 29 #[.pointer (some ⟨p, 0, none⟩), .int .i64 (x : Int)] w fun e w' => e = .returned (.bool true) ∧ w = w') (H2 : Calls Try.prog 29 #[.pointer (some ⟨p, 0, none⟩), .int .i64 (y : Int)] w fun e w' => e = .returned (.bool true) ∧ w = w')
    (S : Calls Try.prog 37 #[.pointer (some ⟨p, 0, none⟩), .int .i64 (x : Int), .int .i64 (y : Int)] w fun e w' => e = .returned (.bool false) ∧ ∃ q, w' = w.drewN q)
    (T1 : ∀ q, Calls Try.prog 52 #[.pointer (some ⟨a1, 0, none⟩)] (w.drewN q) fun e w' => e = .returned (.pointer (some ⟨t1, 0, none⟩)) ∧ w' = w.drewN q)
    (T2 : ∀ q, Calls Try.prog 52 #[.pointer (some ⟨a2, 0, none⟩)] (w.drewN q) fun e w' => e = .returned (.pointer (some ⟨t2, 0, none⟩)) ∧ w' = w.drewN q)
    (J : ∀ q, Calls Try.prog 51 #[.pointer (some ⟨t1, 0, none⟩), .pointer (some ⟨t2, 0, none⟩)] (w.drewN q) fun e w' => (∃ b, e = .returned b) ∧ P w') :
    Calls Try.prog 19 #[.pointer (some ⟨p, 0, none⟩), .int .i64 (x : Int), .int .i64 (y : Int)] w fun e w' => e = .returned (.bool true) ∧ P w' := by
  have H1 := hide H1
  have H2 := hide H2
  have S := hide S
  have T1 := hide T1
  have T2 := hide T2
  have J := hide J
  go_enter Try.func19, Try.ntmps19
  go_wp2_with fail
  refine (unhide H1).mono ?_
  rintro e w1 ⟨rfl, rfl⟩
  go_wp2_with fail
  refine (unhide H2).mono ?_
  rintro e w1 ⟨rfl, rfl⟩
  go_wp2_with fail
  refine (unhide S).mono ?_
  rintro e w1 ⟨rfl, q, rfl⟩
  clear H1 H2 S
  go_wp2_with fail
  refine wp_region_tail 16 (by kernel_rfl) (by kernel_rfl) ?_
  simp only [List.take_succ_cons, List.take_zero, List.drop_succ_cons, List.drop_zero, List.length_cons, List.length_nil, Nat.reduceAdd]
  refine wpAny_of_held (S := (fun w' : World => w'.cell? ⟨p, 1, none⟩ = some (.slice (some ⟨g, 0, none⟩) n cap) ∧ w'.cell? ⟨g, x, none⟩ = some (.pointer (some ⟨a1, 0, none⟩)) ∧ w'.cell? ⟨g, y, none⟩ = some (.pointer (some ⟨a2, 0, none⟩)))) _ _ _ _ ?_
  have hHeld : (fun w' : World => w'.cell? ⟨p, 1, none⟩ = some (.slice (some ⟨g, 0, none⟩) n cap) ∧ w'.cell? ⟨g, x, none⟩ = some (.pointer (some ⟨a1, 0, none⟩)) ∧ w'.cell? ⟨g, y, none⟩ = some (.pointer (some ⟨a2, 0, none⟩))) _ := ⟨c1, e1, e2⟩
  refine wpAnyH_take (i := 0) (v := ?v0) rfl (by kernel_rfl) (by kernel_rfl) (by kernel_rfl) (fun _ _ _ h => h) (Or.inl ⟨by rfl, ?hy0⟩) (by assumption) ?rest0
  case hy0 => intro w hSw; (try dsimp only at hSw); go_simp; (try with_reducible rfl)
  try simp only [Act.put, List.setIfInBounds_toArray, List.set_cons_zero, List.set_cons_succ]
  refine wpAnyH_take (i := 1) (v := ?v1) rfl (by kernel_rfl) (by kernel_rfl) (by kernel_rfl) (fun _ _ _ h => h) (Or.inl ⟨by rfl, ?hy1⟩) (by assumption) ?rest1
  case hy1 => intro w hSw; (try dsimp only at hSw); go_simp; (try with_reducible rfl)
  try simp only [Act.put, List.setIfInBounds_toArray, List.set_cons_zero, List.set_cons_succ]
  refine wpAnyH_take (i := 2) (v := ?v2) rfl (by kernel_rfl) (by kernel_rfl) (by kernel_rfl) (fun _ _ _ h => h) (Or.inl ⟨by rfl, ?hy2⟩) (by assumption) ?rest2
  case hy2 => intro w hSw; (try dsimp only at hSw); go_simp; (try with_reducible rfl)
  try simp only [Act.put, List.setIfInBounds_toArray, List.set_cons_zero, List.set_cons_succ]
  refine wpAnyH_take (i := 3) (v := ?v3) rfl (by kernel_rfl) (by kernel_rfl) (by kernel_rfl) (fun _ _ _ h => h) (Or.inl ⟨by rfl, ?hy3⟩) (by assumption) ?rest3
  case hy3 => intro w hSw; (try dsimp only at hSw); go_simp; (try with_reducible rfl)
  try simp only [Act.put, List.setIfInBounds_toArray, List.set_cons_zero, List.set_cons_succ]
  refine wpAnyH_take (i := 4) (v := ?v4) rfl (by kernel_rfl) (by kernel_rfl) (by kernel_rfl) (fun _ _ _ h => h) (Or.inl ⟨by rfl, ?hy4⟩) (by assumption) ?rest4
  case hy4 => intro w hSw; (try dsimp only at hSw); go_simp; (try with_reducible rfl)
  try simp only [Act.put, List.setIfInBounds_toArray, List.set_cons_zero, List.set_cons_succ]
  refine wpAnyH_take (i := 5) (v := ?v5) rfl (by kernel_rfl) (by kernel_rfl) (by kernel_rfl) (fun _ _ _ h => h) (Or.inl ⟨by rfl, ?hy5⟩) (by assumption) ?rest5
  case hy5 => intro w hSw; (try dsimp only at hSw); go_simp; (try with_reducible rfl)
  try simp only [Act.put, List.setIfInBounds_toArray, List.set_cons_zero, List.set_cons_succ]
  refine wpAnyH_take (i := 6) (v := ?v6) rfl (by kernel_rfl) (by kernel_rfl) (by kernel_rfl) (fun _ _ _ h => h) (Or.inl ⟨by rfl, ?hy6⟩) (by assumption) ?rest6
  case hy6 => intro w hSw; (try dsimp only at hSw); go_simp; (try with_reducible rfl)
  try simp only [Act.put, List.setIfInBounds_toArray, List.set_cons_zero, List.set_cons_succ]
  refine wpAnyH_take (i := 8) (v := ?v8) rfl (by kernel_rfl) (by kernel_rfl) (by kernel_rfl) (fun _ _ _ h => h) (Or.inl ⟨by rfl, ?hy8⟩) (by assumption) ?rest8
  case hy8 => intro w hSw; (try dsimp only at hSw); go_simp; (try with_reducible rfl)
  try simp only [Act.put, List.setIfInBounds_toArray, List.set_cons_zero, List.set_cons_succ]
  refine wpAnyH_take (i := 9) (v := ?v9) rfl (by kernel_rfl) (by kernel_rfl) (by kernel_rfl) (fun _ _ _ h => h) (Or.inl ⟨by rfl, ?hy9⟩) (by assumption) ?rest9
  case hy9 => intro w hSw; (try dsimp only at hSw); go_simp; (try with_reducible rfl)
  try simp only [Act.put, List.setIfInBounds_toArray, List.set_cons_zero, List.set_cons_succ]
  refine wpAnyH_take (i := 10) (v := ?v10) rfl (by kernel_rfl) (by kernel_rfl) (by kernel_rfl) (fun _ _ _ h => h) (Or.inl ⟨by rfl, ?hy10⟩) (by assumption) ?rest10
  case hy10 => intro w hSw; (try dsimp only at hSw); go_simp; (try with_reducible rfl)
  try simp only [Act.put, List.setIfInBounds_toArray, List.set_cons_zero, List.set_cons_succ]
  refine wpAnyH_take (i := 11) (v := ?v11) rfl (by kernel_rfl) (by kernel_rfl) (by kernel_rfl) (fun _ _ _ h => h) (Or.inl ⟨by rfl, ?hy11⟩) (by assumption) ?rest11
  case hy11 => intro w hSw; (try dsimp only at hSw); go_simp; (try with_reducible rfl)
  try simp only [Act.put, List.setIfInBounds_toArray, List.set_cons_zero, List.set_cons_succ]
  refine wpAnyH_take (i := 12) (v := ?v12) rfl (by kernel_rfl) (by kernel_rfl) (by kernel_rfl) (fun _ _ _ h => h) (Or.inl ⟨by rfl, ?hy12⟩) (by assumption) ?rest12
  case hy12 => intro w hSw; (try dsimp only at hSw); go_simp; (try with_reducible rfl)
  try simp only [Act.put, List.setIfInBounds_toArray, List.set_cons_zero, List.set_cons_succ]
  refine wpAnyH_take (i := 13) (v := ?v13) rfl (by kernel_rfl) (by kernel_rfl) (by kernel_rfl) (fun _ _ _ h => h) (Or.inl ⟨by rfl, ?hy13⟩) (by assumption) ?rest13
  case hy13 => intro w hSw; (try dsimp only at hSw); go_simp; (try with_reducible rfl)
  try simp only [Act.put, List.setIfInBounds_toArray, List.set_cons_zero, List.set_cons_succ]
  refine wpAnyH_take (i := 14) (v := ?v14) rfl (by kernel_rfl) (by kernel_rfl) (by kernel_rfl) (fun _ _ _ h => h) (Or.inl ⟨by rfl, ?hy14⟩) (by assumption) ?rest14
  case hy14 => intro w hSw; (try dsimp only at hSw); go_simp; (try with_reducible rfl)
  try simp only [Act.put, List.setIfInBounds_toArray, List.set_cons_zero, List.set_cons_succ]
  refine wpAnyH_ready (rs := [7]) (by kernel_rfl) (by simp) (AllReadyH.cons rfl (fun K hK => ?_) AllReadyH.nil)
  go_simp
  refine (unhide T1 _).mono ?_
  rintro e w2 ⟨rfl, rfl⟩
  clear T1
  refine hK.out _ _ (by simp [go_sem, *]) (fun hHeld => ?_)
  clear hK K
  try simp only [Act.put, List.setIfInBounds_toArray, List.set_cons_zero, List.set_cons_succ]
  refine wpAnyH_ready (rs := [15]) (by kernel_rfl) (by simp) (AllReadyH.cons rfl (fun K hK => ?_) AllReadyH.nil)
  go_simp
  refine (unhide T2 _).mono ?_
  rintro e w2 ⟨rfl, rfl⟩
  clear T2
  refine hK.out _ _ (by simp [go_sem, *]) (fun hHeld => ?_)
  clear hK K
  try simp only [Act.put, List.setIfInBounds_toArray, List.set_cons_zero, List.set_cons_succ]
  refine wpAnyH_done (by kernel_rfl) ?_ _
  unfold HT
  go_wp2_with fail
  refine (unhide J _).mono ?_
  rintro e w3 ⟨⟨b, rfl⟩, Z⟩
  have ZZ := hide Z
  clear Z
  go_wp2
  go_ret
  exact ⟨rfl, unhide ZZ⟩
theorem two_le9 {l m : List Nat} (h : PB w p v xs ad F A) (hl : l ∈ A.L) (hm : m ∈ A.L.erase l) : (l ++ m).length ≤ 4194304 := by
  have h1 := flatten_erase hl
  have h2 := flatten_erase hm
  have h3 := (h1.trans (List.Perm.append_left l h2)).length_eq
  rw [List.length_append, List.length_append] at h3
  have h4 := length_le h.nd (fun u hu => h.lt u hu)
  have := h.xn
  have := h.n
  rw [List.length_append]
  omega
set_option maxRecDepth 100000 in
theorem pjoin_any (a b : Int) (h : PB w p v xs ad F A) : Calls Try.prog 19 #[.pointer (some ⟨p, 0, none⟩), .int .i64 a, .int .i64 b] w fun e w' => e = .returned (.bool (A.joinB a b)) ∧ Out w w' p (p :: (own v ++ tfs F)) (A.joinA a b) := by
  have HH := hide h
  have HA := hide (has_any a h)
  have HB := hide (has_any b h)
  cases ca : A.hasI a
  · have hj : A.joinB a b = false := by simp [Se.joinB, ca]
    rw [hj, show A.joinA a b = A from by simp [Se.joinA, hj]]
    rw [ca] at HA
    clear h ca hj HB
    go_enter Try.func19, Try.ntmps19
    go_wp2_with fail
    refine (unhide HA).mono ?_
    rintro e w1 ⟨rfl, rfl⟩
    go_wp2
    go_ret
    exact ⟨rfl, (unhide HH).out (Keep.refl _ _)⟩
  cases cb : A.hasI b
  · have hj : A.joinB a b = false := by simp [Se.joinB, cb]
    rw [hj, show A.joinA a b = A from by simp [Se.joinA, hj]]
    rw [ca] at HA
    rw [cb] at HB
    clear h ca cb hj
    go_enter Try.func19, Try.ntmps19
    go_wp2_with fail
    refine (unhide HA).mono ?_
    rintro e w1 ⟨rfl, rfl⟩
    go_wp2_with fail
    refine (unhide HB).mono ?_
    rintro e w1 ⟨rfl, rfl⟩
    go_wp2
    go_ret
    exact ⟨rfl, (unhide HH).out (Keep.refl _ _)⟩
  cases cs : A.sameI a b
  · have hj : A.joinB a b = true := by simp [Se.joinB, ca, cb, cs]
    rw [hj]
    have SS := same_any a b h
    rw [cs] at SS
    have HA' := unhide HA
    have HB' := unhide HB
    rw [ca] at HA'
    rw [cb] at HB'
    obtain ⟨x, rfl, hx⟩ := Se.hasI_true ca
    obtain ⟨y, rfl, hy⟩ := Se.hasI_true cb
    have hm : y ∉ A.seq x := fun hm => by
      have : A.sameI x y = true := by simp [Se.sameI, ca, cb, Se.seqI_nat hx, hm]
      rw [this] at cs; cases cs
    obtain ⟨_, c1, _, _⟩ := h.head
    obtain ⟨g, cap, hv, e1, x1, x2, x3⟩ := h.cell hx
    obtain ⟨g', cap', e', e2, y1, _, _⟩ := h.cell hy
    rw [hv] at e' c1
    simp only [Value.slice.injEq, Option.some.injEq, Addr.mk.injEq, and_true, true_and] at e'
    obtain ⟨rfl, rfl⟩ := e'
    obtain ⟨T, F1, d, c, z, q, pe⟩ := h.ctx' hx
    obtain ⟨T', F2, d', c', z', q', pe'⟩ := h.ctx' hy
    have hin : T' ∈ F1 := by
      have m1 : T' ∈ T :: F1 := pe.mem_iff.1 (pe'.mem_iff.2 (by simp))
      rcases List.mem_cons.1 m1 with rfl | m1
      · have := q'.ti.symm.trans q.ti
        have h2 := congrArg ids this
        rw [ids_itw, ids_itw] at h2
        have h3 : (y, ad y) ∈ (A.seq x).map fun v => (v, ad v) := by rw [← h2]; exact List.mem_map.2 ⟨y, q'.mem, rfl⟩
        obtain ⟨k, hk, e⟩ := List.mem_map.1 h3
        simp only [Prod.mk.injEq] at e
        exact absurd (by rw [← e.1]; exact hk) hm
      · exact m1
    obtain ⟨X, Y, rfl⟩ := List.append_of_mem hin
    have hp2 : F.Perm ([T, T'] ++ (X ++ Y)) := pe.trans (List.Perm.cons T List.perm_middle)
    have hyL : A.seq y ∈ A.L.erase (A.seq x) := (mem_erase_ne h.nd h.ne q.inL).2 ⟨q'.inL, fun e => hm (by rw [← e]; exact q'.mem)⟩
    have rest2 : ((X ++ Y).map ti).Perm (((A.L.erase (A.seq x)).erase (A.seq y)).map (itw A.W ad)) := by
      have h1 := q.rest
      have h2 : ((T' :: (X ++ Y)).map ti).Perm ((X ++ T' :: Y).map ti) := (List.perm_middle.symm).map _
      have h3 := ((List.perm_cons_erase hyL).map (itw A.W ad))
      have h4 := (h2.trans h1).trans h3
      rw [List.map_cons, List.map_cons, q'.ti] at h4
      exact List.Perm.cons_inv h4
    have hsep := (h.perm hp2).sep
    rw [List.nodup_cons, List.nodup_append, tfs_append, tfs_two, List.nodup_append, List.nodup_append] at hsep
    have off : Off (tf T) (tf T') := fun k h1 h2 => hsep.2.2.1.1.2.2 k h1 k h2 rfl
    have len2 := two_le9 h q.inL hyL
    have eits : ti T ++ ti T' = itw A.W ad (A.seq x ++ A.seq y) := by rw [q.ti, q'.ti]; simp [itw]
    have eA : A.joinA x y = { A with L := (A.L.erase (A.seq x)).erase (A.seq y) ++ [A.seq x ++ A.seq y] } := by
      rw [Se.joinA, if_pos hj, Se.seqI_nat hx, Se.seqI_nat hy]
    refine join_walk x y g _ cap (ad x) (ad y) (adr T.h T.t) (adr T'.h T'.t) w _ 0 c1 e1 e2 (by omega) (by omega) HA' HB' SS (fun k => (q.drewN k).top) (fun k => (q'.drewN k).top) (fun k => ?_)
    have o1 := (q.drewN k).own
    have o2 := (q'.drewN k).own
    refine (join_tr (some T) (some T') (w.drewN k) (At1.of o1.mem o1.nd o1.wf o1.len) (At1.of o2.mem o2.nd o2.wf o2.len) off (by
        show FitL (ti T ++ ti T')
        exact FitL.append.2 ⟨o1.wf.fit, o2.wf.fit⟩) (by
        show (ti T ++ ti T').length ≤ _
        rw [eits, itw_length]; exact len2)).mono ?_
    rintro e w' ⟨o, rfl, m⟩
    refine ⟨⟨_, rfl⟩, ?_⟩
    have mi : tits o = itw A.W ad (A.seq x ++ A.seq y) := m.its.trans eits
    match o, m, mi with
    | none, m, mi =>
      have := congrArg List.length mi
      rw [itw_length, List.length_append] at this
      have h5 := List.length_pos_of_mem q.mem
      simp [tits] at this
      omega
    | some S, m, mi =>
      have hfl : (A.joinA x y).L.flatten.Perm A.L.flatten := by
        rw [eA]
        show (_ ++ [_]).flatten.Perm _
        rw [List.flatten_append]
        have e5 : [A.seq x ++ A.seq y].flatten = A.seq x ++ A.seq y := by simp
        rw [e5]
        refine List.Perm.trans ?_ (flatten_erase q.inL).symm
        refine List.perm_append_comm.trans ?_
        rw [List.append_assoc]
        exact List.Perm.append_left _ (flatten_erase hyL).symm
      have kj : Keep (tf T ++ tf T') w w' := (keep_drewN _ w k).tr m.kp
      refine h.turned (D := [T, T']) (F' := X ++ Y) (G := [S]) hp2 (by rw [tfs_two]; exact kj) (fun R hR => ?_) (by rw [tfs_one]; exact m.at_.nd) (by rw [tfs_two, tfs_one]; exact m.gr) (by rw [eA]) hfl ?_ ?_
      · simp only [List.mem_singleton] at hR
        rw [hR]
        exact m.at_.own (by show (tits (some S)).length ≤ _; rw [mi, itw_length]; exact len2)
      · rw [eA]
        intro l hl'
        rcases List.mem_append.1 hl' with h' | h'
        · exact h.ne l (List.mem_of_mem_erase (List.mem_of_mem_erase h'))
        · simp only [List.mem_singleton] at h'
          rw [h']
          intro e5
          have h6 := List.length_pos_of_mem q.mem
          have h7 := congrArg List.length e5
          rw [List.length_append] at h7
          simp only [List.length_nil] at h7
          omega
      · rw [eA]
        show ([S] ++ (X ++ Y)).map ti |>.Perm ((_ ++ [_]).map (itw A.W ad))
        rw [List.map_append, List.map_append (l₂ := [A.seq x ++ A.seq y])]
        refine List.perm_append_comm.trans ?_
        refine rest2.append ?_
        rw [List.map_cons, List.map_cons, show ti S = tits (some S) from rfl, mi]
        exact List.Perm.refl _
  · have hj : A.joinB a b = false := by simp [Se.joinB, ca, cb, cs]
    rw [hj, show A.joinA a b = A from by simp [Se.joinA, hj]]
    have S := hide (same_any a b h)
    rw [ca] at HA
    rw [cb] at HB
    rw [cs] at S
    clear h ca cb hj cs
    go_enter Try.func19, Try.ntmps19
    go_wp2_with fail
    refine (unhide HA).mono ?_
    rintro e w1 ⟨rfl, rfl⟩
    go_wp2_with fail
    refine (unhide HB).mono ?_
    rintro e w1 ⟨rfl, rfl⟩
    go_wp2_with fail
    refine (unhide S).mono ?_
    rintro e w1 ⟨rfl, q, rfl⟩
    go_wp2
    go_ret
    exact ⟨rfl, (unhide HH).stay (below_drewN (Below.refl _ _) q)⟩
end
end Go.Proofs.Ytbkneonbpcmepaa
