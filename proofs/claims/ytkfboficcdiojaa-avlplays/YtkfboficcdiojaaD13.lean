import Derived.Test.YtkfboficcdiojaaD12
namespace Go.Proofs.Ytkfboficcdiojaa
open Go.RowKit Go.Arb
set_option linter.unusedVariables false
set_option linter.unusedSimpArgs false

section
variable {w w' : World} {p g n cap : Nat} {S S' : Ss} {A : Se}
theorem Inv.join {u v : Nat} (h : Inv S A) (hu : u ∈ A.L.flatten) (hv : v ∈ A.L.flatten) (hm : v ∉ A.seq u) (z : Z S') (off : ∀ x, x ∉ ids (its A.W (A.seq u)) → x ∉ ids (its A.W (A.seq v)) → S' x = S x) {r : Nat} (pt : Pt S' r (its A.W (A.seq u) ++ its A.W (A.seq v))) (up : (S' r).up = 0) :
    Inv S' { A with L := (A.L.erase (A.seq u)).erase (A.seq v) ++ [A.seq u ++ A.seq v] } := by
  have h1 := Se.seq_mem hu
  have h2 := Se.seq_mem hv
  have hne : A.seq v ≠ A.seq u := fun e => hm (e ▸ h2.2)
  have hf := flatten_erase h1.1
  have h2' : A.seq v ∈ A.L.erase (A.seq u) := (List.mem_erase_of_ne hne).2 h2.1
  have hf2 := flatten_erase h2'
  have hfl : A.L.flatten.Perm ((A.L.erase (A.seq u)).erase (A.seq v) ++ [A.seq u ++ A.seq v]).flatten := by
    rw [List.flatten_append]
    simp only [List.flatten_cons, List.flatten_nil, List.append_nil]
    refine (hf.trans (List.Perm.append_left _ hf2)).trans ?_
    rw [← List.append_assoc]
    exact List.perm_append_comm
  have hnd := (hf.trans (List.Perm.append_left _ hf2)).nodup_iff.1 h.nd
  rw [List.nodup_append, List.nodup_append] at hnd
  refine ⟨z, (hfl.nodup_iff).1 h.nd, fun l hl => ?_, fun l hl => ?_, fun t ht => ?_, fun x hx => h.lt x (hfl.mem_iff.2 hx), h.n⟩
  · rcases List.mem_append.1 hl with h' | h'
    · exact h.ne l (List.mem_of_mem_erase (List.mem_of_mem_erase h'))
    · simp at h'; subst h'
      intro e
      have := h1.2
      rw [List.append_eq_nil_iff] at e
      rw [e.1] at this; simp at this
  · rcases List.mem_append.1 hl with h' | h'
    · have hl' := List.mem_of_mem_erase (List.mem_of_mem_erase h')
      obtain ⟨r', p', u'⟩ := h.tr l hl'
      have hd1 : ∀ x ∈ l, x ∉ A.seq u := fun x hx hx' => hnd.2.2 x hx' x (by simp only [List.mem_append]; exact .inr (List.mem_flatten.2 ⟨l, h', hx⟩)) rfl
      have hd2 : ∀ x ∈ l, x ∉ A.seq v := fun x hx hx' => hnd.2.1.2.2 x hx' x (List.mem_flatten.2 ⟨l, h', hx⟩) rfl
      have hof : ∀ x ∈ ids (its A.W l), S' x = S x := fun x hx => by
        refine off x (fun hy => ?_) (fun hy => ?_)
        · rw [ids_its] at hx hy
          obtain ⟨v1, hv1, rfl⟩ := List.mem_map.1 hx
          obtain ⟨v2, hv2, e2⟩ := List.mem_map.1 hy
          have : v2 = v1 := by omega
          subst this
          exact hd1 _ hv1 hv2
        · rw [ids_its] at hx hy
          obtain ⟨v1, hv1, rfl⟩ := List.mem_map.1 hx
          obtain ⟨v2, hv2, e2⟩ := List.mem_map.1 hy
          have : v2 = v1 := by omega
          subst this
          exact hd2 _ hv1 hv2
      refine ⟨r', p'.frame (by rw [z, h.z]) (nodup_its.2 (nodup_flatten h.nd hl')) hof, ?_⟩
      by_cases r0 : r' = 0
      · rw [r0, z]; rfl
      · rw [hof r' (p'.mem r0)]; exact u'
    · simp at h'; subst h'
      exact ⟨r, by dsimp only; rw [its_append]; exact pt, up⟩
  · have ht' : ∀ x ∈ A.L.flatten, x + 1 ≠ t := fun x hx => ht x (hfl.mem_iff.1 hx)
    rw [off t (fun hx => ?_) (fun hx => ?_)]
    · exact h.out t ht'
    · rw [ids_its] at hx
      obtain ⟨x, hx', e⟩ := List.mem_map.1 hx
      exact ht' x (List.mem_flatten.2 ⟨_, h1.1, hx'⟩) e
    · rw [ids_its] at hx
      obtain ⟨x, hx', e⟩ := List.mem_map.1 hx
      exact ht' x (List.mem_flatten.2 ⟨_, h2.1, hx'⟩) e

set_option maxHeartbeats 1000000 in
theorem pjoin_nil (a b : Int) (w : World) : Calls Try.prog 19 #[.pointer none, .int .i64 a, .int .i64 b] w fun e w' => e = .returned (.bool false) ∧ w = w' := by
  go_enter Try.func19, Try.ntmps19
  go_wp2_with (go_at_call 29; refine (has_nil _ _).mono ?_; rintro e w' ⟨rfl, rfl⟩)
  go_ret
  exact ⟨rfl, rfl⟩
set_option maxRecDepth 100000 in
set_option maxHeartbeats 4000000 in
theorem pjoin_any (a b : Int) (h : PA w p g n cap S A) : Calls Try.prog 19 #[.pointer (some ⟨p, 0, none⟩), .int .i64 a, .int .i64 b] w fun e w' => e = .returned (.bool (A.joinB a b)) ∧ ∃ g', Chd w w' p g g' (A.joinA a b) := by
  have HA := hide (has_any a h)
  have HB := hide (has_any b h)
  have SM := hide (same_any a b h)
  have HH := hide h
  cases ca : A.hasI a
  · have hf : A.joinB a b = false := by simp [Se.joinB, ca]
    have eA : A.joinA a b = A := by simp [Se.joinA, hf]
    rw [hf, eA]
    rw [ca] at HA
    clear h ca hf eA
    go_enter Try.func19, Try.ntmps19
    go_wp2_with fail
    refine (unhide HA).mono ?_
    rintro e w' ⟨rfl, rfl⟩
    go_wp2
    go_ret
    exact ⟨rfl, g, (unhide HH).same⟩
  rw [ca] at HA
  cases cb : A.hasI b
  · have hf : A.joinB a b = false := by simp [Se.joinB, cb]
    have eA : A.joinA a b = A := by simp [Se.joinA, hf]
    rw [hf, eA]
    rw [cb] at HB
    clear h ca cb hf eA
    go_enter Try.func19, Try.ntmps19
    go_wp2_with fail
    refine (unhide HA).mono ?_
    rintro e w' ⟨rfl, rfl⟩
    go_wp2_with fail
    refine (unhide HB).mono ?_
    rintro e w' ⟨rfl, rfl⟩
    go_wp2
    go_ret
    exact ⟨rfl, g, (unhide HH).same⟩
  rw [cb] at HB
  cases cs : A.sameI a b
  rotate_left
  · have hf : A.joinB a b = false := by simp [Se.joinB, cs]
    have eA : A.joinA a b = A := by simp [Se.joinA, hf]
    rw [hf, eA]
    rw [cs] at SM
    clear h ca cb cs hf eA
    go_enter Try.func19, Try.ntmps19
    go_wp2_with fail
    refine (unhide HA).mono ?_
    rintro e w' ⟨rfl, rfl⟩
    go_wp2_with fail
    refine (unhide HB).mono ?_
    rintro e w' ⟨rfl, rfl⟩
    go_wp2_with fail
    refine (unhide SM).mono ?_
    rintro e w' ⟨rfl, rfl⟩
    go_wp2
    go_ret
    exact ⟨rfl, g, (unhide HH).same⟩
  rw [cs] at SM
  have hf : A.joinB a b = true := by simp [Se.joinB, ca, cb, cs]
  obtain ⟨u, rfl, hu⟩ := Se.hasI_true ca
  obtain ⟨v, rfl, hv⟩ := Se.hasI_true cb
  have hm : v ∉ A.seq u := fun hx => by
    have : A.sameI u v = true := by simp [Se.sameI, ca, cb, Se.seqI_nat hu, hx]
    rw [this] at cs; simp at cs
  have eA : A.joinA u v = { A with L := (A.L.erase (A.seq u)).erase (A.seq v) ++ [A.seq u ++ A.seq v] } := by rw [Se.joinA, if_pos hf, Se.seqI_nat hu, Se.seqI_nat hv]
  obtain ⟨ra, ta⟩ := h.iv.tree hu
  obtain ⟨rb, tb⟩ := h.iv.tree hv
  have FB := hide (find_any v h)
  rw [show A.findI v = v + 1 from by simp [Se.findI, cb]] at FB
  have TB := hide (top_any (v + 1) rb _ A.n h.po h.iv.z tb.pt tb.up tb.mem)
  have BH := hide (behead_any p g n cap A.n h.n0 _ rb _ S (Nat.le_refl _) h.iv.z tb.pt tb.nd tb.r0 tb.len w h.po)
  have hun := h.ltn hu
  have hnn := h.nn
  have hn4 := h.iv.n
  have hdis : ∀ x ∈ ids (its A.W (A.seq u)), x ∉ ids (its A.W (A.seq v)) := fun x hx hy => by
    rw [ids_its] at hx hy
    obtain ⟨v1, hv1, rfl⟩ := List.mem_map.1 hx
    obtain ⟨v2, hv2, e2⟩ := List.mem_map.1 hy
    have : v2 = v1 := by omega
    subst this
    have := one_list h.iv.nd (Se.seq_mem hu).1 (Se.seq_mem hv).1 hv1 hv2
    exact hm (by rw [this]; exact (Se.seq_mem hv).2)
  have hln : (A.seq u).length + (A.seq v).length ≤ 4194304 := by
    have hnd : (A.seq u ++ A.seq v).Nodup := by
      rw [List.nodup_append]
      refine ⟨nodup_flatten h.iv.nd (Se.seq_mem hu).1, nodup_flatten h.iv.nd (Se.seq_mem hv).1, fun x hx y hy e => ?_⟩
      subst e
      exact hdis (x + 1) (mem_its.2 hx) (mem_its.2 hy)
    have := length_le hnd (n := A.n) (fun x hx => by
      rcases List.mem_append.1 hx with h' | h'
      · exact h.iv.lt x (List.mem_flatten.2 ⟨_, (Se.seq_mem hu).1, h'⟩)
      · exact h.iv.lt x (List.mem_flatten.2 ⟨_, (Se.seq_mem hv).1, h'⟩))
    rw [List.length_append] at this
    omega
  -- behind the beheading
  have MID : Hid (∀ S1 f r ys, Bh S S1 rb f r ys (its A.W (A.seq v)) → (S1 (u + 1)).h ≠ 0 ∧ Pt S1 ra (its A.W (A.seq u)) ∧ (S1 ra).up = 0 ∧ f < n ∧ BetweenTo p g n cap A.n f ra r S1 (its A.W (A.seq u) ++ (f, (S1 f).wt) :: ys) (max (S1 ra).h (S1 r).h)) := by
    intro S1 f r ys b
    have pa : Pt S1 ra (its A.W (A.seq u)) := ta.pt.frame (by rw [b.z, h.iv.z]) ta.nd (fun x hx => b.off x (hdis x hx))
    have hfm : f ∈ ids (its A.W (A.seq v)) := by rw [b.eq, ids_cons]; simp
    have hfn : f < n := tb.pt.ltn h.po h.iv.z f hfm
    have hnd := tb.nd
    rw [b.eq, ids_cons, List.nodup_cons] at hnd
    have hys : ∀ x ∈ ids ys, x ∈ ids (its A.W (A.seq v)) := fun x hx => by rw [b.eq, ids_cons]; simp [hx]
    have hlv : (its A.W (A.seq v)).length = ys.length + 1 := by rw [b.eq]; simp
    rw [its_length] at hlv
    have ffit := tb.pt.fit (f, (S1 f).wt) (by rw [b.eq]; simp)
    refine ⟨?_, pa, ?_, hfn, between_any p g n cap A.n f b.f0 hfn _ ra r _ ys S1 (Nat.le_refl _) b.z pa b.pt ⟨ta.nd, hnd.2, fun hx => hdis f hx hfm, hnd.1, fun x hx hy => hdis x hx (hys x hy)⟩ b.wa ffit (by rw [its_length]; omega)⟩
    · rw [b.off (u + 1) (hdis _ ta.mem)]; exact h.iv.there hu
    · rw [b.off ra (hdis _ (ta.pt.mem ta.r0))]; exact ta.up
  have FIN : Hid (∀ S1 S2 f r t' ys, Bh S S1 rb f r ys (its A.W (A.seq v)) → Jd S1 S2 t' (its A.W (A.seq u) ++ (f, (S1 f).wt) :: ys) (max (S1 ra).h (S1 r).h) → Inv (setUp S2 t' 0) (A.joinA u v)) := by
    intro S1 S2 f r t' ys b j
    rw [eA]
    have el : its A.W (A.seq u) ++ (f, (S1 f).wt) :: ys = its A.W (A.seq u) ++ its A.W (A.seq v) := by rw [← b.eq]
    have jp := j.pt
    rw [el] at jp
    have z0 : setUp S2 t' 0 0 = S2 0 := setUp_ne (fun e => j.ne e.symm)
    have hnd : (ids (its A.W (A.seq u) ++ its A.W (A.seq v))).Nodup := by
      rw [ids_append, List.nodup_append]
      exact ⟨ta.nd, tb.nd, fun x hx y hy e => hdis x hx (e ▸ hy)⟩
    refine h.iv.join hu hv hm (by unfold Z; rw [z0]; exact j.z) (fun x h1 h2 => ?_) (r := t') (jp.congr z0 hnd (fun x hx hne => setUp_ne hne) setUp_bt) (setUp_up j.ne)
    have hx : x ∉ ids (its A.W (A.seq u) ++ (f, (S1 f).wt) :: ys) := by rw [el, ids_append]; simp [h1, h2]
    have hne : x ≠ t' := fun e => hx (e ▸ j.pt.mem j.ne)
    rw [setUp_ne hne, j.off x hx, b.off x h2]
  have TA : Hid (∀ W S1 f r ys, Pool W p g n cap A.n S1 → Bh S S1 rb f r ys (its A.W (A.seq v)) → Calls Try.prog 53 #[.pointer (some ⟨p, 0, none⟩), .int .i64 ((u : Int) + 1)] W fun e w' => e = .returned (.int .i64 (ra : Int)) ∧ W = w') := fun W S1 f r ys hW b => top_any (u + 1) ra _ A.n hW b.z (MID.out S1 f r ys b).2.1 (MID.out S1 f r ys b).2.2.1 ta.mem
  have NN := hide (And.intro (show (A.joinA u v).n = A.n by rw [eA]) (And.intro h.n0 h.nn))
  have CW : Hid (∀ W S1 S2 f r t' ys, Pool W p g n cap A.n S2 → Bh S S1 rb f r ys (its A.W (A.seq v)) → Jd S1 S2 t' (its A.W (A.seq u) ++ (f, (S1 f).wt) :: ys) (max (S1 ra).h (S1 r).h) → Calls Try.prog 54 #[.pointer (some ⟨p, 0, none⟩), .int .i64 (t' : Int)] W fun e w' => e = .returned (.tuple #[]) ∧ Pool w' p g n cap A.n (setUp S2 t' 0) ∧ Keep [g] W w') := fun W S1 S2 f r t' ys hW b j => crown_any t' W p g n cap A.n S2 hW (j.pt.ltn hW j.z t' (j.pt.mem j.ne))
  rw [hf]
  clear h ca cb cs hf hm eA ta tb hdis hln hu hv
  generalize A.joinA u v = A' at *
  go_enter Try.func19, Try.ntmps19
  go_wp2_with fail
  refine (unhide HA).mono ?_
  rintro e w' ⟨rfl, rfl⟩
  go_wp2_with fail
  refine (unhide HB).mono ?_
  rintro e w' ⟨rfl, rfl⟩
  go_wp2_with fail
  refine (unhide SM).mono ?_
  rintro e w' ⟨rfl, rfl⟩
  go_wp2_with fail
  refine (unhide FB).mono ?_
  rintro e w' ⟨rfl, rfl⟩
  go_wp2_with fail
  refine (unhide TB).mono ?_
  rintro e w' ⟨rfl, rfl⟩
  go_wp2_with fail
  refine (unhide BH).mono ?_
  rintro e w1 ⟨f, r, ys, S1, rfl, hP, hK, hb⟩
  have B := hide hb
  have P1 := hide (And.intro hP hK)
  have FA := hide (find_raw u A.n hP hun (MID.out S1 f r ys hb).1 (by omega))
  have T2 := hide (TA.out w1 S1 f r ys hP hb)
  have BT := hide ((MID.out S1 f r ys hb).2.2.2.2 w1 hP)
  clear hP hK hb BH TA MID HA HB SM FB TB
  go_wp2_with fail
  refine (unhide FA).mono ?_
  rintro e w' ⟨rfl, rfl⟩
  go_wp2_with fail
  refine (unhide T2).mono ?_
  rintro e w' ⟨rfl, rfl⟩
  go_wp2_with fail
  refine (unhide BT).mono ?_
  rintro e w2 ⟨t', S2, rfl, hP, hK, hj⟩
  have P2 := hide ((unhide P1).2.tr hK)
  have C2 := hide (CW.out w2 S1 S2 f r t' ys hP (unhide B) hj)
  have I2 := hide (FIN.out S1 S2 f r t' ys (unhide B) hj)
  clear hP hK hj BT CW FIN FA T2
  go_wp2_with fail
  refine (unhide C2).mono ?_
  rintro e w3 ⟨rfl, hP, hK⟩
  have X := hide (And.intro hP ((unhide P2).tr hK))
  clear hP hK C2
  go_wp2
  go_ret
  obtain ⟨x1, x2⟩ := unhide X
  obtain ⟨y1, y2, y3⟩ := unhide NN
  refine ⟨rfl, g, ?_⟩
  exact Chd.mk ⟨n, cap, _, ⟨by rw [y1]; exact x1, unhide I2, y2, by rw [y1]; exact y3⟩⟩ (x2.mono (by simp)) (.inl rfl)
end
end Go.Proofs.Ytkfboficcdiojaa
