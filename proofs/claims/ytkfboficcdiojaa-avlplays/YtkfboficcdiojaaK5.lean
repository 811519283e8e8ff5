/- Plain facts on the way up from a slot to its tree's top. -/
import Derived.Test.YtkfboficcdiojaaK3
namespace Go.Proofs.Ytkfboficcdiojaa

/-- t, whose part holds xs, lies n steps below r, whose part holds ys; b: nothing waits on the way. -/
def Sub (S : Ss) (b : Bool) (r : Nat) (ys : List It) : Nat → Nat → List It → Prop
  | 0, t, xs => t = r ∧ xs = ys
  | n + 1, t, xs => ∃ u zs xl xr, Sub S b r ys n u zs ∧ Nd S u xl xr zs ∧ Pt S (S u).l xl ∧ Pt S (S u).r xr ∧ ((t = (S u).l ∧ xs = xl) ∨ (t = (S u).r ∧ xs = xr)) ∧ t ≠ 0 ∧ (b = true → (S u).wa = 0)

section
variable {S S' : Ss} {b : Bool} {r t u n m : Nat} {xs ys zs xl xr : List It}
theorem Sub.pt (h : Sub S b r ys n t xs) (hr : Pt S r ys) : Pt S t xs := by
  cases n with
  | zero => obtain ⟨rfl, rfl⟩ := h; exact hr
  | succ n =>
    obtain ⟨u, zs, xl, xr, _, _, p1, p2, h1, _⟩ := h
    rcases h1 with ⟨rfl, rfl⟩ | ⟨rfl, rfl⟩
    · exact p1
    · exact p2
theorem Sub.sub (h : Sub S b r ys n t xs) : ∀ u ∈ ids xs, u ∈ ids ys := by
  induction n generalizing t xs with
  | zero => obtain ⟨rfl, rfl⟩ := h; exact fun _ h => h
  | succ n ih =>
    obtain ⟨u, zs, xl, xr, h0, nd, p1, p2, h1, _⟩ := h
    intro v hv
    refine ih h0 v ?_
    rw [nd.idl]
    rcases h1 with ⟨rfl, rfl⟩ | ⟨rfl, rfl⟩
    · simp [hv]
    · simp [hv]
theorem Sub.nd (h : Sub S b r ys n t xs) (hn : (ids ys).Nodup) : (ids xs).Nodup := by
  induction n generalizing t xs with
  | zero => obtain ⟨rfl, rfl⟩ := h; exact hn
  | succ n ih =>
    obtain ⟨u, zs, xl, xr, h0, nd, p1, p2, h1, _⟩ := h
    have ap := nd.ap (ih h0)
    rcases h1 with ⟨rfl, rfl⟩ | ⟨rfl, rfl⟩
    · exact ap.nl
    · exact ap.nr
theorem Sub.trans (h1 : Sub S b r ys m u zs) (h2 : Sub S b u zs n t xs) : Sub S b r ys (m + n) t xs := by
  induction n generalizing t xs with
  | zero => obtain ⟨rfl, rfl⟩ := h2; exact h1
  | succ n ih =>
    obtain ⟨v, vs, xl, xr, k0, k⟩ := h2
    exact ⟨v, vs, xl, xr, ih k0, k⟩
theorem Sub.ex (hr : Pt S r ys) : ∀ t ∈ ids ys, ∃ n xs, Sub S false r ys n t xs := by
  refine Pt.rec' (P := fun r ys => ∀ t ∈ ids ys, ∃ n xs, Sub S false r ys n t xs) (by simp [ids]) ?_ hr
  intro r xl xr ys p1 p2 nd i1 i2 t ht
  rw [nd.idl] at ht
  rcases List.mem_append.1 ht with h | h
  · have h0 : (S r).l ≠ 0 := fun e => by rw [e] at p1; rw [p1.of0] at h; simp [ids] at h
    obtain ⟨n, xs, k⟩ := i1 t h
    exact ⟨1 + n, xs, Sub.trans (m := 1) ⟨r, ys, xl, xr, ⟨rfl, rfl⟩, nd, p1, p2, .inl ⟨rfl, rfl⟩, h0, by simp⟩ k⟩
  · rcases List.mem_cons.1 h with rfl | h
    · exact ⟨0, ys, rfl, rfl⟩
    · have h0 : (S r).r ≠ 0 := fun e => by rw [e] at p2; rw [p2.of0] at h; simp [ids] at h
      obtain ⟨n, xs, k⟩ := i2 t h
      exact ⟨1 + n, xs, Sub.trans (m := 1) ⟨r, ys, xl, xr, ⟨rfl, rfl⟩, nd, p1, p2, .inr ⟨rfl, rfl⟩, h0, by simp⟩ k⟩
theorem Sub.mem (h : Sub S b r ys n t xs) (hr : Pt S r ys) (ht : t ≠ 0) : t ∈ ids ys := h.sub t ((h.pt hr).mem ht)
/-- What is turned within a part leaves the way to it. -/
theorem Sub.congr (h : Sub S b r ys n t xs) (hn : (ids ys).Nodup) (h0 : S' 0 = S 0) (off : ∀ u, u ∉ ids xs → S' u = S u) (hh : (S' t).h = (S t).h) (hu : (S' t).up = (S t).up) (hp : Pt S' t xs) : Sub S' b r ys n t xs ∧ Pt S' r ys := by
  induction n generalizing t xs with
  | zero => obtain ⟨rfl, rfl⟩ := h; exact ⟨⟨rfl, rfl⟩, hp⟩
  | succ n ih =>
    obtain ⟨u, zs, xl, xr, k0, nd, p1, p2, h1, t0, wb⟩ := h
    have ap := nd.ap (k0.nd hn)
    rcases h1 with ⟨rfl, rfl⟩ | ⟨rfl, rfl⟩
    · have su : S' u = S u := off u ap.tl
      have q2 : Pt S' (S u).r xr := p2.frame h0 ap.nr (fun v hv => off v (fun hx => ap.lr v hx hv))
      have er : S' (S u).r = S (S u).r := by
        by_cases e : (S u).r = 0
        · rw [e, h0]
        · exact off _ (fun hx => ap.lr _ hx (p2.mem e))
      have nd' := nd.congr (S' := S') (Bt.of su) hh (by rw [er]) (fun _ => hu) (fun _ => by rw [er])
      have pu : Pt S' u zs := Pt.mk (xl := xs) (xr := xr) (by rw [su]; exact hp) (by rw [su]; exact q2) nd'
      obtain ⟨i1, i2⟩ := ih k0 (fun v hv => off v (fun hx => hv (by rw [nd.idl]; simp [hx]))) (by rw [su]) (by rw [su]) pu
      exact ⟨⟨u, zs, xs, xr, i1, nd', by rw [su]; exact hp, by rw [su]; exact q2, .inl ⟨by rw [su], rfl⟩, t0, by rw [su]; exact wb⟩, i2⟩
    · have su : S' u = S u := off u ap.tr
      have q1 : Pt S' (S u).l xl := p1.frame h0 ap.nl (fun v hv => off v (ap.lr v hv))
      have er : S' (S u).l = S (S u).l := by
        by_cases e : (S u).l = 0
        · rw [e, h0]
        · exact off _ (ap.lr _ (p1.mem e))
      have nd' := nd.congr (S' := S') (Bt.of su) (by rw [er]) hh (fun _ => by rw [er]) (fun _ => hu)
      have pu : Pt S' u zs := Pt.mk (xl := xl) (xr := xs) (by rw [su]; exact q1) (by rw [su]; exact hp) nd'
      obtain ⟨i1, i2⟩ := ih k0 (fun v hv => off v (fun hx => hv (by rw [nd.idl]; simp [hx]))) (by rw [su]) (by rw [su]) pu
      exact ⟨⟨u, zs, xl, xs, i1, nd', by rw [su]; exact q1, by rw [su]; exact hp, .inr ⟨by rw [su], rfl⟩, t0, by rw [su]; exact wb⟩, i2⟩
/-- The step up. -/
theorem Sub.up (h : Sub S b r ys (n + 1) t xs) : ∃ u zs xl xr, (S t).up = u ∧ u ≠ 0 ∧ Sub S b r ys n u zs ∧ Nd S u xl xr zs ∧ Pt S (S u).l xl ∧ Pt S (S u).r xr ∧ ((t = (S u).l ∧ xs = xl) ∨ (t = (S u).r ∧ xs = xr)) ∧ t ≠ 0 ∧ (b = true → (S u).wa = 0) := by
  obtain ⟨u, zs, xl, xr, k0, nd, p1, p2, h1, t0, wb⟩ := h
  refine ⟨u, zs, xl, xr, ?_, nd.ne, k0, nd, p1, p2, h1, t0, wb⟩
  rcases h1 with ⟨rfl, rfl⟩ | ⟨rfl, rfl⟩
  · exact nd.ul t0
  · exact nd.ur t0
theorem Sub.up0 (h : Sub S b r ys 0 t xs) (hu : (S r).up = 0) : (S t).up = 0 := by obtain ⟨rfl, rfl⟩ := h; exact hu
theorem Sub.len (h : Sub S b r ys n t xs) : xs.length + n ≤ ys.length := by
  induction n generalizing t xs with
  | zero => obtain ⟨rfl, rfl⟩ := h; omega
  | succ n ih =>
    obtain ⟨u, zs, xl, xr, k0, nd, p1, p2, h1, t0, wb⟩ := h
    have := ih k0
    have := nd.length
    rcases h1 with ⟨rfl, rfl⟩ | ⟨rfl, rfl⟩ <;> omega

/-- What beheading leaves. -/
structure Bh (S S' : Ss) (t f r : Nat) (ys xs : List It) : Prop where
  eq : xs = (f, (S' f).wt) :: ys
  pt : Pt S' r ys
  wa : (S' f).wa = 0
  lo : (S' r).h ≤ (S t).h
  hi : (S t).h ≤ (S' r).h + 1
  off : ∀ u, u ∉ ids xs → S' u = S u
  z : Z S'
  f0 : f ≠ 0
end
end Go.Proofs.Ytkfboficcdiojaa
