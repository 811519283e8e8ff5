import Derived.Test.YtkfboficcdiojaaC12
namespace Go.Proofs.Ytkfboficcdiojaa
open Go.RowKit Go.Arb
set_option linter.unusedVariables false
set_option linter.unusedSimpArgs false

/-- A block that holds a slot, whole. -/
def SlB (w : World) (b : Nat) (x : Sl) : Prop := w.heap[b]? = some (.cells #[.int .i64 (x.up : Int), .int .i64 (x.l : Int), .int .i64 (x.r : Int), .int .i64 (x.h : Int), .int .i64 x.wt, .int .i64 x.wa, .int .i64 x.sm.c, .int .i64 x.sm.s, .int .i64 x.sm.a, .int .i64 x.sm.b] 67 (0, 0))
theorem SlB.keep {W w1 : World} {ks : List Nat} {b : Nat} {x : Sl} (h : SlB W b x) (hk : Keep ks W w1) (hb : b ∉ ks) : SlB w1 b x := (hk.block b (blk_lt h) hb).trans h
theorem SlB.new (w : World) (x : Sl) : SlB (w.alloc (.cells #[.int .i64 (x.up : Int), .int .i64 (x.l : Int), .int .i64 (x.r : Int), .int .i64 (x.h : Int), .int .i64 x.wt, .int .i64 x.wa, .int .i64 x.sm.c, .int .i64 x.sm.s, .int .i64 x.sm.a, .int .i64 x.sm.b] 67)) w.heap.size x := heap_alloc_new w _
theorem SlB.at' {w : World} {b : Nat} {x : Sl} (h : SlB w b x) : SlAt w b x := by
  unfold SlB at h
  simp [SlAt, World.cell?, h]
theorem SlB.soft {w : World} {b : Nat} {x : Sl} (h : SlB w b x) : w.frozen? ⟨b, 0, none⟩ = false ∧ w.frozen? ⟨b, 1, none⟩ = false ∧ w.frozen? ⟨b, 2, none⟩ = false ∧ w.frozen? ⟨b, 3, none⟩ = false ∧ w.frozen? ⟨b, 4, none⟩ = false ∧ w.frozen? ⟨b, 5, none⟩ = false ∧ w.frozen? ⟨b, 6, none⟩ = false ∧ w.frozen? ⟨b, 7, none⟩ = false ∧ w.frozen? ⟨b, 8, none⟩ = false ∧ w.frozen? ⟨b, 9, none⟩ = false := by
  unfold SlB at h
  simp [World.frozen?, h]
theorem box_set {w : World} {b : Nat} {cs : Array Value} (h : w.heap[b]? = some (.cells cs 67 (0, 0))) (k : Nat) (u : Value) : (w.setCell ⟨b, k, none⟩ u).heap[b]? = some (.cells (cs.setIfInBounds k u) 67 (0, 0)) := heap_setCell_same w b k cs 67 u h
theorem SlB.put {w : World} {b : Nat} {y : Sl} (h : SlB w b y) (x : Sl) : SlB ((((((((((w.setCell ⟨b, 0, none⟩ (.int .i64 (x.up : Int))).setCell ⟨b, 1, none⟩ (.int .i64 (x.l : Int))).setCell ⟨b, 2, none⟩ (.int .i64 (x.r : Int))).setCell ⟨b, 3, none⟩ (.int .i64 (x.h : Int))).setCell ⟨b, 4, none⟩ (.int .i64 x.wt)).setCell ⟨b, 5, none⟩ (.int .i64 x.wa)).setCell ⟨b, 6, none⟩ (.int .i64 x.sm.c)).setCell ⟨b, 7, none⟩ (.int .i64 x.sm.s)).setCell ⟨b, 8, none⟩ (.int .i64 x.sm.a)).setCell ⟨b, 9, none⟩ (.int .i64 x.sm.b)) b x :=
  (box_set (box_set (box_set (box_set (box_set (box_set (box_set (box_set (box_set (box_set h 0 _) 1 _) 2 _) 3 _) 4 _) 5 _) 6 _) 7 _) 8 _) 9 _).trans (by simp)
theorem keep_putSl (w : World) (b : Nat) (x : Sl) : Keep [b] w ((((((((((w.setCell ⟨b, 0, none⟩ (.int .i64 (x.up : Int))).setCell ⟨b, 1, none⟩ (.int .i64 (x.l : Int))).setCell ⟨b, 2, none⟩ (.int .i64 (x.r : Int))).setCell ⟨b, 3, none⟩ (.int .i64 (x.h : Int))).setCell ⟨b, 4, none⟩ (.int .i64 x.wt)).setCell ⟨b, 5, none⟩ (.int .i64 x.wa)).setCell ⟨b, 6, none⟩ (.int .i64 x.sm.c)).setCell ⟨b, 7, none⟩ (.int .i64 x.sm.s)).setCell ⟨b, 8, none⟩ (.int .i64 x.sm.a)).setCell ⟨b, 9, none⟩ (.int .i64 x.sm.b)) :=
  (((((((((keep_cell w b 0 _).cellB 1 _).cellB 2 _).cellB 3 _).cellB 4 _).cellB 5 _).cellB 6 _).cellB 7 _).cellB 8 _).cellB 9 _
/-- A pool, and a slot's copy beside it that may be laid anew. -/
structure Gw (w W : World) (p g n cap room : Nat) (S : Ss) (B : Nat) (x : Sl) : Prop where
  po : Pool W p g n cap room S
  b : SlB W B x
  nb : B ≠ g
  np : B ≠ p
  kp : Keep [g] w W
  ge : w.heap.size ≤ B
theorem Gw.step {w W W' : World} {p g n cap room B : Nat} {S S' : Ss} {x : Sl} (h : Gw w W p g n cap room S B x) (hk : Keep [g] W W') (hp : Pool W' p g n cap room S') : Gw w W' p g n cap room S' B x :=
  ⟨hp, h.b.keep hk (by simpa using h.nb), h.nb, h.np, h.kp.tr hk, h.ge⟩
theorem Gw.drewN {w W : World} {p g n cap room B : Nat} {S : Ss} {x : Sl} (h : Gw w W p g n cap room S B x) (k : Nat) : Gw w (W.drewN k) p g n cap room S B x := h.step (keep_drewN [g] k) (h.po.drewN k)
theorem Gw.drew {w W : World} {p g n cap room B : Nat} {S : Ss} {x : Sl} (h : Gw w W p g n cap room S B x) : Gw w W.drew p g n cap room S B x := h.step (Keep.refl [g] W).drew h.po.drew
theorem Gw.new {w w0 : World} {p g n cap room : Nat} {S : Ss} (h : Pool w p g n cap room S) (hk : Keep [g] w0 w) (x : Sl) : Gw w0 (w.alloc (.cells #[.int .i64 (x.up : Int), .int .i64 (x.l : Int), .int .i64 (x.r : Int), .int .i64 (x.h : Int), .int .i64 x.wt, .int .i64 x.wa, .int .i64 x.sm.c, .int .i64 x.sm.s, .int .i64 x.sm.a, .int .i64 x.sm.b] 67)) p g n cap room S w.heap.size x := by
  have hl := h.lt
  exact ⟨h.keep ((Keep.refl [] w).alloc _) (by simp) (by simp), SlB.new w x, by omega, by omega, hk.alloc _, hk.size⟩
theorem Gw.put {w W : World} {p g n cap room B : Nat} {S : Ss} {y : Sl} (h : Gw w W p g n cap room S B y) (x : Sl) : Gw w ((((((((((W.setCell ⟨B, 0, none⟩ (.int .i64 (x.up : Int))).setCell ⟨B, 1, none⟩ (.int .i64 (x.l : Int))).setCell ⟨B, 2, none⟩ (.int .i64 (x.r : Int))).setCell ⟨B, 3, none⟩ (.int .i64 (x.h : Int))).setCell ⟨B, 4, none⟩ (.int .i64 x.wt)).setCell ⟨B, 5, none⟩ (.int .i64 x.wa)).setCell ⟨B, 6, none⟩ (.int .i64 x.sm.c)).setCell ⟨B, 7, none⟩ (.int .i64 x.sm.s)).setCell ⟨B, 8, none⟩ (.int .i64 x.sm.a)).setCell ⟨B, 9, none⟩ (.int .i64 x.sm.b)) p g n cap room S B x :=
  ⟨h.po.keep (keep_putSl W B x) (by simpa using h.np.symm) (by simpa using h.nb.symm), h.b.put x, h.nb, h.np, h.kp.trans (keep_putSl W B x) (fun i hi => by simp at hi; subst hi; exact .inr h.ge), h.ge⟩

/-- Where the cut stands: the part of bl is cut in two. -/
structure Cu (S2 S : Ss) (r : Nat) (ys : List It) (k bl : Nat) (zs : List It) (ah be : Nat) (xa xb : List It) (t : Nat) : Prop where
  sub : Sub S2 true r ys k bl zs
  eq : zs = xa ++ xb
  pa : Pt S ah xa
  pb : Pt S be xb
  off : ∀ u, u ∉ ids zs → S u = S2 u
  z : Z S
  hd : ∃ c tl, xb = (t, c) :: tl

section
variable {S2 S S' : Ss} {r k k' bl ah be t u m : Nat} {ys zs xa xb xl xr vs : List It}
theorem Cu.left (h : Cu S2 S r ys k' bl zs ah be xa xb t) (hn : (ids vs).Nodup) (nd : Nd S2 u xl xr vs) (k0 : Sub S2 true r ys k u vs) (p2 : Pt S2 (S2 u).r xr) (e : zs = xl) (z2 : Z S2) :
    S u = S2 u ∧ Ap S u xb xr ∧ Pt S (S2 u).r xr ∧ (Jd S S' m (xb ++ (u, (S u).wt) :: xr) (max (S be).h (S (S2 u).r).h) → (S2 u).wa = 0 → Cu S2 S' r ys k u vs ah m xa (xb ++ (u, (S u).wt) :: xr) t) := by
  have ap := nd.ap hn
  subst e
  have su : S u = S2 u := h.off u ap.tl
  have nl := ap.nl
  rw [h.eq, ids_append, List.nodup_append] at nl
  have sb : ∀ v ∈ ids xb, v ∈ ids zs := fun v hv => by rw [h.eq, ids_append]; simp [hv]
  have sa : ∀ v ∈ ids xa, v ∈ ids zs := fun v hv => by rw [h.eq, ids_append]; simp [hv]
  have q : Pt S (S2 u).r xr := p2.frame (by rw [h.z, z2]) ap.nr (fun v hv => h.off v (fun hx => ap.lr v hx hv))
  refine ⟨su, ⟨nl.2.1, ap.nr, fun hx => ap.tl (sb u hx), ap.tr, fun v hv => ap.lr v (sb v hv)⟩, q, fun j wu => ?_⟩
  have hva : ∀ v ∈ ids xa, v ∉ ids (xb ++ (u, (S u).wt) :: xr) := fun v hv => by
    rw [ids_append, ids_cons]
    simp only [List.mem_append, List.mem_cons, not_or]
    exact ⟨fun hx => nl.2.2 v hv v hx rfl, fun e => ap.tl (e ▸ sa v hv), ap.lr v (sa v hv)⟩
  have pa' : Pt S' ah xa := h.pa.frame (by rw [j.z, h.z]) nl.1 (fun v hv => j.off v (hva v hv))
  obtain ⟨c, tl, hh⟩ := h.hd
  refine ⟨k0, ?_, pa', j.pt, fun v hv => ?_, j.z, c, tl ++ (u, (S u).wt) :: xr, by rw [hh]; rfl⟩
  · have := nd.eq
    rw [wu, rz_zero, rz_zero, h.eq] at this
    rw [this, su]; simp
  · rw [nd.idl] at hv
    simp only [List.mem_append, List.mem_cons, not_or] at hv
    rw [j.off v (by rw [ids_append, ids_cons]; simp only [List.mem_append, List.mem_cons, not_or]; exact ⟨fun hx => hv.1 (sb v hx), hv.2.1, hv.2.2⟩), h.off v hv.1]
theorem Cu.right (h : Cu S2 S r ys k' bl zs ah be xa xb t) (hn : (ids vs).Nodup) (nd : Nd S2 u xl xr vs) (k0 : Sub S2 true r ys k u vs) (p1 : Pt S2 (S2 u).l xl) (e : zs = xr) (z2 : Z S2) :
    S u = S2 u ∧ Ap S u xl xa ∧ Pt S (S2 u).l xl ∧ (Jd S S' m (xl ++ (u, (S u).wt) :: xa) (max (S (S2 u).l).h (S ah).h) → (S2 u).wa = 0 → Cu S2 S' r ys k u vs m be (xl ++ (u, (S u).wt) :: xa) xb t) := by
  have ap := nd.ap hn
  subst e
  have su : S u = S2 u := h.off u ap.tr
  have nl := ap.nr
  rw [h.eq, ids_append, List.nodup_append] at nl
  have sb : ∀ v ∈ ids xb, v ∈ ids zs := fun v hv => by rw [h.eq, ids_append]; simp [hv]
  have sa : ∀ v ∈ ids xa, v ∈ ids zs := fun v hv => by rw [h.eq, ids_append]; simp [hv]
  have q : Pt S (S2 u).l xl := p1.frame (by rw [h.z, z2]) ap.nl (fun v hv => h.off v (fun hx => ap.lr v hv hx))
  refine ⟨su, ⟨ap.nl, nl.1, ap.tl, fun hx => ap.tr (sa u hx), fun v hv hx => ap.lr v hv (sa v hx)⟩, q, fun j wu => ?_⟩
  have hvb : ∀ v ∈ ids xb, v ∉ ids (xl ++ (u, (S u).wt) :: xa) := fun v hv => by
    rw [ids_append, ids_cons]
    simp only [List.mem_append, List.mem_cons, not_or]
    exact ⟨fun hx => ap.lr v hx (sb v hv), fun e => ap.tr (e ▸ sb v hv), fun hx => nl.2.2 v hx v hv rfl⟩
  have pb' : Pt S' be xb := h.pb.frame (by rw [j.z, h.z]) nl.2.1 (fun v hv => j.off v (hvb v hv))
  refine ⟨k0, ?_, j.pt, pb', fun v hv => ?_, j.z, h.hd⟩
  · have := nd.eq
    rw [wu, rz_zero, rz_zero, h.eq] at this
    rw [this, su]; simp
  · rw [nd.idl] at hv
    simp only [List.mem_append, List.mem_cons, not_or] at hv
    rw [j.off v (by rw [ids_append, ids_cons]; simp only [List.mem_append, List.mem_cons, not_or]; exact ⟨hv.1, hv.2.1, fun hx => hv.2.2 (sa v hx)⟩), h.off v hv.2.2]
end

/-- What a cut leaves. -/
structure Cut (S S' : Ss) (ys : List It) (t a b : Nat) (xa xb : List It) : Prop where
  eq : ys = xa ++ xb
  pa : Pt S' a xa
  pb : Pt S' b xb
  ua : a ≠ 0 → (S' a).up = 0
  ub : b ≠ 0 → (S' b).up = 0
  off : ∀ u, u ∉ ids ys → S' u = S u
  z : Z S'
  hd : ∃ c tl, xb = (t, c) :: tl
theorem Cu.cut {S S2 S3 : Ss} {r bl ah be t : Nat} {ys zs xa xb : List It} (h : Cu S2 S3 r ys 0 bl zs ah be xa xb t) (hn : (ids ys).Nodup) (off : ∀ u, u ∉ ids ys → S2 u = S u) : Cut S (setUp (setUp S3 ah 0) be 0) ys t ah be xa xb := by
  obtain ⟨_, e⟩ := h.sub
  have heq := h.eq
  rw [e] at heq
  have nl := hn
  rw [heq, ids_append, List.nodup_append] at nl
  have z1 : setUp S3 ah 0 0 = S3 0 := by
    by_cases e0 : ah = 0
    · simp [setUp, e0]
    · exact setUp_ne (fun e => e0 e.symm)
  have z2 : setUp (setUp S3 ah 0) be 0 0 = S3 0 := by
    by_cases e0 : be = 0
    · rw [setUp, if_pos e0, z1]
    · rw [setUp_ne (fun e => e0 e.symm), z1]
  have bt : ∀ u, Bt (setUp (setUp S3 ah 0) be 0 u) (S3 u) := fun u => by
    have k1 := setUp_bt (S := setUp S3 ah 0) (c := be) (t := 0) (u := u)
    have k2 := setUp_bt (S := S3) (c := ah) (t := 0) (u := u)
    exact ⟨k1.1.trans k2.1, k1.2.1.trans k2.2.1, k1.2.2.1.trans k2.2.2.1, k1.2.2.2.1.trans k2.2.2.2.1, k1.2.2.2.2.1.trans k2.2.2.2.2.1, k1.2.2.2.2.2.trans k2.2.2.2.2.2⟩
  have nab : ah ≠ 0 → ah ≠ be := fun h0 e => nl.2.2 _ (h.pa.mem h0) _ (h.pb.mem (e ▸ h0)) e
  refine ⟨heq, ?_, ?_, fun h0 => ?_, fun h0 => ?_, fun u hu => ?_, ?_, h.hd⟩
  · refine h.pa.congr z2 nl.1 (fun u hu hne => ?_) (bt _)
    rw [setUp_ne (fun e => ?_), setUp_ne hne]
    by_cases e0 : be = 0
    · exact h.pa.ne0 u hu (e.trans e0)
    · exact nl.2.2 u hu _ (h.pb.mem e0) e
  · refine h.pb.congr z2 nl.2.1 (fun u hu hne => ?_) (bt _)
    rw [setUp_ne hne, setUp_ne (fun e => ?_)]
    by_cases e0 : ah = 0
    · exact h.pb.ne0 u hu (e.trans e0)
    · exact nl.2.2 _ (h.pa.mem e0) u hu e.symm
  · rw [setUp_ne (nab h0), setUp_up h0]
  · exact setUp_up h0
  · have hz : u ∉ ids zs := by rw [e]; exact hu
    rw [← off u hu, ← h.off u hz]
    rw [heq, ids_append] at hu
    simp only [List.mem_append, not_or] at hu
    by_cases u0 : u = 0
    · rw [u0, z2]
    · rw [setUp_ne (fun e => hu.2 (by rw [e]; exact h.pb.mem (by rw [← e]; exact u0))), setUp_ne (fun e => hu.1 (by rw [e]; exact h.pa.mem (by rw [← e]; exact u0)))]
  · unfold Z; rw [z2]; exact h.z
end Go.Proofs.Ytkfboficcdiojaa
