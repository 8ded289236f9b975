/- What is proved here: a piece of the proof of YtdilegbigaahnaaGreatExactIsValueOf (EqualFields, Fields, ImplHas). Condition: none beyond what each part says. -/
import Derived.Test.YtdilegbigaahnaaGreatVo02
import Derived.Test.YtdilegbigaahnaaGreatVo04
import Derived.Deep.RegionHeld3

/- What is proved here: when two rows of nodes are the same; the program's haveEqualFields and slices.EqualFunc over it. Condition: the rows lie in memory as said. -/
section
namespace Go.Proofs.YtdilegbigaahnaaGreat
open Go.RowKit

/-- Two nodes agree but for what is below them. -/
def headEq (k n : Int) (t : ByteArray) (a : Nat) (k2 n2 : Int) (t2 : ByteArray) (a2 : Nat) : Bool := (k == k2) && ((n == n2) && ((t.toList == t2.toList) && ((a : Int) == (a2 : Int))))
/-- Two rows agree node by node, but for what is below. -/
def Trees.flat : Trees → Trees → Bool
  | .nil, .nil => true
  | .cons k n t a r, .cons k2 n2 t2 a2 r2 => headEq k n t a.length k2 n2 t2 a2.length && r.flat r2
  | _, _ => false
def Trees.same : Trees → Trees → Bool
  | .nil, .nil => true
  | .cons k n t a r, .cons k2 n2 t2 a2 r2 => headEq k n t a.length k2 n2 t2 a2.length && a.same a2 && r.same r2
  | _, _ => false
/-- What is below, pair by pair. -/
def Trees.pairs : Trees → Trees → List (Trees × Trees)
  | .cons _ _ _ a r, .cons _ _ _ a2 r2 => (a, a2) :: r.pairs r2
  | _, _ => []
theorem Trees.same_flat (F : Trees) : ∀ G : Trees, F.same G = (F.flat G && (F.pairs G).all fun p => p.1.same p.2) := by
  induction F with
  | nil => intro G; cases G <;> rfl
  | cons k n t a r _ ih =>
    intro G
    cases G with
    | nil => rfl
    | cons k2 n2 t2 a2 r2 =>
      simp only [Trees.same, Trees.flat, Trees.pairs, List.all_cons, ih r2]
      cases headEq k n t a.length k2 n2 t2 a2.length <;> cases a.same a2 <;> cases r.flat r2 <;> simp
theorem Trees.flat_length (F : Trees) : ∀ G : Trees, F.flat G = true → F.length = G.length := by
  induction F with
  | nil => intro G h; cases G with | nil => rfl | cons _ _ _ _ _ => cases h
  | cons k n t a r _ ih =>
    intro G h
    cases G with
    | nil => cases h
    | cons k2 n2 t2 a2 r2 =>
      simp only [Trees.flat, Bool.and_eq_true] at h
      simp only [Trees.length, ih r2 h.2]
theorem Trees.same_length (F G : Trees) (h : F.same G = true) : F.length = G.length := by
  rw [Trees.same_flat] at h
  simp only [Bool.and_eq_true] at h
  exact Trees.flat_length F G h.1
theorem headEq_iff (k n : Int) (t : ByteArray) (a : Nat) (k2 n2 : Int) (t2 : ByteArray) (a2 : Nat) : headEq k n t a k2 n2 t2 a2 = true ↔ k = k2 ∧ n = n2 ∧ t = t2 ∧ a = a2 := by
  unfold headEq
  simp only [Bool.and_eq_true, beq_iff_eq]
  constructor
  · rintro ⟨h1, h2, h3, h4⟩
    exact ⟨h1, h2, by cases t; cases t2; simpa [ByteArray.toList_eq] using h3, by omega⟩
  · rintro ⟨rfl, rfl, rfl, rfl⟩
    exact ⟨rfl, rfl, rfl, rfl⟩
theorem Trees.same_iff (F : Trees) : ∀ G : Trees, F.same G = true ↔ F = G := by
  induction F with
  | nil => intro G; cases G <;> simp [Trees.same]
  | cons k n t a r ih1 ih2 =>
    intro G
    cases G with
    | nil => simp [Trees.same]
    | cons k2 n2 t2 a2 r2 =>
      simp only [Trees.same, Bool.and_eq_true, ih1, ih2, headEq_iff]
      constructor
      · rintro ⟨⟨⟨rfl, rfl, rfl, _⟩, rfl⟩, rfl⟩; rfl
      · intro h; cases h; exact ⟨⟨⟨rfl, rfl, rfl, rfl⟩, rfl⟩, rfl⟩

/-! The same by another test of two nodes. -/
def Trees.flatBy (hd : Int → Int → ByteArray → Nat → Int → Int → ByteArray → Nat → Bool) : Trees → Trees → Bool
  | .nil, .nil => true
  | .cons k n t a r, .cons k2 n2 t2 a2 r2 => hd k n t a.length k2 n2 t2 a2.length && r.flatBy hd r2
  | _, _ => false
def Trees.sameBy (hd : Int → Int → ByteArray → Nat → Int → Int → ByteArray → Nat → Bool) : Trees → Trees → Bool
  | .nil, .nil => true
  | .cons k n t a r, .cons k2 n2 t2 a2 r2 => hd k n t a.length k2 n2 t2 a2.length && a.sameBy hd a2 && r.sameBy hd r2
  | _, _ => false
theorem Trees.sameBy_flat (hd : Int → Int → ByteArray → Nat → Int → Int → ByteArray → Nat → Bool) (F : Trees) : ∀ G : Trees, F.sameBy hd G = (F.flatBy hd G && (F.pairs G).all fun p => p.1.sameBy hd p.2) := by
  induction F with
  | nil => intro G; cases G <;> rfl
  | cons k n t a r _ ih =>
    intro G
    cases G with
    | nil => rfl
    | cons k2 n2 t2 a2 r2 =>
      simp only [Trees.sameBy, Trees.flatBy, Trees.pairs, List.all_cons, ih r2]
      cases hd k n t a.length k2 n2 t2 a2.length <;> cases a.sameBy hd a2 <;> cases r.flatBy hd r2 <;> simp
theorem Trees.flatBy_length (hd : Int → Int → ByteArray → Nat → Int → Int → ByteArray → Nat → Bool) (F : Trees) : ∀ G : Trees, F.flatBy hd G = true → F.length = G.length := by
  induction F with
  | nil => intro G h; cases G with | nil => rfl | cons _ _ _ _ _ => cases h
  | cons k n t a r _ ih =>
    intro G h
    cases G with
    | nil => cases h
    | cons k2 n2 t2 a2 r2 =>
      simp only [Trees.flatBy, Bool.and_eq_true] at h
      simp only [Trees.length, ih r2 h.2]
theorem Trees.sameBy_iff (hd : Int → Int → ByteArray → Nat → Int → Int → ByteArray → Nat → Bool) (h1 : ∀ k n t a k2 n2 t2 a2, hd k n t a k2 n2 t2 a2 = true → k = k2 ∧ n = n2 ∧ t = t2) (h2 : ∀ k n t a, hd k n t a k n t a = true) (F : Trees) : ∀ G : Trees, F.sameBy hd G = true ↔ F = G := by
  induction F with
  | nil => intro G; cases G <;> simp [Trees.sameBy]
  | cons k n t a r ih1 ih2 =>
    intro G
    cases G with
    | nil => simp [Trees.sameBy]
    | cons k2 n2 t2 a2 r2 =>
      simp only [Trees.sameBy, Bool.and_eq_true, ih1, ih2]
      constructor
      · rintro ⟨⟨h, rfl⟩, rfl⟩
        obtain ⟨rfl, rfl, rfl⟩ := h1 _ _ _ _ _ _ _ _ h
        rfl
      · intro h; cases h; exact ⟨⟨h2 _ _ _ _, rfl⟩, rfl⟩
/-- A node and its row are the same, by either test. -/
theorem sameBy_node (hd : Int → Int → ByteArray → Nat → Int → Int → ByteArray → Nat → Bool) (h1 : ∀ k n t a k2 n2 t2 a2, hd k n t a k2 n2 t2 a2 = true → k = k2 ∧ n = n2 ∧ t = t2) (h2 : ∀ k n t a, hd k n t a k n t a = true) (k n : Int) (t : ByteArray) (F : Trees) (k2 n2 : Int) (t2 : ByteArray) (G : Trees) :
    (hd k n t F.length k2 n2 t2 G.length && F.sameBy hd G) = (headEq k n t F.length k2 n2 t2 G.length && F.same G) := by
  rw [Bool.eq_iff_iff]
  simp only [Bool.and_eq_true, Trees.sameBy_iff hd h1 h2, Trees.same_iff, headEq_iff]
  constructor
  · rintro ⟨h, rfl⟩
    obtain ⟨rfl, rfl, rfl⟩ := h1 _ _ _ _ _ _ _ _ h
    exact ⟨⟨rfl, rfl, rfl, rfl⟩, rfl⟩
  · rintro ⟨⟨rfl, rfl, rfl, _⟩, rfl⟩
    exact ⟨h2 _ _ _ _, rfl⟩

theorem alloc2 (w : World) (o0 o1 : Obj) : Below w.heap.size w ((w.alloc o0).alloc o1) := ((Below.refl _ _).alloc (Nat.le_refl _) _).alloc (by simp) _

end Go.Proofs.YtdilegbigaahnaaGreat
end

/- What is proved here: the program's haveEqualFields says whether two nodes agree but for what is below. No condition. -/
section
namespace Go.Proofs.YtdilegbigaahnaaGreat
open Go.RowKit

/-- The program's test of two values. -/
def hd (k n : Int) (t : ByteArray) (a : Nat) (k2 n2 : Int) (t2 : ByteArray) (a2 : Nat) : Bool := headEq k n t a k2 n2 t2 a2
theorem hd_one (k n : Int) (t : ByteArray) (a : Nat) (k2 n2 : Int) (t2 : ByteArray) (a2 : Nat) (h : hd k n t a k2 n2 t2 a2 = true) : k = k2 ∧ n = n2 ∧ t = t2 := by
  obtain ⟨h1, h2, h3, _⟩ := (headEq_iff _ _ _ _ _ _ _ _).1 h
  exact ⟨h1, h2, h3⟩
theorem hd_refl (k n : Int) (t : ByteArray) (a : Nat) : hd k n t a k n t a = true := (headEq_iff _ _ _ _ _ _ _ _).2 ⟨rfl, rfl, rfl, rfl⟩

set_option maxHeartbeats 1000000 in
set_option maxRecDepth 100000 in
theorem impl_fields (w : World) (k n : Int) (t : ByteArray) (p : Option Addr) (a c : Nat) (k2 n2 : Int) (t2 : ByteArray) (p2 : Option Addr) (a2 c2 : Nat) :
    Calls Tryz.prog 52 #[.agg #[.int .i64 k, .int .i64 n, .string t, .slice p a c], .agg #[.int .i64 k2, .int .i64 n2, .string t2, .slice p2 a2 c2]] w fun e w' => e = .returned (.bool (hd k n t a k2 n2 t2 a2)) ∧ Below w.heap.size w w' := by
  have HB := Lib.hid (alloc2 w (.cells #[.int .i64 k, .int .i64 n, .string t, .slice p a c] 37) (.cells #[.int .i64 k2, .int .i64 n2, .string t2, .slice p2 a2 c2] 37))
  have HE : Hid (hd k n t a k2 n2 t2 a2 = ((k == k2) && ((n == n2) && ((t.toList == t2.toList) && ((a : Int) == (a2 : Int)))))) := rfl
  generalize hd k n t a k2 n2 t2 a2 = z at *
  generalize h1 : (k == k2) = b1 at *
  generalize h2 : (n == n2) = b2 at *
  generalize h3 : (t.toList == t2.toList) = b3 at *
  generalize h4 : ((a : Int) == (a2 : Int)) = b4 at *
  cases b1 with
  | false =>
    have HZ : Hid (z = false) := by unfold Hid; rw [HE.out]; rfl
    go_enter Tryz.func52, Tryz.ntmps52
    go_wp2
    go_ret
    exact ⟨by rw [HZ.out]; rfl, HB.out⟩
  | true =>
    cases b2 with
    | false =>
      have HZ : Hid (z = false) := by unfold Hid; rw [HE.out]; rfl
      go_enter Tryz.func52, Tryz.ntmps52
      go_wp2
      go_ret
      exact ⟨by rw [HZ.out]; rfl, HB.out⟩
    | true =>
      cases b3 with
      | false =>
        have HZ : Hid (z = false) := by unfold Hid; rw [HE.out]; rfl
        go_enter Tryz.func52, Tryz.ntmps52
        go_wp2
        go_ret
        exact ⟨by rw [HZ.out]; rfl, HB.out⟩
      | true =>
        have HZ : Hid (z = b4) := by unfold Hid; rw [HE.out]; rfl
        go_enter Tryz.func52, Tryz.ntmps52
        go_wp2
        go_ret
        exact ⟨by rw [HZ.out]; rfl, HB.out⟩

/-- The same in the words of the test itself. -/
theorem impl_head (w : World) (k n : Int) (t : ByteArray) (p : Option Addr) (a c : Nat) (k2 n2 : Int) (t2 : ByteArray) (p2 : Option Addr) (a2 c2 : Nat) :
    Calls Tryz.prog 52 #[.agg #[.int .i64 k, .int .i64 n, .string t, .slice p a c], .agg #[.int .i64 k2, .int .i64 n2, .string t2, .slice p2 a2 c2]] w fun e w' => e = .returned (.bool (headEq k n t a k2 n2 t2 a2)) ∧ Below w.heap.size w w' := impl_fields w k n t p a c k2 n2 t2 p2 a2 c2
end Go.Proofs.YtdilegbigaahnaaGreat
end

/- What is proved here: the program's hasType says whether a value has a type. Condition: value and signature lie in memory as said, and are small; the signature is the call's own. -/
section
namespace Go.Proofs.YtdilegbigaahnaaGreat
open Go.RowKit

theorem Trees.All.small (N : Nat) : ∀ F : Trees, F.fits → F.size ≤ N → F.All (fun G => G.fits ∧ G.size ≤ N)
  | .nil, _, _ => trivial
  | .cons _ _ _ ar r, h, k => by
    simp only [Trees.size] at k
    exact ⟨⟨h.2.2.2.2.1, by omega⟩, Trees.All.small N r h.2.2.2.2.2 (by omega)⟩
theorem two_allocs3 (w : World) (o1 o2 : Obj) : ((w.alloc o1).alloc o2).heap[w.heap.size]? = some o1 ∧ ((w.alloc o1).alloc o2).heap[w.heap.size + 1]? = some o2 ∧ Below w.heap.size w ((w.alloc o1).alloc o2) ∧ ((w.alloc o1).alloc o2).heap.size = w.heap.size + 2 := by
  have h := two_alloc w o1 o2
  exact ⟨h.2.1, h.2.2.1, h.2.2.2, h.1⟩

theorem pair_cells3 {w : World} {b : Nat} {x y : Value} {T : TypeId} (h : w.heap[b]? = some (.cells #[x, y] T (0, 0))) : w.cell? ⟨b, 0, none⟩ = some x ∧ w.cell? ⟨b, 1, none⟩ = some y := by
  refine ⟨?_, ?_⟩ <;> simp [World.cell?, h]

set_option maxHeartbeats 8000000 in
set_option maxRecDepth 100000 in
theorem impl_has (s : List TypeD) (hm : s.length ≤ 1048576) (hs : ∀ c ∈ s, c.cons.length ≤ 1048576 ∧ ∀ d ∈ c.cons, d.args.length ≤ 1048576) : ∀ G : Trees, G.fits ∧ G.size ≤ 1048576 → HasAt s G := by
  refine Trees.ind fun F hall hfs S w k n t p c a cap nm ht hx hO hS => ?_
  have hall2 := Trees.All.mp F hall (Trees.All.small 1048576 F hfs.1 hfs.2)
  have hfl : F.length ≤ 1048576 := Nat.le_trans F.length_le_size hfs.2
  generalize hz : nodeHas s k n t F.length (fun l => F.has s l) nm = z
  obtain ⟨hp0, hp1, hB0, hs0⟩ := two_allocs3 w (.cells #[.slice a s.length cap] 33) (.cells #[.int .i64 k, .int .i64 n, .string t, .slice p F.length c] 37)
  have HX := Lib.hid (hx.below hB0)
  have HO := Lib.hid (hO.keep keeps_type (fun b hb => hB0.block b (hS b hb)))
  have HS : Hid (∀ b, S b → b < ((w.alloc (.cells #[.slice a s.length cap] 33)).alloc (.cells #[.int .i64 k, .int .i64 n, .string t, .slice p F.length c] 37)).heap.size) := fun b hb => Nat.lt_of_lt_of_le (hS b hb) hB0.size
  have HB0 := Lib.hid hB0
  have HALL := Lib.hid hall2
  have HFIT := Lib.hid hfs.1
  have HSS := Lib.hid hs
  obtain ⟨c0, c1, c2, c3, _⟩ := four_cells hp1
  have d0 := (one_cell hp0).1
  have y1 := assert_yes (P := Tryz.prog) (X := 86) Tryz.underlying90
  have y2 := assert_yes (P := Tryz.prog) (X := 86) Tryz.underlying93
  have y3 := assert_yes (P := Tryz.prog) (X := 86) Tryz.underlying95
  have n21 := assert_no (P := Tryz.prog) (X := 86) (T2 := 93) Tryz.underlying90 zero_int (by decide)
  have n31 := assert_no (P := Tryz.prog) (X := 86) (T2 := 95) Tryz.underlying90 zero_int (by decide)
  have n32 := assert_no (P := Tryz.prog) (X := 86) (T2 := 95) Tryz.underlying93 zero_text (by decide)
  have m1 : ∀ (w : World) n, (method 282 90 (.agg #[.int .i64 n]) "loop.example/g00519/impl.value").run Tryz.prog w = .ok (60, .agg #[.int .i64 n]) w := fun _ _ => by kernel_rfl
  have m2 : ∀ (w : World) t, (method 282 93 (.agg #[.string t]) "loop.example/g00519/impl.value").run Tryz.prog w = .ok (61, .agg #[.string t]) w := fun _ _ => by kernel_rfl
  have m3 : ∀ (w : World) t p l c, (method 282 95 (.agg #[.string t, .slice p l c]) "loop.example/g00519/impl.value").run Tryz.prog w = .ok (64, .agg #[.string t, .slice p l c]) w := fun _ _ _ _ _ => by kernel_rfl
  clear hp0 hp1 hx hO hS hB0 hs hall hall2 hfs
  generalize hn : F.length = nn at *
  have HN := Lib.hid hn
  clear hn
  obtain ⟨w0, hw0⟩ : ∃ w0, w0 = (w.alloc (.cells #[.slice a s.length cap] 33)).alloc (.cells #[.int .i64 k, .int .i64 n, .string t, .slice p nn c] 37) := ⟨_, rfl⟩
  rw [← hw0] at HX HO HS HB0 hs0 c0 c1 c2 c3 d0
  have HW0 := Lib.hid hw0
  have HS0 := Lib.hid hs0
  have hK := impl_kind w0 k n t p nn c
  have HKO := Lib.hid (fun (w' : World) (hb : Below w0.heap.size w0 w') => HO.out.keep keeps_type (w' := w') (fun b hb2 => hb.block b (HS.out b hb2)))
  have HKS := Lib.hid (fun (w' : World) (hb : Below w0.heap.size w0 w') (b : Nat) (hb2 : S b) => Nat.lt_of_lt_of_le (HS.out b hb2) hb.size)
  have HFC := Lib.hid (fun (w' : World) (hb : Below w0.heap.size w0 w') => impl_findCon S w' a cap s t (HKO.out w' hb) (HKS.out w' hb) hm HSS.out)
  clear hw0 hs0
  by_cases h1 : k = 1
  · subst h1
    have hz' : z = ((nm.toList == [105, 110, 116]) && inInt n && (t.toList == []) && decide (nn = 0)) := by rw [← hz]; rfl
    change Calls _ _ _ _ (fun e w' => e = .returned (.iface 90 (.agg #[.int .i64 n])) ∧ _) at hK
    have hh : headEq 1 n t nn 1 n ⟨#[]⟩ 0 = ((t.toList == []) && decide (nn = 0)) := by
      unfold headEq
      have e : ((nn : Int) == ((0 : Nat) : Int)) = decide (nn = 0) := by
        by_cases h : nn = 0
        · subst h; rfl
        · rw [decide_eq_false h]; simp; omega
      rw [e]
      simp
    have HEF := Lib.hid (fun w' => impl_head w' 1 n t p nn c 1 n ⟨#[]⟩ none 0 0)
    rw [hh] at HEF
    rw [Bool.and_assoc] at hz'
    generalize ((t.toList == []) && decide (nn = 0)) = hb at *
    clear hz hh n21 n31 n32 HX HFC HKO HKS HALL HFIT HO HS
    cases hb with
    | false =>
      have HZ : Hid (z = false) := by unfold Hid; rw [hz']; simp
      clear hz'
      go_enter Tryz.func28, Tryz.ntmps28
      go_wp2_with fail
      rw [← HW0.out]
      refine hK.mono ?_
      rintro e w1 ⟨rfl, hb1⟩
      have HB1 : Hid (Below w0.heap.size w0 w1) := hb1
      have c0' := cell_below c0 hb1
      have c1' := cell_below c1 hb1
      have c2' := cell_below c2 hb1
      have c3' := cell_below c3 hb1
      have d0' := cell_below d0 hb1
      clear hb1 c0 c1 c2 c3 d0 hK
      go_wp2
      go_region_held3 (fun w' => w'.cell? ⟨w.heap.size + 1, 0, none⟩ = some (.int .i64 1) ∧ w'.cell? ⟨w.heap.size + 1, 1, none⟩ = some (.int .i64 n) ∧ w'.cell? ⟨w.heap.size + 1, 2, none⟩ = some (.string t) ∧ w'.cell? ⟨w.heap.size + 1, 3, none⟩ = some (.slice p nn c))
        (first
          | go_keep
          | (refine ⟨cell_below (w := w2) (cell_below (w := w1.drew) c0' hbl) hbm, cell_below (w := w2) (cell_below (w := w1.drew) c1' hbl) hbm, cell_below (w := w2) (cell_below (w := w1.drew) c2' hbl) hbm, cell_below (w := w2) (cell_below (w := w1.drew) c3' hbl) hbm⟩)
          | (refine ⟨cell_below (w := w1.drew) c0' hbl, cell_below (w := w1.drew) c1' hbl, cell_below (w := w1.drew) c2' hbl, cell_below (w := w1.drew) c3' hbl⟩))
        (first
          | (go_at_call 60; refine (intValue_value n _).mono ?_; rintro e w2 ⟨rfl, hbl⟩)
          | (go_at_call 52; refine (HEF.out _).mono ?_; rintro e w3 ⟨rfl, hbm⟩))
      have HB3 : Hid (Below w0.heap.size w0 w3) := (HB1.out.trans ((below_of_drew hbl).mono HB1.out.size)).trans (hbm.mono (Nat.le_trans HB1.out.size hbl.size))
      have d0' := cell_below (w := w2) (cell_below (w := w1.drew) d0' hbl) hbm
      clear hbl hbm c0' c1' c2' c3' HEF
      go_wp2
      go_ret
      exact ⟨by rw [HZ.out]; rfl, HB0.out.trans ((HB3.out).mono HB0.out.size)⟩
    | true =>
      by_cases hA : (nm.toList == [105, 110, 116]) = true
      · have HI := Lib.hid (impl_inInt n)
        rw [hA] at hz'
        generalize inInt n = bi at *
        have HZ : Hid (z = bi) := by unfold Hid; rw [hz']; simp
        clear hz'
        go_enter Tryz.func28, Tryz.ntmps28
        go_wp2_with fail
        rw [← HW0.out]
        refine hK.mono ?_
        rintro e w1 ⟨rfl, hb1⟩
        have HB1 : Hid (Below w0.heap.size w0 w1) := hb1
        have c0' := cell_below c0 hb1
        have c1' := cell_below c1 hb1
        have c2' := cell_below c2 hb1
        have c3' := cell_below c3 hb1
        have d0' := cell_below d0 hb1
        clear hb1 c0 c1 c2 c3 d0 hK
        go_wp2
        go_region_held3 (fun w' => w'.cell? ⟨w.heap.size + 1, 0, none⟩ = some (.int .i64 1) ∧ w'.cell? ⟨w.heap.size + 1, 1, none⟩ = some (.int .i64 n) ∧ w'.cell? ⟨w.heap.size + 1, 2, none⟩ = some (.string t) ∧ w'.cell? ⟨w.heap.size + 1, 3, none⟩ = some (.slice p nn c))
          (first
            | go_keep
            | (refine ⟨cell_below (w := w2) (cell_below (w := w1.drew) c0' hbl) hbm, cell_below (w := w2) (cell_below (w := w1.drew) c1' hbl) hbm, cell_below (w := w2) (cell_below (w := w1.drew) c2' hbl) hbm, cell_below (w := w2) (cell_below (w := w1.drew) c3' hbl) hbm⟩)
            | (refine ⟨cell_below (w := w1.drew) c0' hbl, cell_below (w := w1.drew) c1' hbl, cell_below (w := w1.drew) c2' hbl, cell_below (w := w1.drew) c3' hbl⟩))
          (first
            | (go_at_call 60; refine (intValue_value n _).mono ?_; rintro e w2 ⟨rfl, hbl⟩)
            | (go_at_call 52; refine (HEF.out _).mono ?_; rintro e w3 ⟨rfl, hbm⟩))
        have HB3 : Hid (Below w0.heap.size w0 w3) := (HB1.out.trans ((below_of_drew hbl).mono HB1.out.size)).trans (hbm.mono (Nat.le_trans HB1.out.size hbl.size))
        have d0' := cell_below (w := w2) (cell_below (w := w1.drew) d0' hbl) hbm
        clear hbl hbm c0' c1' c2' c3' HEF
        go_wp2_with fail
        refine (HI.out _).mono ?_
        rintro e w4 ⟨rfl, rfl⟩
        go_wp2
        go_ret
        exact ⟨by rw [HZ.out]; rfl, HB0.out.trans (((HB3.out.alloc HB3.out.size _)).mono HB0.out.size)⟩
      · have hA : (nm.toList == [105, 110, 116]) = false := by simpa using hA
        have HZ : Hid (z = false) := by unfold Hid; rw [hz', hA]; rfl
        clear hz'
        go_enter Tryz.func28, Tryz.ntmps28
        go_wp2_with fail
        rw [← HW0.out]
        refine hK.mono ?_
        rintro e w1 ⟨rfl, hb1⟩
        have HB1 : Hid (Below w0.heap.size w0 w1) := hb1
        have c0' := cell_below c0 hb1
        have c1' := cell_below c1 hb1
        have c2' := cell_below c2 hb1
        have c3' := cell_below c3 hb1
        have d0' := cell_below d0 hb1
        clear hb1 c0 c1 c2 c3 d0 hK
        go_wp2
        go_region_held3 (fun w' => w'.cell? ⟨w.heap.size + 1, 0, none⟩ = some (.int .i64 1) ∧ w'.cell? ⟨w.heap.size + 1, 1, none⟩ = some (.int .i64 n) ∧ w'.cell? ⟨w.heap.size + 1, 2, none⟩ = some (.string t) ∧ w'.cell? ⟨w.heap.size + 1, 3, none⟩ = some (.slice p nn c))
          (first
            | go_keep
            | (refine ⟨cell_below (w := w2) (cell_below (w := w1.drew) c0' hbl) hbm, cell_below (w := w2) (cell_below (w := w1.drew) c1' hbl) hbm, cell_below (w := w2) (cell_below (w := w1.drew) c2' hbl) hbm, cell_below (w := w2) (cell_below (w := w1.drew) c3' hbl) hbm⟩)
            | (refine ⟨cell_below (w := w1.drew) c0' hbl, cell_below (w := w1.drew) c1' hbl, cell_below (w := w1.drew) c2' hbl, cell_below (w := w1.drew) c3' hbl⟩))
          (first
            | (go_at_call 60; refine (intValue_value n _).mono ?_; rintro e w2 ⟨rfl, hbl⟩)
            | (go_at_call 52; refine (HEF.out _).mono ?_; rintro e w3 ⟨rfl, hbm⟩))
        have HB3 : Hid (Below w0.heap.size w0 w3) := (HB1.out.trans ((below_of_drew hbl).mono HB1.out.size)).trans (hbm.mono (Nat.le_trans HB1.out.size hbl.size))
        have d0' := cell_below (w := w2) (cell_below (w := w1.drew) d0' hbl) hbm
        clear hbl hbm c0' c1' c2' c3' HEF
        go_wp2
        go_ret
        exact ⟨by rw [HZ.out]; rfl, HB0.out.trans (((HB3.out.alloc HB3.out.size _)).mono HB0.out.size)⟩
  by_cases h2 : k = 2
  · subst h2
    have hz' : z = ((nm.toList == [116, 101, 120, 116]) && (n == 0) && decide (nn = 0) && bl (ValidText t)) := by rw [← hz]; rfl
    change Calls _ _ _ _ (fun e w' => e = .returned (.iface 93 (.agg #[.string t])) ∧ _) at hK
    have hh : headEq 2 n t nn 2 0 t 0 = ((n == 0) && decide (nn = 0)) := by
      unfold headEq
      have e : ((nn : Int) == ((0 : Nat) : Int)) = decide (nn = 0) := by
        by_cases h : nn = 0
        · subst h; rfl
        · rw [decide_eq_false h]; simp; omega
      rw [e]
      simp
    have HEF := Lib.hid (fun w' => impl_head w' 2 n t p nn c 2 0 t none 0 0)
    rw [hh] at HEF
    rw [Bool.and_assoc (nm.toList == [116, 101, 120, 116])] at hz'
    generalize ((n == 0) && decide (nn = 0)) = hb at *
    clear hz hh n31 n32 HX HFC HKO HKS HALL HFIT HO HS
    cases hb with
    | false =>
      have HZ : Hid (z = false) := by unfold Hid; rw [hz']; simp
      clear hz'
      go_enter Tryz.func28, Tryz.ntmps28
      go_wp2_with fail
      rw [← HW0.out]
      refine hK.mono ?_
      rintro e w1 ⟨rfl, hb1⟩
      have HB1 : Hid (Below w0.heap.size w0 w1) := hb1
      have c0' := cell_below c0 hb1
      have c1' := cell_below c1 hb1
      have c2' := cell_below c2 hb1
      have c3' := cell_below c3 hb1
      have d0' := cell_below d0 hb1
      clear hb1 c0 c1 c2 c3 d0 hK
      go_wp2
      go_region_held3 (fun w' => w'.cell? ⟨w.heap.size + 1, 0, none⟩ = some (.int .i64 2) ∧ w'.cell? ⟨w.heap.size + 1, 1, none⟩ = some (.int .i64 n) ∧ w'.cell? ⟨w.heap.size + 1, 2, none⟩ = some (.string t) ∧ w'.cell? ⟨w.heap.size + 1, 3, none⟩ = some (.slice p nn c))
        (first
          | go_keep
          | (refine ⟨cell_below (w := w2) (cell_below (w := w1.drew) c0' hbl) hbm, cell_below (w := w2) (cell_below (w := w1.drew) c1' hbl) hbm, cell_below (w := w2) (cell_below (w := w1.drew) c2' hbl) hbm, cell_below (w := w2) (cell_below (w := w1.drew) c3' hbl) hbm⟩)
          | (refine ⟨cell_below (w := w1.drew) c0' hbl, cell_below (w := w1.drew) c1' hbl, cell_below (w := w1.drew) c2' hbl, cell_below (w := w1.drew) c3' hbl⟩))
        (first
          | (go_at_call 61; refine (textValue_value t _).mono ?_; rintro e w2 ⟨rfl, hbl⟩)
          | (go_at_call 52; refine (HEF.out _).mono ?_; rintro e w3 ⟨rfl, hbm⟩))
      have HB3 : Hid (Below w0.heap.size w0 w3) := (HB1.out.trans ((below_of_drew hbl).mono HB1.out.size)).trans (hbm.mono (Nat.le_trans HB1.out.size hbl.size))
      have d0' := cell_below (w := w2) (cell_below (w := w1.drew) d0' hbl) hbm
      clear hbl hbm c0' c1' c2' c3' HEF
      go_wp2
      go_ret
      exact ⟨by rw [HZ.out]; rfl, HB0.out.trans ((HB3.out).mono HB0.out.size)⟩
    | true =>
      by_cases hA : (nm.toList == [116, 101, 120, 116]) = true
      · have HI := Lib.hid (impl_text t ht)
        rw [hA] at hz'
        generalize bl (ValidText t) = bi at *
        have HZ : Hid (z = bi) := by unfold Hid; rw [hz']; simp
        clear hz'
        go_enter Tryz.func28, Tryz.ntmps28
        go_wp2_with fail
        rw [← HW0.out]
        refine hK.mono ?_
        rintro e w1 ⟨rfl, hb1⟩
        have HB1 : Hid (Below w0.heap.size w0 w1) := hb1
        have c0' := cell_below c0 hb1
        have c1' := cell_below c1 hb1
        have c2' := cell_below c2 hb1
        have c3' := cell_below c3 hb1
        have d0' := cell_below d0 hb1
        clear hb1 c0 c1 c2 c3 d0 hK
        go_wp2
        go_region_held3 (fun w' => w'.cell? ⟨w.heap.size + 1, 0, none⟩ = some (.int .i64 2) ∧ w'.cell? ⟨w.heap.size + 1, 1, none⟩ = some (.int .i64 n) ∧ w'.cell? ⟨w.heap.size + 1, 2, none⟩ = some (.string t) ∧ w'.cell? ⟨w.heap.size + 1, 3, none⟩ = some (.slice p nn c))
          (first
            | go_keep
            | (refine ⟨cell_below (w := w2) (cell_below (w := w1.drew) c0' hbl) hbm, cell_below (w := w2) (cell_below (w := w1.drew) c1' hbl) hbm, cell_below (w := w2) (cell_below (w := w1.drew) c2' hbl) hbm, cell_below (w := w2) (cell_below (w := w1.drew) c3' hbl) hbm⟩)
            | (refine ⟨cell_below (w := w1.drew) c0' hbl, cell_below (w := w1.drew) c1' hbl, cell_below (w := w1.drew) c2' hbl, cell_below (w := w1.drew) c3' hbl⟩))
          (first
            | (go_at_call 61; refine (textValue_value t _).mono ?_; rintro e w2 ⟨rfl, hbl⟩)
            | (go_at_call 52; refine (HEF.out _).mono ?_; rintro e w3 ⟨rfl, hbm⟩))
        have HB3 : Hid (Below w0.heap.size w0 w3) := (HB1.out.trans ((below_of_drew hbl).mono HB1.out.size)).trans (hbm.mono (Nat.le_trans HB1.out.size hbl.size))
        have d0' := cell_below (w := w2) (cell_below (w := w1.drew) d0' hbl) hbm
        clear hbl hbm c0' c1' c2' c3' HEF
        go_wp2_with fail
        refine (HI.out _).mono ?_
        rintro e w4 ⟨rfl, hb4⟩
        have HB4 : Hid (Below w0.heap.size w0 w4) := (HB3.out.alloc HB3.out.size _).trans (hb4.mono (Nat.le_trans HB3.out.size (by simp)))
        clear hb4
        go_wp2
        go_ret
        exact ⟨by rw [HZ.out]; rfl, HB0.out.trans ((HB4.out).mono HB0.out.size)⟩
      · have hA : (nm.toList == [116, 101, 120, 116]) = false := by simpa using hA
        have HZ : Hid (z = false) := by unfold Hid; rw [hz', hA]; rfl
        clear hz'
        go_enter Tryz.func28, Tryz.ntmps28
        go_wp2_with fail
        rw [← HW0.out]
        refine hK.mono ?_
        rintro e w1 ⟨rfl, hb1⟩
        have HB1 : Hid (Below w0.heap.size w0 w1) := hb1
        have c0' := cell_below c0 hb1
        have c1' := cell_below c1 hb1
        have c2' := cell_below c2 hb1
        have c3' := cell_below c3 hb1
        have d0' := cell_below d0 hb1
        clear hb1 c0 c1 c2 c3 d0 hK
        go_wp2
        go_region_held3 (fun w' => w'.cell? ⟨w.heap.size + 1, 0, none⟩ = some (.int .i64 2) ∧ w'.cell? ⟨w.heap.size + 1, 1, none⟩ = some (.int .i64 n) ∧ w'.cell? ⟨w.heap.size + 1, 2, none⟩ = some (.string t) ∧ w'.cell? ⟨w.heap.size + 1, 3, none⟩ = some (.slice p nn c))
          (first
            | go_keep
            | (refine ⟨cell_below (w := w2) (cell_below (w := w1.drew) c0' hbl) hbm, cell_below (w := w2) (cell_below (w := w1.drew) c1' hbl) hbm, cell_below (w := w2) (cell_below (w := w1.drew) c2' hbl) hbm, cell_below (w := w2) (cell_below (w := w1.drew) c3' hbl) hbm⟩)
            | (refine ⟨cell_below (w := w1.drew) c0' hbl, cell_below (w := w1.drew) c1' hbl, cell_below (w := w1.drew) c2' hbl, cell_below (w := w1.drew) c3' hbl⟩))
          (first
            | (go_at_call 61; refine (textValue_value t _).mono ?_; rintro e w2 ⟨rfl, hbl⟩)
            | (go_at_call 52; refine (HEF.out _).mono ?_; rintro e w3 ⟨rfl, hbm⟩))
        have HB3 : Hid (Below w0.heap.size w0 w3) := (HB1.out.trans ((below_of_drew hbl).mono HB1.out.size)).trans (hbm.mono (Nat.le_trans HB1.out.size hbl.size))
        have d0' := cell_below (w := w2) (cell_below (w := w1.drew) d0' hbl) hbm
        clear hbl hbm c0' c1' c2' c3' HEF
        go_wp2
        go_ret
        exact ⟨by rw [HZ.out]; rfl, HB0.out.trans (((HB3.out.alloc HB3.out.size _)).mono HB0.out.size)⟩
  by_cases h3 : k = 3
  rotate_left
  · have HZ : Hid (z = false) := by unfold Hid; rw [← hz]; unfold nodeHas; rw [if_neg h1, if_neg h2, if_neg h3]
    have hkv : kindV k n t p nn c = .nilIface := by unfold kindV; rw [if_neg h1, if_neg h2, if_neg h3]
    rw [hkv] at hK
    clear hz h1 h2 h3 hkv n21 n31 n32 HX HFC HKO HKS HALL HFIT HO HS
    go_enter Tryz.func28, Tryz.ntmps28
    go_wp2_with fail
    rw [← HW0.out]
    refine hK.mono ?_
    rintro e w1 ⟨rfl, hb1⟩
    have HB1 : Hid (Below w0.heap.size w0 w1) := hb1
    clear hb1 hK
    go_wp2
    go_quiet (fail)
    go_wp2
    go_ret
    exact ⟨by rw [HZ.out]; rfl, HB0.out.trans (((HB1.out.trans ⟨rfl, rfl, rfl, Nat.le_refl _, fun _ _ => rfl⟩ : Below w0.heap.size w0 (w1.drewN _))).mono HB0.out.size)⟩
  subst h3
  have hz' : z = match theCon s t with
      | some (c, tn) => (tn.toList == nm.toList) && (n == 0) && decide (c.args.length = nn) && F.has s c.args
      | none => false := by rw [← hz]; rfl
  change Calls _ _ _ _ (fun e w' => e = .returned (.iface 95 (.agg #[.string t, .slice p nn c])) ∧ _) at hK
  have hh : headEq 3 n t nn 3 0 t nn = (n == 0) := by
    unfold headEq
    simp
  have HEF := Lib.hid (fun w' => impl_head w' 3 n t p nn c 3 0 t p nn c)
  rw [hh] at HEF
  clear hz h1 h2 hh
  generalize (n == 0) = hb at *
  cases hb with
  | false =>
    have HZ : Hid (z = false) := by
      unfold Hid
      rw [hz']
      split <;> simp
    clear hz' HX HFC HKO HKS HALL HFIT HO HS
    go_enter Tryz.func28, Tryz.ntmps28
    go_wp2_with fail
    rw [← HW0.out]
    refine hK.mono ?_
    rintro e w1 ⟨rfl, hb1⟩
    have HB1 : Hid (Below w0.heap.size w0 w1) := hb1
    have c0' := cell_below c0 hb1
    have c1' := cell_below c1 hb1
    have c2' := cell_below c2 hb1
    have c3' := cell_below c3 hb1
    have d0' := cell_below d0 hb1
    clear hb1 c0 c1 c2 c3 d0 hK
    go_wp2
    go_region_held3 (fun w' => w'.cell? ⟨w.heap.size + 1, 0, none⟩ = some (.int .i64 3) ∧ w'.cell? ⟨w.heap.size + 1, 1, none⟩ = some (.int .i64 n) ∧ w'.cell? ⟨w.heap.size + 1, 2, none⟩ = some (.string t) ∧ w'.cell? ⟨w.heap.size + 1, 3, none⟩ = some (.slice p nn c))
      (first
        | go_keep
        | (refine ⟨cell_below (w := w2) (cell_below (w := w1.drew) c0' hbl) hbm, cell_below (w := w2) (cell_below (w := w1.drew) c1' hbl) hbm, cell_below (w := w2) (cell_below (w := w1.drew) c2' hbl) hbm, cell_below (w := w2) (cell_below (w := w1.drew) c3' hbl) hbm⟩)
        | (refine ⟨cell_below (w := w1.drew) c0' hbl, cell_below (w := w1.drew) c1' hbl, cell_below (w := w1.drew) c2' hbl, cell_below (w := w1.drew) c3' hbl⟩))
      (first
        | (go_at_call 64; refine (conValue_value t p nn c _).mono ?_; rintro e w2 ⟨rfl, hbl⟩)
        | (go_at_call 52; refine (HEF.out _).mono ?_; rintro e w3 ⟨rfl, hbm⟩))
    have HB3 : Hid (Below w0.heap.size w0 w3) := (HB1.out.trans ((below_of_drew hbl).mono HB1.out.size)).trans (hbm.mono (Nat.le_trans HB1.out.size hbl.size))
    have d0' := cell_below (w := w2) (cell_below (w := w1.drew) d0' hbl) hbm
    clear hbl hbm c0' c1' c2' c3' HEF
    go_wp2
    go_ret
    exact ⟨by rw [HZ.out]; rfl, HB0.out.trans ((HB3.out).mono HB0.out.size)⟩
  | true =>
    cases htc : theCon s t with
    | none =>
      rw [htc] at hz'
      have HZ : Hid (z = false) := hz'
      have HTC := Lib.hid htc
      clear htc hz'
      go_enter Tryz.func28, Tryz.ntmps28
      go_wp2_with fail
      rw [← HW0.out]
      refine hK.mono ?_
      rintro e w1 ⟨rfl, hb1⟩
      have HB1 : Hid (Below w0.heap.size w0 w1) := hb1
      have c0' := cell_below c0 hb1
      have c1' := cell_below c1 hb1
      have c2' := cell_below c2 hb1
      have c3' := cell_below c3 hb1
      have d0' := cell_below d0 hb1
      clear hb1 c0 c1 c2 c3 d0 hK
      go_wp2
      go_region_held3 (fun w' => w'.cell? ⟨w.heap.size + 1, 0, none⟩ = some (.int .i64 3) ∧ w'.cell? ⟨w.heap.size + 1, 1, none⟩ = some (.int .i64 n) ∧ w'.cell? ⟨w.heap.size + 1, 2, none⟩ = some (.string t) ∧ w'.cell? ⟨w.heap.size + 1, 3, none⟩ = some (.slice p nn c))
        (first
          | go_keep
          | (refine ⟨cell_below (w := w2) (cell_below (w := w1.drew) c0' hbl) hbm, cell_below (w := w2) (cell_below (w := w1.drew) c1' hbl) hbm, cell_below (w := w2) (cell_below (w := w1.drew) c2' hbl) hbm, cell_below (w := w2) (cell_below (w := w1.drew) c3' hbl) hbm⟩)
          | (refine ⟨cell_below (w := w1.drew) c0' hbl, cell_below (w := w1.drew) c1' hbl, cell_below (w := w1.drew) c2' hbl, cell_below (w := w1.drew) c3' hbl⟩))
        (first
          | (go_at_call 64; refine (conValue_value t p nn c _).mono ?_; rintro e w2 ⟨rfl, hbl⟩)
          | (go_at_call 52; refine (HEF.out _).mono ?_; rintro e w3 ⟨rfl, hbm⟩))
      have HB3 : Hid (Below w0.heap.size w0 w3) := (HB1.out.trans ((below_of_drew hbl).mono HB1.out.size)).trans (hbm.mono (Nat.le_trans HB1.out.size hbl.size))
      have d0' := cell_below (w := w2) (cell_below (w := w1.drew) d0' hbl) hbm
      clear hbl hbm c0' c1' c2' c3' HEF
      have hBA : Below w0.heap.size w0 (w3.alloc (.cells #[.string t, .slice p nn c] 95)) := HB3.out.alloc HB3.out.size _
      obtain ⟨q0, q1⟩ := pair_cells3 (heap_at_new w3 (.cells #[.string t, .slice p nn c] 95))
      have d0' := cell_below d0' ((Below.refl w3.heap.size w3).alloc (Nat.le_refl _) (.cells #[.string t, .slice p nn c] 95))
      have HF := Lib.hid (HFC.out _ hBA)
      have HBA := Lib.hid hBA
      clear hBA
      go_wp2_with fail
      refine HF.out.mono ?_
      rintro e w4 ⟨hb4, h⟩
      have HB4 : Hid (Below w0.heap.size w0 w4) := HBA.out.trans (hb4.mono HBA.out.size)
      have q1 := cell_below q1 hb4
      have d0' := cell_below d0' hb4
      rcases h with ⟨_, _, _, _, h, _⟩ | ⟨_, rfl⟩
      · rw [HTC.out] at h; cases h
      clear hb4
      go_wp2
      go_ret
      exact ⟨by rw [HZ.out]; rfl, HB0.out.trans (((HB4.out.alloc HB4.out.size _)).mono HB0.out.size)⟩
    | some ct =>
      obtain ⟨cd, tn⟩ := ct
      rw [htc] at hz'
      have hca := theCon_args HSS.out htc
      have HTC := Lib.hid htc
      simp only at hz'
      clear htc
      by_cases hA : (tn.toList == nm.toList) = true
      rotate_left
      · have hA : (tn.toList == nm.toList) = false := by simpa using hA
        have HZ : Hid (z = false) := by unfold Hid; rw [hz', hA]; rfl
        clear hz'
        go_enter Tryz.func28, Tryz.ntmps28
        go_wp2_with fail
        rw [← HW0.out]
        refine hK.mono ?_
        rintro e w1 ⟨rfl, hb1⟩
        have HB1 : Hid (Below w0.heap.size w0 w1) := hb1
        have c0' := cell_below c0 hb1
        have c1' := cell_below c1 hb1
        have c2' := cell_below c2 hb1
        have c3' := cell_below c3 hb1
        have d0' := cell_below d0 hb1
        clear hb1 c0 c1 c2 c3 d0 hK
        go_wp2
        go_region_held3 (fun w' => w'.cell? ⟨w.heap.size + 1, 0, none⟩ = some (.int .i64 3) ∧ w'.cell? ⟨w.heap.size + 1, 1, none⟩ = some (.int .i64 n) ∧ w'.cell? ⟨w.heap.size + 1, 2, none⟩ = some (.string t) ∧ w'.cell? ⟨w.heap.size + 1, 3, none⟩ = some (.slice p nn c))
          (first
            | go_keep
            | (refine ⟨cell_below (w := w2) (cell_below (w := w1.drew) c0' hbl) hbm, cell_below (w := w2) (cell_below (w := w1.drew) c1' hbl) hbm, cell_below (w := w2) (cell_below (w := w1.drew) c2' hbl) hbm, cell_below (w := w2) (cell_below (w := w1.drew) c3' hbl) hbm⟩)
            | (refine ⟨cell_below (w := w1.drew) c0' hbl, cell_below (w := w1.drew) c1' hbl, cell_below (w := w1.drew) c2' hbl, cell_below (w := w1.drew) c3' hbl⟩))
          (first
            | (go_at_call 64; refine (conValue_value t p nn c _).mono ?_; rintro e w2 ⟨rfl, hbl⟩)
            | (go_at_call 52; refine (HEF.out _).mono ?_; rintro e w3 ⟨rfl, hbm⟩))
        have HB3 : Hid (Below w0.heap.size w0 w3) := (HB1.out.trans ((below_of_drew hbl).mono HB1.out.size)).trans (hbm.mono (Nat.le_trans HB1.out.size hbl.size))
        have d0' := cell_below (w := w2) (cell_below (w := w1.drew) d0' hbl) hbm
        clear hbl hbm c0' c1' c2' c3' HEF
        have hBA : Below w0.heap.size w0 (w3.alloc (.cells #[.string t, .slice p nn c] 95)) := HB3.out.alloc HB3.out.size _
        obtain ⟨q0, q1⟩ := pair_cells3 (heap_at_new w3 (.cells #[.string t, .slice p nn c] 95))
        have d0' := cell_below d0' ((Below.refl w3.heap.size w3).alloc (Nat.le_refl _) (.cells #[.string t, .slice p nn c] 95))
        have HF := Lib.hid (HFC.out _ hBA)
        have HBA := Lib.hid hBA
        clear hBA
        go_wp2_with fail
        refine HF.out.mono ?_
        rintro e w4 ⟨hb4, h⟩
        have HB4 : Hid (Below w0.heap.size w0 w4) := HBA.out.trans (hb4.mono HBA.out.size)
        have q1 := cell_below q1 hb4
        have d0' := cell_below d0' hb4
        rcases h with ⟨cd2, tn2, u, v, h, rfl, ho⟩ | ⟨h, _⟩
        rotate_left
        · rw [HTC.out] at h; cases h
        obtain ⟨rfl, rfl⟩ : cd = cd2 ∧ tn = tn2 := by have h2 := HTC.out.symm.trans h; cases h2; exact ⟨rfl, rfl⟩
        obtain ⟨qa, qc, hu, hv, hr⟩ := OwnCon.reads _ _ _ _ _ ho
        subst hu hv
        clear hb4 ho hr h
        go_wp2
        go_ret
        exact ⟨by rw [HZ.out]; rfl, HB0.out.trans (((HB4.out.alloc HB4.out.size _)).mono HB0.out.size)⟩
      have HZ : Hid (z = (decide (cd.args.length = nn) && F.has s cd.args)) := by unfold Hid; rw [hz', hA]; simp
      clear hz'
      go_enter Tryz.func28, Tryz.ntmps28
      go_wp2_with fail
      rw [← HW0.out]
      refine hK.mono ?_
      rintro e w1 ⟨rfl, hb1⟩
      have HB1 : Hid (Below w0.heap.size w0 w1) := hb1
      have c0' := cell_below c0 hb1
      have c1' := cell_below c1 hb1
      have c2' := cell_below c2 hb1
      have c3' := cell_below c3 hb1
      have d0' := cell_below d0 hb1
      clear hb1 c0 c1 c2 c3 d0 hK
      go_wp2
      go_region_held3 (fun w' => w'.cell? ⟨w.heap.size + 1, 0, none⟩ = some (.int .i64 3) ∧ w'.cell? ⟨w.heap.size + 1, 1, none⟩ = some (.int .i64 n) ∧ w'.cell? ⟨w.heap.size + 1, 2, none⟩ = some (.string t) ∧ w'.cell? ⟨w.heap.size + 1, 3, none⟩ = some (.slice p nn c))
        (first
          | go_keep
          | (refine ⟨cell_below (w := w2) (cell_below (w := w1.drew) c0' hbl) hbm, cell_below (w := w2) (cell_below (w := w1.drew) c1' hbl) hbm, cell_below (w := w2) (cell_below (w := w1.drew) c2' hbl) hbm, cell_below (w := w2) (cell_below (w := w1.drew) c3' hbl) hbm⟩)
          | (refine ⟨cell_below (w := w1.drew) c0' hbl, cell_below (w := w1.drew) c1' hbl, cell_below (w := w1.drew) c2' hbl, cell_below (w := w1.drew) c3' hbl⟩))
        (first
          | (go_at_call 64; refine (conValue_value t p nn c _).mono ?_; rintro e w2 ⟨rfl, hbl⟩)
          | (go_at_call 52; refine (HEF.out _).mono ?_; rintro e w3 ⟨rfl, hbm⟩))
      have HB3 : Hid (Below w0.heap.size w0 w3) := (HB1.out.trans ((below_of_drew hbl).mono HB1.out.size)).trans (hbm.mono (Nat.le_trans HB1.out.size hbl.size))
      have d0' := cell_below (w := w2) (cell_below (w := w1.drew) d0' hbl) hbm
      clear hbl hbm c0' c1' c2' c3' HEF
      have hBA : Below w0.heap.size w0 (w3.alloc (.cells #[.string t, .slice p nn c] 95)) := HB3.out.alloc HB3.out.size _
      obtain ⟨q0, q1⟩ := pair_cells3 (heap_at_new w3 (.cells #[.string t, .slice p nn c] 95))
      have d0' := cell_below d0' ((Below.refl w3.heap.size w3).alloc (Nat.le_refl _) (.cells #[.string t, .slice p nn c] 95))
      have HF := Lib.hid (HFC.out _ hBA)
      have HBA := Lib.hid hBA
      clear hBA
      go_wp2_with fail
      refine HF.out.mono ?_
      rintro e w4 ⟨hb4, h⟩
      have HB4 : Hid (Below w0.heap.size w0 w4) := HBA.out.trans (hb4.mono HBA.out.size)
      have q1 := cell_below q1 hb4
      have d0' := cell_below d0' hb4
      rcases h with ⟨cd2, tn2, u, v, h, rfl, ho⟩ | ⟨h, _⟩
      rotate_left
      · rw [HTC.out] at h; cases h
      obtain ⟨rfl, rfl⟩ : cd = cd2 ∧ tn = tn2 := by have h2 := HTC.out.symm.trans h; cases h2; exact ⟨rfl, rfl⟩
      obtain ⟨qa, qc, hu, hv, hr⟩ := OwnCon.reads _ _ _ _ _ ho
      subst hu hv
      have hBB : Below w4.heap.size w4 (w4.alloc (.cells #[.string cd.name, .slice qa cd.args.length qc] 73)) := (Below.refl _ _).alloc (Nat.le_refl _) _
      have HB5 : Hid (Below w0.heap.size w0 (w4.alloc (.cells #[.string cd.name, .slice qa cd.args.length qc] 73))) := HB4.out.trans (hBB.mono HB4.out.size)
      have HT := Lib.hid (impl_types s S (w4.alloc (.cells #[.string cd.name, .slice qa cd.args.length qc] 73)) F cd.args HALL.out HFIT.out p qa c qc a cap (HX.out.below HB5.out) (reads_below hr hBB) (by rw [HN.out]; exact hfl) (HKO.out _ HB5.out) (HKS.out _ HB5.out))
      rw [HN.out] at HT
      generalize (decide (cd.args.length = nn) && F.has s cd.args) = bz at *
      have q1 := cell_below q1 hBB
      have d0' := cell_below d0' hBB
      obtain ⟨r0, r1⟩ := pair_cells3 (heap_at_new w4 (.cells #[.string cd.name, .slice qa cd.args.length qc] 73))
      clear hb4 ho hr h hBB
      go_wp2_with fail
      refine HT.out.mono ?_
      rintro e w6 ⟨rfl, hb6⟩
      have HB6 : Hid (Below w0.heap.size w0 w6) := HB5.out.trans (hb6.mono HB5.out.size)
      clear hb6 q1 d0' r0 r1 q0
      go_wp2
      go_ret
      exact ⟨by rw [HZ.out]; rfl, HB0.out.trans ((HB6.out).mono HB0.out.size)⟩
end Go.Proofs.YtdilegbigaahnaaGreat
end
