/- What is proved here: a piece of the proof of YtijbaienhaiamaaGreatDoorGuards (SpecFind, DrawBase, DrawLeaf, ExEnv, Bl, Words, ConName). Condition: none beyond what each part says. -/
import Derived.Test.YtijbaienhaiamaaGreatDoorGu06
import Derived.Test.YtijbaienhaiamaaGreatDoorGu05
import Derived.Laws.ResultCell
import Derived.Test.YtijbaienhaiamaaGreatDoorGu03
import Derived.Test.YtijbaienhaiamaaGreatDoorGu01
import Derived.Lib.SlicesS

/- What is proved here: the model's FindType and IsType (package spec) find the first declaration, and copy it. Condition: the signature lies in memory as said, and is small. -/
section
namespace Go.Proofs.YtijbaienhaiamaaGreatDoor
open Go.RowKit

/-- What FindType hands back: a copy of the first declaration and true, or the zero TypeDecl and false. -/
def Found (w : World) (s : List TypeD) (nm : ByteArray) (e : Ending) (w' : World) : Prop :=
  Below w.heap.size w w' ∧ ((∃ x u v, theType s nm = some x ∧ e = .returned (.tuple #[.agg #[u, v], .bool true]) ∧ OwnType (Came w w') w' x u v) ∨ (theType s nm = none ∧ e = .returned (.tuple #[.agg #[.string ⟨#[]⟩, .slice none 0 0], .bool false])))

set_option maxHeartbeats 1000000 in
set_option maxRecDepth 100000 in
theorem spec_findType (w : World) (a : Option Addr) (cap : Nat) (s : List TypeD) (nm : ByteArray) (hx : Row2 TypeAt w a s) (hm : s.length ≤ 1048576) (hs : ∀ c ∈ s, c.cons.length ≤ 1048576 ∧ ∀ d ∈ c.cons, d.args.length ≤ 1048576) :
    Calls Tryz.prog 102 #[.agg #[.slice a s.length cap], .string nm] w (Found w s nm) := by
  have HX := Lib.hid hx
  have HS := Lib.hid hs
  clear hx hs
  obtain ⟨w2, h2⟩ : ∃ w2, w2 = (w.alloc (.cells #[.slice a s.length cap] 26)).alloc (.cells #[.string ⟨#[]⟩, .slice none 0 0] 130) := ⟨_, rfl⟩
  have s1 : (w.alloc (.cells #[.slice a s.length cap] 26)).heap.size = w.heap.size + 1 := Array.size_push _
  have hB : Below w.heap.size w w2 := by rw [h2]; exact ((Below.refl _ _).alloc (Nat.le_refl _) _).alloc (by omega) _
  have hp0 : w2.heap[w.heap.size]? = some (.cells #[.slice a s.length cap] 26 (0, 0)) := by
    rw [h2, Below.heap_alloc _ _ _ (by omega)]
    exact heap_at_new w _
  have hp1 : w2.heap[w.heap.size + 1]? = some (.cells #[.string ⟨#[]⟩, .slice none 0 0] 130 (0, 0)) := by
    rw [h2, ← s1]
    exact heap_at_new _ _
  have H2 := Lib.hid h2
  have HB := Lib.hid hB
  have HP1 := Lib.hid hp1
  obtain ⟨q0, _⟩ := one_cell hp0
  obtain ⟨p1, p2, p3, p4⟩ := two_cells hp1
  have hw2 : w2.heap.size = w.heap.size + 1 + 1 := by rw [h2, ← s1]; exact Array.size_push _
  have HW2 := Lib.hid hw2
  clear h2 hB hp0 hp1 s1 hw2
  generalize hn : s.length = n at *
  have HN := Lib.hid hn
  clear hn
  go_enter Tryz.func102, Tryz.ntmps102
  go_wp2
  rw [← H2.out]
  go_loop [6] (fun i => ∃ (k : Nat), k ≤ n ∧ i = .int .i64 k ∧ Hid (∀ (j : Nat) y, j < k → s[j]? = some y → TypeD.named nm y = false)) (fun i => n - (intOf i).toNat)
  case atStart => exact ⟨0, Nat.zero_le _, rfl, fun j _ h => by omega⟩
  case round =>
    obtain ⟨k, hk, rfl, hne⟩ := hrel
    by_cases hlt : k < n
    · have hk' : k < s.length := by rw [HN.out]; exact hlt
      obtain ⟨y, u1, v1, rfl, hc0, hc1, hr1⟩ := row2_below type_below HX.out HB.out k hk'
      have hltz : (k : Int) < (n : Int) := by omega
      have hx : s[k]? = some s[k] := List.getElem?_eq_getElem hk'
      have hq := HS.out _ (List.getElem_mem hk')
      generalize s[k] = x at hx hr1 hq
      have HXE := Lib.hid hx
      clear hx
      have H := l3Type_any w2 x u1 v1 hr1 hq.1 hq.2
      obtain ⟨ta, tc, hu, hv, _⟩ := hr1
      subst hu
      subst hv
      by_cases he : (x.name.toList == nm.toList) = true
      · go_wp2_with fail
        refine H.mono ?_
        rintro e w3 ⟨⟨u2, v2, rfl, ho⟩, hb3⟩
        have ho2 := ho
        obtain ⟨rfl, a2, cap2, rfl, _⟩ := ho2
        have hr3 := (hb3.block (w.heap.size + 1) (by have := HW2.out; omega)).trans HP1.out
        have HR3 := Lib.hid hr3
        obtain ⟨r1, r2, r3, r4⟩ := two_cells hr3
        have HO := Lib.hid ho
        have HB3 : Hid (Below w.heap.size w w3) := HB.out.trans (hb3.mono HB.out.size)
        have HT : Hid (theType s nm = some x) := find_at _ _ k x HXE.out he hne.out
        clear hr3 ho hb3 H he
        go_wp2
        refine bodyPost_ret (results_row_tmp rfl _ _ (w.heap.size + 1) _ _ _ _ rfl (two_set (two_set HR3.out _).1 _).2 Tryz.underlying130 rfl (by kernel_rfl)) rfl ?_
        refine ⟨(HB3.out.setCell (by show _ ≤ w.heap.size + 1; omega) _).setCell (by show _ ≤ w.heap.size + 1; omega) _, .inl ⟨x, _, _, HT.out, rfl, rfl, (HO.out.2.keep keeps_con ?_).wider ?_⟩⟩
        · rintro b ⟨hb1, _⟩
          have := HW2.out
          rw [Below.heap_setCell _ _ _ _ (by show b ≠ w.heap.size + 1; omega), Below.heap_setCell _ _ _ _ (by show b ≠ w.heap.size + 1; omega)]
        · rintro b ⟨hb1, hb2⟩
          have := HW2.out
          exact ⟨by omega, by simpa [World.setCell] using hb2⟩
      · have he2 : (x.name.toList == nm.toList) = false := by simpa using he
        clear he H
        go_wp2
        go_round
        case rel =>
          refine ⟨k + 1, by omega, by go_num, fun j z hj hz => ?_⟩
          rcases Nat.lt_or_ge j k with h3 | h3
          · exact hne.out j z h3 hz
          · obtain rfl : j = k := by omega
            have := HXE.out
            rw [this] at hz
            obtain rfl := Option.some.inj hz
            exact he2
        case measure => simp [intOf]; omega
    · have HT : Hid (theType s nm = none) := find_no _ _ (fun j z hz => hne.out j z (by have := (List.getElem?_eq_some_iff.1 hz).1; have := HN.out; omega) hz)
      go_wp2
      refine bodyPost_ret (results_row_tmp rfl _ _ (w.heap.size + 1) _ _ _ _ rfl (two_set (two_set HP1.out _).1 _).2 Tryz.underlying130 rfl (by kernel_rfl)) rfl ?_
      exact ⟨(HB.out.setCell (by show _ ≤ w.heap.size + 1; omega) _).setCell (by show _ ≤ w.heap.size + 1; omega) _, .inr ⟨HT.out, rfl⟩⟩
end Go.Proofs.YtijbaienhaiamaaGreatDoor
end

/- What is proved here: the signature of the draws (package spec, l3Base), as it lies in memory. No condition. -/
section
namespace Go.Proofs.YtijbaienhaiamaaGreatDoor
open Go.RowKit

def nmInt : ByteArray := ⟨#[105, 110, 116]⟩
def nmText : ByteArray := ⟨#[116, 101, 120, 116]⟩
def nmList : ByteArray := ⟨#[108, 105, 115, 116]⟩
def nmHue : ByteArray := ⟨#[104, 117, 101]⟩
def nmPair : ByteArray := ⟨#[112, 97, 105, 114]⟩
def listD : TypeD := ⟨nmList, [⟨⟨#[78, 105, 108]⟩, []⟩, ⟨⟨#[67, 111, 110, 115]⟩, [nmInt, nmList]⟩]⟩
def hueD : TypeD := ⟨nmHue, [⟨⟨#[82, 101, 100]⟩, []⟩, ⟨⟨#[66, 108, 117, 101]⟩, []⟩, ⟨⟨#[77, 105, 120]⟩, [nmHue, nmHue]⟩]⟩
def pairD : TypeD := ⟨nmPair, [⟨⟨#[80, 97, 105, 114]⟩, [nmHue, nmList]⟩, ⟨⟨#[84, 97, 103]⟩, [nmText, nmInt]⟩]⟩
def baseSig : List TypeD := [listD, hueD, pairD]

/-- Blocks that are made one after the other. -/
def allocs (w : World) : List Obj → World
  | [] => w
  | o :: os => allocs (w.alloc o) os
theorem allocs_below : ∀ (os : List Obj) (w : World), Below w.heap.size w (allocs w os) := by
  intro os
  induction os with
  | nil => intro w; exact Below.refl _ _
  | cons o os ih =>
    intro w
    have h1 : Below w.heap.size w (w.alloc o) := (Below.refl _ _).alloc (Nat.le_refl _) _
    exact h1.trans ((ih (w.alloc o)).mono h1.size)
theorem allocs_at : ∀ (os : List Obj) (w : World) (i : Nat) (o : Obj), os[i]? = some o → (allocs w os).heap[w.heap.size + i]? = some o := by
  intro os
  induction os with
  | nil => intro w i o h; simp at h
  | cons p os ih =>
    intro w i o h
    have hs : (w.alloc p).heap.size = w.heap.size + 1 := Array.size_push _
    cases i with
    | zero =>
      simp at h
      subst h
      show (allocs (w.alloc p) os).heap[w.heap.size + 0]? = _
      rw [Nat.add_zero, (allocs_below os (w.alloc p)).block w.heap.size (by omega)]
      exact heap_at_new w p
    | succ i =>
      have := ih (w.alloc p) i o (by simpa using h)
      rw [hs] at this
      rw [show w.heap.size + (i + 1) = w.heap.size + 1 + i by omega]
      exact this
theorem row2_of {α : Type} {R : World → α → Value → Value → Prop} {w : World} {g : Nat} {T : TypeId} {l : List α} {ps : List (Value × Value)} (h : w.heap[g]? = some (.cells (flat ps).toArray T (0, 0))) (hl : ps.length = l.length) (hR : ∀ (j : Nat) (x : α) (p : Value × Value), l[j]? = some x → ps[j]? = some p → R w x p.1 p.2) : Row2 R w (some ⟨g, 0, none⟩) l := by
  intro j hj
  obtain ⟨p, hp⟩ : ∃ p, ps[j]? = some p := ⟨ps[j]'(by omega), List.getElem?_eq_getElem (by omega)⟩
  have hr := hR j l[j] p (List.getElem?_eq_getElem hj) hp
  have hf := flat_at ps [] j p hp
  rw [List.append_nil] at hf
  have e : (⟨g, 0, none⟩ : Addr).add (j * 2) = ⟨g, j * 2, none⟩ := by simp [Addr.add]; intro h; omega
  refine ⟨_, p.1, p.2, rfl, ?_, ?_, hr⟩
  · rw [e]; simp [World.cell?, h, hf.1]
  · rw [e]; simp [World.cell?, h, hf.2]
theorem con_none (w : World) (nm : ByteArray) : ConAt w ⟨nm, []⟩ (.string nm) (.slice none 0 0) := ⟨none, 0, rfl, rfl, fun j hj => absurd hj (by simp)⟩

/-- The blocks that l3Base makes, the first one block b. -/
def baseObjs (b : Nat) : List Obj := [.cells #[.slice (some ⟨b + 8, 0, none⟩) 3 3] 26, .cells #[.string ⟨#[105, 110, 116]⟩, .string ⟨#[108, 105, 115, 116]⟩] 9, .cells #[.string ⟨#[78, 105, 108]⟩, .slice none 0 0, .string ⟨#[67, 111, 110, 115]⟩, .slice (some ⟨b + 1, 0, none⟩) 2 2] 127, .cells #[.string ⟨#[104, 117, 101]⟩, .string ⟨#[104, 117, 101]⟩] 9, .cells #[.string ⟨#[82, 101, 100]⟩, .slice none 0 0, .string ⟨#[66, 108, 117, 101]⟩, .slice none 0 0, .string ⟨#[77, 105, 120]⟩, .slice (some ⟨b + 3, 0, none⟩) 2 2] 127, .cells #[.string ⟨#[104, 117, 101]⟩, .string ⟨#[108, 105, 115, 116]⟩] 9, .cells #[.string ⟨#[116, 101, 120, 116]⟩, .string ⟨#[105, 110, 116]⟩] 9, .cells #[.string ⟨#[80, 97, 105, 114]⟩, .slice (some ⟨b + 5, 0, none⟩) 2 2, .string ⟨#[84, 97, 103]⟩, .slice (some ⟨b + 6, 0, none⟩) 2 2] 127, .cells #[.string ⟨#[108, 105, 115, 116]⟩, .slice (some ⟨b + 2, 0, none⟩) 2 2, .string ⟨#[104, 117, 101]⟩, .slice (some ⟨b + 4, 0, none⟩) 3 3, .string ⟨#[112, 97, 105, 114]⟩, .slice (some ⟨b + 7, 0, none⟩) 2 2] 130]

theorem base_reads (w : World) : Row2 TypeAt (allocs w (baseObjs w.heap.size)) (some ⟨w.heap.size + 8, 0, none⟩) baseSig := by
  have at_ := fun i o h => allocs_at (baseObjs w.heap.size) w i o h
  generalize allocs w (baseObjs w.heap.size) = w1 at at_
  have t1 := reads_new (xs := [nmInt, nmList]) (at_ 1 _ rfl)
  have t3 := reads_new (xs := [nmHue, nmHue]) (at_ 3 _ rfl)
  have t5 := reads_new (xs := [nmHue, nmList]) (at_ 5 _ rfl)
  have t6 := reads_new (xs := [nmText, nmInt]) (at_ 6 _ rfl)
  have c2 : Row2 ConAt w1 (some ⟨w.heap.size + 2, 0, none⟩) listD.cons := row2_of (ps := [(.string ⟨#[78, 105, 108]⟩, .slice none 0 0), (.string ⟨#[67, 111, 110, 115]⟩, .slice (some ⟨w.heap.size + 1, 0, none⟩) 2 2)]) (at_ 2 _ rfl) rfl (fun j x p hj hp => by
    match j, hj, hp with
    | 0, hj, hp => cases hj; cases hp; exact con_none _ _
    | 1, hj, hp => cases hj; cases hp; exact ⟨_, 2, rfl, rfl, t1⟩)
  have c4 : Row2 ConAt w1 (some ⟨w.heap.size + 4, 0, none⟩) hueD.cons := row2_of (ps := [(.string ⟨#[82, 101, 100]⟩, .slice none 0 0), (.string ⟨#[66, 108, 117, 101]⟩, .slice none 0 0), (.string ⟨#[77, 105, 120]⟩, .slice (some ⟨w.heap.size + 3, 0, none⟩) 2 2)]) (at_ 4 _ rfl) rfl (fun j x p hj hp => by
    match j, hj, hp with
    | 0, hj, hp => cases hj; cases hp; exact con_none _ _
    | 1, hj, hp => cases hj; cases hp; exact con_none _ _
    | 2, hj, hp => cases hj; cases hp; exact ⟨_, 2, rfl, rfl, t3⟩)
  have c7 : Row2 ConAt w1 (some ⟨w.heap.size + 7, 0, none⟩) pairD.cons := row2_of (ps := [(.string ⟨#[80, 97, 105, 114]⟩, .slice (some ⟨w.heap.size + 5, 0, none⟩) 2 2), (.string ⟨#[84, 97, 103]⟩, .slice (some ⟨w.heap.size + 6, 0, none⟩) 2 2)]) (at_ 7 _ rfl) rfl (fun j x p hj hp => by
    match j, hj, hp with
    | 0, hj, hp => cases hj; cases hp; exact ⟨_, 2, rfl, rfl, t5⟩
    | 1, hj, hp => cases hj; cases hp; exact ⟨_, 2, rfl, rfl, t6⟩)
  exact row2_of (ps := [(.string ⟨#[108, 105, 115, 116]⟩, .slice (some ⟨w.heap.size + 2, 0, none⟩) 2 2), (.string ⟨#[104, 117, 101]⟩, .slice (some ⟨w.heap.size + 4, 0, none⟩) 3 3), (.string ⟨#[112, 97, 105, 114]⟩, .slice (some ⟨w.heap.size + 7, 0, none⟩) 2 2)]) (at_ 8 _ rfl) rfl (fun j x p hj hp => by
    match j, hj, hp with
    | 0, hj, hp => cases hj; cases hp; exact ⟨_, 2, rfl, rfl, c2⟩
    | 1, hj, hp => cases hj; cases hp; exact ⟨_, 3, rfl, rfl, c4⟩
    | 2, hj, hp => cases hj; cases hp; exact ⟨_, 2, rfl, rfl, c7⟩)

set_option maxHeartbeats 1000000 in
set_option maxRecDepth 100000 in
theorem l3Base_any (w : World) : Calls Tryz.prog 50 #[] w fun e w' => (∃ a, e = .returned (.agg #[.slice (some a) 3 3]) ∧ Row2 TypeAt w' (some a) baseSig) ∧ Below w.heap.size w w' := by
  have HR := Lib.hid (base_reads w)
  have HB := Lib.hid (allocs_below (baseObjs w.heap.size) w)
  have H0 := Lib.hid (allocs_at (baseObjs w.heap.size) w 0 _ rfl)
  go_enter Tryz.func50, Tryz.ntmps50
  go_wp2
  refine bodyPost_ret (results_cell_row rfl _ _ w.heap.size _ _ _ _ rfl H0.out Tryz.underlying26 rfl (by kernel_rfl)) rfl ?_
  exact ⟨⟨_, rfl, HR.out⟩, HB.out⟩
end Go.Proofs.YtijbaienhaiamaaGreatDoor
end

/- What is proved here: drawn integers and texts (package spec, l4Draw at the types int and text). Condition: the cursor's block holds a cursor. -/
section
namespace Go.Proofs.YtijbaienhaiamaaGreatDoor
open Go.RowKit

def drawInts : List Int := [0, 1, 2, -1, 5, 7]
theorem drawInts_small : ∀ x ∈ drawInts, -1000000000000 ≤ x ∧ x ≤ 1000000000000 := by decide
def drawTexts : List ByteArray := [⟨#[]⟩, ⟨#[97]⟩, ⟨#[98]⟩, ⟨#[97, 98, 99]⟩]
theorem drawTexts_small : ∀ x ∈ drawTexts, x.size ≤ 16 := by
  intro s hs
  simp only [drawTexts, List.mem_cons, List.mem_nil_iff, or_false] at hs
  rcases hs with rfl | rfl | rfl | rfl <;> decide

set_option maxHeartbeats 2000000 in
set_option maxRecDepth 100000 in
theorem draw_int (N : Nat) (d : Int) (w : World) (hc : Cur N w) : Calls Tryz.prog 51 #[.pointer (some ⟨N, 0, none⟩), .string nmInt, .int .i64 d] w (Drawn N 0 w) := by
  have hNw := hc.lt
  obtain ⟨w2, hw2⟩ : ∃ w2, w2 = (w.alloc (.cells #[.int .i64 0, .int .i64 0, .string ⟨#[]⟩, .slice none 0 0] 29)).alloc (.cells (drawInts.map (Value.int .i64)).toArray 3) := ⟨_, rfl⟩
  have hs1 := CurStep.alloc hc (.cells #[.int .i64 0, .int .i64 0, .string ⟨#[]⟩, .slice none 0 0] 29)
  have hs2 := hs1.trans (CurStep.alloc hs1.1 (.cells (drawInts.map (Value.int .i64)).toArray 3))
  have hb := (two_alloc w (.cells #[.int .i64 0, .int .i64 0, .string ⟨#[]⟩, .slice none 0 0] 29) (.cells (drawInts.map (Value.int .i64)).toArray 3))
  rw [← hw2] at hs2 hb
  have H := pick_int N (w.heap.size + 1) drawInts 6 3 w2 hs2.1 hb.2.2.1 (by omega) (by decide) (by decide)
  have HW2 := Lib.hid hw2
  have HS := Lib.hid hs2
  have HR := Lib.hid hb.2.1
  have hz2 := hb.1
  clear hs1 hs2 hb hw2
  unfold nmInt
  go_enter Tryz.func51, Tryz.ntmps51
  go_wp2_with fail
  change Calls _ _ _ ((w.alloc (.cells #[.int .i64 0, .int .i64 0, .string ⟨#[]⟩, .slice none 0 0] 29)).alloc (.cells (drawInts.map (Value.int .i64)).toArray 3)) _
  rw [← HW2.out]
  refine H.mono ?_
  rintro e w3 ⟨x, hx, rfl, hs3⟩
  have hxs := drawInts_small x hx
  have hr3 : w3.heap[w.heap.size]? = some (.cells #[.int .i64 0, .int .i64 0, .string ⟨#[]⟩, .slice none 0 0] 29 (0, 0)) := (hs3.2.block _ (by omega) (fun e => by injection e with e; omega)).trans HR.out
  have HR3 := Lib.hid hr3
  have hst := HS.out.trans hs3
  have HST := Lib.hid hst
  obtain ⟨x0, x1, x2, x3, f0, f1, f2, f3⟩ := four_cells hr3
  have HXS := Lib.hid hxs
  have HNW := Lib.hid hNw
  clear hx hs3 hst hr3 H hxs hz2 hNw
  go_wp2
  refine bodyPost_ret (results_cell_row rfl _ _ w.heap.size _ _ _ _ rfl (four_set (four_set (four_set (four_set HR3.out _).1 _).2.1 _).2.2.1 _).2.2.2 Tryz.underlying29 rfl (by kernel_rfl)) rfl ?_
  have hg : ∀ (W : World) (o : Nat) (u : Value), W.grownBy (W.setCell ⟨w.heap.size, o, none⟩ u) (some w.heap.size) := fun W o u => grown_set W w.heap.size o u
  have hl : ∀ g, some w.heap.size = some g → N < g := fun g e => by injection e with e; have := HNW.out; omega
  have hj : ∀ g, some w.heap.size = some g → g = N ∨ w.heap.size ≤ g := fun g e => by injection e with e; omega
  exact ⟨1, x, ⟨#[]⟩, _, .nil, [], [], rfl, GrowV.nil _ _, Nat.zero_le _, trivial, by decide, HXS.out, by decide,
    ((((HST.out.1.later (hg _ _ _) hl).later (hg _ _ _) hl).later (hg _ _ _) hl).later (hg _ _ _) hl),
    grown_join (grown_join (grown_join (grown_join HST.out.2 (hg _ _ _) hj) (hg _ _ _) hj) (hg _ _ _) hj) (hg _ _ _) hj⟩

set_option maxHeartbeats 2000000 in
set_option maxRecDepth 100000 in
theorem draw_text (N : Nat) (d : Int) (w : World) (hc : Cur N w) : Calls Tryz.prog 51 #[.pointer (some ⟨N, 0, none⟩), .string nmText, .int .i64 d] w (Drawn N 0 w) := by
  have hNw := hc.lt
  obtain ⟨w2, hw2⟩ : ∃ w2, w2 = (w.alloc (.cells #[.int .i64 0, .int .i64 0, .string ⟨#[]⟩, .slice none 0 0] 29)).alloc (.cells (drawTexts.map Value.string).toArray 9) := ⟨_, rfl⟩
  have hs1 := CurStep.alloc hc (.cells #[.int .i64 0, .int .i64 0, .string ⟨#[]⟩, .slice none 0 0] 29)
  have hs2 := hs1.trans (CurStep.alloc hs1.1 (.cells (drawTexts.map Value.string).toArray 9))
  have hb := (two_alloc w (.cells #[.int .i64 0, .int .i64 0, .string ⟨#[]⟩, .slice none 0 0] 29) (.cells (drawTexts.map Value.string).toArray 9))
  rw [← hw2] at hs2 hb
  have H := pick_any N (w.heap.size + 1) drawTexts 4 9 w2 hs2.1 hb.2.2.1 (by omega) (by decide) (by decide)
  have HW2 := Lib.hid hw2
  have HS := Lib.hid hs2
  have HR := Lib.hid hb.2.1
  have hz2 := hb.1
  clear hs1 hs2 hb hw2
  unfold nmText
  go_enter Tryz.func51, Tryz.ntmps51
  go_wp2_with fail
  change Calls _ _ _ ((w.alloc (.cells #[.int .i64 0, .int .i64 0, .string ⟨#[]⟩, .slice none 0 0] 29)).alloc (.cells (drawTexts.map Value.string).toArray 9)) _
  rw [← HW2.out]
  refine H.mono ?_
  rintro e w3 ⟨x, hx, rfl, hs3⟩
  have hxs := drawTexts_small x hx
  have hr3 : w3.heap[w.heap.size]? = some (.cells #[.int .i64 0, .int .i64 0, .string ⟨#[]⟩, .slice none 0 0] 29 (0, 0)) := (hs3.2.block _ (by omega) (fun e => by injection e with e; omega)).trans HR.out
  have HR3 := Lib.hid hr3
  have hst := HS.out.trans hs3
  have HST := Lib.hid hst
  obtain ⟨x0, x1, x2, x3, f0, f1, f2, f3⟩ := four_cells hr3
  have HXS := Lib.hid hxs
  have HNW := Lib.hid hNw
  clear hx hs3 hst hr3 H hxs hz2 hNw
  go_wp2
  refine bodyPost_ret (results_cell_row rfl _ _ w.heap.size _ _ _ _ rfl (four_set (four_set (four_set (four_set HR3.out _).1 _).2.1 _).2.2.1 _).2.2.2 Tryz.underlying29 rfl (by kernel_rfl)) rfl ?_
  have hg : ∀ (W : World) (o : Nat) (u : Value), W.grownBy (W.setCell ⟨w.heap.size, o, none⟩ u) (some w.heap.size) := fun W o u => grown_set W w.heap.size o u
  have hl : ∀ g, some w.heap.size = some g → N < g := fun g e => by injection e with e; have := HNW.out; omega
  have hj : ∀ g, some w.heap.size = some g → g = N ∨ w.heap.size ≤ g := fun g e => by injection e with e; omega
  exact ⟨2, 0, x, _, .nil, [], [], rfl, GrowV.nil _ _, Nat.zero_le _, trivial, by decide, by decide, HXS.out,
    ((((HST.out.1.later (hg _ _ _) hl).later (hg _ _ _) hl).later (hg _ _ _) hl).later (hg _ _ _) hl),
    grown_join (grown_join (grown_join (grown_join HST.out.2 (hg _ _ _) hj) (hg _ _ _) hj) (hg _ _ _) hj) (hg _ _ _) hj⟩
end Go.Proofs.YtijbaienhaiamaaGreatDoor
end

/- What is proved here: drawn bindings (package spec, l7Env). Condition: the cursor's block holds a cursor. -/
section
namespace Go.Proofs.YtijbaienhaiamaaGreatDoor
open Go.RowKit

def envNames : List ByteArray := [⟨#[120]⟩, ⟨#[121]⟩, ⟨#[122]⟩]
theorem envNames_small : ∀ x ∈ envNames, x.size ≤ 16 := by
  intro s hs
  simp only [envNames, List.mem_cons, List.mem_nil_iff, or_false] at hs
  rcases hs with rfl | rfl | rfl <;> decide
def envTypes : List ByteArray := [⟨#[105, 110, 116]⟩, ⟨#[105, 110, 116]⟩, ⟨#[116, 101, 120, 116]⟩]
theorem env_draw (N : Nat) (nm : ByteArray) (h : nm ∈ envTypes) (w : World) (hc : Cur N w) : Calls Tryz.prog 51 #[.pointer (some ⟨N, 0, none⟩), .string nm, .int .i64 1] w (Drawn N 0 w) := by
  simp only [envTypes, List.mem_cons, List.mem_nil_iff, or_false] at h
  rcases h with rfl | rfl | rfl
  · exact draw_int N 1 w hc
  · exact draw_int N 1 w hc
  · exact draw_text N 1 w hc
/-- A small binding without parts. -/
def SmallB (x : BindD) : Prop := x.F = .nil ∧ x.nm.size ≤ 16 ∧ x.t.size ≤ 16 ∧ (-1000000000000 ≤ x.n ∧ x.n ≤ 1000000000000)

set_option maxHeartbeats 4000000 in
set_option maxRecDepth 100000 in
theorem env_any (N : Nat) (w : World) (hc : Cur N w) : Calls Tryz.prog 95 #[.pointer (some ⟨N, 0, none⟩)] w fun e w' => ∃ v env xs, e = .returned v ∧ GrowB w' w.heap.size v env xs ∧ env.length ≤ 3 ∧ (∀ x ∈ env, SmallB x) ∧ CurStep N w w' := by
  have hi : (Tryz.prog.info? 68).map (fun i => (i.zero, i.size, i.bytes)) = some (some (.agg #[.string ⟨#[]⟩, .int .i64 0, .int .i64 0, .string ⟨#[]⟩, .slice none 0 0]), 5, 72) := by kernel_rfl
  obtain ⟨i0, hi, hz0, hz1, hz2⟩ := info_parts hi
  have hNw := hc.lt
  obtain ⟨w1, hw1⟩ : ∃ w1, w1 = w.alloc (.cells #[] 68) := ⟨_, rfl⟩
  have hs1 := CurStep.alloc hc (.cells #[] 68)
  have hg1 := GrowB.lit w (Nat.le_refl w.heap.size)
  rw [← hw1] at hs1 hg1
  have HW1 := Lib.hid hw1
  have HS1 := Lib.hid hs1
  have HG1 := Lib.hid hg1
  have HNW := Lib.hid hNw
  clear hw1 hs1 hg1 hc hNw
  go_enter Tryz.func95, Tryz.ntmps95
  go_wp2_with fail
  rw [← HW1.out]
  refine (below_any N 4 (by omega) (by omega) w1 HS1.out.1).mono ?_
  rintro e w2 ⟨x, x0, x1, rfl, hs2⟩
  obtain ⟨m, rfl⟩ : ∃ m : Nat, x = m := ⟨x.toNat, by omega⟩
  have hm3 : m ≤ 3 := by omega
  have HS2 := Lib.hid (HS1.out.trans hs2)
  have HG2 : Hid (GrowB w2 w.heap.size (.slice (some ⟨w.heap.size, 0, none⟩) 0 0) [] []) := HG1.out.keep (fun b h1 h2 => hs2.2.block b h2 (fun e => by injection e with e; have := HNW.out; omega))
  clear hs2 HS1 HG1 HW1 x0 x1
  go_wp2
  go_loopw [3, 5] (fun o i wr => ∃ (j : Nat) (l : List BindD) (a : Option Addr) (c : Nat) (xs : List Value), i = .int .i64 j ∧ o = .slice a j c ∧ j ≤ m ∧ Hid (l.length = j) ∧ Hid (GrowB wr w.heap.size (.slice a j c) l xs) ∧ Hid (∀ x ∈ l, SmallB x) ∧ Hid (CurStep N w wr)) (fun _ i _ => m - (intOf i).toNat)
  case atStart => exact ⟨0, [], _, 0, [], rfl, rfl, Nat.zero_le _, rfl, HG2, (fun x hx => by cases hx), HS2⟩
  case round =>
    obtain ⟨j, l, a, c, xs, rfl, rfl, hj, hL, hG, hSm, hS⟩ := hrel
    by_cases hlt : j < m
    · have hp1 := hS.out.trans (CurStep.alloc hS.out.1 (.cells (envNames.map Value.string).toArray 9))
      have HP1 := Lib.hid (pick_any N wr.heap.size envNames 3 9 _ hp1.1 (heap_new wr _) (by have := hS.out.size; have := HNW.out; omega) (by decide) (by decide))
      have HA := Lib.hid hp1
      clear hp1
      go_wp2_with fail
      refine HP1.out.mono ?_
      rintro e w3 ⟨nm, hnm, rfl, hs3⟩
      have HS3 := Lib.hid (HA.out.trans hs3)
      have HNM := Lib.hid (envNames_small nm hnm)
      have HB3 : Hid (wr.grownBy w3 (some N)) := (CurStep.alloc hS.out.1 _).2.trans hs3.2
      have hp2 := HS3.out.trans (CurStep.alloc HS3.out.1 (.cells (envTypes.map Value.string).toArray 9))
      have HP2 := Lib.hid (pick_any N w3.heap.size envTypes 3 9 _ hp2.1 (heap_new w3 _) (by have := HS3.out.size; have := HNW.out; omega) (by decide) (by decide))
      have HC := Lib.hid hp2
      clear hp2 hs3 hnm HP1 HA
      go_wp2_with fail
      refine HP2.out.mono ?_
      rintro e w4 ⟨ty, hty, rfl, hs4⟩
      have HS4 := Lib.hid (HC.out.trans hs4)
      have HB4 : Hid (wr.grownBy w4 (some N)) := HB3.out.trans ((CurStep.alloc HS3.out.1 _).2.trans hs4.2)
      have HDR := Lib.hid (env_draw N ty hty w4 HS4.out.1)
      clear hs4 hty HP2 HC HB3 HS3
      go_wp2_with fail
      refine HDR.out.mono ?_
      rintro e w5 ⟨k, n, t, v, F, bs, ys, rfl, hGV, hcn, htm, hk, hn, ht, hs5⟩
      obtain ⟨a2, ca2, rfl⟩ := hGV.form
      have hF : F = .nil := by
        cases F with
        | nil => rfl
        | cons _ _ _ _ _ => simp [Trees.count] at hcn
      subst hF
      simp only [Trees.length]
      have HS5 := Lib.hid (HS4.out.trans hs5)
      have HB5 : Hid (wr.grownBy w5 (some N)) := HB4.out.trans hs5.2
      have HSM : Hid (SmallB ⟨nm, k, n, t, .nil⟩) := ⟨rfl, HNM.out, ht, hn⟩
      have hG5 : GrowB w5 w.heap.size (.slice a j c) l xs := hG.out.keep (fun b h1 h2 => HB5.out.block b h2 (fun e => by injection e with e; have := HNW.out; omega))
      have hal : Below w5.heap.size w5 (w5.alloc (.cells #[.string nm, .int .i64 k, .int .i64 n, .string t, .slice a2 0 ca2] 68)) := (Below.refl _ _).alloc (Nat.le_refl _) _
      have hG6 := hG5.keep (w' := w5.alloc (.cells #[.string nm, .int .i64 k, .int .i64 n, .string t, .slice a2 0 ca2] 68)) (fun b h1 h2 => hal.block b h2)
      have hown6 := hG6.owns
      rw [hL.out] at hown6
      have HO6 := Lib.hid hown6
      have HG5 := Lib.hid hG5
      have HFL := Lib.hid hG6.flat
      have HAL := Lib.hid hal
      have HZ : Hid (w.heap.size ≤ w5.heap.size) := HS5.out.size
      clear hGV hcn htm hk hn ht hs5 hG5 hal hG6 hown6 HDR HS4 HB4 HNM hG
      go_wp2_with (at_builtin; refine wpList_append_lies _ rfl _ _ 61 rfl w.heap.size 68 i0 (.agg #[.string ⟨#[]⟩, .int .i64 0, .int .i64 0, .string ⟨#[]⟩, .slice none 0 0]) 5 72 Tryz.underlying61 hi hz0 hz1 hz2 rfl (by decide) _ _ _ rfl HO6.out ⟨w5.heap.size, 0, none⟩ 1 1 [.string nm, .int .i64 k, .int .i64 n, .string t, .slice a2 0 ca2] rfl rfl (grow_five _ _ _ _ _ _ _) (grow_one5 _ _ _ _ _ _ _) (by decide) (by unfold maxLen; omega) (by omega) (by have := HZ.out; simp; omega) (w5.heap.size + 1) (by simp) ?_)
      intro g9 cap9 w9 hown hgrow hat hlt9
      have hfar := HG5.out.far
      have hG9 : GrowB w9 w.heap.size (.slice (some ⟨g9, 0, none⟩) (j + 1) cap9) (l ++ [⟨nm, k, n, t, .nil⟩]) (xs ++ [.string nm, .int .i64 k, .int .i64 n, .string t, .slice a2 0 ca2]) := ⟨by rw [List.length_append, hL.out]; exact hown, Flat.snoc (x := ⟨nm, k, n, t, .nil⟩) rfl a2 ca2 l xs HFL.out⟩
      have hcur9 : CurStep N w w9 := ⟨(HS5.out.1.later (grown_of_below HAL.out) (fun g e => by cases e)).later hgrow (fun g e => by have := hfar g e; have := HNW.out; omega), grown_join (grown_join HS5.out.2 (grown_of_below HAL.out) (fun g e => by cases e)) hgrow (fun g e => by have := hfar g e; right; omega)⟩
      have HG9 := Lib.hid hG9
      have HS9 := Lib.hid hcur9
      have HL9 : Hid ((l ++ [(⟨nm, k, n, t, .nil⟩ : BindD)]).length = j + 1) := by unfold Hid; rw [List.length_append, hL.out]; rfl
      have HSM9 : Hid (∀ x ∈ l ++ [(⟨nm, k, n, t, .nil⟩ : BindD)], SmallB x) := fun x hx => by
        rcases List.mem_append.1 hx with hx | hx
        · exact hSm.out x hx
        · rw [List.mem_singleton.1 hx]; exact HSM.out
      clear hfar hG9 hcur9 hown hgrow hat hlt9 HFL HO6 HG5 HAL HS5 HB5 HZ hS hSm hL HSM
      go_wp2
      go_roundw
      case rel => exact ⟨j + 1, _, _, _, _, by go_num, rfl, by omega, HL9, HG9, HSM9, HS9⟩
      case measure => simp [intOf]; omega
    · obtain rfl : j = m := by omega
      go_wp2
      go_ret
      exact ⟨_, l, xs, rfl, hG.out, by rw [hL.out]; exact hm3, hSm.out, hS.out⟩
end Go.Proofs.YtijbaienhaiamaaGreatDoor
end

/- What is proved here: the Bool of a proposition. No condition. -/
section
namespace Go.Proofs.YtijbaienhaiamaaGreatDoor
open Go.RowKit

noncomputable def bl (p : Prop) : Bool := @decide p (Classical.propDecidable p)
theorem bl_true {p : Prop} (h : p) : bl p = true := by unfold bl; exact @decide_eq_true _ (Classical.propDecidable p) h
theorem bl_false {p : Prop} (h : ¬ p) : bl p = false := by unfold bl; exact @decide_eq_false _ (Classical.propDecidable p) h
theorem bl_iff {p : Prop} : bl p = true ↔ p := by unfold bl; exact @decide_eq_true_iff _ (Classical.propDecidable p)
theorem bl_not_iff {p : Prop} : bl p = false ↔ ¬ p := by unfold bl; exact @decide_eq_false_iff_not _ (Classical.propDecidable p)
theorem bl_congr {p q : Prop} (h : p ↔ q) : bl p = bl q := by rw [propext h]

end Go.Proofs.YtijbaienhaiamaaGreatDoor
end

/- What is proved here: the program's tests on words (impl: isLowerOrDigit, isWord) and the model's (spec: l2Lower, l2Digit, l2Rest, l1In) say what a word is. Condition: the text's length is a length. -/
section
namespace Go.Proofs.YtijbaienhaiamaaGreatDoor
open Go.RowKit

/-- A lower-case letter or a digit. -/
def Good (c : UInt8) : Prop := (97 ≤ c.toNat ∧ c.toNat ≤ 122) ∨ (48 ≤ c.toNat ∧ c.toNat ≤ 57)
/-- 1 to 8 bytes, the first from lo to hi, the others lower-case letters or digits. -/
def Word (lo hi : Nat) (s : ByteArray) : Prop := 1 ≤ s.size ∧ s.size ≤ 8 ∧ (∀ h : 0 < s.size, lo ≤ s[0].toNat ∧ s[0].toNat ≤ hi) ∧ ∀ j (h : j < s.size), 1 ≤ j → Good s[j]
theorem impl_good (c : UInt8) (w : World) :
    Calls Tryz.prog 203 #[.int .u8 (c.toNat : Int)] w fun e w' => e = .returned (.bool (bl (Good c))) ∧ w = w' := by
  have h0 : 0 ≤ c.toNat := Nat.zero_le _
  have h255 : c.toNat < 256 := c.toNat_lt
  have HG : Hid (bl (Good c) = (decide (97 ≤ (c.toNat : Int)) && decide ((c.toNat : Int) ≤ 122) || decide (48 ≤ (c.toNat : Int)) && decide ((c.toNat : Int) ≤ 57))) := by
    unfold Hid
    by_cases h : Good c
    · rw [bl_true h]
      symm
      unfold Good at h
      simp
      omega
    · rw [bl_false h]
      symm
      unfold Good at h
      simp
      omega
  generalize c.toNat = n at *
  generalize bl (Good c) = b at *
  by_cases h1 : 97 ≤ n
  · have e1 : decide (97 ≤ (n : Int)) = true := by simp; omega
    by_cases h2 : n ≤ 122
    · have e2 : decide ((n : Int) ≤ 122) = true := by simp; omega
      have HB : Hid (b = true) := by unfold Hid; rw [HG.out, e1, e2]; rfl
      go_enter Tryz.func203, Tryz.ntmps203
      go_wp2
      go_ret
      exact ⟨by rw [HB.out]; rfl, rfl⟩
    · have e2 : decide ((n : Int) ≤ 122) = false := by simp; omega
      have e3 : decide (48 ≤ (n : Int)) = true := by simp; omega
      have e4 : decide ((n : Int) ≤ 57) = false := by simp; omega
      have HB : Hid (b = false) := by unfold Hid; rw [HG.out, e1, e2, e3, e4]; rfl
      go_enter Tryz.func203, Tryz.ntmps203
      go_wp2
      go_ret
      exact ⟨by rw [HB.out]; simp, rfl⟩
  · have e1 : decide (97 ≤ (n : Int)) = false := by simp; omega
    by_cases h3 : 48 ≤ n
    · have e3 : decide (48 ≤ (n : Int)) = true := by simp; omega
      have HB : Hid (b = decide ((n : Int) ≤ 57)) := by unfold Hid; rw [HG.out, e1, e3]; simp
      go_enter Tryz.func203, Tryz.ntmps203
      go_wp2
      go_ret
      exact ⟨by rw [HB.out]; rfl, rfl⟩
    · have e3 : decide (48 ≤ (n : Int)) = false := by simp; omega
      have HB : Hid (b = false) := by unfold Hid; rw [HG.out, e1, e3]; simp
      go_enter Tryz.func203, Tryz.ntmps203
      go_wp2
      go_ret
      exact ⟨by rw [HB.out]; rfl, rfl⟩

set_option maxHeartbeats 1000000 in
set_option maxRecDepth 100000 in
theorem impl_word (s : ByteArray) (lo hi : Nat) (hs : s.size ≤ maxLen) (w : World) :
    Calls Tryz.prog 166 #[.string s, .int .u8 (lo : Int), .int .u8 (hi : Int)] w fun e w' => e = .returned (.bool (bl (Word lo hi s))) ∧ Below w.heap.size w w' := by
  unfold maxLen at hs
  by_cases h0 : s.size < 1
  · rw [bl_false (fun h => by have := h.1; omega)]
    go_enter Tryz.func166, Tryz.ntmps166
    go_wp2
    go_ret
    exact ⟨rfl, Below.refl _ _⟩
  · have hp : 0 < s.size := by omega
    by_cases h8 : 8 < s.size
    · rw [bl_false (fun h => by have := h.2.1; omega)]
      go_enter Tryz.func166, Tryz.ntmps166
      go_wp2
      go_ret
      exact ⟨rfl, Below.refl _ _⟩
    · by_cases hl : s[0].toNat < lo
      · rw [bl_false (fun h => by have := (h.2.2.1 hp).1; omega)]
        go_enter Tryz.func166, Tryz.ntmps166
        go_wp2
        go_ret
        exact ⟨rfl, Below.refl _ _⟩
      · by_cases hh : hi < s[0].toNat
        · rw [bl_false (fun h => by have := (h.2.2.1 hp).2; omega)]
          go_enter Tryz.func166, Tryz.ntmps166
          go_wp2
          go_ret
          exact ⟨rfl, Below.refl _ _⟩
        · go_enter Tryz.func166, Tryz.ntmps166
          go_wp2
          go_loopw [7] (fun i wr => ∃ k : Nat, 1 ≤ k ∧ k ≤ s.size ∧ i = .int .i64 k ∧ (∀ j (h : j < s.size), 1 ≤ j → j < k → Good s[j]) ∧ Below w.heap.size w wr) (fun i _ => s.size - (intOf i).toNat)
          case atStart => exact ⟨1, Nat.le_refl _, by omega, rfl, fun j h h1 h2 => by omega, Below.refl _ _⟩
          case round =>
            obtain ⟨k, hk1, hk, rfl, hg, hB⟩ := hrel
            have HG := Lib.hid hg
            clear hg
            by_cases hlt : k < s.size
            · by_cases hgood : Good s[k]
              · have hb := bl_true hgood
                have HC := Lib.hid hgood
                clear hgood
                go_wp2_with fail
                refine (impl_good s[k] _).mono ?_
                rintro e w1 ⟨rfl, rfl⟩
                rw [hb]
                go_wp2
                go_roundw
                case rel =>
                  refine ⟨k + 1, by omega, by omega, by go_num, fun j h h1 h2 => ?_, hB⟩
                  rcases Nat.lt_or_ge j k with h3 | h3
                  · exact HG.out j h h1 h3
                  · obtain rfl : j = k := by omega
                    exact HC.out
                case measure => simp [intOf]; omega
              · have hb := bl_false hgood
                have hR : bl (Word lo hi s) = false := bl_false (fun h => hgood (h.2.2.2 k hlt hk1))
                have HR := Lib.hid hR
                clear hgood hR
                go_wp2_with fail
                refine (impl_good s[k] _).mono ?_
                rintro e w1 ⟨rfl, rfl⟩
                rw [hb]
                go_wp2
                go_ret
                exact ⟨by rw [HR.out]; rfl, hB⟩
            · have hR : bl (Word lo hi s) = true := bl_true ⟨by omega, by omega, fun _ => ⟨by omega, by omega⟩, fun j h h1 => HG.out j h h1 (by omega)⟩
              have HR := Lib.hid hR
              clear hR
              go_wp2
              go_ret
              exact ⟨by rw [HR.out]; rfl, hB⟩

theorem spec_lower (c : UInt8) (w : World) :
    Calls Tryz.prog 172 #[.int .u8 (c.toNat : Int)] w fun e w' => e = .returned (.bool (bl (97 ≤ c.toNat ∧ c.toNat ≤ 122))) ∧ w = w' := by
  have h255 : c.toNat < 256 := c.toNat_lt
  generalize c.toNat = n at *
  by_cases h1 : 97 ≤ n
  · have e1 : decide (97 ≤ (n : Int)) = true := by simp; omega
    have HB : Hid (bl (97 ≤ n ∧ n ≤ 122) = decide ((n : Int) ≤ 122)) := by
      by_cases h2 : n ≤ 122
      · exact (bl_true ⟨h1, h2⟩).trans (by symm; simp; omega)
      · exact (bl_false (fun h => h2 h.2)).trans (by symm; simp; omega)
    go_enter Tryz.func172, Tryz.ntmps172
    go_wp2
    go_ret
    exact ⟨by rw [HB.out]; rfl, rfl⟩
  · have e1 : decide (97 ≤ (n : Int)) = false := by simp; omega
    have HB : Hid (bl (97 ≤ n ∧ n ≤ 122) = false) := bl_false (fun h => h1 h.1)
    go_enter Tryz.func172, Tryz.ntmps172
    go_wp2
    go_ret
    exact ⟨by rw [HB.out]; rfl, rfl⟩

theorem spec_digit (c : UInt8) (w : World) :
    Calls Tryz.prog 173 #[.int .u8 (c.toNat : Int)] w fun e w' => e = .returned (.bool (bl (48 ≤ c.toNat ∧ c.toNat ≤ 57))) ∧ w = w' := by
  have h255 : c.toNat < 256 := c.toNat_lt
  generalize c.toNat = n at *
  by_cases h1 : 48 ≤ n
  · have e1 : decide (48 ≤ (n : Int)) = true := by simp; omega
    have HB : Hid (bl (48 ≤ n ∧ n ≤ 57) = decide ((n : Int) ≤ 57)) := by
      by_cases h2 : n ≤ 57
      · exact (bl_true ⟨h1, h2⟩).trans (by symm; simp; omega)
      · exact (bl_false (fun h => h2 h.2)).trans (by symm; simp; omega)
    go_enter Tryz.func173, Tryz.ntmps173
    go_wp2
    go_ret
    exact ⟨by rw [HB.out]; rfl, rfl⟩
  · have e1 : decide (48 ≤ (n : Int)) = false := by simp; omega
    have HB : Hid (bl (48 ≤ n ∧ n ≤ 57) = false) := bl_false (fun h => h1 h.1)
    go_enter Tryz.func173, Tryz.ntmps173
    go_wp2
    go_ret
    exact ⟨by rw [HB.out]; rfl, rfl⟩

theorem spec_in (n lo hi : Nat) (w : World) :
    Calls Tryz.prog 123 #[.int .i64 (n : Int), .int .i64 (lo : Int), .int .i64 (hi : Int)] w fun e w' => e = .returned (.bool (bl (lo ≤ n ∧ n ≤ hi))) ∧ w = w' := by
  by_cases h1 : lo ≤ n
  · have e1 : decide ((lo : Int) ≤ (n : Int)) = true := by simp; omega
    have HB : Hid (bl (lo ≤ n ∧ n ≤ hi) = decide (n ≤ hi)) := by
      by_cases h2 : n ≤ hi
      · exact (bl_true ⟨h1, h2⟩).trans (by symm; simp; omega)
      · exact (bl_false (fun h => h2 h.2)).trans (by symm; simp; omega)
    go_enter Tryz.func123, Tryz.ntmps123
    go_wp2
    go_ret
    exact ⟨by rw [HB.out]; rfl, rfl⟩
  · have e1 : decide ((lo : Int) ≤ (n : Int)) = false := by simp; omega
    have HB : Hid (bl (lo ≤ n ∧ n ≤ hi) = false) := bl_false (fun h => h1 h.1)
    go_enter Tryz.func123, Tryz.ntmps123
    go_wp2
    go_ret
    exact ⟨by rw [HB.out]; rfl, rfl⟩

/-- What l2Rest asks. -/
def Rest (s : ByteArray) : Prop := 1 ≤ s.size ∧ s.size ≤ 8 ∧ ∀ j (h : j < s.size), 1 ≤ j → Good s[j]

set_option maxHeartbeats 1000000 in
set_option maxRecDepth 100000 in
theorem spec_rest (s : ByteArray) (hs : s.size ≤ maxLen) (w : World) :
    Calls Tryz.prog 175 #[.string s] w fun e w' => e = .returned (.bool (bl (Rest s))) ∧ Below w.heap.size w w' := by
  unfold maxLen at hs
  go_enter Tryz.func175, Tryz.ntmps175
  go_wp2
  go_loopw [3] (fun i wr => ∃ k : Nat, 1 ≤ k ∧ (k ≤ s.size ∨ k = 1) ∧ i = .int .i64 k ∧ (∀ j (h : j < s.size), 1 ≤ j → j < k → Good s[j]) ∧ Below w.heap.size w wr) (fun i _ => s.size - (intOf i).toNat)
  case atStart => exact ⟨1, Nat.le_refl _, .inr rfl, rfl, fun j h h1 h2 => by omega, Below.refl _ _⟩
  case round =>
    obtain ⟨k, hk1, hk, rfl, hg, hB⟩ := hrel
    have HG := Lib.hid hg
    clear hg
    by_cases hlt : k < s.size
    · by_cases hl : 97 ≤ s[k].toNat ∧ s[k].toNat ≤ 122
      · have hb := bl_true hl
        have HC : Hid (Good s[k]) := .inl hl
        clear hl hk
        go_wp2_with fail
        refine (spec_lower s[k] _).mono ?_
        rintro e w1 ⟨rfl, rfl⟩
        rw [hb]
        go_wp2
        go_roundw
        case rel =>
          refine ⟨k + 1, by omega, by omega, by go_num, fun j h h1 h2 => ?_, hB⟩
          rcases Nat.lt_or_ge j k with h3 | h3
          · exact HG.out j h h1 h3
          · obtain rfl : j = k := by omega
            exact HC.out
        case measure => simp [intOf]; omega
      · have hb := bl_false hl
        by_cases hd : 48 ≤ s[k].toNat ∧ s[k].toNat ≤ 57
        · have hb2 := bl_true hd
          have HC : Hid (Good s[k]) := .inr hd
          clear hl hd hk
          go_wp2_with fail
          refine (spec_lower s[k] _).mono ?_
          rintro e w1 ⟨rfl, rfl⟩
          rw [hb]
          go_wp2_with fail
          refine (spec_digit s[k] _).mono ?_
          rintro e w1 ⟨rfl, rfl⟩
          rw [hb2]
          go_wp2
          go_roundw
          case rel =>
            refine ⟨k + 1, by omega, by omega, by go_num, fun j h h1 h2 => ?_, hB⟩
            rcases Nat.lt_or_ge j k with h3 | h3
            · exact HG.out j h h1 h3
            · obtain rfl : j = k := by omega
              exact HC.out
          case measure => simp [intOf]; omega
        · have hb2 := bl_false hd
          have hR : bl (Rest s) = false := bl_false (fun h => by
            rcases h.2.2 k hlt hk1 with h | h
            · exact hl h
            · exact hd h)
          have HR := Lib.hid hR
          clear hl hd hk hR
          go_wp2_with fail
          refine (spec_lower s[k] _).mono ?_
          rintro e w1 ⟨rfl, rfl⟩
          rw [hb]
          go_wp2_with fail
          refine (spec_digit s[k] _).mono ?_
          rintro e w1 ⟨rfl, rfl⟩
          rw [hb2]
          go_wp2
          go_ret
          exact ⟨by rw [HR.out]; rfl, hB⟩
    · have hR : bl (Rest s) = bl (1 ≤ s.size ∧ s.size ≤ 8) := bl_congr ⟨fun h => ⟨h.1, h.2.1⟩, fun h => ⟨h.1, h.2, fun j hj h1 => HG.out j hj h1 (by omega)⟩⟩
      have HR := Lib.hid hR
      clear hR hk
      go_wp2_with fail
      refine (spec_in s.size 1 8 _).mono ?_
      rintro e w1 ⟨rfl, rfl⟩
      go_wp2
      go_ret
      exact ⟨by rw [HR.out]; rfl, hB⟩
end Go.Proofs.YtijbaienhaiamaaGreatDoor
end

/- What is proved here: IsConName, of the program and of the model, says what a constructor's name is. Condition: the text's length is a length. -/
section
namespace Go.Proofs.YtijbaienhaiamaaGreatDoor
open Go.RowKit

set_option maxRecDepth 100000 in
theorem impl_con (s : ByteArray) (hs : s.size ≤ maxLen) (w : World) :
    Calls Tryz.prog 112 #[.string s] w fun e w' => e = .returned (.bool (bl (Word 65 90 s))) ∧ Below w.heap.size w w' := by
  go_enter Tryz.func112, Tryz.ntmps112
  go_wp2_with fail
  refine (impl_word s 65 90 hs _).mono ?_
  rintro e w1 ⟨rfl, hb⟩
  go_wp2
  go_ret
  exact ⟨rfl, hb⟩

theorem empty_of (s : ByteArray) (h : s.size = 0) : s = ⟨#[]⟩ := by
  cases s with | mk d => cases d with | mk l => cases l with | nil => rfl | cons c r => simp [ByteArray.size] at h
theorem ne_empty (s : ByteArray) (h : 0 < s.size) : (s.toList == []) = false := by
  rw [ByteArray.toList_eq]
  have : s.data.toList.length = s.size := rfl
  cases hl : s.data.toList with
  | nil => rw [hl] at this; simp at this; omega
  | cons c r => rfl
theorem bl_empty (s : ByteArray) (h : 0 < s.size) : (s.toList == ByteArray.toList ⟨#[]⟩) = false := by
  rw [Lib.bytes_beq_false_iff]
  intro e
  rw [e] at h
  exact absurd h (by decide)

set_option maxHeartbeats 1000000 in
set_option maxRecDepth 100000 in
theorem spec_con (s : ByteArray) (hs : s.size ≤ maxLen) (w : World) :
    Calls Tryz.prog 118 #[.string s] w fun e w' => e = .returned (.bool (bl (Word 65 90 s))) ∧ Below w.heap.size w w' := by
  by_cases h0 : s.size = 0
  · have HN : Hid (bl (Word 65 90 s) = false) := bl_false (fun h => by have := h.1; omega)
    obtain rfl := empty_of s h0
    go_enter Tryz.func118, Tryz.ntmps118
    go_wp2
    go_ret
    exact ⟨by rw [HN.out]; rfl, Below.refl _ _⟩
  · have hp : 0 < s.size := by omega
    have hne := ne_empty s hp
    have hne2 := bl_empty s hp
    by_cases h1 : 65 ≤ s[0].toNat
    · by_cases h2 : s[0].toNat ≤ 90
      · have HN : Hid (bl (Word 65 90 s) = bl (Rest s)) := bl_congr ⟨fun h => ⟨h.1, h.2.1, h.2.2.2⟩, fun h => ⟨h.1, h.2.1, fun _ => ⟨h1, h2⟩, h.2.2⟩⟩
        go_enter Tryz.func118, Tryz.ntmps118
        go_wp2_with fail
        refine (spec_rest s hs _).mono ?_
        rintro e w1 ⟨rfl, hb⟩
        go_wp2
        go_ret
        exact ⟨by rw [HN.out]; rfl, hb⟩
      · have HN : Hid (bl (Word 65 90 s) = false) := bl_false (fun h => h2 (h.2.2.1 hp).2)
        go_enter Tryz.func118, Tryz.ntmps118
        go_wp2
        go_ret
        exact ⟨by rw [HN.out]; rfl, Below.refl _ _⟩
    · have HN : Hid (bl (Word 65 90 s) = false) := bl_false (fun h => h1 (h.2.2.1 hp).1)
      go_enter Tryz.func118, Tryz.ntmps118
      go_wp2
      go_ret
      exact ⟨by rw [HN.out]; rfl, Below.refl _ _⟩
end Go.Proofs.YtijbaienhaiamaaGreatDoor
end
