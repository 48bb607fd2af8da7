
/- Places of a log that tell elder epochs; rows of recs that stay while blocks beside the device turn; whether a block of noughts is opened. No conditions but those that each line states. -/
import Derived.Test.YtkpkipjelpedeaaDoorXRing
import Derived.Test.YtkpkipjelpedeaaDoorXFair
namespace Go.Proofs.YtkpkipjelpedeaaDoor
open Go.RowKit
set_option maxRecDepth 20000

/-- Each place tells nothing, or an epoch whose number leaves less than i by 16. -/
def Stale (key : List Int) (D : DS) (b sz : Nat) (i : Nat) : Prop := ∀ j, j < sz → txtR key D b j = [] ∨ ∃ e zs, txtR key D b j = headR e (j : Int) ++ zs ∧ (0 ≤ e ∧ e < 18446744073709551616) ∧ e % 16 < (i : Int)
theorem Stale.mono {key : List Int} {D : DS} {b sz i i' : Nat} (h : Stale key D b sz i) (hi : i ≤ i') : Stale key D b sz i' := fun j hj => by
  rcases h j hj with h1 | ⟨e, zs, h1, h2, h3⟩
  · exact .inl h1
  · exact .inr ⟨e, zs, h1, h2, by omega⟩
theorem Stale.same {key : List Int} {D D' : DS} {b sz i : Nat} (h : Stale key D b sz i) (ha : ∀ j, D'.at_ j = D.at_ j) : Stale key D' b sz i := fun j hj => by
  have e1 : txtR key D' b j = txtR key D b j := by unfold txtR; rw [ha]
  rw [e1]
  exact h j hj
theorem Stale.log {key : List Int} {D : DS} {b sz i : Nat} {e : Int} (h : Stale key D b sz i) (he : 0 ≤ e ∧ e < 18446744073709551616) (hi : (i : Int) ≤ e % 16) (hsz : sz ≤ 100000) : Logd key D b sz e [] := Logd.start fun j hj => by
  rcases h j hj with h1 | ⟨e', zs, h1, h2, h3⟩
  · rw [h1]; exact okR_nil _ _
  · rw [h1]
    exact okR_other zs he h2 (by omega) (by omega) (fun h4 => by rw [h4.1] at h3; omega)
theorem Stale.add {key : List Int} {D D' : DS} {b sz i c : Nat} {e bt sq : Int} {r : List Int} {m : Nat} (h : Stale key D b sz i) (S : Stands D D' (b + c) (sealL key bt sq (headR e (c : Int) ++ r) m)) (hb : 0 ≤ bt ∧ bt < 4294967296) (hs : 0 ≤ sq ∧ sq < 18446744073709551616) (hr : IsBytes r) (hl : r.length + 12 ≤ m) (hm : m ≤ 60000) (he : 0 ≤ e ∧ e < 18446744073709551616) (hi : e % 16 < (i : Int)) : Stale key D' b sz i := fun j hj => by
  by_cases hjc : j = c
  · subst hjc
    refine .inr ⟨e, r, txt_sealed (by rw [S.at_, if_pos rfl]) hb hs ((headR_bytes _ _).append hr) (by rw [List.length_append, headR_length]; omega) hm, he, hi⟩
  · have e1 : txtR key D' b j = txtR key D b j := by unfold txtR; rw [S.at_, if_neg (by omega)]
    rw [e1]
    exact h j hj
/-- Of another epoch nothing is loaded. -/
theorem Logd.other {key : List Int} {D : DS} {b sz : Nat} {e e' : Int} {rs : List (List Int)} (h : Logd key D b sz e rs) (hn : 0 < rs.length) (he : 0 ≤ e ∧ e < 18446744073709551616) (he' : 0 ≤ e' ∧ e' < 18446744073709551616) (hne : e ≠ e') : loadL (txtR key D b) e' sz = [] := loadL_none sz fun _ => by
  have h0 := h.ok 0 hn
  rw [h0]
  exact okR_other _ he' he (by omega) (by omega) (fun h4 => hne h4.1)

/-! ### Rows of recs beside a device, and beside a block that turns with it -/
section
variable {base i : Nat} {Z Z' : Own} {W W' : World} {a : Option Addr} {n cap : Nat} {l : List BV}
theorem Recs.low (h : Recs base Z W a n cap l) (hi : i < base) : ∀ g, a = some ⟨g, 0, none⟩ → g ≠ i := fun g hg e => by
  rcases h.own.place with h3 | ⟨g', h3, h4, _⟩
  · rw [h3] at hg; cases hg
  · rw [h3] at hg; cases hg; omega
theorem Recs.high (h : Recs base Z W a n cap l) (hi : W.heap.size ≤ i) : ∀ g, a = some ⟨g, 0, none⟩ → g ≠ i := fun g hg e => by
  rcases h.own.place with h3 | ⟨g', h3, _, h4⟩
  · rw [h3] at hg; cases hg
  · rw [h3] at hg; cases hg; omega
theorem Recs.also (h : Recs base Z W a n cap l) (h1 : ∀ g, a = some ⟨g, 0, none⟩ → g ≠ i) (h2 : ∀ x ∈ l, 0 < x.len → ∀ p, x.a = some p → p.block ≠ i) : Recs base (Z.also i) W a n cap l :=
  ⟨h.own, fun g hg hs => hs.elim (h.aside g hg) (h1 g hg), fun x hx => ⟨(h.item x hx).bs, fun h0 p hp => ⟨((h.item x hx).out h0 p hp).1, fun hs => hs.elim ((h.item x hx).out h0 p hp).2 (h2 x hx h0 p hp)⟩⟩, h.apart⟩
theorem Recs.un (h : Recs base (Z.also i) W a n cap l) : Recs base Z W a n cap l :=
  ⟨h.own, fun g hg hs => h.aside g hg (.inl hs), fun x hx => ⟨(h.item x hx).bs, fun h0 p hp => ⟨((h.item x hx).out h0 p hp).1, fun hs => ((h.item x hx).out h0 p hp).2 (.inl hs)⟩⟩, h.apart⟩
theorem Recs.beside (h : Recs base Z W a n cap l) (s : Step (Z.also i) W (Z'.also i) W') (h1 : ∀ g, a = some ⟨g, 0, none⟩ → g ≠ i) (h2 : ∀ x ∈ l, 0 < x.len → ∀ p, x.a = some p → p.block ≠ i) : Recs base Z' W' a n cap l := ((h.also h1 h2).step s).un
theorem Recs.beside2 {j : Nat} (h : Recs base Z W a n cap l) (s : Step ((Z.also i).also j) W ((Z'.also i).also j) W') (h1 : ∀ g, a = some ⟨g, 0, none⟩ → g ≠ i) (h2 : ∀ x ∈ l, 0 < x.len → ∀ p, x.a = some p → p.block ≠ i) (h3 : ∀ g, a = some ⟨g, 0, none⟩ → g ≠ j) (h4 : ∀ x ∈ l, 0 < x.len → ∀ p, x.a = some p → p.block ≠ j) : Recs base Z' W' a n cap l :=
  ((((h.also h1 h2).also h3 h4).step s).un).un
end
/-- Where what is in a slice of bytes was there in w, its block was. -/
theorem bs_old {w : World} {x : BV} (h : Bs w x.a x.len x.cap x.zs) (h0 : 0 < x.len) {p : Addr} (hp : x.a = some p) : p.block < w.heap.size := by
  rcases h.place with h1 | ⟨b, off, e, hc⟩
  · have := h.le_cap; omega
  · rw [e] at hp
    cases hp
    exact World.block_lt_of_cell? w _ (hc 0 h0)

/-! ### Blank, by the law's own name -/
theorem lblank_any (key : List Int) (w : World) (hk : IsBytes key) (hkl : key.length = 32) (hq : Glob w) :
    Calls Tryd.prog 22 #[.agg (bV key)] w fun e w' => e = .returned (.bool (openB key (zL 80))) ∧ Below w.heap.size w w' := by
  have hS := KK.start w key hq
  generalize hB : openB key (zL 80) = B
  have hA := hide (blank_any key 80 (w.alloc (Obj.cells (bV key) 27)) hk hkl (by omega) hS.gl)
  rw [hB] at hA
  have kk1 := hS.kk
  have hbl := hS.bel
  clear hS
  go_enter Tryd.func22, Tryd.ntmps22
  go_wp2_with (refine wpList_loadA arrT32 (by rfl) _ (by rfl) w.heap.size (by rfl) (bV key) kk1 (by rw [bV_size, hkl]) ?_)
  refine hA.out.mono ?_
  rintro e W1 ⟨rfl, b1⟩
  have hb2 := hbl.trans (b1.mono hbl.size)
  clear hA kk1
  go_wp2_with fail
  go_ret
  exact ⟨rfl, hb2⟩
#print axioms Logd.other
#print axioms lblank_any
end Go.Proofs.YtkpkipjelpedeaaDoor
