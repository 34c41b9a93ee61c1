import Derived.Test.YtiiapfkcmdkkoaaGreatDoorQ32
import Derived.Laws.IdiomStrings
/-
  The document's own reader: small.
-/
namespace Go.Proofs.YtiiapfkcmdkkoaaGreatDoor
open Go.RowKit

def smallC (c : UInt8) : UInt8 := if isCapB c.toNat then c + 32 else c
def smallL (l : List UInt8) : List UInt8 := l.map smallC

/-- A block that []byte(s) laid. -/
def Bw (w : World) (B : Nat) (l : List UInt8) : Prop := ∃ C : Array Value, w.heap[B]? = some (.cells C 5 (C.size, C.size + 1)) ∧ l.length ≤ C.size ∧ ∀ j (h : j < l.length), C[j]? = some (.int .u8 (l[j].toNat : Int))
theorem Bw.cell {w : World} {B : Nat} {l : List UInt8} (h : Bw w B l) (j : Nat) (hj : j < l.length) : w.cell? ⟨B, j, none⟩ = some (.int .u8 (l[j].toNat : Int)) ∧ w.frozen? ⟨B, j, none⟩ = false := by
  obtain ⟨C, h1, h2, h3⟩ := h
  refine ⟨(cell_of_heap h1 j).trans (h3 j hj), ?_⟩
  simp [World.frozen?, h1]
  omega
theorem Bw.set {w : World} {B : Nat} {l : List UInt8} (h : Bw w B l) (j : Nat) (c : UInt8) : Bw (w.setCell ⟨B, j, none⟩ (.int .u8 (c.toNat : Int))) B (l.set j c) := by
  obtain ⟨C, h1, h2, h3⟩ := h
  refine ⟨C.setIfInBounds j (.int .u8 (c.toNat : Int)), ?_, by simpa using h2, fun i hi => ?_⟩
  · have := heap_setCell h1 j (.int .u8 (c.toNat : Int))
    simpa using this
  · rw [List.length_set] at hi
    rw [Array.getElem?_setIfInBounds]
    by_cases hij : j = i
    · subst hij
      rw [if_pos rfl, if_pos (by omega)]
      simp
    · rw [if_neg hij]
      rw [h3 i hi]
      simp [List.getElem_set_ne hij]
theorem Bw.keep {w w' : World} {B : Nat} {l : List UInt8} (h : Bw w B l) (hu : Upd (fun _ => False) w w') : Bw w' B l := by
  obtain ⟨C, h1, h2, h3⟩ := h
  exact ⟨C, hu.keep h1 (fun h => h), h2, h3⟩
theorem Bw.new (w : World) (s : ByteArray) (cap : Nat) : Bw (w.drew.alloc (.cells (bytesRow s cap) 5 ((bytesRow s cap).size, (bytesRow s cap).size + 1))) w.heap.size s.data.toList := by
  have hs : s.data.toList.length = s.data.size := Array.length_toList
  refine ⟨bytesRow s cap, heap_alloc_new w.drew _, ?_, fun j hj => ?_⟩
  · rw [hs]
    unfold bytesRow
    simp only [Array.size_append, Array.size_map]
    omega
  · have hj' : j < s.data.size := by rw [← hs]; exact hj
    unfold bytesRow
    rw [Array.getElem?_append_left (by simpa using hj'), Array.getElem?_map, Array.getElem?_eq_getElem hj']
    rfl
theorem Bw.str {w : World} {B cap : Nat} {l : List UInt8} (h : Bw w B l) : (convert 70 9 (.slice (some ⟨B, 0, none⟩) l.length cap)).run Tryz.prog w = .ok (.string ⟨l.toArray⟩) w := by
  refine run_convert_bytes_back (P := Tryz.prog) w 70 9 5 ⟨B, 0, none⟩ cap l Tryz.und70 Tryz.und5 Tryz.und9 ?_
  intro j hj
  have := (h.cell j hj).1
  rw [Go.WideShapes.add_plain]
  simpa using this

/-- Behind k rounds. -/
def smallK (l : List UInt8) (k : Nat) : List UInt8 := (l.take k).map smallC ++ l.drop k
theorem smallK_len (l : List UInt8) (k : Nat) : (smallK l k).length = l.length := by unfold smallK; simp; omega
theorem smallK_get (l : List UInt8) (k : Nat) (hk : k < l.length) : (smallK l k)[k]'(by rw [smallK_len]; exact hk) = l[k] := by
  unfold smallK
  rw [List.getElem_append_right (by simp; omega)]
  simp [List.length_take, Nat.min_eq_left (Nat.le_of_lt hk)]
theorem smallK_succ (l : List UInt8) (k : Nat) (hk : k < l.length) : smallK l (k + 1) = (smallK l k).set k (smallC l[k]) := by
  unfold smallK
  rw [List.take_succ_eq_append_getElem hk, List.map_append, List.drop_eq_getElem_cons hk, List.set_append, if_neg (by simp; omega)]
  have e : k - (List.map smallC (List.take k l)).length = 0 := by simp; omega
  rw [e, List.append_assoc]
  rfl
theorem smallK_same (l : List UInt8) (k : Nat) (hk : k < l.length) (h : isCapB l[k].toNat = false) : smallK l (k + 1) = smallK l k := by
  rw [smallK_succ l k hk]
  have : smallC l[k] = l[k] := by unfold smallC; rw [h]; rfl
  rw [this, ← smallK_get l k hk]
  exact List.set_getElem_self (by rw [smallK_len]; exact hk)
theorem smallK_full (l : List UInt8) : smallK l l.length = smallL l := by unfold smallK smallL; simp

set_option maxHeartbeats 1600000 in
set_option maxRecDepth 100000 in
theorem small_any (s : ByteArray) (w : World) (hs : s.size ≤ 100000000) : Calls Tryz.prog 46 #[.string s] w fun e w' => e = .returned (.string ⟨(smallL s.data.toList).toArray⟩) ∧ Upd (fun _ => False) w w' := by
  have hconv := run_bytes_of_string (P := Tryz.prog) w 9 70 5 s Tryz.und9 Tryz.und70 Tryz.und5
  have HB := hid (Bw.new w s (grownCap w s.size 0 5))
  have HU : Hid (Upd (fun _ => False) w (w.drew.alloc (.cells (bytesRow s (grownCap w s.size 0 5)) 5 ((bytesRow s (grownCap w s.size 0 5)).size, (bytesRow s (grownCap w s.size 0 5)).size + 1)))) := ((Upd.refl _ w).drew).alloc _
  have hsz : s.data.toList.length = s.size := size_list s
  have HZ := hid hsz
  clear hsz
  generalize hW : w.drew.alloc (.cells (bytesRow s (grownCap w s.size 0 5)) 5 ((bytesRow s (grownCap w s.size 0 5)).size, (bytesRow s (grownCap w s.size 0 5)).size + 1)) = W at *
  clear hW
  have hcap : s.size ≤ grownCap w s.size 0 5 := grownCap_ge w s.size 0 5
  generalize grownCap w s.size 0 5 = cap at *
  go_enter Tryz.func46, Tryz.ntmps46
  go_wp2_with fail
  have HSm := hid (smallK_full s.data.toList)
  generalize hl : s.data.toList = l at *
  have HLd := hid hl
  clear hl
  have hzl : l.length = s.size := HZ.out
  go_loopw [4] (fun iv wr => ∃ k : Nat, iv = .int .i64 k ∧ k ≤ l.length ∧ Hid (Bw wr w.heap.size (smallK l k) ∧ Upd (fun _ => False) w wr)) (fun iv _ => l.length - (intOf iv).toNat)
  case atStart => exact ⟨0, rfl, Nat.zero_le _, HB.out, HU.out⟩
  case round =>
    obtain ⟨k, rfl, hk, hx⟩ := hrel
    clear HB HU
    by_cases hlt : k < l.length
    · have hc := hx.out.1.cell k (by rw [smallK_len]; exact hlt)
      rw [smallK_get l k hlt] at hc
      obtain ⟨hc1, hc2⟩ := hc
      have HSet := hid (smallK_succ l k hlt)
      have HSame := hid (smallK_same l k hlt)
      have h256 : (l[k].toNat : Int) < 256 := by have := l[k].toNat_lt; omega
      cases hcap2 : isCapB (l[k].toNat : Int)
      · have HE : Hid (Bw wr w.heap.size (smallK l (k + 1)) ∧ Upd (fun _ => False) w wr) := by show _ ∧ _; rw [HSame.out hcap2]; exact hx.out
        have hn : ¬ (65 ≤ (l[k].toNat : Int) ∧ (l[k].toNat : Int) ≤ 90) := by
          unfold isCapB at hcap2
          simpa using hcap2
        clear hx HSet HSame hcap2
        generalize l[k] = c at *
        by_cases h65 : 65 ≤ (c.toNat : Int)
        · have h90 : ¬ (c.toNat : Int) ≤ 90 := fun h => hn ⟨h65, h⟩
          clear hn
          go_wp2
          exact ⟨⟨k + 1, by go_num, by omega, HE⟩, by simp [intOf]; omega⟩
        · clear hn
          go_wp2
          exact ⟨⟨k + 1, by go_num, by omega, HE⟩, by simp [intOf]; omega⟩
      · have hy : 65 ≤ (l[k].toNat : Int) ∧ (l[k].toNat : Int) ≤ 90 := by
          unfold isCapB at hcap2
          simpa using hcap2
        have hsc : ((smallC l[k]).toNat : Int) = (l[k].toNat : Int) + 32 := by
          unfold smallC
          rw [hcap2]
          simp only [if_true]
          have : (l[k] + 32).toNat = l[k].toNat + 32 := by
            rw [UInt8.toNat_add]
            have h32 : (32 : UInt8).toNat = 32 := rfl
            rw [h32, Nat.mod_eq_of_lt (by omega)]
          omega
        have HE : Hid (Bw (wr.setCell ⟨w.heap.size, k, none⟩ (.int .u8 ((l[k].toNat : Int) + 32))) w.heap.size (smallK l (k + 1)) ∧ Upd (fun _ => False) w (wr.setCell ⟨w.heap.size, k, none⟩ (.int .u8 ((l[k].toNat : Int) + 32)))) := by
          refine ⟨?_, hx.out.2.setCell (p := ⟨w.heap.size, k, none⟩) (fun h => absurd h (Nat.lt_irrefl _)) _⟩
          rw [HSet.out, ← hsc]
          exact hx.out.1.set k (smallC l[k])
        obtain ⟨hy1, hy2⟩ := hy
        clear hx HSet HSame hcap2 hsc
        generalize l[k] = c at *
        go_wp2
        all_goals first
          | exact ⟨⟨k + 1, by go_num, by omega, HE⟩, by simp [intOf]; omega⟩
          | (exfalso; omega)
    · obtain rfl : k = l.length := by omega
      have hst := hx.out.1.str (cap := cap)
      rw [smallK_len, HSm.out, hzl] at hst
      rw [hzl] at *
      have HE := hid hx.out.2
      clear hx
      go_wp2
      go_ret
      exact ⟨by rw [HLd.out]; rfl, HE.out⟩

end Go.Proofs.YtiiapfkcmdkkoaaGreatDoor

/-
  The document's own reader: trimmed.
-/
namespace Go.Proofs.YtiiapfkcmdkkoaaGreatDoor
open Go.RowKit

def isSp (c : UInt8) : Bool := decide ((c.toNat : Int) = 32) || decide ((c.toNat : Int) = 9)
/-- Blanks off the end. -/
def rtrim : List UInt8 → List UInt8
  | [] => []
  | c :: l => if (c :: l).all isSp then [] else c :: rtrim l
theorem rtrim_snoc (l : List UInt8) (c : UInt8) : rtrim (l ++ [c]) = if isSp c then rtrim l else l ++ [c] := by
  induction l with
  | nil => cases h : isSp c <;> simp [rtrim, h]
  | cons b l ih =>
    simp only [List.cons_append, rtrim]
    cases h : isSp c
    · have : (b :: (l ++ [c])).all isSp = false := by simp [h]
      rw [this, ih, h]
      simp
    · rw [ih, h]
      have : (b :: (l ++ [c])).all isSp = (b :: l).all isSp := by simp [h]
      rw [this]
      simp
theorem rtrim_nil : rtrim [] = [] := rfl
def trimR (l : List UInt8) : List UInt8 := rtrim (l.dropWhile isSp)

theorem tail_ext (c : UInt8) (r : List UInt8) (n : Nat) (hn : n = r.length + 1) : (⟨(c :: r).toArray⟩ : ByteArray).extract 1 n = ⟨r.toArray⟩ := by
  apply ByteArray.ext
  apply Array.ext'
  simp only [ByteArray.data_extract, Array.toList_extract]
  rw [List.extract_eq_take_drop, hn]
  simp
theorem init_ext (r : List UInt8) (c : UInt8) (n : Nat) (hn : n = r.length) : (⟨(r ++ [c]).toArray⟩ : ByteArray).extract 0 n = ⟨r.toArray⟩ := by
  apply ByteArray.ext
  apply Array.ext'
  simp only [ByteArray.data_extract, Array.toList_extract]
  rw [List.extract_eq_take_drop, hn]
  simp

set_option maxHeartbeats 1600000 in
set_option maxRecDepth 100000 in
theorem trimmed_any (l : List UInt8) (w : World) (hs : l.length ≤ 100000000) : Calls Tryz.prog 65 #[.string ⟨l.toArray⟩] w fun e w' => e = .returned (.string ⟨(trimR l).toArray⟩) ∧ w' = w := by
  have HTr : Hid (trimR l = rtrim (l.dropWhile isSp)) := rfl
  rw [HTr.out]
  clear HTr
  go_enter Tryz.func65, Tryz.ntmps65
  go_wp2_with fail
  go_loopg [0] l.length (fun gn sv wr => ∃ l1 : List UInt8, sv = .string ⟨l1.toArray⟩ ∧ l1.length = gn ∧ l1.length ≤ 100000000 ∧ Hid (l1.dropWhile isSp = l.dropWhile isSp) ∧ Hid (wr = w))
  case atStart => exact ⟨l, rfl, rfl, hs, rfl, rfl⟩
  case round =>
    obtain ⟨l1, rfl, hgn, hl1, hx, hw⟩ := hrel
    obtain rfl := hw.out
    have HG := hid hgn
    clear hgn hw
    have hsz : (⟨l1.toArray⟩ : ByteArray).size = l1.length := by show l1.toArray.size = _; simp
    by_cases hgo : ∃ c r, l1 = c :: r ∧ isSp c = true
    · obtain ⟨c, r, hl, hc⟩ := hgo
      have hix : ∀ hh, (⟨l1.toArray⟩ : ByteArray)[0]'hh = c := by subst hl; intro hh; rfl
      have hex : (⟨l1.toArray⟩ : ByteArray).extract 1 l1.length = ⟨r.toArray⟩ := by subst hl; exact tail_ext c r _ rfl
      have hlen : l1.length = r.length + 1 := by subst hl; rfl
      rw [hlen] at hex
      have HX : Hid (r.dropWhile isSp = l.dropWhile isSp) := by
        have := hx.out
        rw [hl, List.dropWhile_cons, if_pos hc] at this
        exact this
      have hc' : (c.toNat : Int) = 32 ∨ (c.toNat : Int) = 9 := by unfold isSp at hc; simpa using hc
      clear hl hc hx
      rcases hc' with h1 | h1
      all_goals
        go_wp2
        go_roundg r.length
        case measure => have := HG.out; omega
        case rel => exact ⟨r, rfl, rfl, by omega, HX, rfl⟩
    · have HD : Hid (l1 = l.dropWhile isSp) := by
        show _ = _
        rw [← hx.out]
        cases l1 with
        | nil => rfl
        | cons c r =>
          rw [List.dropWhile_cons]
          cases hc : isSp c
          · rfl
          · exact absurd ⟨c, r, rfl, hc⟩ hgo
      have hcase : l1.length = 0 ∨ ∃ c : UInt8, (0 < l1.length ∧ (∀ hh, (⟨l1.toArray⟩ : ByteArray)[0]'hh = c)) ∧ ((c.toNat : Int) == 32) = false ∧ ((c.toNat : Int) == 9) = false := by
        cases l1 with
        | nil => exact Or.inl rfl
        | cons c r =>
          refine Or.inr ⟨c, ⟨by simp, fun hh => rfl⟩, ?_⟩
          cases hc : isSp c
          · unfold isSp at hc
            simpa using hc
          · exact absurd ⟨c, r, rfl, hc⟩ hgo
      clear hgo hx
      rcases hcase with h0 | ⟨c0, ⟨h0, hix⟩, hn1, hn2⟩
      all_goals
        go_wp2_with fail
        go_loopg [0] l1.length (fun gn sv wi => ∃ l2 : List UInt8, sv = .string ⟨l2.toArray⟩ ∧ Hid (l2.length = gn) ∧ l2.length ≤ 100000000 ∧ Hid (rtrim l2 = rtrim (l.dropWhile isSp)) ∧ Hid (wi = wr))
        case atStart => exact ⟨l1, rfl, rfl, hl1, by show rtrim l1 = _; rw [← HD.out], rfl⟩
        case round =>
          obtain ⟨l2, rfl, HG2, hl2, hy, hw2⟩ := hrel
          obtain rfl := hw2.out
          clear hw2
          clear h0
          have hsz2 : (⟨l2.toArray⟩ : ByteArray).size = l2.length := by show l2.toArray.size = _; simp
          rcases List.eq_nil_or_concat l2 with hn | ⟨r, c, hcr⟩
          · have hl0 : l2.length = 0 := by rw [hn]; rfl
            have HE : Hid (l2 = rtrim (l.dropWhile isSp)) := by
              show _ = _
              rw [← hy.out, hn]
              rfl
            clear hn hy
            go_wp2
            go_ret
            exact ⟨by rw [← HE.out]; rfl, rfl⟩
          · rw [List.concat_eq_append] at hcr
            have hlr : l2.length = r.length + 1 := by rw [hcr]; simp
            have hix2 : ∀ hh, (⟨l2.toArray⟩ : ByteArray)[r.length]'hh = c := by
              subst hcr
              intro hh
              show (r ++ [c]).toArray[r.length]'hh = c
              simp
            have hex2 : (⟨l2.toArray⟩ : ByteArray).extract 0 r.length = ⟨r.toArray⟩ := by subst hcr; exact init_ext r c _ rfl
            have hr1 : (l2.length : Int) - 1 = (r.length : Int) := by omega
            cases hc : isSp c
            · have HE : Hid (l2 = rtrim (l.dropWhile isSp)) := by
                show _ = _
                rw [← hy.out, hcr, rtrim_snoc, hc]
                rfl
              have hc1 : ¬ (c.toNat : Int) = 32 ∧ ¬ (c.toNat : Int) = 9 := by unfold isSp at hc; simpa using hc
              have hb1 : ((c.toNat : Int) == 32) = false := by simpa using hc1.1
              have hb2 : ((c.toNat : Int) == 9) = false := by simpa using hc1.2
              clear hc1
              clear hcr hy hc
              go_wp2
              go_ret
              exact ⟨by rw [← HE.out]; rfl, rfl⟩
            · have HE : Hid (rtrim r = rtrim (l.dropWhile isSp)) := by
                show _ = _
                rw [← hy.out, hcr, rtrim_snoc, hc]
                rfl
              have hc' : (c.toNat : Int) = 32 ∨ (c.toNat : Int) = 9 := by unfold isSp at hc; simpa using hc
              clear hcr hy hc
              rcases hc' with h1 | h1
              all_goals
                go_wp2
                go_roundg r.length
                case measure => have := HG2.out; omega
                case rel => exact ⟨r, rfl, rfl, by omega, HE, rfl⟩

end Go.Proofs.YtiiapfkcmdkkoaaGreatDoor
