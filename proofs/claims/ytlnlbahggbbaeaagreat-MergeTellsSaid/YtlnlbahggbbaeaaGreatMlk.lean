/- Are rows in order? The walk. -/
import Derived.Test.YtlnlbahggbbaeaaGreatMlc
namespace Go.Proofs.YtlnlbahggbbaeaaGreat.Mrg
open Go.RowKit Go.Lib Go.Proofs.YtlnlbahggbbaeaaGreat Go.Proofs.YtlnlbahggbbaeaaGreat.Vec Go.Proofs.YtlnlbahggbbaeaaGreat.Stb

/-- Does no row come ahead of the one ahead of it? -/
def inO (by_ : Int) : List Rw → Bool
  | [] => true
  | [_] => true
  | x :: y :: r => !lessR by_ y x && inO by_ (y :: r)
theorem inO_srt {by_ : Int} : ∀ {l : List Rw}, Srt (lessR by_) l → inO by_ l = true
  | [], _ => rfl
  | [_], _ => rfl
  | x :: y :: r, h => by
    rw [inO, (List.pairwise_cons.1 h).1 y List.mem_cons_self, inO_srt (List.pairwise_cons.1 h).2]; rfl
theorem inO_drop {by_ : Int} {xs : List Rw} {n : Nat} (hn : xs.length = n) {k : Nat} (h : n ≤ k + 1) : inO by_ (xs.drop k) = true := by
  have : (xs.drop k).length ≤ 1 := by rw [List.length_drop]; omega
  cases hx : xs.drop k with
  | nil => rfl
  | cons x t =>
    rw [hx] at this
    cases t with
    | nil => rfl
    | cons y t => simp at this

set_option maxHeartbeats 4000000 in
set_option maxRecDepth 100000 in
theorem inO_any (by_ : Int) (o : Option Addr) (n c B : Nat) (xs : List Rw) (w : World) (hn : xs.length = n) (hm : n ≤ 1000000) (h : RowsS w B o xs) :
    Calls Tryz.prog 16 #[.int .i64 by_, .slice o n c] w fun e w' => e = .returned (.bool (inO by_ xs)) ∧ Below w.heap.size w w' := by
  have HN := Lib.hid hn
  have HSe := Lib.hid h
  obtain ⟨r, hr⟩ : ∃ r, inO by_ xs = r := ⟨_, rfl⟩
  have HR := Lib.hid hr
  rw [hr]
  clear hn h hr
  go_enter Tryz.func16, Tryz.ntmps16
  go_wp2
  go_loopw [5] (fun v5 wr => ∃ k : Nat, v5 = .int .i64 ((k : Int) + 1) ∧ (k = 0 ∨ k + 1 ≤ n) ∧ Hid (Below w.heap.size w wr) ∧ Hid (inO by_ (xs.drop k) = r)) (fun v5 _ => n + 1 - (Go.RowKit.intOf v5).toNat)
  case atStart => exact ⟨0, rfl, .inl rfl, Below.refl _ _, HR⟩
  case round =>
    obtain ⟨k, rfl, hk, HB, H⟩ := hrel
    by_cases hkn : k + 1 < n
    · have j1 : (k : Int) + 1 < n := by omega
      have j2 : (k : Int) < n := by omega
      have j5 : (0 : Int) ≤ (k : Int) := by omega
      have j6 : (0 : Int) ≤ (k : Int) + 1 := by omega
      have j7 : ((k : Int) + 1).toNat = k + 1 := by omega
      obtain ⟨x, hx⟩ := get_ltG HN.out (show k < n by omega)
      obtain ⟨y, hy⟩ := get_ltG HN.out hkn
      obtain ⟨b, off, rfl, hR⟩ := (HSe.out.below frow HB.out).at hx
      obtain ⟨oL, cL, r1, r2, hL, lL⟩ := row_at hR hx
      obtain ⟨oM, cM, r3, r4, hM, lM⟩ := row_at hR hy
      have hlow := hR.low
      have HX := Lib.hid (show xs.drop k = x :: y :: xs.drop (k + 2) by rw [drop_atG hx, drop_atG hy])
      have HY := Lib.hid (drop_atG hy)
      obtain ⟨nL, hnL⟩ : ∃ nL, x.1.length = nL := ⟨_, rfl⟩
      obtain ⟨nM, hnM⟩ : ∃ nM, y.1.length = nM := ⟨_, rfl⟩
      rw [hnL] at r1
      rw [hnM] at r3
      obtain ⟨cc, hcc⟩ : ∃ cc, lessR by_ y x = cc := ⟨_, rfl⟩
      obtain ⟨vx, hvx⟩ : ∃ vx, x.2 = vx := ⟨_, rfl⟩
      obtain ⟨vy, hvy⟩ : ∃ vy, y.2 = vy := ⟨_, rfl⟩
      have HC := Lib.hid (fun W (hb : Hid (Below wr.heap.size wr W)) => (less_any by_ oM oL nM cM nL cL y x W hnM hnL lM lL (hM.sees.below hb.out) (hL.sees.below hb.out)).mono (fun e w' q => show e = .returned (.bool cc) ∧ (w'.cell? ⟨b, off + k * 2, none⟩ = some (.slice oL nL cL) ∧ w'.cell? ⟨b, off + k * 2 + 1, none⟩ = some (.int .i64 vx) ∧ w'.cell? ⟨b, off + (k + 1) * 2, none⟩ = some (.slice oM nM cM) ∧ w'.cell? ⟨b, off + (k + 1) * 2 + 1, none⟩ = some (.int .i64 vy)) ∧ Hid (Below wr.heap.size wr w') from
        have h2 := hb.out.trans (q.2.mono hb.out.size)
        ⟨by rw [q.1, hcc], ⟨(h2.cell (p := ⟨b, _, none⟩) hlow).trans r1, (h2.cell (p := ⟨b, _, none⟩) hlow).trans (by rw [r2, hvx]), (h2.cell (p := ⟨b, _, none⟩) hlow).trans r3, (h2.cell (p := ⟨b, _, none⟩) hlow).trans (by rw [r4, hvy])⟩, h2⟩))
      rw [hvx] at r2 HC
      rw [hvy] at r4 HC
      have HST := Lib.hid (show r = (!cc && inO by_ (xs.drop (k + 1))) by
        rw [← H.out, HX.out, inO, hcc, HY.out])
      have rb := Lib.hid (Below.refl wr.heap.size wr).drew
      have wk : IntKind.i64.wrap (k : Int) = k := by rw [IntKind.wrap_i64]; omega
      clear hR hx hy hL lL hM lM hnL hnM hcc hlow hvx hvy
      go_wp2_with fail
      go_region_held3 (fun w' => w'.cell? ⟨b, off + k * 2, none⟩ = some (.slice oL nL cL) ∧ w'.cell? ⟨b, off + k * 2 + 1, none⟩ = some (.int .i64 vx) ∧ w'.cell? ⟨b, off + (k + 1) * 2, none⟩ = some (.slice oM nM cM) ∧ w'.cell? ⟨b, off + (k + 1) * 2 + 1, none⟩ = some (.int .i64 vy)) (first | exact ⟨s1, s2, s3, s4⟩ | exact ⟨r1, r2, r3, r4⟩) (first
        | (go_at_call 27; go_fit (HC.out _ rb); rintro e wq ⟨rfl, ⟨s1, s2, s3, s4⟩, sb⟩))
      have HBq := Lib.hid (HB.out.trans (sb.out.mono HB.out.size))
      clear HC r1 r2 r3 r4 s1 s2 s3 s4 rb sb
      cases cc with
      | true =>
        go_wp2
        go_ret
        exact ⟨by rw [HST.out]; rfl, HBq.out⟩
      | false =>
        have H2 := Lib.hid (show inO by_ (xs.drop (k + 1)) = r by rw [HST.out]; rfl)
        have wk2 : IntKind.i64.wrap ((k : Int) + 1 + 1) = (k : Int) + 1 + 1 := by rw [IntKind.wrap_i64]; omega
        go_wp2
        go_roundw
        case rel => exact ⟨k + 1, by go_num, .inr (by omega), HBq, H2⟩
        case measure => simp [Go.RowKit.intOf]; omega
    · have j1 : (n : Int) ≤ (k : Int) + 1 := by omega
      have H2 := Lib.hid (show r = true by rw [← H.out]; exact inO_drop HN.out (by omega))
      go_wp2
      go_ret
      exact ⟨by rw [H2.out]; rfl, HB.out⟩
end Go.Proofs.YtlnlbahggbbaeaaGreat.Mrg
