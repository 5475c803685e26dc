/- The document's Decode. -/
import Derived.Test.YtbhhakobkpdadaaQRDec2
import Derived.Test.YtbhhakobkpdadaaQRDec3
import Derived.Test.YtbhhakobkpdadaaQRDec4
namespace Go.Proofs.Ytbhhakobkpdadaa
open Go.RowKit Go.Shelf
theorem rDecode_any (s : ByteArray) (hs : s.size ≤ 140737488351232) (w : World) : Calls Try.prog 11 #[.string s] w (DecOut w (dec (bl s))) := by
  cases hL : bl s with
  | nil =>
    have he : s = ByteArray.empty := bl_nil.2 hL
    subst he
    go_enter Try.func11, Try.ntmps11
    go_wp2
    go_ret2
    exact ⟨rfl, Below.refl _ _⟩
  | cons c t =>
    obtain ⟨hc8, _, _, _⟩ := first_byte hL
    rcases sz_cases c with ⟨h1, h2⟩ | ⟨h1, h2, h3⟩ | ⟨h1, h2, h3⟩ | ⟨h1, h2, h3⟩ | ⟨h1, h2, h3⟩ | ⟨h1, h2⟩
    · rw [dec_one h1]; exact rDecode_low s c t hL h1 w
    · rw [dec_bad (Or.inl h3)]; exact rDecode_mid s c t hL ⟨h1, h2⟩ w
    · exact rDecode_2 s hs c t hL ⟨h1, h2⟩ w
    · exact rDecode_3 s hs c t hL ⟨h1, h2⟩ w
    · exact rDecode_4 s hs c t hL ⟨h1, h2⟩ w
    · rw [dec_bad (Or.inl h2)]; exact rDecode_top s c t hL ⟨h1, hc8⟩ w
end Go.Proofs.Ytbhhakobkpdadaa
