"""Camplay: plays of clockwork figures, told, counted, and made into drums."""
